/- For every graph, bonds.Most tells the first of the bonds with the most edges; of a wrong graph, what is wrong. No conditions. -/
import Derived.Test.YthfgbgmkiggjmacDoorBondsMostGo
import Derived.Test.YthfgbgmkiggjmacDoorBondRefAll
import Derived.Test.YthfgbgmkiggjmacDoorBoxG
import Derived.Test.YthfgbgmkiggjmacDoorRefCheck
import Derived.Test.YthfgbgmkiggjmacDoorOpen
namespace Go.Proofs.YthfgbgmkiggjmacDoor
open Go.RowKit

set_option maxRecDepth 100000 in
set_option maxHeartbeats 400000 in
theorem bondsMost_bad (n : Int) (A : Option Addr) (len cap : Nat) (es : List E3) (v : Int) (w : World) (hE : EdgesAt w w.heap.size A len es) (hcap : len ≤ cap) (hv : gcheck n es = v) (hv0 : v ≠ 0) :
    Calls Tryd.prog 5 #[.agg #[.int .i64 n, .slice A len cap]] w fun e w' => e = .returned (.bool true) ∧ Below w.heap.size w w' := by
  have HX := Lib.hid (BoxG.start (n := n) (cap := cap) hE)
  have HV := Lib.hid hv
  have HV0 := Lib.hid hv0
  have hb0 : (v != 0) = true := by simpa using hv0
  clear hE hv hv0
  go_enter Tryd.func5, Tryd.ntmps5
  go_wp2_with fail
  refine (mostB_bad n A len cap es v _ (by exact HX.out.edges) HV.out HV0.out).mono ?_
  rintro e w1 ⟨rfl, hb1⟩
  have HX1 := Lib.hid (HX.out.next hb1)
  have hc0 := HX1.out.c0
  have hc1 := HX1.out.c1
  clear hb1
  go_wp2_with fail
  refine (check_v n A len cap es v _ (by exact HX1.out.edges) hcap HV.out).mono ?_
  rintro e w2 ⟨rfl, hb2⟩
  have HX2 := Lib.hid (HX1.out.next hb2)
  clear hb2
  go_wp2_with fail
  go_ret
  exact ⟨rfl, HX2.out.below⟩

set_option maxRecDepth 100000 in
set_option maxHeartbeats 1000000 in
theorem bondsMost_good (m : Nat) (A : Option Addr) (len cap : Nat) (es : List E3) (w : World) (hE : EdgesAt w w.heap.size A len es) (hcap : len ≤ cap) (hv : gcheck m es = 0) (hT : Tab w) :
    Calls Tryd.prog 5 #[.agg #[.int .i64 m, .slice A len cap]] w fun e w' => e = .returned (.bool true) ∧ Below w.heap.size w w' := by
  obtain ⟨_, hm10', hl45, hgood⟩ := good_of_gcheck hv
  have hm10 : m ≤ 10 := by omega
  have hlen : len ≤ 45 := by have := hE.1; omega
  have HX := Lib.hid (BoxG.start (n := (m : Int)) (cap := cap) hE)
  have HV := Lib.hid hv
  have HT := Lib.hid hT
  have HG := Lib.hid hgood
  have hK := bnd_len hgood
  clear hE hv hl45 hT hgood
  go_enter Tryd.func5, Tryd.ntmps5
  go_wp2_with fail
  refine (mostB_v m A len cap es _ (by exact HX.out.edges) HV.out (by exact HX.out.tab HT.out)).mono ?_
  generalize hkk : (bndL es es.length 0 0).length = K at hK
  have HK := Lib.hid hkk
  clear hkk
  rintro e w1 ⟨⟨A1, c1, rfl, _, HI1⟩, HB1⟩
  have HX1 := Lib.hid (HX.out.next HB1.out)
  have hc0 := HX1.out.c0
  have hc1 := HX1.out.c1
  clear HB1
  go_wp2_with fail
  refine (check_v m A len cap es 0 _ (by exact HX1.out.edges) hcap HV.out).mono ?_
  rintro e w2 ⟨rfl, hb2⟩
  have HX2 := Lib.hid (HX1.out.next hb2)
  have HI2 := Lib.hid (HI1.out.go_ hb2)
  have hd0 := HX2.out.c0
  have hd1 := HX2.out.c1
  clear hb2
  go_wp2_with fail
  refine (refBondAll_any m A len cap es _ (by exact HX2.out.edges) hm10 hlen HG.out).mono ?_
  rintro e w3 ⟨⟨v, rfl, ho⟩, hb3⟩
  obtain ⟨A3, c3, rfl, hi3, _⟩ := own_ints ho
  have HX3 := Lib.hid (HX2.out.next hb3)
  have HI3 := Lib.hid (HI2.out.go_ hb3)
  have HJ3 := Lib.hid hi3
  clear hb3 hi3 ho
  have hlk : (bndL es es.length 0 0).length = K := HK.out
  rw [hlk] at HJ3 ⊢
  go_wp2_with fail
  refine (ints_v A1 A3 K K c1 c3 (bI es) (bI es) true w3 (by exact HI3.out) (by exact HJ3.out) (by omega) (by omega) (by simp)).mono ?_
  rintro e w4 ⟨rfl, q, rfl⟩
  go_wp2_with fail
  go_ret
  exact ⟨rfl, below_drewN HX3.out.below q⟩

set_option maxRecDepth 100000 in
theorem bondsMost_any (n : Int) (A : Option Addr) (len cap : Nat) (es : List E3) (w : World) (hE : EdgesAt w w.heap.size A len es) (hcap : len ≤ cap) (_ : ∀ e ∈ es, WfE e) (_ : (Lit.int .i64 n).wf = true) (hT : Tab w) :
    Calls Tryd.prog 5 #[.agg #[.int .i64 n, .slice A len cap]] w fun e w' => e = .returned (.bool true) ∧ Below w.heap.size w w' := by
  by_cases h : gcheck n es = 0
  · obtain ⟨m, rfl⟩ := Int.eq_ofNat_of_zero_le (good_of_gcheck h).1
    exact bondsMost_good m A len cap es w hE hcap h hT
  · exact bondsMost_bad n A len cap es _ w hE hcap rfl h
end Go.Proofs.YthfgbgmkiggjmacDoor
