/- For every graph, sides.Sides tells its two sides, or that there are none; of a wrong graph, what is wrong. No conditions. -/
import Derived.Test.YthfgbgmkiggjmabDoorSidesMain
import Derived.Test.YthfgbgmkiggjmabDoorRefSides
import Derived.Test.YthfgbgmkiggjmabDoorBoxG
import Derived.Test.YthfgbgmkiggjmabDoorOpen
namespace Go.Proofs.YthfgbgmkiggjmabDoor
open Go.RowKit

set_option maxRecDepth 100000 in
set_option maxHeartbeats 400000 in
theorem sidesTells_bad (n : Int) (A : Option Addr) (len cap : Nat) (es : List E3) (v : Int) (w : World) (hE : EdgesAt w w.heap.size A len es) (hcap : len ≤ cap) (hv : gcheck n es = v) (hv0 : v ≠ 0) :
    Calls Tryd.prog 9 #[.agg #[.int .i64 n, .slice A len cap]] w fun e w' => e = .returned (.bool true) ∧ Below w.heap.size w w' := by
  have HX := Lib.hid (BoxG.start (n := n) (cap := cap) hE)
  have HV := Lib.hid hv
  have HV0 := Lib.hid hv0
  have hb0 : (v != 0) = true := by simpa using hv0
  clear hE hv hv0
  go_enter Tryd.func9, Tryd.ntmps9
  go_wp2_with (first
    | (go_at_call 30; refine (sides_bad n A len cap es v _ (by exact HX.out.edges) HV.out HV0.out).mono ?_; rintro e w1 ⟨rfl, hb1⟩; have HX1 := Lib.hid (HX.out.next hb1); clear hb1; have hc0 := HX1.out.c0; have hc1 := HX1.out.c1)
    | (go_at_call 16; refine (check_v n A len cap es v _ (by exact HX1.out.edges) hcap HV.out).mono ?_; rintro e w2 ⟨rfl, hb2⟩; have HX2 := Lib.hid (HX1.out.next hb2); clear hb2))
  go_ret
  exact ⟨rfl, HX2.out.below⟩

set_option maxRecDepth 100000 in
set_option maxHeartbeats 1000000 in
theorem sidesTells_none (m : Nat) (A : Option Addr) (len cap : Nat) (es : List E3) (w : World) (hE : EdgesAt w w.heap.size A len es) (hcap : len ≤ cap) (hv : gcheck m es = 0) (hT : Tab w) (hc : es.any (clashB m es) = true) :
    Calls Tryd.prog 9 #[.agg #[.int .i64 m, .slice A len cap]] w fun e w' => e = .returned (.bool true) ∧ Below w.heap.size w w' := by
  obtain ⟨_, hm10', hl45, hgood⟩ := good_of_gcheck hv
  have hm10 : m ≤ 10 := by omega
  have hlen : len ≤ 45 := by have := hE.1; omega
  have HX := Lib.hid (BoxG.start (n := m) (cap := cap) hE)
  have HV := Lib.hid hv
  have HT := Lib.hid hT
  have HC := Lib.hid hc
  have HG := Lib.hid hgood
  clear hE hv hl45 hT hgood hc
  go_enter Tryd.func9, Tryd.ntmps9
  go_wp2_with (first
    | (go_at_call 30; refine (sides_good m A len cap es _ (by exact HX.out.edges) HV.out (by exact HX.out.tab HT.out)).mono ?_; rintro e w1 ⟨hs, hb1⟩; obtain rfl := hs.1 HC.out; have HX1 := Lib.hid (HX.out.next hb1); clear hb1 hs; have hc0 := HX1.out.c0; have hc1 := HX1.out.c1)
    | (go_at_call 16; refine (check_v m A len cap es 0 _ (by exact HX1.out.edges) hcap HV.out).mono ?_; rintro e w2 ⟨rfl, hb2⟩; have HX2 := Lib.hid (HX1.out.next hb2); clear hb2; have hd0 := HX2.out.c0; have hd1 := HX2.out.c1)
    | (go_at_call 31; refine (refSides_any m A len cap es _ (by exact HX2.out.edges) hm10 hlen HG.out).mono ?_; rintro e w3 ⟨hs, hb3⟩; obtain rfl := hs.1 HC.out; have HX3 := Lib.hid (HX2.out.next hb3); clear hb3 hs))
  go_ret
  exact ⟨rfl, HX3.out.below⟩

set_option maxRecDepth 100000 in
set_option maxHeartbeats 1000000 in
theorem sidesTells_some (m : Nat) (A : Option Addr) (len cap : Nat) (es : List E3) (w : World) (hE : EdgesAt w w.heap.size A len es) (hcap : len ≤ cap) (hv : gcheck m es = 0) (hT : Tab w) (hc : es.any (clashB m es) = false) :
    Calls Tryd.prog 9 #[.agg #[.int .i64 m, .slice A len cap]] w fun e w' => e = .returned (.bool true) ∧ Below w.heap.size w w' := by
  obtain ⟨_, hm10', hl45, hgood⟩ := good_of_gcheck hv
  have hm10 : m ≤ 10 := by omega
  have hlen : len ≤ 45 := by have := hE.1; omega
  have HX := Lib.hid (BoxG.start (n := m) (cap := cap) hE)
  have HV := Lib.hid hv
  have HT := Lib.hid hT
  have HC := Lib.hid hc
  have HG := Lib.hid hgood
  clear hE hv hl45 hT hgood hc
  go_enter Tryd.func9, Tryd.ntmps9
  go_wp2_with (first
    | (go_at_call 30; refine (sides_good m A len cap es _ (by exact HX.out.edges) HV.out (by exact HX.out.tab HT.out)).mono ?_; rintro e w1 ⟨hs, hb1⟩; obtain ⟨g1, rfl, hr1, _⟩ := hs.2 HC.out; have HX1 := Lib.hid (HX.out.next hb1); have HI1 : Hid (IntsAt w1 w1.heap.size (some ⟨g1, 0, none⟩) m (sidesL m es)) := Lib.hid (by have h := IntsAt.of_row hr1 hr1.lt; rwa [sidesL_length] at h); clear hb1 hs hr1; have hc0 := HX1.out.c0; have hc1 := HX1.out.c1)
    | (go_at_call 16; refine (check_v m A len cap es 0 _ (by exact HX1.out.edges) hcap HV.out).mono ?_; rintro e w2 ⟨rfl, hb2⟩; have HX2 := Lib.hid (HX1.out.next hb2); have HI2 := Lib.hid (HI1.out.go_ hb2); clear hb2; have hd0 := HX2.out.c0; have hd1 := HX2.out.c1)
    | (go_at_call 31; refine (refSides_any m A len cap es _ (by exact HX2.out.edges) hm10 hlen HG.out).mono ?_; rintro e w3 ⟨hs, hb3⟩; obtain ⟨A3, cap3, rfl, hi3⟩ := hs.2 HC.out; have HX3 := Lib.hid (HX2.out.next hb3); have HI3 := Lib.hid (HI2.out.go_ hb3); have HJ3 := Lib.hid hi3; clear hb3 hs hi3)
    | (go_at_call 17; refine (ints_same (some ⟨g1, 0, none⟩) A3 m m cap3 (sidesL m es) _ (by exact HI3.out) (by exact HJ3.out) (by omega)).mono ?_; rintro e w4 ⟨rfl, q, rfl⟩))
  go_ret
  exact ⟨rfl, below_drewN HX3.out.below q⟩

set_option maxRecDepth 100000 in
theorem sidesTells_any (n : Int) (A : Option Addr) (len cap : Nat) (es : List E3) (w : World) (hE : EdgesAt w w.heap.size A len es) (hcap : len ≤ cap) (_ : ∀ e ∈ es, WfE e) (_ : (Lit.int .i64 n).wf = true) (hT : Tab w) :
    Calls Tryd.prog 9 #[.agg #[.int .i64 n, .slice A len cap]] w fun e w' => e = .returned (.bool true) ∧ Below w.heap.size w w' := by
  by_cases h : gcheck n es = 0
  · obtain ⟨m, rfl⟩ := Int.eq_ofNat_of_zero_le (good_of_gcheck h).1
    cases hc : es.any (clashB m es) with
    | true => exact sidesTells_none m A len cap es w hE hcap h hT hc
    | false => exact sidesTells_some m A len cap es w hE hcap h hT hc
  · exact sidesTells_bad n A len cap es _ w hE hcap rfl h
end Go.Proofs.YthfgbgmkiggjmabDoor
