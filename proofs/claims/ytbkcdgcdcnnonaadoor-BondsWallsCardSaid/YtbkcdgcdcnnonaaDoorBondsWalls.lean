/- For every graph, bonds.Wall tells the first of the walls behind which the most are left over; of a wrong graph, what is wrong. No conditions. -/
import Derived.Test.YtbkcdgcdcnnonaaDoorBondsWallGo
import Derived.Test.YtbkcdgcdcnnonaaDoorRefWall
import Derived.Test.YtbkcdgcdcnnonaaDoorBoxG
import Derived.Test.YtbkcdgcdcnnonaaDoorRefCheck
import Derived.Test.YtbkcdgcdcnnonaaDoorOpen
namespace Go.Proofs.YtbkcdgcdcnnonaaDoor
open Go.RowKit

set_option maxHeartbeats 400000 in
theorem bondsWalls_bad (n : Int) (A : Option Addr) (len cap : Nat) (es : List E3) (v : Int) (w : World) (hE : EdgesAt w w.heap.size A len es) (hcap : len ≤ cap) (hv : gcheck n es = v) (hv0 : v ≠ 0) :
    Calls Tryd.prog 4 #[.agg #[.int .i64 n, .slice A len cap]] w fun e w' => e = .returned (.bool true) ∧ Below w.heap.size w w' := by
  have HX := Lib.hid (BoxG.start (n := n) (cap := cap) hE)
  have HV := Lib.hid hv
  have HV0 := Lib.hid hv0
  have hb0 : (v != 0) = true := by simpa using hv0
  clear hE hv hv0
  go_enter Tryd.func4, Tryd.ntmps4
  go_wp2_with fail
  refine (wallB_bad n A len cap es v _ (by exact HX.out.edges) HV.out HV0.out).mono ?_
  rintro e w1 ⟨rfl, hb1⟩
  have HX1 := Lib.hid (HX.out.next hb1)
  have hc0 := HX1.out.c0
  have hc1 := HX1.out.c1
  clear hb1
  go_wp2_with fail
  refine (check_v n A len cap es v _ (by exact HX1.out.edges) hcap HV.out).mono ?_
  rintro e w2 ⟨rfl, hb2⟩
  have HX2 := Lib.hid (HX1.out.next hb2)
  clear hb2
  go_wp2_with fail
  go_ret
  exact ⟨rfl, HX2.out.below⟩

set_option maxHeartbeats 1000000 in
theorem bondsWalls_good (m : Nat) (A : Option Addr) (len cap : Nat) (es : List E3) (w : World) (hE : EdgesAt w w.heap.size A len es) (hcap : len ≤ cap) (hv : gcheck m es = 0) (hT : Tab w) :
    Calls Tryd.prog 4 #[.agg #[.int .i64 m, .slice A len cap]] w fun e w' => e = .returned (.bool true) ∧ Below w.heap.size w w' := by
  obtain ⟨_, hm10', hl45, hgood⟩ := good_of_gcheck hv
  have hm10 : m ≤ 10 := by omega
  have hlen : len ≤ 45 := by have := hE.1; omega
  have HX := Lib.hid (BoxG.start (n := (m : Int)) (cap := cap) hE)
  have HV := Lib.hid hv
  have HT := Lib.hid hT
  have HIN := Lib.hid (InE.of_good hgood)
  clear hE hv hl45 hT hgood
  go_enter Tryd.func4, Tryd.ntmps4
  go_wp2_with fail
  refine (wallB_good m A len cap es _ (by exact HX.out.edges) HV.out (by exact HX.out.tab HT.out)).mono ?_
  rintro e w1 ⟨⟨a, hfa, rfl⟩, hb1⟩
  have HX1 := Lib.hid (HX.out.next hb1)
  have HF := Lib.hid hfa
  have hc0 := HX1.out.c0
  have hc1 := HX1.out.c1
  clear hb1 hfa
  go_wp2_with fail
  refine (check_v m A len cap es 0 _ (by exact HX1.out.edges) hcap HV.out).mono ?_
  rintro e w2 ⟨rfl, hb2⟩
  have HX2 := Lib.hid (HX1.out.next hb2)
  have hd0 := HX2.out.c0
  have hd1 := HX2.out.c1
  clear hb2
  go_wp2_with fail
  refine (refWall_any m A len cap es _ (by exact HX2.out.edges) hm10 hlen HIN.out).mono ?_
  rintro e w3 ⟨⟨b, hfb, rfl⟩, hb3⟩
  obtain rfl := HF.out.eq hfb
  have HX3 := Lib.hid (HX2.out.next hb3)
  clear hb3 hfb
  go_wp2_with fail
  go_ret
  exact ⟨rfl, HX3.out.below⟩

theorem bondsWalls_any (n : Int) (A : Option Addr) (len cap : Nat) (es : List E3) (w : World) (hE : EdgesAt w w.heap.size A len es) (hcap : len ≤ cap) (_ : ∀ e ∈ es, WfE e) (_ : (Lit.int .i64 n).wf = true) (hT : Tab w) :
    Calls Tryd.prog 4 #[.agg #[.int .i64 n, .slice A len cap]] w fun e w' => e = .returned (.bool true) ∧ Below w.heap.size w w' := by
  by_cases h : gcheck n es = 0
  · obtain ⟨m, rfl⟩ := Int.eq_ofNat_of_zero_le (good_of_gcheck h).1
    exact bondsWalls_good m A len cap es w hE hcap h hT
  · exact bondsWalls_bad n A len cap es _ w hE hcap rfl h
end Go.Proofs.YtbkcdgcdcnnonaaDoor
