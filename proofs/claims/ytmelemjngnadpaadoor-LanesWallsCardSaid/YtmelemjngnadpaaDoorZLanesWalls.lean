/- LanesWalls, walked: the smallest wall. -/
import Derived.Test.YtmelemjngnadpaaDoorZWallLaneGo
import Derived.Test.YtmelemjngnadpaaDoorZb2
namespace Go.Proofs.YtmelemjngnadpaaDoor
open Go.RowKit

set_option maxRecDepth 100000 in
set_option maxHeartbeats 2000000 in
theorem lanesWalls_any (n : Int) (A : Option Addr) (len cap : Nat) (es : List E3) (a b : Int) (w : World) (hE : EdgesAt w w.heap.size A len es) (hcap : len ≤ cap) (_ : ∀ e ∈ es, WfE e) (_ : (Lit.int .i64 n).wf = true) (_ : (Lit.int .i64 a).wf = true) (_ : (Lit.int .i64 b).wf = true) (hT : Tab w) :
    Calls Tryd.prog 3 #[.agg #[.int .i64 n, .slice A len cap], .int .i64 a, .int .i64 b] w fun e w' => e = .returned (.bool true) ∧ Below w.heap.size w w' := by
  have HX := Lib.hid (BoxG.start (n := n) (cap := cap) hE)
  have HT := Lib.hid (hT.go_ (w' := bx w n A len cap) ((Below.refl _ _).alloc (Nat.le_refl _) _))
  clear hE hT
  obtain ⟨v, hv⟩ : ∃ v, waysF n es a b = v := ⟨_, rfl⟩
  by_cases h0 : v = 0
  · subst h0
    obtain ⟨hgc, p0, p1, p2, p3, p4, hn⟩ := waysF_zero hv
    obtain ⟨g0, g1, g2, hg⟩ := good_of_gcheck hgc
    obtain ⟨m, rfl⟩ := Int.eq_ofNat_of_zero_le g0
    obtain ⟨i, rfl⟩ := Int.eq_ofNat_of_zero_le p0
    obtain ⟨j, rfl⟩ := Int.eq_ofNat_of_zero_le p2
    have hi : i < m := by omega
    have hj : j < m := by omega
    have hij : i ≠ j := by omega
    have hm10 : m ≤ 10 := by omega
    have hlen : len ≤ 45 := by have := HX.out.edges.1; omega
    have HV := Lib.hid hv
    have HG := Lib.hid hg
    have HNO : Hid (adjE es i j = false) := Lib.hid hn
    clear hv hgc hg hn g2
    go_enter Tryd.func3, Tryd.ntmps3
    go_wp2_with fail
    refine (wallL_good m i j A len cap es _ (by exact HX.out.edges) HV.out (by exact HT.out)).mono ?_
    rintro e w1 ⟨⟨best, rfl, hL⟩, hB⟩
    have HX1 := Lib.hid (HX.out.next hB)
    have HL := Lib.hid hL
    have k0 := HX1.out.c0
    have k1 := HX1.out.c1
    clear hB hL
    go_wp2_with fail
    refine (waysCheck_v m 0 A len cap es i j _ (by exact HX1.out.edges) hcap HV.out).mono ?_
    rintro e w2 ⟨rfl, hB⟩
    have HX2 := Lib.hid (HX1.out.next hB)
    have e0 := HX2.out.c0
    have e1 := HX2.out.c1
    clear hB k0 k1
    go_wp2_with fail
    refine (wayWall_any m i j A len cap es _ (by exact HX2.out.edges) hm10 hlen (InE.of_good HG.out) hi hj).mono ?_
    rintro e w4 ⟨⟨bl, fd, hLW, rfl⟩, hB4⟩
    have HXf := Lib.hid (HX2.out.next hB4)
    obtain ⟨hfd, _⟩ := least_wall HG.out hm10 hi hj hij HNO.out hLW
    subst hfd
    obtain rfl : best = bl := HL.out.eq hLW
    clear hLW hB4
    go_wp2
    go_ret
    exact ⟨rfl, HXf.out.below⟩
  · have HV := Lib.hid hv
    have HV0 := Lib.hid h0
    have hb0 : (v != 0) = true := by simpa using h0
    clear hv h0
    go_enter Tryd.func3, Tryd.ntmps3
    go_wp2_with fail
    refine (wallL_bad n v A len cap es a b _ (by exact HX.out.edges) HV.out HV0.out).mono ?_
    rintro e w1 ⟨rfl, hB⟩
    have HX1 := Lib.hid (HX.out.next hB)
    have k0 := HX1.out.c0
    have k1 := HX1.out.c1
    clear hB
    go_wp2_with fail
    refine (waysCheck_v n v A len cap es a b _ (by exact HX1.out.edges) hcap HV.out).mono ?_
    rintro e w2 ⟨rfl, hB⟩
    have HX2 := Lib.hid (HX1.out.next hB)
    clear hB k0 k1
    go_wp2
    go_ret
    exact ⟨rfl, HX2.out.below⟩
end Go.Proofs.YtmelemjngnadpaaDoor
