/- lanes.neighbours: what is wrong with the graph, or with the two nodes; else of each node whom it has an edge with. No conditions. -/
import Derived.Test.YtmelemjngnadpaaDoorZNeigh
import Derived.Test.YtmelemjngnadpaaDoorZRefWays
namespace Go.Proofs.YtmelemjngnadpaaDoor
open Go.RowKit

theorem isNode_v (n x : Int) (b : Bool) (w : World) (hb : isIn n x = b) : Calls Tryd.prog 25 #[.int .i64 n, .int .i64 x] w fun e w' => e = .returned (.bool b) ∧ w' = w := by
  subst hb
  exact (isNode_any n x w).mono fun e w' h => ⟨h.1, h.2.symm⟩
theorem isIn_true {n x : Int} (h0 : 0 ≤ x) (h1 : x < n) : isIn n x = true := by simp [isIn, h0, h1]
theorem isIn_false {n x : Int} (h : x < 0 ∨ n ≤ x) : isIn n x = false := by simp [isIn]; omega

set_option maxRecDepth 100000 in
set_option maxHeartbeats 2000000 in
theorem laneNb_bad (n v : Int) (A : Option Addr) (len cap : Nat) (es : List E3) (a b : Int) (w : World) (hE : EdgesAt w w.heap.size A len es) (hv : waysF n es a b = v) (hv0 : v ≠ 0) :
    Calls Tryd.prog 13 #[.agg #[.int .i64 n, .slice A len cap], .int .i64 a, .int .i64 b] w fun e w' => e = .returned (.tuple #[.slice none 0 0, .int .i64 v]) ∧ Below w.heap.size w w' := by
  have HX := Lib.hid (BoxG.start (n := n) (cap := cap) hE)
  clear hE
  by_cases h0 : gcheck n es = 0
  · obtain ⟨g0, g1, g2, hg⟩ := good_of_gcheck h0
    obtain ⟨m, rfl⟩ := Int.eq_ofNat_of_zero_le g0
    have HV0 := Lib.hid h0
    by_cases hb : a < 0 ∨ (m : Int) ≤ a ∨ b < 0 ∨ (m : Int) ≤ b ∨ a = b
    · rw [waysF_arg h0 hb] at hv
      subst hv
      have hw : isIn m a = false ∨ (isIn m a = true ∧ isIn m b = false) ∨ (isIn m a = true ∧ isIn m b = true ∧ a = b) := by
        simp [isIn]; omega
      clear h0 hb hg hv0
      rcases hw with h1 | ⟨h1, h2⟩ | ⟨h1, h2, h3⟩
      · have H1 := Lib.hid h1
        clear h1
        go_enter Tryd.func13, Tryd.ntmps13
        go_wp2_with fail
        refine (neighbours_any m A len cap es _ (by exact HX.out.edges) HV0.out).mono ?_
        rintro e w1 ⟨g, rfl, _, _, hB⟩
        have HX1 := Lib.hid (HX.out.next hB)
        have k0 := HX1.out.c0
        clear hB
        go_wp2_with fail
        refine (isNode_v m a false _ H1.out).mono ?_
        rintro e w2 ⟨rfl, rfl⟩
        go_wp2
        go_ret2
        exact ⟨rfl, HX1.out.below⟩
      · have H1 := Lib.hid h1
        have H2 := Lib.hid h2
        clear h1 h2
        go_enter Tryd.func13, Tryd.ntmps13
        go_wp2_with fail
        refine (neighbours_any m A len cap es _ (by exact HX.out.edges) HV0.out).mono ?_
        rintro e w1 ⟨g, rfl, _, _, hB⟩
        have HX1 := Lib.hid (HX.out.next hB)
        have k0 := HX1.out.c0
        clear hB
        go_wp2_with fail
        refine (isNode_v m a true _ H1.out).mono ?_
        rintro e w2 ⟨rfl, rfl⟩
        go_wp2_with fail
        refine (isNode_v m b false _ H2.out).mono ?_
        rintro e w2 ⟨rfl, rfl⟩
        go_wp2
        go_ret2
        exact ⟨rfl, HX1.out.below⟩
      · have H1 := Lib.hid h1
        have H2 := Lib.hid h2
        subst h3
        clear h1 h2
        go_enter Tryd.func13, Tryd.ntmps13
        go_wp2_with fail
        refine (neighbours_any m A len cap es _ (by exact HX.out.edges) HV0.out).mono ?_
        rintro e w1 ⟨g, rfl, _, _, hB⟩
        have HX1 := Lib.hid (HX.out.next hB)
        have k0 := HX1.out.c0
        clear hB
        go_wp2_with fail
        refine (isNode_v m a true _ H1.out).mono ?_
        rintro e w2 ⟨rfl, rfl⟩
        go_wp2_with fail
        refine (isNode_v m a true _ H2.out).mono ?_
        rintro e w2 ⟨rfl, rfl⟩
        go_wp2
        go_ret2
        exact ⟨rfl, HX1.out.below⟩
    · by_cases hn : nearI es a b = true
      · rw [waysF_form h0 hb hn] at hv
        subst hv
        obtain ⟨i, rfl⟩ := Int.eq_ofNat_of_zero_le (show 0 ≤ a by omega)
        obtain ⟨j, rfl⟩ := Int.eq_ofNat_of_zero_le (show 0 ≤ b by omega)
        have H1 := Lib.hid (isIn_true (n := m) (x := i) (by omega) (by omega))
        have H2 := Lib.hid (isIn_true (n := m) (x := j) (by omega) (by omega))
        have h3 : ((i : Int) == (j : Int)) = false := by simp; omega
        have hi : i < m := by omega
        have hj : j < m := by omega
        have hbit : Hid ((nbW es i).testBit j = true) := Lib.hid (by
          have h := nbL_bit hg hi j
          rw [List.getD_eq_getElem?_getD, nbL_get es hi] at h
          exact h.trans hn)
        have hlt : Hid (nbW es i < 4294967296) := Lib.hid (by
          have h := nbL_words hg i
          rw [List.getD_eq_getElem?_getD, nbL_get es hi] at h
          exact Nat.lt_of_lt_of_le (pow10 (by omega) h) (by decide))
        have HB := Lib.hid ((shr_bit (nbW es i) j hlt.out).trans hbit.out)
        clear h0 hb hn hg hv0
        have ii0 : (0 : Int) ≤ (i : Int) := by omega
        have ii1 : (i : Int) < (m : Int) := by omega
        have ij32 : (j : Int) < 32 := by omega
        go_enter Tryd.func13, Tryd.ntmps13
        go_wp2_with fail
        refine (neighbours_any m A len cap es _ (by exact HX.out.edges) HV0.out).mono ?_
        rintro e w1 ⟨g, rfl, hR, _, hB⟩
        have HX1 := Lib.hid (HX.out.next hB)
        have k0 := HX1.out.c0
        have hc : w1.cell? ⟨g, i, none⟩ = some (.int .u32 (nbW es i)) := hR.cell (by rw [List.getElem?_map, nbL_get _ hi]; rfl)
        clear hB hR
        generalize nbW es i = x at hc HB
        go_wp2_with fail
        refine (isNode_v m i true _ H1.out).mono ?_
        rintro e w2 ⟨rfl, rfl⟩
        go_wp2_with fail
        refine (isNode_v m j true _ H2.out).mono ?_
        rintro e w2 ⟨rfl, rfl⟩
        have hb1 := HB.out
        go_wp2
        go_ret2
        exact ⟨rfl, HX1.out.below⟩
      · rw [waysF_ok h0 hb (by simpa using hn)] at hv
        exact absurd hv.symm hv0
  · rw [waysF_bad h0] at hv
    have HV := Lib.hid hv
    have HV0 := Lib.hid hv0
    have hb0 : (v != 0) = true := by simpa using hv0
    clear hv h0 hv0
    go_enter Tryd.func13, Tryd.ntmps13
    go_wp2_with fail
    refine (neighbours_bad n A len cap es v _ (by exact HX.out.edges) HV.out HV0.out).mono ?_
    rintro e w1 ⟨rfl, hB⟩
    have HX1 := Lib.hid (HX.out.next hB)
    clear hB
    go_wp2
    go_ret2
    exact ⟨rfl, HX1.out.below⟩
set_option maxRecDepth 100000 in
set_option maxHeartbeats 2000000 in
theorem laneNb_good (m i j : Nat) (A : Option Addr) (len cap : Nat) (es : List E3) (w : World) (hE : EdgesAt w w.heap.size A len es) (hv : waysF m es i j = 0) :
    Calls Tryd.prog 13 #[.agg #[.int .i64 m, .slice A len cap], .int .i64 i, .int .i64 j] w fun e w' => ∃ g, e = .returned (.tuple #[.slice (some ⟨g, 0, none⟩) m m, .int .i64 0]) ∧ RowOf w' g 25 ((nbL m es).map u32V) ∧ w.heap.size ≤ g ∧ Below w.heap.size w w' := by
  have HX := Lib.hid (BoxG.start (n := m) (cap := cap) hE)
  clear hE
  obtain ⟨h0, p0, p1, p2, p3, p4, hn⟩ := waysF_zero hv
  obtain ⟨g0, g1, g2, hg⟩ := good_of_gcheck h0
  have HV0 := Lib.hid h0
  have H1 := Lib.hid (isIn_true (n := m) (x := i) (by omega) (by omega))
  have H2 := Lib.hid (isIn_true (n := m) (x := j) (by omega) (by omega))
  have h3 : ((i : Int) == (j : Int)) = false := by simp; omega
  have hi : i < m := by omega
  have hj : j < m := by omega
  have hbit : Hid ((nbW es i).testBit j = false) := Lib.hid (by
    have h := nbL_bit hg hi j
    rw [List.getD_eq_getElem?_getD, nbL_get es hi] at h
    exact h.trans hn)
  have hlt : Hid (nbW es i < 4294967296) := Lib.hid (by
    have h := nbL_words hg i
    rw [List.getD_eq_getElem?_getD, nbL_get es hi] at h
    exact Nat.lt_of_lt_of_le (pow10 (by omega) h) (by decide))
  have HB := Lib.hid ((shr_bit (nbW es i) j hlt.out).trans hbit.out)
  clear h0 hn hg hv p4
  have ii0 : (0 : Int) ≤ (i : Int) := by omega
  have ii1 : (i : Int) < (m : Int) := by omega
  have ij32 : (j : Int) < 32 := by omega
  go_enter Tryd.func13, Tryd.ntmps13
  go_wp2_with fail
  refine (neighbours_any m A len cap es _ (by exact HX.out.edges) HV0.out).mono ?_
  rintro e w1 ⟨g, rfl, hR, hgb, hB⟩
  have HX1 := Lib.hid (HX.out.next hB)
  have k0 := HX1.out.c0
  have hc : w1.cell? ⟨g, i, none⟩ = some (.int .u32 (nbW es i)) := hR.cell (by rw [List.getElem?_map, nbL_get _ hi]; rfl)
  have HR := Lib.hid hR
  have HGB : Hid (w.heap.size ≤ g) := Lib.hid (by simp at hgb; omega)
  clear hB hR hgb
  generalize nbW es i = x at hc HB
  go_wp2_with fail
  refine (isNode_v m i true _ H1.out).mono ?_
  rintro e w2 ⟨rfl, rfl⟩
  go_wp2_with fail
  refine (isNode_v m j true _ H2.out).mono ?_
  rintro e w2 ⟨rfl, rfl⟩
  have hb1 := HB.out
  go_wp2
  go_ret2
  exact ⟨g, rfl, HR.out, HGB.out, HX1.out.below⟩
end Go.Proofs.YtmelemjngnadpaaDoor
