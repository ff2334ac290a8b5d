/- flow.Check, and the reference's NetCheck: both answer netF. -/
import Derived.Test.YtkpejmpnbdblbaaBoxN
namespace Go.Proofs.Ytkpejmpnbdblbaa
open Go.RowKit

set_option maxRecDepth 100000 in
theorem isNode_any (n x : Int) (b : Bool) (w : World) (hb : (decide (0 ≤ x) && decide (x < n)) = b) : Calls Try.prog 29 #[.int .i64 n, .int .i64 x] w fun e w' => e = .returned (.bool b) ∧ w' = w := by
  subst hb
  by_cases h0 : 0 ≤ x
  · by_cases h1 : x < n
    · go_enter Try.func29, Try.ntmps29
      go_wp2
      go_ret
      exact ⟨ret_bool (by simp [h0, h1]), rfl⟩
    · go_enter Try.func29, Try.ntmps29
      go_wp2
      go_ret
      exact ⟨ret_bool (by simp [h1]), rfl⟩
  · go_enter Try.func29, Try.ntmps29
    go_wp2
    go_ret
    exact ⟨ret_bool (by simp; omega), rfl⟩

set_option maxRecDepth 100000 in
set_option maxHeartbeats 1000000 in
theorem checkArc_any (n a0 a1 a2 a3 : Int) (w : World) :
    Calls Try.prog 31 #[.int .i64 n, .agg #[.int .i64 a0, .int .i64 a1, .int .i64 a2, .int .i64 a3]] w fun e w' => e = .returned (.int .i64 (arcErr n (a0, a1, a2, a3))) ∧ Below w.heap.size w w' := by
  by_cases hA : 0 ≤ a0 ∧ a0 < n
  · have hb0 : (decide (0 ≤ a0) && decide (a0 < n)) = true := by simp [hA.1, hA.2]
    have H0 := Lib.hid hb0
    by_cases hB : 0 ≤ a1 ∧ a1 < n
    · have hb1 : (decide (0 ≤ a1) && decide (a1 < n)) = true := by simp [hB.1, hB.2]
      have H1 := Lib.hid hb1
      have hin : ¬ (a0 < 0 ∨ n ≤ a0 ∨ a1 < 0 ∨ n ≤ a1) := by omega
      by_cases hq : a0 = a1
      · rw [arcErr_form hA.1 hA.2 hq]
        subst hq
        clear hb0 hb1 hA hB hin
        go_enter Try.func31, Try.ntmps31
        go_wp2_with (go_at_call 29; refine (isNode_any n a0 true _ H0.out).mono ?_; rintro e w1 ⟨rfl, rfl⟩)
        go_ret
        exact ⟨rfl, (Below.refl _ _).alloc (Nat.le_refl _) _⟩
      · by_cases hr : a2 < 0 ∨ 1048576 < a2 ∨ a3 < -1048576 ∨ 1048576 < a3
        · rw [arcErr_range hin hq hr]
          have hr' : a2 < 0 ∨ (0 ≤ a2 ∧ 1048576 < a2) ∨ (0 ≤ a2 ∧ a2 ≤ 1048576 ∧ a3 < -1048576) ∨ (0 ≤ a2 ∧ a2 ≤ 1048576 ∧ -1048576 ≤ a3 ∧ 1048576 < a3) := by omega
          clear hb0 hb1 hA hB hin hr
          rcases hr' with h1 | ⟨h1, h2⟩ | ⟨h1, h2, h3⟩ | ⟨h1, h2, h3, h4⟩
          all_goals
            go_enter Try.func31, Try.ntmps31
            go_wp2_with (go_at_call 29; first | (refine (isNode_any n a0 true _ H0.out).mono ?_; clear H0; rintro e w1 ⟨rfl, rfl⟩) | (refine (isNode_any n a1 true _ H1.out).mono ?_; rintro e w1 ⟨rfl, rfl⟩))
            go_ret
            exact ⟨rfl, (Below.refl _ _).alloc (Nat.le_refl _) _⟩
        · rw [arcErr_ok hin hq hr]
          have h1 : 0 ≤ a2 := by omega
          have h2 : a2 ≤ 1048576 := by omega
          have h3 : -1048576 ≤ a3 := by omega
          have h4 : a3 ≤ 1048576 := by omega
          clear hb0 hb1 hA hB hin hr
          go_enter Try.func31, Try.ntmps31
          go_wp2_with (go_at_call 29; first | (refine (isNode_any n a0 true _ H0.out).mono ?_; clear H0; rintro e w1 ⟨rfl, rfl⟩) | (refine (isNode_any n a1 true _ H1.out).mono ?_; rintro e w1 ⟨rfl, rfl⟩))
          go_ret
          exact ⟨rfl, (Below.refl _ _).alloc (Nat.le_refl _) _⟩
    · rw [arcErr_out (by simp only; omega)]
      have hb1 : (decide (0 ≤ a1) && decide (a1 < n)) = false := by simp; omega
      have H1 := Lib.hid hb1
      clear hb0 hb1 hA hB
      go_enter Try.func31, Try.ntmps31
      go_wp2_with (go_at_call 29; first | (refine (isNode_any n a0 true _ H0.out).mono ?_; clear H0; rintro e w1 ⟨rfl, rfl⟩) | (refine (isNode_any n a1 false _ H1.out).mono ?_; rintro e w1 ⟨rfl, rfl⟩))
      go_ret
      exact ⟨rfl, (Below.refl _ _).alloc (Nat.le_refl _) _⟩
  · rw [arcErr_out (by simp only; omega)]
    have hb0 : (decide (0 ≤ a0) && decide (a0 < n)) = false := by simp; omega
    have H0 := Lib.hid hb0
    clear hb0 hA
    go_enter Try.func31, Try.ntmps31
    go_wp2_with (go_at_call 29; refine (isNode_any n a0 false _ H0.out).mono ?_; rintro e w1 ⟨rfl, rfl⟩)
    go_ret
    exact ⟨rfl, (Below.refl _ _).alloc (Nat.le_refl _) _⟩
set_option maxRecDepth 100000 in
theorem checkArc_v (n a0 a1 a2 a3 v : Int) (w : World) (hv : arcErr n (a0, a1, a2, a3) = v) :
    Calls Try.prog 31 #[.int .i64 n, .agg #[.int .i64 a0, .int .i64 a1, .int .i64 a2, .int .i64 a3]] w fun e w' => e = .returned (.int .i64 v) ∧ Below w.heap.size w w' := by
  subst hv; exact checkArc_any n a0 a1 a2 a3 w

def abx (w : World) (a b c d : Int) : World := w.alloc (.cells #[.int .i64 a, .int .i64 b, .int .i64 c, .int .i64 d] 50)

set_option maxRecDepth 100000 in
set_option maxHeartbeats 1000000 in
theorem flowCheck_any (n : Int) (A : Option Addr) (len cap : Nat) (es : List A4) (w : World) (hE : ArcsAt w w.heap.size A len es) :
    Calls Try.prog 28 #[.agg #[.int .i64 n, .slice A len cap]] w fun e w' => e = .returned (.int .i64 (netF n es)) ∧ Below w.heap.size w w' := by
  have hlen := hE.1
  by_cases hL : largeN n len
  · rw [netF_large (by rw [hlen]; exact hL)]
    have hw : n < 0 ∨ (0 ≤ n ∧ 10 < n) ∨ (0 ≤ n ∧ n ≤ 10 ∧ 30 < (len : Int)) := by unfold largeN at hL; omega
    clear hL hE hlen
    rcases hw with h1 | ⟨h1, h2⟩ | ⟨h1, h2, h3⟩
    all_goals
      go_enter Try.func28, Try.ntmps28
      go_wp2
      go_ret
      exact ⟨rfl, (Below.refl _ _).alloc (Nat.le_refl _) _⟩
  · rw [netF_small (by rw [hlen]; exact hL)]
    have h1 : 0 ≤ n := by unfold largeN at hL; omega
    have h2 : n ≤ 10 := by unfold largeN at hL; omega
    have h3 : (len : Int) ≤ 30 := by unfold largeN at hL; omega
    have HE := Lib.hid hE
    have HN := Lib.hid hlen
    clear hL hE hlen
    go_enter Try.func28, Try.ntmps28
    go_wp2
    go_loopw [23] (fun j wr => ∃ k : Nat, k ≤ len ∧ j = .int .i64 k ∧ Hid (scanA n es = scanA n (es.drop k)) ∧ Below (w.heap.size + 1) (bxN w n A len cap) wr) (fun j _ => len - (intOf j).toNat)
    case atStart => exact ⟨0, Nat.zero_le _, rfl, Lib.hid rfl, Below.refl _ _⟩
    case round =>
      obtain ⟨k, hk, rfl, HS, hB⟩ := hrel
      have hB0 : Below w.heap.size w (bxN w n A len cap) := (Below.refl _ _).alloc (Nat.le_refl _) _
      have HBw : Hid (Below w.heap.size w wr) := Lib.hid (hB0.trans (hB.mono (Nat.le_succ _)))
      have hsz : w.heap.size < wr.heap.size := by have := hB.size; simp [bxN] at this; omega
      have hbx0 : wr.cell? ⟨w.heap.size, 0, none⟩ = some (.int .i64 n) := by
        rw [hB.cell (p := ⟨w.heap.size, 0, none⟩) (Nat.lt_succ_self _)]; simp [bxN, go_sem]
      have HB := Lib.hid hB
      clear hB hB0
      by_cases hlt : k < len
      · obtain ⟨b, off, ⟨a0, a1, a2, a3⟩, rfl, hb, hx, hc0, hc1, hc2, hc3⟩ := (HE.out.below HBw.out).at_ hlt
        have ik0 : (0 : Int) ≤ (k : Int) := by omega
        have ik1 : (k : Int) < (len : Int) := by omega
        have HX := Lib.hid hx
        clear hx
        by_cases hv : arcErr n (a0, a1, a2, a3) = 0
        · have HN2 := Lib.hid (HS.out.trans (scanA_next HX.out hv))
          have HV := Lib.hid hv
          clear hv
          go_wp2_with fail
          refine (checkArc_v n a0 a1 a2 a3 0 _ HV.out).mono ?_
          rintro e w1 ⟨rfl, hB1⟩
          have HB2 : Hid (Below (w.heap.size + 1) (bxN w n (some ⟨b, off, none⟩) len cap) w1) := Lib.hid ((HB.out.alloc hsz _).trans (hB1.mono (by simp; omega)))
          clear hB1
          go_wp2
          go_roundw
          case rel => exact ⟨k + 1, by omega, by go_num, HN2, HB2.out⟩
          case measure => simp [intOf]; omega
        · obtain ⟨v, hve⟩ : ∃ v, arcErr n (a0, a1, a2, a3) = v := ⟨_, rfl⟩
          rw [hve] at hv
          have HR := Lib.hid (HS.out.trans (scanA_stop HX.out hve hv))
          have HV := Lib.hid hve
          have hv0 : (v != 0) = true := by simpa using hv
          clear hv hve
          go_wp2_with fail
          refine (checkArc_v n a0 a1 a2 a3 v _ HV.out).mono ?_
          rintro e w1 ⟨rfl, hB1⟩
          have HB2 : Hid (Below w.heap.size w w1) := Lib.hid ((HBw.out.alloc (by omega) _).trans (hB1.mono (by simp; omega)))
          clear hB1
          go_wp2
          go_ret
          exact ⟨ret_int HR.out.symm, HB2.out⟩
      · have HR := Lib.hid (HS.out.trans (scanA_end (n := n) (es := es) (k := k) (by have := HN.out; omega)))
        go_wp2
        go_ret
        exact ⟨ret_int HR.out.symm, HBw.out⟩

set_option maxRecDepth 100000 in
set_option maxHeartbeats 1000000 in
theorem netCheck_any (n : Int) (A : Option Addr) (len cap : Nat) (es : List A4) (w : World) (hE : ArcsAt w w.heap.size A len es) :
    Calls Try.prog 16 #[.agg #[.int .i64 n, .slice A len cap]] w fun e w' => e = .returned (.int .i64 (netF n es)) ∧ Below w.heap.size w w' := by
  have hlen := hE.1
  by_cases hL : largeN n len
  · rw [netF_large (by rw [hlen]; exact hL)]
    have hw : n < 0 ∨ (0 ≤ n ∧ 10 < n) ∨ (0 ≤ n ∧ n ≤ 10 ∧ 30 < (len : Int)) := by unfold largeN at hL; omega
    clear hL hE hlen
    rcases hw with h1 | ⟨h1, h2⟩ | ⟨h1, h2, h3⟩
    all_goals
      go_enter Try.func16, Try.ntmps16
      go_wp2
      go_ret
      exact ⟨rfl, (Below.refl _ _).alloc (Nat.le_refl _) _⟩
  · rw [netF_small (by rw [hlen]; exact hL)]
    have h1 : 0 ≤ n := by unfold largeN at hL; omega
    have h2 : n ≤ 10 := by unfold largeN at hL; omega
    have h3 : (len : Int) ≤ 30 := by unfold largeN at hL; omega
    have HE := Lib.hid hE
    have HN := Lib.hid hlen
    clear hL hE hlen
    go_enter Try.func16, Try.ntmps16
    go_wp2
    go_loopw [22] (fun j wr => ∃ k : Nat, k ≤ len ∧ j = .int .i64 k ∧ Hid (scanA n es = scanA n (es.drop k)) ∧ Below (w.heap.size + 1) (bxN w n A len cap) wr) (fun j _ => len - (intOf j).toNat)
    case atStart => exact ⟨0, Nat.zero_le _, rfl, Lib.hid rfl, Below.refl _ _⟩
    case round =>
      obtain ⟨k, hk, rfl, HS, hB⟩ := hrel
      have hB0 : Below w.heap.size w (bxN w n A len cap) := (Below.refl _ _).alloc (Nat.le_refl _) _
      have HBw : Hid (Below w.heap.size w wr) := Lib.hid (hB0.trans (hB.mono (Nat.le_succ _)))
      have hsz : w.heap.size < wr.heap.size := by have := hB.size; simp [bxN] at this; omega
      have hbx0 : wr.cell? ⟨w.heap.size, 0, none⟩ = some (.int .i64 n) := by
        rw [hB.cell (p := ⟨w.heap.size, 0, none⟩) (Nat.lt_succ_self _)]; simp [bxN, go_sem]
      have HB := Lib.hid hB
      clear hB hB0
      by_cases hlt : k < len
      · obtain ⟨b, off, ⟨a0, a1, a2, a3⟩, rfl, hb, hx, hc0, hc1, hc2, hc3⟩ := (HE.out.below HBw.out).at_ hlt
        have ik0 : (0 : Int) ≤ (k : Int) := by omega
        have ik1 : (k : Int) < (len : Int) := by omega
        have HX := Lib.hid hx
        have HBa : Hid (Below w.heap.size w (abx wr a0 a1 a2 a3)) := Lib.hid (HBw.out.alloc (by omega) _)
        clear hx
        by_cases hA : a0 < 0 ∨ n ≤ a0 ∨ a1 < 0 ∨ n ≤ a1
        · have HR := Lib.hid (HS.out.trans (scanA_stop HX.out (arcErr_out hA) (by decide)))
          have hw : a0 < 0 ∨ (0 ≤ a0 ∧ n ≤ a0) ∨ (0 ≤ a0 ∧ a0 < n ∧ a1 < 0) ∨ (0 ≤ a0 ∧ a0 < n ∧ 0 ≤ a1 ∧ n ≤ a1) := by omega
          clear hA
          rcases hw with h | ⟨g1, g2⟩ | ⟨g1, g2, g3⟩ | ⟨g1, g2, g3, g4⟩
          all_goals
            go_wp2
            go_ret
            exact ⟨ret_int HR.out.symm, HBa.out⟩
        · have g1 : 0 ≤ a0 := by omega
          have g2 : a0 < n := by omega
          have g3 : 0 ≤ a1 := by omega
          have g4 : a1 < n := by omega
          by_cases hq : a0 = a1
          · have HR := Lib.hid (HS.out.trans (scanA_stop HX.out (arcErr_form g1 g2 hq) (by decide)))
            subst hq
            clear hA
            go_wp2
            go_ret
            exact ⟨ret_int HR.out.symm, HBa.out⟩
          · by_cases hr : a2 < 0 ∨ 1048576 < a2 ∨ a3 < -1048576 ∨ 1048576 < a3
            · have HR := Lib.hid (HS.out.trans (scanA_stop HX.out (arcErr_range hA hq hr) (by decide)))
              have hr' : a2 < 0 ∨ (0 ≤ a2 ∧ 1048576 < a2) ∨ (0 ≤ a2 ∧ a2 ≤ 1048576 ∧ a3 < -1048576) ∨ (0 ≤ a2 ∧ a2 ≤ 1048576 ∧ -1048576 ≤ a3 ∧ 1048576 < a3) := by omega
              clear hA hr
              rcases hr' with k1 | ⟨k1, k2⟩ | ⟨k1, k2, k3⟩ | ⟨k1, k2, k3, k4⟩
              all_goals
                go_wp2
                go_ret
                exact ⟨ret_int HR.out.symm, HBa.out⟩
            · have HN2 := Lib.hid (HS.out.trans (scanA_next HX.out (arcErr_ok hA hq hr)))
              have k1 : 0 ≤ a2 := by omega
              have k2 : a2 ≤ 1048576 := by omega
              have k3 : -1048576 ≤ a3 := by omega
              have k4 : a3 ≤ 1048576 := by omega
              clear hA hr
              go_wp2
              go_roundw
              case rel => exact ⟨k + 1, by omega, by go_num, HN2, HB.out.alloc hsz _⟩
              case measure => simp [intOf]; omega
      · have HR := Lib.hid (HS.out.trans (scanA_end (n := n) (es := es) (k := k) (by have := HN.out; omega)))
        go_wp2
        go_ret
        exact ⟨ret_int HR.out.symm, HBw.out⟩
end Go.Proofs.Ytkpejmpnbdblbaa
