/- graph.checkEdge: it answers what is wrong with an edge behind those whose pairs the map holds. -/
import Derived.Test.YticickicfigpbaaMap
namespace Go.Proofs.Yticickicfigpbaa
open Go.RowKit

def pairP (e : E3) : Int × Int := (min e.1 e.2.1, max e.1 e.2.1)
theorem pairP_eq (e f : E3) : pairP f = pairP e ↔ sameB e f = true := by
  simp only [pairP, sameB, Prod.mk.injEq, Bool.or_eq_true, Bool.and_eq_true, beq_iff_eq]
  omega
theorem pairP_mem (pre : List E3) (e : E3) : pairP e ∈ pre.map pairP ↔ metB pre e = true := by
  simp only [List.mem_map, metB, List.any_eq_true, pairP_eq]
theorem okP_of {n : Int} {e : E3} (hn : n ≤ 10) (h0 : isIn n e.1 = true) (h1 : isIn n e.2.1 = true) : okM (pairP e) := by
  simp only [isIn, Bool.and_eq_true, decide_eq_true_eq] at h0 h1
  simp only [okM, pairP]
  omega

set_option maxRecDepth 100000 in
/-- pairOf ahead of a look-up: pair met. -/
theorem pairOf_met (a b c : Int) (w : World) (bm : Nat) (ps : List (Int × Int)) (hm : MapIs w bm ps) (hp : okM (pairP (a, b, c))) (h : pairP (a, b, c) ∈ ps) :
    Calls Try.prog 50 #[.agg #[.int .i64 a, .int .i64 b, .int .i64 c]] w fun e w' => e = .returned (.agg #[.int .i64 (min a b), .int .i64 (max a b)]) ∧
      (Instr.lookup 70 (.map (some bm)) (.agg #[.int .i64 (min a b), .int .i64 (max a b)]) false).run Try.prog w' = .ok (.int .i64 1) w' ∧ Below w.heap.size w w' :=
  (pairOf_any a b c w).mono fun e w' ⟨he, hw⟩ => by
    subst hw
    exact ⟨he, look_in (p := pairP (a, b, c)) ((hm.alloc _).alloc _) hp h, ((Below.refl _ _).alloc (Nat.le_refl _) _).alloc (by simp) _⟩
set_option maxRecDepth 100000 in
/-- .. not met. -/
theorem pairOf_new (a b c : Int) (w : World) (bm : Nat) (ps : List (Int × Int)) (hm : MapIs w bm ps) (hp : okM (pairP (a, b, c))) (h : pairP (a, b, c) ∉ ps) :
    Calls Try.prog 50 #[.agg #[.int .i64 a, .int .i64 b, .int .i64 c]] w fun e w' => e = .returned (.agg #[.int .i64 (min a b), .int .i64 (max a b)]) ∧
      (Instr.lookup 70 (.map (some bm)) (.agg #[.int .i64 (min a b), .int .i64 (max a b)]) false).run Try.prog w' = .ok (.int .i64 0) w' ∧ Below w.heap.size w w' :=
  (pairOf_any a b c w).mono fun e w' ⟨he, hw⟩ => by
    subst hw
    exact ⟨he, look_out (p := pairP (a, b, c)) ((hm.alloc _).alloc _) hp h, ((Below.refl _ _).alloc (Nat.le_refl _) _).alloc (by simp) _⟩

set_option maxRecDepth 100000 in
set_option maxHeartbeats 400000 in
theorem checkEdge_any (n a0 a1 a2 : Int) (bm : Nat) (pre : List E3) (w : World) (hm : MapIs w bm (pre.map pairP)) (hn : n ≤ 10) :
    Calls Try.prog 49 #[.int .i64 n, .agg #[.int .i64 a0, .int .i64 a1, .int .i64 a2], .map (some bm)] w fun e w' => e = .returned (.int .i64 (edgeErr n pre (a0, a1, a2))) ∧ Below w.heap.size w w' := by
  by_cases hA : isIn n a0 = true ∧ isIn n a1 = true
  · obtain ⟨hA0, hA1⟩ := hA
    have hi0 : 0 ≤ a0 ∧ a0 < n := by simpa [isIn] using hA0
    have hi1 : 0 ≤ a1 ∧ a1 < n := by simpa [isIn] using hA1
    obtain ⟨hi00, hi01⟩ := hi0
    obtain ⟨hi10, hi11⟩ := hi1
    have hp : okM (pairP (a0, a1, a2)) := okP_of hn hA0 hA1
    by_cases hq : a0 = a1
    · rw [edgeErr_form n pre a0 a1 a2 hA0 hA1 (by simp [hq])]
      have hqb : (a0 == a1) = true := by simpa using hq
      clear hq hA0 hA1 hp hm
      go_enter Try.func49, Try.ntmps49
      go_wp2
      go_ret
      exact ⟨rfl, (Below.refl _ _).alloc (Nat.le_refl _) _⟩
    · have hqb : (a0 == a1) = false := by simpa using hq
      clear hq
      have HM := Lib.hid (hm.alloc (.cells #[.int .i64 a0, .int .i64 a1, .int .i64 a2] 54))
      have HP := Lib.hid hp
      by_cases hs : metB pre (a0, a1, a2) = true
      · rw [edgeErr_form n pre a0 a1 a2 hA0 hA1 (by simp [hs])]
        have HI := Lib.hid ((pairP_mem pre (a0, a1, a2)).2 hs)
        clear hs hA0 hA1 hp hm
        go_enter Try.func49, Try.ntmps49
        go_wp2_with (first | (go_at_call 50; refine (pairOf_met a0 a1 a2 _ bm _ HM.out HP.out HI.out).mono ?_; rintro e w' ⟨rfl, hlk, hB⟩) | go_in)
        go_ret
        exact ⟨rfl, ((Below.refl _ _).alloc (Nat.le_refl _) _).trans (hB.mono (by simp))⟩
      · have HI := Lib.hid (fun h => hs ((pairP_mem pre (a0, a1, a2)).1 h))
        have hs' : (a0 == a1 || metB pre (a0, a1, a2)) = false := by rw [hqb]; simpa using hs
        by_cases hw : a2 < -1048576 ∨ 1048576 < a2
        · rw [edgeErr_range n pre a0 a1 a2 hA0 hA1 hs' hw]
          have hw' : a2 < -1048576 ∨ (-1048576 ≤ a2 ∧ 1048576 < a2) := by omega
          clear hs hA0 hA1 hp hm hw hs'
          rcases hw' with hw1 | ⟨hw1, hw2⟩
          all_goals
            go_enter Try.func49, Try.ntmps49
            go_wp2_with (first | (go_at_call 50; refine (pairOf_new a0 a1 a2 _ bm _ HM.out HP.out HI.out).mono ?_; rintro e w' ⟨rfl, hlk, hB⟩; obtain ⟨hc, hf⟩ := bcell hB) | go_in)
            go_ret
            exact ⟨rfl, ((Below.refl _ _).alloc (Nat.le_refl _) _).trans (hB.mono (by simp))⟩
        · have hw1 : -1048576 ≤ a2 := by omega
          have hw2 : a2 ≤ 1048576 := by omega
          rw [edgeErr_ok n pre a0 a1 a2 hA0 hA1 hs' hw1 hw2]
          clear hs hA0 hA1 hp hm hw hs'
          go_enter Try.func49, Try.ntmps49
          go_wp2_with (first | (go_at_call 50; refine (pairOf_new a0 a1 a2 _ bm _ HM.out HP.out HI.out).mono ?_; rintro e w' ⟨rfl, hlk, hB⟩; obtain ⟨hc, hf⟩ := bcell hB) | go_in)
          go_ret
          exact ⟨rfl, ((Below.refl _ _).alloc (Nat.le_refl _) _).trans (hB.mono (by simp))⟩
  · rw [edgeErr_out n pre a0 a1 a2 hA]
    have hw : ¬ 0 ≤ a0 ∨ (0 ≤ a0 ∧ ¬ a0 < n) ∨ (0 ≤ a0 ∧ a0 < n ∧ ¬ 0 ≤ a1) ∨ (0 ≤ a0 ∧ a0 < n ∧ 0 ≤ a1 ∧ ¬ a1 < n) := by
      simp [isIn] at hA; omega
    clear hA hm
    rcases hw with h | ⟨h1, h2⟩ | ⟨h1, h2, h3⟩ | ⟨h1, h2, h3, h4⟩
    all_goals
      go_enter Try.func49, Try.ntmps49
      go_wp2
      go_ret
      exact ⟨rfl, (Below.refl _ _).alloc (Nat.le_refl _) _⟩
end Go.Proofs.Yticickicfigpbaa
