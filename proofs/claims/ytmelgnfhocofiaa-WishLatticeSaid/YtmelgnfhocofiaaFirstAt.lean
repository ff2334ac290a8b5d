/- Where a number stands first in a list: what a walk over it meets. -/
import Derived.Test.YtmelgnfhocofiaaRows2
import Derived.Test.YtmelgnfhocofiaaWishP
namespace Go.Proofs.Ytmelgnfhocofiaa
open Go.RowKit

theorem ahd_before {v : Int} : ∀ {l : List Int} {k : Nat}, k < ahd l v → l[k]? ≠ some v
  | [], k, _ => by simp
  | x :: l, k, h => by
    unfold ahd at h
    split at h
    · omega
    · rename_i hx
      cases k with
      | zero => intro e; simp only [List.getElem?_cons_zero, Option.some.injEq] at e; exact hx e
      | succ k => rw [List.getElem?_cons_succ]; exact ahd_before (by omega)
theorem first_at (xs : List Int) (v : Int) (n : Nat) (hn : xs.length = n) : ∃ k : Nat, k ≤ n ∧ ahd xs v = k ∧ owP xs v = (if k < n then (k : Int) else -1) ∧ (∀ x, xs[k]? = some x → x = v) ∧ ∀ j x, j < k → xs[j]? = some x → ¬ x = v := by
  refine ⟨ahd xs v, hn ▸ ahd_le xs v, rfl, ?_, fun x hx => ?_, fun j x hj hx e => ahd_before hj (e ▸ hx)⟩
  · unfold owP
    by_cases h : v ∈ xs
    · rw [if_pos h, if_pos (hn ▸ ahd_lt.2 h)]
    · rw [if_neg h, if_neg (fun q => h (ahd_lt.1 (hn ▸ q)))]
  · have hlt := (List.getElem?_eq_some_iff.1 hx).1
    have := ahd_get (ahd_lt.1 hlt)
    rw [hx] at this
    injection this
/-- Which of two stands first. -/
theorem first_two (xs : List Int) (a b : Int) (n : Nat) (hn : xs.length = n) : ∃ k : Nat, k ≤ n ∧ (k = n → decide (ahd xs a < ahd xs b) = false) ∧ (∀ x, xs[k]? = some x → (decide (ahd xs a < ahd xs b) = true → x = a ∧ ¬ x = b) ∧ (decide (ahd xs a < ahd xs b) = false → x = b)) ∧ ∀ j x, j < k → xs[j]? = some x → ¬ x = a ∧ ¬ x = b := by
  obtain ⟨ka, ha, ea, _, ha1, ha2⟩ := first_at xs a n hn
  obtain ⟨kb, hb, eb, _, hb1, hb2⟩ := first_at xs b n hn
  rw [ea, eb]
  rcases Nat.lt_or_ge ka kb with h | h
  · exact ⟨ka, ha, fun e => by omega, fun x hx => ⟨fun _ => ⟨ha1 x hx, hb2 ka x h hx⟩, fun q => by simp [h] at q⟩, fun j x hj hx => ⟨ha2 j x hj hx, hb2 j x (by omega) hx⟩⟩
  · exact ⟨kb, hb, fun _ => by simp; exact h, fun x hx => ⟨fun q => by simp at q; omega, fun _ => hb1 x hx⟩, fun j x hj hx => ⟨ha2 j x (by omega) hx, hb2 j x hj hx⟩⟩
end Go.Proofs.Ytmelgnfhocofiaa
