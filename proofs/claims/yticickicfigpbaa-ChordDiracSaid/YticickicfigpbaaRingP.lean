/- The first ring by trying all, and the first list that comes back: plain facts. No conditions. -/
import Derived.Test.YticickicfigpbaaSidesP
namespace Go.Proofs.Yticickicfigpbaa

def candB (adj : Nat → Nat → Bool) (l : List Nat) (i : Nat) : Bool := !l.contains i && (l.isEmpty || adj (l.getD (l.length - 1) 0) i)
def RingT (adj : Nat → Nat → Bool) (l : List Nat) : Prop := ∀ i, i < l.length → adj (l.getD i 0) (l.getD ((i + 1) % l.length) 0) = true
open Classical in
/-- The first ring that goes on from some, by so many nodes more. -/
noncomputable def refRing (adj : Nat → Nat → Bool) (m : Nat) : Nat → List Nat → Option (List Nat)
  | 0, l => if RingT adj l then some l else none
  | f + 1, l => (List.range m).findSome? fun i => if candB adj l i = true then refRing adj m f (l ++ [i]) else none
section
variable {adj : Nat → Nat → Bool} {m : Nat}
theorem range_find {β : Type} {F : Nat → Option β} : ∀ {m a : Nat} {b : β}, a < m → (∀ i, i < a → F i = none) → F a = some b → (List.range m).findSome? F = some b
  | 0, _, _, h, _, _ => absurd h (Nat.not_lt_zero _)
  | m + 1, a, b, h, h0, h1 => by
    rw [List.range_succ, List.findSome?_append]
    by_cases ha : a < m
    · rw [range_find ha h0 h1]; rfl
    · obtain rfl : a = m := by omega
      rw [List.findSome?_eq_none_iff.2 (fun x hx => h0 x (List.mem_range.1 hx))]
      simp [h1]
theorem refRing_none : ∀ (f : Nat) (l : List Nat), 1 ≤ l.length → ¬ wk adj (f + 1) (l.getD (l.length - 1) 0) (l.getD 0 0) → refRing adj m f l = none
  | 0, l, hl, h => by
    unfold refRing
    rw [if_neg]
    intro hr
    have := hr (l.length - 1) (by omega)
    rw [show l.length - 1 + 1 = l.length by omega, Nat.mod_self] at this
    exact h (wk_one.2 this)
  | f + 1, l, hl, h => by
    unfold refRing
    rw [List.findSome?_eq_none_iff]
    intro i _
    split
    · rename_i hc
      refine refRing_none f (l ++ [i]) (by simp) (fun hw => h ?_)
      have e1 : (l ++ [i]).getD ((l ++ [i]).length - 1) 0 = i := by rw [getD_snoc]; simp
      have e2 : (l ++ [i]).getD 0 0 = l.getD 0 0 := by rw [getD_snoc, if_pos (by omega)]
      rw [e1, e2] at hw
      refine wk_cons ?_ hw
      unfold candB at hc
      rw [Bool.and_eq_true, Bool.or_eq_true] at hc
      rcases hc.2 with h1 | h1
      · rw [List.isEmpty_iff] at h1; rw [h1] at hl; simp at hl
      · exact h1
    · rfl
theorem take_snoc {g : List Nat} {k : Nat} (hk : k < g.length) : g.take k ++ [g.getD k 0] = g.take (k + 1) := by
  rw [List.take_succ_eq_append_getElem hk, List.getD_eq_getElem?_getD, List.getElem?_eq_getElem hk]; rfl
theorem take_getD {g : List Nat} {k i : Nat} (hi : i < k) : (g.take k).getD i 0 = g.getD i 0 := by
  rw [List.getD_eq_getElem?_getD, List.getD_eq_getElem?_getD, List.getElem?_take, if_pos hi]
theorem refRing_some {v n : Nat} {g : List Nat} (hr : RoundL adj v n g n) (ho : OddLeast adj n) (hin : ∀ a b, adj a b = true → b < m) : ∀ (f k : Nat), k + f = n → 1 ≤ k → refRing adj m f (g.take k) = some g
  | 0, k, hk, _ => by
    have hl := hr.len
    have e : g.take k = g := List.take_of_length_le (by omega)
    rw [e]
    unfold refRing
    rw [if_pos]
    intro i hi
    rw [hl] at hi ⊢
    exact (hr.ring ho).1 i hi
  | f + 1, k, hk, h1 => by
    have hl := hr.len
    have hlk : (g.take k).length = k := by rw [List.length_take]; omega
    have hstep : adj (g.getD (k - 1) 0) (g.getD k 0) = true := by
      have := hr.step (k - 1) (by omega)
      rwa [show k - 1 + 1 = k by omega] at this
    have hlast : (g.take k).getD ((g.take k).length - 1) 0 = g.getD (k - 1) 0 := by rw [hlk, take_getD (by omega)]
    unfold refRing
    refine range_find (hin _ _ hstep) (fun i hi => ?_) ?_
    · split
      · rename_i hc
        refine refRing_none f _ (by simp) (fun hw => ?_)
        have e1 : (g.take k ++ [i]).getD ((g.take k ++ [i]).length - 1) 0 = i := by rw [getD_snoc]; simp
        have e2 : (g.take k ++ [i]).getD 0 0 = v := by rw [getD_snoc, if_pos (by omega), take_getD (by omega)]; exact hr.head (by omega)
        rw [e1, e2] at hw
        unfold candB at hc
        rw [Bool.and_eq_true, Bool.or_eq_true, hlast] at hc
        rcases hc.2 with h2 | h2
        · rw [List.isEmpty_iff] at h2; rw [h2] at hlk; simp at hlk; omega
        · have h3 := hr.least (k - 1) i (by omega) (by rw [show k - 1 + 1 = k by omega]; exact hi) h2
          rw [show n - (k - 1 + 1) = f + 1 by omega] at h3
          exact h3 hw
      · rfl
    · rw [if_pos, take_snoc (by omega)]
      · exact refRing_some hr ho hin f (k + 1) (by omega) (by omega)
      · unfold candB
        rw [Bool.and_eq_true, Bool.or_eq_true, hlast]
        refine ⟨?_, .inr hstep⟩
        cases hc : (g.take k).contains (g.getD k 0) with
        | false => rfl
        | true =>
          rw [List.contains_iff_mem] at hc
          obtain ⟨i, hi⟩ := List.getElem?_of_mem hc
          rw [List.getElem?_take] at hi
          split at hi
          · rename_i hik
            refine absurd ?_ ((hr.ring ho).2 i k hik (by omega))
            rw [List.getD_eq_getElem?_getD, hi]; rfl
          · cases hi
/-- From nothing on. -/
theorem refRing_top {v n : Nat} {g : List Nat} (hr : RoundL adj v n g n) (ho : OddLeast adj n) (hin : ∀ a b, adj a b = true → a < m ∧ b < m) (hv : v < m) (hl : ∀ y, y < v → ¬ wk adj n y y) : refRing adj m n [] = some g := by
  obtain ⟨f, rfl⟩ : ∃ f, n = f + 1 := ⟨n - 1, by have := ho.1; omega⟩
  unfold refRing
  refine range_find hv (fun i hi => ?_) ?_
  · split
    · exact refRing_none f [i] (by simp) (hl i hi)
    · rfl
  · have e : g.take 1 = [v] := by
      have := hr.len
      have h2 := hr.head (by omega)
      rw [← take_snoc (k := 0) (by omega), h2]; rfl
    rw [if_pos (by simp [candB]), List.nil_append, ← e]
    exact refRing_some hr ho (fun a b h => (hin a b h).2) f 1 (by omega) (Nat.le_refl _)
theorem refRing_no {n : Nat} (hn : 0 < n) (h : ∀ v, ¬ wk adj n v v) : refRing adj m n [] = none := by
  obtain ⟨f, rfl⟩ : ∃ f, n = f + 1 := ⟨n - 1, by omega⟩
  unfold refRing
  rw [List.findSome?_eq_none_iff]
  intro i _
  split
  · exact refRing_none f [i] (by simp) (h i)
  · rfl
theorem refRing_len : ∀ (f : Nat) (l r : List Nat), refRing adj m f l = some r → r.length = l.length + f
  | 0, l, r, h => by
    unfold refRing at h
    split at h
    · injection h with h; rw [h]; rfl
    · cases h
  | f + 1, l, r, h => by
    unfold refRing at h
    obtain ⟨i, _, hi⟩ := List.exists_of_findSome?_eq_some h
    split at hi
    · have := refRing_len f _ r hi
      simp at this
      omega
    · cases hi
end
end Go.Proofs.Yticickicfigpbaa
