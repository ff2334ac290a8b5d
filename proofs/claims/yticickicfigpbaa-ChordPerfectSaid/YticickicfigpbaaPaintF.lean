/- The first colouring by so many colours, node by node; the least number of colours. Plain facts, of no program. -/
import Derived.Test.YticickicfigpbaaPlain
namespace Go.Proofs.Yticickicfigpbaa

/-- May the next node have colour c, as far as the first j nodes go? -/
def okTo (adj : Nat → Nat → Bool) (l : List Nat) (c : Nat) : Nat → Bool
  | 0 => true
  | j + 1 => okTo adj l c j && (((l.getD j 0 : Nat) != c) || !adj j l.length)
def paintTo (rec_ : Nat → Option (List Nat)) (ok : Nat → Bool) : Nat → Option (List Nat)
  | 0 => none
  | c + 1 => match paintTo rec_ ok c with
    | some m => some m
    | none => if ok c = true then rec_ c else none
/-- The first colouring by k colours that begins with l, of r nodes more. -/
def paintF (adj : Nat → Nat → Bool) (k : Nat) : Nat → List Nat → Option (List Nat)
  | 0, l => some l
  | r + 1, l => paintTo (fun c => paintF adj k r (l ++ [c])) (fun c => okTo adj l c l.length) k
theorem paintTo_some {rec_ : Nat → Option (List Nat)} {ok : Nat → Bool} {m : List Nat} : ∀ {k c : Nat}, c ≤ k → paintTo rec_ ok c = some m → paintTo rec_ ok k = some m
  | 0, c, hc, h => by
    obtain rfl : c = 0 := by omega
    exact h
  | k + 1, c, hc, h => by
    by_cases e : c = k + 1
    · subst e; exact h
    · have h1 := paintTo_some (k := k) (by omega) h
      show (match paintTo rec_ ok k with | some m => some m | none => _) = _
      rw [h1]
theorem paintTo_step {rec_ : Nat → Option (List Nat)} {ok : Nat → Bool} {c : Nat} (h : paintTo rec_ ok c = none) : paintTo rec_ ok (c + 1) = if ok c = true then rec_ c else none := by
  show (match paintTo rec_ ok c with | some m => some m | none => _) = _
  rw [h]
theorem okTo_new {adj : Nat → Nat → Bool} {l : List Nat} {c : Nat} (hc : c ∉ l) : ∀ j, j ≤ l.length → okTo adj l c j = true
  | 0, _ => rfl
  | j + 1, hj => by
    have h1 := okTo_new (adj := adj) hc j (by omega)
    have h2 : l.getD j 0 ≠ c := by
      rw [List.getD_eq_getElem?_getD, List.getElem?_eq_getElem (by omega)]
      intro e
      have e' : l[j] = c := e
      exact hc (e' ▸ List.getElem_mem _)
    have h3 : ((l.getD j 0 : Nat) != c) = true := bne_iff_ne.2 h2
    show (okTo adj l c j && (((l.getD j 0 : Nat) != c) || !adj j l.length)) = true
    rw [h1, h3]; rfl
theorem new_colour : ∀ (k : Nat) (l : List Nat), l.length < k → ∃ c, c < k ∧ c ∉ l := fun k l hl => by
  apply Classical.byContradiction
  intro hc
  have hall : ∀ i, i < k → i ∈ l := fun i hi => Classical.byContradiction fun h => hc ⟨i, hi, h⟩
  have key : ∀ (n : Nat) (l : List Nat), (∀ i, i < n → i ∈ l) → n ≤ l.length := fun n => by
    induction n with
    | zero => exact fun _ _ => Nat.zero_le _
    | succ n ih =>
      intro l h
      have h1 := ih (l.filter fun x => x != n) fun i hi => by
        rw [List.mem_filter]
        exact ⟨h i (by omega), by simp; omega⟩
      have h2 : (l.filter fun x => x != n).length < l.length := by
        rw [List.length_filter_lt_length_iff_exists]
        exact ⟨n, h n (by omega), by simp⟩
      omega
  have := key k l hall
  omega
/-- With as many colours as nodes there is a colouring. -/
theorem paintF_some {adj : Nat → Nat → Bool} {k : Nat} : ∀ (r : Nat) (l : List Nat), l.length + r ≤ k → ∃ m, paintF adj k r l = some m
  | 0, l, _ => ⟨l, rfl⟩
  | r + 1, l, h => by
    obtain ⟨c, hc, hcl⟩ := new_colour k l (by omega)
    obtain ⟨m, hm⟩ := paintF_some (adj := adj) (k := k) r (l ++ [c]) (by simp; omega)
    have key : ∃ m, paintTo (fun c => paintF adj k r (l ++ [c])) (fun c => okTo adj l c l.length) (c + 1) = some m := by
      cases hq : paintTo (fun c => paintF adj k r (l ++ [c])) (fun c => okTo adj l c l.length) c with
      | some m' => exact ⟨m', paintTo_some (Nat.le_succ c) hq⟩
      | none =>
        refine ⟨m, ?_⟩
        rw [paintTo_step hq, if_pos (okTo_new hcl _ (Nat.le_refl _))]
        exact hm
    obtain ⟨m', hm'⟩ := key
    exact ⟨m', paintTo_some (show c + 1 ≤ k by omega) hm'⟩
/-- So many colours are the least, and this is the first colouring. -/
def LeastC (adj : Nat → Nat → Bool) (n k : Nat) (l : List Nat) : Prop := paintF adj k n [] = some l ∧ ∀ k', k' < k → paintF adj k' n [] = none
end Go.Proofs.Yticickicfigpbaa
