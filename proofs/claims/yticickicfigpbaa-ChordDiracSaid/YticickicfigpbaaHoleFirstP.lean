/- Rings of four or more without a short cut, as lists: the first of the shortest; the reference's search finds it. Plain facts, of no program. -/
import Derived.Test.YticickicfigpbaaChordP
import Derived.Test.YticickicfigpbaaRingP
namespace Go.Proofs.Yticickicfigpbaa

/-- No two of a ring have an edge but neighbours. -/
def BareL (adj : Nat → Nat → Bool) (l : List Nat) : Prop := ∀ i j, i < l.length → j < i → adj (l.getD i 0) (l.getD j 0) = true → i - j = 1 ∨ i - j = l.length - 1
/-- No two of a row have an edge but neighbours. -/
def RowL (adj : Nat → Nat → Bool) (l : List Nat) : Prop := ∀ i j, i < l.length → j + 1 < i → adj (l.getD i 0) (l.getD j 0) = false
structure HoleG (adj : Nat → Nat → Bool) (m : Nat) (l : List Nat) : Prop where
  four : 4 ≤ l.length
  lt : ∀ i, i < l.length → l.getD i 0 < m
  nd : ∀ i j, i < j → j < l.length → l.getD i 0 ≠ l.getD j 0
  ring : RingT adj l
  bare : BareL adj l
/-- The one list is the other one, or has the lesser number where they first differ. -/
def LexL (g h : List Nat) : Prop := g = h ∨ ∃ p, p < g.length ∧ (∀ i, i < p → g.getD i 0 = h.getD i 0) ∧ g.getD p 0 < h.getD p 0
structure FirstH (adj : Nat → Nat → Bool) (m : Nat) (g : List Nat) : Prop where
  hole : HoleG adj m g
  len : ∀ h, HoleG adj m h → g.length ≤ h.length
  lex : ∀ h, HoleG adj m h → h.length = g.length → LexL g h
theorem FirstH.one {adj : Nat → Nat → Bool} {m : Nat} {g h : List Nat} (hg : FirstH adj m g) (hh : FirstH adj m h) : g = h := by
  have hl : h.length = g.length := Nat.le_antisymm (hh.len g hg.hole) (hg.len h hh.hole)
  rcases hg.lex h hh.hole hl with e | ⟨p, _, h1, h2⟩
  · exact e
  · rcases hh.lex g hg.hole hl.symm with e | ⟨q, _, h3, h4⟩
    · exact e.symm
    · rcases Nat.lt_trichotomy p q with hpq | hpq | hpq
      · have := h3 p hpq; omega
      · subst hpq; omega
      · have := h1 q hpq; omega
open Classical in
/-- The reference's search: those that go on, by so many nodes more. -/
noncomputable def refBareF (adj : Nat → Nat → Bool) (m : Nat) : Nat → List Nat → Option (List Nat)
  | 0, l => if RingT adj l ∧ BareL adj l then some l else none
  | f + 1, l => (List.range m).findSome? fun i => if candB adj l i = true ∧ (f = 0 ∨ RowL adj (l ++ [i])) then refBareF adj m f (l ++ [i]) else none
section
variable {adj : Nat → Nat → Bool} {m : Nat}
theorem range_first {β : Type} {F : Nat → Option β} : ∀ {m : Nat} {b : β}, (List.range m).findSome? F = some b → ∃ a, a < m ∧ F a = some b ∧ ∀ i, i < a → F i = none
  | 0, b, h => by simp at h
  | m + 1, b, h => by
    rw [List.range_succ, List.findSome?_append] at h
    cases hm : (List.range m).findSome? F with
    | some c =>
      rw [hm] at h
      injection h with h
      subst h
      obtain ⟨a, h1, h2, h3⟩ := range_first hm
      exact ⟨a, by omega, h2, h3⟩
    | none =>
      rw [hm] at h
      simp at h
      exact ⟨m, by omega, h, fun i hi => (List.findSome?_eq_none_iff.1 hm) i (List.mem_range.2 hi)⟩
theorem getD_app {l : List Nat} {x i : Nat} : (l ++ [x]).getD i 0 = if i < l.length then l.getD i 0 else if i = l.length then x else 0 := by
  rw [List.getD_eq_getElem?_getD, List.getD_eq_getElem?_getD, List.getElem?_append]
  split
  · rfl
  · rename_i h
    by_cases e : i = l.length
    · subst e; simp
    · rw [if_neg e, List.getElem?_eq_none (by simp; omega)]; rfl
/-- What is found goes on from the list, is a ring without a short cut; none twice. -/
theorem refBareF_some : ∀ (f : Nat) (l r : List Nat), refBareF adj m f l = some r → (∀ i, i < l.length → l.getD i 0 < m) → (∀ i j, i < j → j < l.length → l.getD i 0 ≠ l.getD j 0) →
    r.length = l.length + f ∧ (∀ i, i < l.length → r.getD i 0 = l.getD i 0) ∧ (∀ i, i < r.length → r.getD i 0 < m) ∧ (∀ i j, i < j → j < r.length → r.getD i 0 ≠ r.getD j 0) ∧ RingT adj r ∧ BareL adj r
  | 0, l, r, h, hlt, hnd => by
    unfold refBareF at h
    split at h
    · rename_i h1
      injection h with h
      subst h
      exact ⟨rfl, fun _ _ => rfl, hlt, hnd, h1.1, h1.2⟩
    · cases h
  | f + 1, l, r, h, hlt, hnd => by
    unfold refBareF at h
    obtain ⟨a, ha, h1, _⟩ := range_first h
    split at h1
    · rename_i hc
      have hno : ∀ i, i < l.length → l.getD i 0 ≠ a := fun i hi he => by
        have h2 := hc.1
        unfold candB at h2
        rw [Bool.and_eq_true, Bool.not_eq_true'] at h2
        have h3 : a ∈ l := by rw [← he, List.getD_eq_getElem?_getD, List.getElem?_eq_getElem hi]; exact List.getElem_mem hi
        rw [← List.contains_iff_mem] at h3
        rw [h3] at h2
        cases h2.1
      obtain ⟨g1, g2, g3, g4, g5, g6⟩ := refBareF_some f (l ++ [a]) r h1 (fun i hi => by
        rw [getD_app]
        split
        · rename_i h; exact hlt i h
        · split
          · exact ha
          · exact Nat.lt_of_le_of_lt (Nat.zero_le _) ha) (fun i j hij hj => by
        rw [List.length_append, List.length_singleton] at hj
        rw [getD_app, getD_app, if_pos (show i < l.length by omega)]
        by_cases e : j < l.length
        · rw [if_pos e]; exact hnd i j hij e
        · rw [if_neg e, if_pos (by omega)]; exact hno i (by omega))
      rw [List.length_append, List.length_singleton] at g1 g2
      exact ⟨by omega, fun i hi => by rw [g2 i (by omega), getD_app, if_pos hi], g3, g4, g5, g6⟩
    · cases h1
theorem HoleG.cand {g : List Nat} {k : Nat} (h : HoleG adj m g) (hk : k < g.length) : candB adj (g.take k) (g.getD k 0) = true := by
  unfold candB
  rw [Bool.and_eq_true, Bool.or_eq_true]
  constructor
  · cases hc : (g.take k).contains (g.getD k 0) with
    | false => rfl
    | true =>
      rw [List.contains_iff_mem] at hc
      obtain ⟨i, hi⟩ := List.getElem?_of_mem hc
      have hik : i < k := by have := (List.getElem?_eq_some_iff.1 hi).1; rw [List.length_take] at this; omega
      rw [List.getElem?_take, if_pos hik] at hi
      have e : g.getD i 0 = g.getD k 0 := by rw [List.getD_eq_getElem?_getD, hi]; rfl
      exact absurd e (h.nd i k hik hk)
  · cases k with
    | zero => left; simp
    | succ k =>
      right
      have hl : (g.take (k + 1)).length = k + 1 := by rw [List.length_take]; omega
      rw [hl, Nat.add_sub_cancel, take_getD (Nat.lt_succ_self k)]
      have := h.ring k (by omega)
      rw [Nat.mod_eq_of_lt hk] at this
      exact this
theorem HoleG.row {g : List Nat} {k : Nat} (h : HoleG adj m g) (hk : k < g.length) : RowL adj (g.take k) := fun i j hi hj => by
  rw [List.length_take] at hi
  rw [take_getD (show i < k by omega), take_getD (show j < k by omega)]
  cases ha : adj (g.getD i 0) (g.getD j 0) with
  | false => rfl
  | true =>
    have := h.bare i j (by omega) (by omega) ha
    omega
open Classical in
/-- Some ring goes on from the list: one is found, and it is not behind it. -/
theorem refBareF_lex {g : List Nat} (h : HoleG adj m g) : ∀ (f k : Nat), k + f = g.length → ∃ r, refBareF adj m f (g.take k) = some r ∧ LexL r g
  | 0, k, hk => by
    have e : g.take k = g := List.take_of_length_le (by omega)
    rw [e]
    refine ⟨g, ?_, .inl rfl⟩
    unfold refBareF
    rw [if_pos ⟨h.ring, h.bare⟩]
  | f + 1, k, hk => by
    obtain ⟨r0, h0, hl0⟩ := refBareF_lex h f (k + 1) (by omega)
    have hkl : k < g.length := by omega
    have hc : (if candB adj (g.take k) (g.getD k 0) = true ∧ (f = 0 ∨ RowL adj (g.take k ++ [g.getD k 0])) then refBareF adj m f (g.take k ++ [g.getD k 0]) else none) = some r0 := by
      have hcond : f = 0 ∨ RowL adj (g.take (k + 1)) := by
        by_cases e : f = 0
        · exact .inl e
        · exact .inr (h.row (by omega))
      rw [take_snoc hkl, if_pos ⟨h.cand hkl, hcond⟩]
      exact h0
    have hex : ∃ r, refBareF adj m (f + 1) (g.take k) = some r := by
      cases hr : refBareF adj m (f + 1) (g.take k) with
      | some r => exact ⟨r, rfl⟩
      | none =>
        unfold refBareF at hr
        have := (List.findSome?_eq_none_iff.1 hr) (g.getD k 0) (List.mem_range.2 (h.lt k hkl))
        rw [hc] at this
        cases this
    obtain ⟨r, hr⟩ := hex
    refine ⟨r, hr, ?_⟩
    have hsome := refBareF_some (f + 1) (g.take k) r hr (fun i hi => by rw [List.length_take] at hi; rw [take_getD (by omega)]; exact h.lt i (by omega)) (fun i j hij hj => by
      rw [List.length_take] at hj
      rw [take_getD (by omega), take_getD (by omega)]
      exact h.nd i j hij (by omega))
    have hlt : (g.take k).length = k := by rw [List.length_take]; omega
    rw [hlt] at hsome
    unfold refBareF at hr
    obtain ⟨a, ha, h1, h2⟩ := range_first hr
    have hak : a ≤ g.getD k 0 := Nat.le_of_not_lt fun hlt2 => by
      have := h2 _ hlt2
      rw [hc] at this
      cases this
    by_cases e : a = g.getD k 0
    · subst e
      rw [hc] at h1
      injection h1 with h1
      subst h1
      exact hl0
    · split at h1
      · have ha2 := refBareF_some f (g.take k ++ [a]) r h1 (fun i hi => by
          rw [List.length_append, List.length_singleton, hlt] at hi
          rw [getD_app, hlt]
          split
          · rename_i h3; rw [take_getD h3]; exact h.lt i (by omega)
          · split
            · exact ha
            · omega) (fun i j hij hj => by
          rw [List.length_append, List.length_singleton, hlt] at hj
          rename_i hcc
          rw [getD_app, getD_app, hlt, if_pos (show i < k by omega), take_getD (by omega)]
          by_cases e2 : j < k
          · rw [if_pos e2, take_getD e2]; exact h.nd i j hij (by omega)
          · rw [if_neg e2, if_pos (by omega)]
            intro he
            have h3 := hcc.1
            unfold candB at h3
            rw [Bool.and_eq_true, Bool.not_eq_true'] at h3
            have h4 : a ∈ g.take k := by
              rw [← he, ← take_getD (g := g) (show i < k by omega), List.getD_eq_getElem?_getD, List.getElem?_eq_getElem (show i < (g.take k).length by omega)]
              exact List.getElem_mem _
            rw [← List.contains_iff_mem] at h4
            rw [h4] at h3
            cases h3.1)
        have hat := ha2.2.1 k (by rw [List.length_append, List.length_singleton, hlt]; omega)
        rw [getD_app, hlt, if_neg (by omega), if_pos rfl] at hat
        refine .inr ⟨k, by omega, fun i hi => ?_, by omega⟩
        rw [hsome.2.1 i hi, take_getD hi]
      · cases h1
/-- The first size at which one is found: the first of all. -/
theorem bare_first {n : Nat} {g : List Nat} (h4 : 4 ≤ n) (hg : refBareF adj m n [] = some g) (h0 : ∀ k, 4 ≤ k → k < n → refBareF adj m k [] = none) : FirstH adj m g ∧ g.length = n := by
  obtain ⟨g1, _, g3, g4, g5, g6⟩ := refBareF_some n [] g hg (fun i hi => by simp at hi) (fun i j _ hj => by simp at hj)
  rw [List.length_nil, Nat.zero_add] at g1
  refine ⟨⟨⟨by omega, g3, g4, g5, g6⟩, fun h hh => ?_, fun h hh hl => ?_⟩, g1⟩
  · apply Nat.le_of_not_lt
    intro hlt
    obtain ⟨r, hr, _⟩ := refBareF_lex hh h.length 0 (Nat.zero_add _)
    rw [List.take_zero, h0 h.length hh.four (by omega)] at hr
    cases hr
  · obtain ⟨r, hr, hlx⟩ := refBareF_lex hh h.length 0 (Nat.zero_add _)
    rw [List.take_zero, hl, g1, hg] at hr
    injection hr with hr
    rw [hr]; exact hlx
theorem bare_none (h0 : ∀ k, 4 ≤ k → k ≤ m → refBareF adj m k [] = none) (hlm : ∀ h, HoleG adj m h → h.length ≤ m) : ∀ h, ¬ HoleG adj m h := fun h hh => by
  obtain ⟨r, hr, _⟩ := refBareF_lex hh h.length 0 (Nat.zero_add _)
  rw [List.take_zero, h0 h.length hh.four (hlm h hh)] at hr
  cases hr
end
end Go.Proofs.Yticickicfigpbaa
