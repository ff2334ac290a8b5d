/- The program's search for a ring without a short cut: who fits behind a row; the first that closes. Plain facts, of no program. -/
import Derived.Test.YticickicfigpbaaHoleFirstP
namespace Go.Proofs.Yticickicfigpbaa

/-- May x come next, where so many nodes are to be? -/
def fitsB (adj : Nat → Nat → Bool) (L : Nat) (l : List Nat) (x : Nat) : Bool := (List.range l.length).all fun p => !(l.getD p 0 == x) && ((p + 1 == l.length || (p == 0 && l.length + 1 == L)) == adj x (l.getD p 0))
/-- Each two of a row have an edge just if they are neighbours in it, or its ends close the ring. -/
structure RowH (adj : Nat → Nat → Bool) (m L : Nat) (l : List Nat) : Prop where
  lt : ∀ i, i < l.length → l.getD i 0 < m
  nd : ∀ i j, i < j → j < l.length → l.getD i 0 ≠ l.getD j 0
  adj : ∀ i j, i < j → j < l.length → (adj (l.getD j 0) (l.getD i 0) = true ↔ i + 1 = j ∨ (i = 0 ∧ j + 1 = L))
/-- The search, by so many nodes more. -/
def searchF (adj : Nat → Nat → Bool) (m L : Nat) : Nat → List Nat → Option (List Nat)
  | 0, l => some l
  | f + 1, l => (List.range m).findSome? fun x => if fitsB adj L l x = true then searchF adj m L f (l ++ [x]) else none
section
variable {adj : Nat → Nat → Bool} {m L x : Nat} {l g : List Nat}
theorem fits_iff : fitsB adj L l x = true ↔ ∀ p, p < l.length → l.getD p 0 ≠ x ∧ (adj x (l.getD p 0) = true ↔ p + 1 = l.length ∨ (p = 0 ∧ l.length + 1 = L)) := by
  unfold fitsB
  rw [List.all_eq_true]
  constructor
  · intro h p hp
    have h1 := h p (List.mem_range.2 hp)
    rw [Bool.and_eq_true, Bool.not_eq_true', beq_eq_false_iff_ne, beq_iff_eq] at h1
    refine ⟨h1.1, ?_⟩
    rw [← h1.2]
    simp
  · intro h p hp
    obtain ⟨h1, h2⟩ := h p (List.mem_range.1 hp)
    rw [Bool.and_eq_true, Bool.not_eq_true', beq_eq_false_iff_ne, beq_iff_eq]
    refine ⟨h1, ?_⟩
    rw [Bool.eq_iff_iff, h2]
    simp
theorem RowH.nil : RowH adj m L [] := ⟨fun i h => by simp at h, fun i j _ h => by simp at h, fun i j _ h => by simp at h⟩
theorem RowH.snoc (h : RowH adj m L l) (hx : x < m) (hf : fitsB adj L l x = true) : RowH adj m L (l ++ [x]) := by
  have hF := fits_iff.1 hf
  refine ⟨fun i hi => ?_, fun i j hij hj => ?_, fun i j hij hj => ?_⟩
  · rw [List.length_append, List.length_singleton] at hi
    rw [getD_app]
    by_cases e : i < l.length
    · rw [if_pos e]; exact h.lt i e
    · rw [if_neg e, if_pos (by omega)]; exact hx
  · rw [List.length_append, List.length_singleton] at hj
    rw [getD_app, getD_app, if_pos (show i < l.length by omega)]
    by_cases e : j < l.length
    · rw [if_pos e]; exact h.nd i j hij e
    · rw [if_neg e, if_pos (by omega)]; exact (hF i (by omega)).1
  · rw [List.length_append, List.length_singleton] at hj
    rw [getD_app, getD_app, if_pos (show i < l.length by omega)]
    by_cases e : j < l.length
    · rw [if_pos e]; exact h.adj i j hij e
    · have e2 : j = l.length := by omega
      rw [if_neg e, if_pos e2, (hF i (by omega)).2, e2]
theorem search_some : ∀ (f : Nat) (l r : List Nat), searchF adj m L f l = some r → RowH adj m L l → r.length = l.length + f ∧ RowH adj m L r ∧ ∀ i, i < l.length → r.getD i 0 = l.getD i 0
  | 0, l, r, h, hl => by
    injection h with h
    subst h
    exact ⟨rfl, hl, fun _ _ => rfl⟩
  | f + 1, l, r, h, hl => by
    unfold searchF at h
    obtain ⟨a, ha, h1, _⟩ := range_first h
    split at h1
    · rename_i hc
      obtain ⟨g1, g2, g3⟩ := search_some f (l ++ [a]) r h1 (hl.snoc ha hc)
      rw [List.length_append, List.length_singleton] at g1 g3
      exact ⟨by omega, g2, fun i hi => by rw [g3 i (by omega), getD_app, if_pos hi]⟩
    · cases h1
theorem RowH.hole (hs : ∀ i j, adj i j = adj j i) (h4 : 4 ≤ L) (h : RowH adj m L l) (hl : l.length = L) : HoleG adj m l := by
  subst hl
  refine ⟨h4, h.lt, h.nd, fun i hi => ?_, fun i j hi hj ha => ?_⟩
  · rcases Nat.lt_or_ge (i + 1) l.length with h1 | h1
    · rw [Nat.mod_eq_of_lt h1, hs]
      exact (h.adj i (i + 1) (Nat.lt_succ_self i) h1).2 (.inl rfl)
    · rw [show i + 1 = l.length by omega, Nat.mod_self]
      exact (h.adj 0 i (by omega) hi).2 (.inr ⟨rfl, by omega⟩)
  · rcases (h.adj j i hj hi).1 ha with h1 | ⟨h1, h2⟩
    · exact .inl (by omega)
    · exact .inr (by omega)
theorem HoleG.fits (hs : ∀ i j, adj i j = adj j i) (h : HoleG adj m g) {k : Nat} (hk : k < g.length) : fitsB adj g.length (g.take k) (g.getD k 0) = true := by
  have h4 := h.four
  rw [fits_iff]
  intro p hp
  rw [List.length_take] at hp ⊢
  have e : min k g.length = k := by omega
  rw [e] at hp ⊢
  rw [take_getD hp]
  refine ⟨h.nd p k hp hk, fun ha => ?_, ?_⟩
  · rcases h.bare k p hk hp ha with h1 | h1
    · exact .inl (by omega)
    · exact .inr (by omega)
  · rintro (h1 | ⟨h1, h2⟩)
    · have := h.ring p (by omega)
      rw [h1, Nat.mod_eq_of_lt hk] at this
      rw [hs]; exact this
    · have := h.ring k hk
      rw [h2, Nat.mod_self] at this
      rw [h1]; exact this
theorem HoleG.rowH (hs : ∀ i j, adj i j = adj j i) (h : HoleG adj m g) : ∀ k, k ≤ g.length → RowH adj m g.length (g.take k)
  | 0, _ => by rw [List.take_zero]; exact RowH.nil
  | k + 1, hk => by rw [← take_snoc (by omega)]; exact (h.rowH hs k (by omega)).snoc (h.lt k (by omega)) (h.fits hs (by omega))
/-- Some ring goes on from the list: one is found, and it is not behind it. -/
theorem search_lex (hs : ∀ i j, adj i j = adj j i) (h : HoleG adj m g) : ∀ (f k : Nat), k + f = g.length → ∃ r, searchF adj m g.length f (g.take k) = some r ∧ LexL r g
  | 0, k, hk => by
    have e : g.take k = g := List.take_of_length_le (by omega)
    rw [e]
    exact ⟨g, rfl, .inl rfl⟩
  | f + 1, k, hk => by
    obtain ⟨r0, h0, hl0⟩ := search_lex hs h f (k + 1) (by omega)
    have hkl : k < g.length := by omega
    have hc : (if fitsB adj g.length (g.take k) (g.getD k 0) = true then searchF adj m g.length f (g.take k ++ [g.getD k 0]) else none) = some r0 := by
      rw [take_snoc hkl, if_pos (h.fits hs hkl)]
      exact h0
    have hex : ∃ r, searchF adj m g.length (f + 1) (g.take k) = some r := by
      cases hr : searchF adj m g.length (f + 1) (g.take k) with
      | some r => exact ⟨r, rfl⟩
      | none =>
        unfold searchF at hr
        have := (List.findSome?_eq_none_iff.1 hr) (g.getD k 0) (List.mem_range.2 (h.lt k hkl))
        rw [hc] at this
        cases this
    obtain ⟨r, hr⟩ := hex
    refine ⟨r, hr, ?_⟩
    have hsome := search_some (f + 1) (g.take k) r hr (h.rowH hs k (by omega))
    have hlt : (g.take k).length = k := by rw [List.length_take]; omega
    rw [hlt] at hsome
    unfold searchF at hr
    obtain ⟨a, ha, h1, h2⟩ := range_first hr
    have hak : a ≤ g.getD k 0 := Nat.le_of_not_lt fun hlt2 => by
      have := h2 _ hlt2
      rw [hc] at this
      cases this
    by_cases e : a = g.getD k 0
    · subst e
      rw [hc] at h1
      injection h1 with h1
      subst h1
      exact hl0
    · split at h1
      · rename_i hcc
        have ha2 := search_some f (g.take k ++ [a]) r h1 ((h.rowH hs k (by omega)).snoc ha hcc)
        have hat := ha2.2.2 k (by rw [List.length_append, List.length_singleton, hlt]; omega)
        rw [getD_app, hlt, if_neg (by omega), if_pos rfl] at hat
        refine .inr ⟨k, by omega, fun i hi => ?_, by omega⟩
        rw [hsome.2.2 i hi, take_getD hi]
      · cases h1
/-- The first size at which one is found: the first of all. -/
theorem search_first (hs : ∀ i j, adj i j = adj j i) (h4 : 4 ≤ L) (hg : searchF adj m L L [] = some g) (h0 : ∀ k, 4 ≤ k → k < L → searchF adj m k k [] = none) : FirstH adj m g ∧ g.length = L := by
  obtain ⟨g1, g2, _⟩ := search_some L [] g hg RowH.nil
  rw [List.length_nil, Nat.zero_add] at g1
  refine ⟨⟨g2.hole hs h4 g1, fun h hh => ?_, fun h hh hl => ?_⟩, g1⟩
  · apply Nat.le_of_not_lt
    intro hlt
    obtain ⟨r, hr, _⟩ := search_lex hs hh h.length 0 (Nat.zero_add _)
    rw [List.take_zero, h0 h.length hh.four (by omega)] at hr
    cases hr
  · obtain ⟨r, hr, hlx⟩ := search_lex hs hh h.length 0 (Nat.zero_add _)
    rw [List.take_zero, hl, g1, hg] at hr
    injection hr with hr
    rw [hr]; exact hlx
theorem search_none (hs : ∀ i j, adj i j = adj j i) (h0 : ∀ k, 4 ≤ k → k ≤ m → searchF adj m k k [] = none) (hlm : ∀ h, HoleG adj m h → h.length ≤ m) : ∀ h, ¬ HoleG adj m h := fun h hh => by
  obtain ⟨r, hr, _⟩ := search_lex hs hh h.length 0 (Nat.zero_add _)
  rw [List.take_zero, h0 h.length hh.four (hlm h hh)] at hr
  cases hr
end
end Go.Proofs.Yticickicfigpbaa
