/- Bonds as lists of edges' places: how many edges the best has (by the recursion of the reference's bond), the first of the best (as its Bond takes it), and bonds as matchings. Plain facts, of no program. -/
import Derived.Test.YthfgbgmkiggjmacDoorTutteP
import Derived.Test.YthfgbgmkiggjmacDoorAdj
namespace Go.Proofs.YthfgbgmkiggjmacDoor

def eA (es : List E3) (k : Nat) : Nat := (es.getD k (0, 0, 0)).1.toNat
def eB (es : List E3) (k : Nat) : Nat := (es.getD k (0, 0, 0)).2.1.toNat
def tchK (es : List E3) (k i : Nat) : Bool := eA es k == i || eB es k == i
theorem tchK_iff {es : List E3} {k i : Nat} : tchK es k i = true ↔ eA es k = i ∨ eB es k = i := by simp [tchK]
section
variable {n : Nat} {es : List E3} {k k' i j : Nat}
theorem ends (hg : goodE n es) (hk : k < es.length) : ∃ c, es[k]? = some ((eA es k : Int), (eB es k : Int), c) ∧ eA es k < n ∧ eB es k < n ∧ eA es k ≠ eB es k ∧ metB (es.take k) ((eA es k : Int), (eB es k : Int), c) = false := by
  have hx : es[k]? = some es[k] := List.getElem?_eq_getElem hk
  obtain ⟨p0, p1, p2, p3, p4, p5⟩ := edge_ok (hg k _ hx)
  have hgd : es.getD k (0, 0, 0) = es[k] := by rw [List.getD_eq_getElem?_getD, hx]; rfl
  unfold eA eB
  rw [hgd]
  generalize es[k] = e at *
  obtain ⟨a, b, c⟩ := e
  simp only at p0 p1 p2 p3 p4
  obtain ⟨a, rfl⟩ := Int.eq_ofNat_of_zero_le p0
  obtain ⟨b, rfl⟩ := Int.eq_ofNat_of_zero_le p2
  simp only [Int.toNat_natCast]
  exact ⟨c, hx, by omega, by omega, by omega, p5⟩
theorem adjE_place (hg : goodE n es) : adjE es i j = true ↔ ∃ k, k < es.length ∧ ((eA es k = i ∧ eB es k = j) ∨ (eA es k = j ∧ eB es k = i)) := by
  unfold adjE
  rw [List.any_eq_true]
  constructor
  · rintro ⟨e, he, h⟩
    obtain ⟨k, hk⟩ := List.getElem?_of_mem he
    have hl := (List.getElem?_eq_some_iff.1 hk).1
    obtain ⟨c, h1, _⟩ := ends hg hl
    rw [hk] at h1
    injection h1 with h1
    subst h1
    simp only [Bool.or_eq_true, Bool.and_eq_true, beq_iff_eq] at h
    exact ⟨k, hl, by omega⟩
  · rintro ⟨k, hl, h⟩
    obtain ⟨c, h1, _⟩ := ends hg hl
    refine ⟨_, List.mem_of_getElem? h1, ?_⟩
    simp only [Bool.or_eq_true, Bool.and_eq_true, beq_iff_eq]
    omega
theorem place_lt (hg : goodE n es) (hk : k < es.length) (hkk : k' < k) (h : (eA es k = eA es k' ∧ eB es k = eB es k') ∨ (eA es k = eB es k' ∧ eB es k = eA es k')) : False := by
  obtain ⟨c, h1, _, _, _, h5⟩ := ends hg hk
  obtain ⟨c', g1, _⟩ := ends hg (show k' < es.length by omega)
  rw [metB_mem es k' k _ _ hkk g1 (by simp only [sameB, Bool.or_eq_true, Bool.and_eq_true, beq_iff_eq]; omega)] at h5
  cases h5
theorem place_one (hg : goodE n es) (hk : k < es.length) (hk' : k' < es.length) (h : (eA es k = eA es k' ∧ eB es k = eB es k') ∨ (eA es k = eB es k' ∧ eB es k = eA es k')) : k = k' := by
  rcases Nat.lt_trichotomy k k' with h1 | h1 | h1
  · exact (place_lt hg hk' h1 (by omega)).elim
  · exact h1
  · exact (place_lt hg hk h1 h).elim
end
/-- Have two edges a node in common? -/
def crsK (es : List E3) (k k' : Nat) : Prop := ∃ i, tchK es k i = true ∧ tchK es k' i = true
/-- A bond: places of edges, rising, no two with a node in common. -/
structure BondL (es : List E3) (l : List Nat) : Prop where
  lt : ∀ k ∈ l, k < es.length
  rise : l.Pairwise (· < ·)
  apart : l.Pairwise fun k k' => ¬ crsK es k k'
/-- Who has an edge of it. -/
def covK (es : List E3) (l : List Nat) (i : Nat) : Bool := l.any fun k => tchK es k i
section
variable {n : Nat} {es : List E3} {k : Nat} {l : List Nat}
theorem BondL.nil : BondL es [] := ⟨by simp, .nil, .nil⟩
theorem BondL.tail (h : BondL es (k :: l)) : BondL es l := ⟨fun x hx => h.lt x (List.mem_cons_of_mem _ hx), (List.pairwise_cons.1 h.rise).2, (List.pairwise_cons.1 h.apart).2⟩
theorem cov_size (hg : goodE n es) : ∀ {l : List Nat}, BondL es l → sizeP (covK es l) n = 2 * l.length
  | [], _ => sizeP_none fun i _ => rfl
  | k :: l, h => by
    have ih := cov_size hg h.tail
    obtain ⟨c, _, h2, h3, h4, _⟩ := ends hg (h.lt k (List.mem_cons_self ..))
    have hap := (List.pairwise_cons.1 h.apart).1
    have hno : ∀ i, tchK es k i = true → covK es l i = false := fun i hi => by
      rw [Bool.eq_false_iff]
      intro hc
      obtain ⟨k', hk', ht⟩ := List.any_eq_true.1 hc
      exact hap k' hk' ⟨i, hi, ht⟩
    have e1 := sizeP_del (A := covK es (k :: l)) (i := eA es k) (List.any_eq_true.2 ⟨k, List.mem_cons_self .., tchK_iff.2 (.inl rfl)⟩) h2
    have e2 := sizeP_del (A := delB (covK es (k :: l)) (eA es k)) (i := eB es k) (delB_iff.2 ⟨List.any_eq_true.2 ⟨k, List.mem_cons_self .., tchK_iff.2 (.inr rfl)⟩, h4.symm⟩) h3
    have e3 : sizeP (delB (delB (covK es (k :: l)) (eA es k)) (eB es k)) n = sizeP (covK es l) n := sizeP_congr n fun i _ => by
      rw [Bool.eq_iff_iff, delB_iff, delB_iff]
      have hc : covK es (k :: l) i = (tchK es k i || covK es l i) := rfl
      rw [hc, Bool.or_eq_true, tchK_iff]
      constructor
      · rintro ⟨⟨h5, h6⟩, h7⟩
        rcases h5 with h5 | h5
        · omega
        · exact h5
      · intro h5
        refine ⟨⟨.inr h5, fun e => ?_⟩, fun e => ?_⟩
        · rw [hno i (tchK_iff.2 (.inl e.symm))] at h5; cases h5
        · rw [hno i (tchK_iff.2 (.inr e.symm))] at h5; cases h5
    rw [List.length_cons]
    omega
/-- The other end. -/
def othK (es : List E3) (k i : Nat) : Nat := if eA es k = i then eB es k else eA es k
theorem othK_iff {i j : Nat} (hg : goodE n es) (hk : k < es.length) (hi : tchK es k i = true) : othK es k i = j ↔ tchK es k j = true ∧ j ≠ i := by
  obtain ⟨_, _, _, _, h4, _⟩ := ends hg hk
  rw [tchK_iff] at hi
  unfold othK
  rw [tchK_iff]
  split <;> omega
/-- A bond as a matching. -/
def bindK (es : List E3) (l : List Nat) (i : Nat) : Nat := match l.find? fun k => tchK es k i with
  | some k => othK es k i
  | none => i
theorem bindK_no {i : Nat} (h : covK es l i = false) : bindK es l i = i := by
  unfold bindK
  have : l.find? (fun k => tchK es k i) = none := List.find?_eq_none.2 fun k hk ht => by
    have : covK es l i = true := List.any_eq_true.2 ⟨k, hk, ht⟩
    rw [this] at h; cases h
  rw [this]
theorem bindK_yes {i : Nat} (hb : BondL es l) (hk : k ∈ l) (ht : tchK es k i = true) : bindK es l i = othK es k i := by
  unfold bindK
  cases hf : l.find? (fun k => tchK es k i) with
  | none => exact absurd ht (List.find?_eq_none.1 hf k hk)
  | some k' =>
    have h1 := List.mem_of_find?_eq_some hf
    have h2 : tchK es k' i = true := by have h3 := List.find?_some hf; exact h3
    have : k = k' := Classical.byContradiction fun hne => by
      obtain ⟨p, hp⟩ := List.getElem_of_mem hk
      obtain ⟨q, hq⟩ := List.getElem_of_mem h1
      obtain ⟨hp1, hp2⟩ := hp
      obtain ⟨hq1, hq2⟩ := hq
      have hpa := List.pairwise_iff_getElem.1 hb.apart
      rcases Nat.lt_trichotomy p q with h3 | h3 | h3
      · have := hpa p q hp1 hq1 h3
        rw [hp2, hq2] at this
        exact this ⟨i, ht, h2⟩
      · subst h3; exact hne (hp2.symm.trans hq2)
      · have := hpa q p hq1 hp1 h3
        rw [hp2, hq2] at this
        exact this ⟨i, h2, ht⟩
    rw [this]
theorem bond_mat (hg : goodE n es) (hb : BondL es l) : Mat (adjE es) n (fun _ => true) (bindK es l) ∧ sizeP (fixB (fun _ => true) (bindK es l)) n + 2 * l.length = n := by
  have hcov : ∀ i, covK es l i = true → ∃ k, k ∈ l ∧ tchK es k i = true ∧ bindK es l i = othK es k i ∧ bindK es l i ≠ i ∧ tchK es k (bindK es l i) = true := fun i hi => by
    obtain ⟨k, hk, ht⟩ := List.any_eq_true.1 hi
    have h1 := bindK_yes hb hk ht
    obtain ⟨h2, h3⟩ := (othK_iff hg (hb.lt k hk) ht).1 h1.symm
    exact ⟨k, hk, ht, h1, h3, h2⟩
  have hfix : ∀ i, fixB (fun _ => true) (bindK es l) i = !covK es l i := fun i => by
    cases hc : covK es l i with
    | false => exact fixB_iff.2 ⟨rfl, bindK_no hc⟩
    | true =>
      obtain ⟨_, _, _, _, h4, _⟩ := hcov i hc
      show _ = false
      rw [Bool.eq_false_iff]
      intro h
      exact h4 (fixB_iff.1 h).2
  refine ⟨⟨fun i hi _ => ⟨?_, rfl⟩, fun i _ _ => ?_, fun i _ _ hne => ?_⟩, ?_⟩
  · cases hc : covK es l i with
    | false => rw [bindK_no hc]; exact hi
    | true =>
      obtain ⟨k, hk, _, _, _, h5⟩ := hcov i hc
      obtain ⟨_, _, h2, h3, _⟩ := ends hg (hb.lt k hk)
      rcases tchK_iff.1 h5 with h | h <;> omega
  · cases hc : covK es l i with
    | false => rw [bindK_no hc, bindK_no hc]
    | true =>
      obtain ⟨k, hk, ht, h3, h4, h5⟩ := hcov i hc
      rw [bindK_yes hb hk h5]
      exact (othK_iff hg (hb.lt k hk) h5).2 ⟨ht, h4.symm⟩
  · cases hc : covK es l i with
    | false => exact absurd (bindK_no hc) hne
    | true =>
      obtain ⟨k, hk, ht, h3, h4, h5⟩ := hcov i hc
      refine (adjE_place hg).2 ⟨k, hb.lt k hk, ?_⟩
      have h6 := tchK_iff.1 ht
      have h7 := tchK_iff.1 h5
      omega
  · have h1 := cov_size hg hb
    have h2 := sizeP_not (covK es l) n
    have h3 : sizeP (fixB (fun _ => true) (bindK es l)) n = sizeP (fun t => !covK es l t) n := sizeP_congr n fun i _ => hfix i
    omega
/-- A matching as a bond. -/
theorem mat_bond (hg : goodE n es) {m : Nat → Nat} (H : Mat (adjE es) n (fun _ => true) m) : ∃ l, BondL es l ∧ sizeP (fixB (fun _ => true) m) n + 2 * l.length = n := by
  have hmem : ∀ k, k ∈ (List.range es.length).filter (fun k => m (eA es k) == eB es k) ↔ k < es.length ∧ m (eA es k) = eB es k := fun k => by
    rw [List.mem_filter, List.mem_range, beq_iff_eq]
  have hends : ∀ k, k < es.length → m (eA es k) = eB es k → ∀ i, tchK es k i = true → m i = othK es k i := fun k hk hm i hi => by
    obtain ⟨_, _, h2, h3, h4, _⟩ := ends hg hk
    unfold othK
    rcases tchK_iff.1 hi with h | h
    · rw [if_pos h, ← h]; exact hm
    · rw [if_neg (by omega), ← h, ← hm]; exact H.inv _ h2 rfl
  have hb : BondL es ((List.range es.length).filter (fun k => m (eA es k) == eB es k)) := by
    refine ⟨fun k hk => ((hmem k).1 hk).1, List.Pairwise.filter _ List.pairwise_lt_range, ?_⟩
    refine List.Pairwise.imp_of_mem (R := (· < ·)) (fun {a b} ha hb hab => ?_) (List.Pairwise.filter _ List.pairwise_lt_range)
    rintro ⟨i, h1, h2⟩
    obtain ⟨a1, a2⟩ := (hmem a).1 ha
    obtain ⟨b1, b2⟩ := (hmem b).1 hb
    have e1 := hends a a1 a2 i h1
    have e2 := hends b b1 b2 i h2
    have e3 := (othK_iff hg a1 h1).1 e1.symm
    have e4 := (othK_iff hg b1 h2).1 e2.symm
    have := place_one hg a1 b1 (by
      have g1 := tchK_iff.1 h1
      have g2 := tchK_iff.1 h2
      have g3 := tchK_iff.1 e3.1
      have g4 := tchK_iff.1 e4.1
      obtain ⟨_, _, _, _, n1, _⟩ := ends hg a1
      obtain ⟨_, _, _, _, n2, _⟩ := ends hg b1
      omega)
    omega
  refine ⟨_, hb, ?_⟩
  have h1 := cov_size hg hb
  have h2 := sizeP_not (covK es ((List.range es.length).filter (fun k => m (eA es k) == eB es k))) n
  have h3 : sizeP (fixB (fun _ => true) m) n = sizeP (fun t => !covK es ((List.range es.length).filter (fun k => m (eA es k) == eB es k)) t) n := sizeP_congr n fun i hi => by
    rw [Bool.eq_iff_iff, fixB_iff]
    simp only [true_and, Bool.not_eq_true', Bool.eq_false_iff]
    constructor
    · intro h hc
      obtain ⟨k, hk, ht⟩ := List.any_eq_true.1 hc
      obtain ⟨k1, k2⟩ := (hmem k).1 hk
      exact ((othK_iff hg k1 ht).1 (hends k k1 k2 i ht).symm).2 h
    · intro hc
      apply Classical.byContradiction
      intro hne
      obtain ⟨k, hk, h4⟩ := (adjE_place hg).1 (H.adj_ i hi rfl hne)
      refine hc (List.any_eq_true.2 ⟨k, (hmem k).2 ⟨hk, ?_⟩, tchK_iff.2 (by omega)⟩)
      rcases h4 with ⟨h5, h6⟩ | ⟨h5, h6⟩
      · rw [h5, h6]
      · rw [h5, h6]; exact H.inv i hi rfl
  omega
end

/-- Is an edge free of the nodes of a word? -/
def freeK (es : List E3) (u k : Nat) : Bool := !u.testBit (eA es k) && !u.testBit (eB es k)
def withK (es : List E3) (u k : Nat) : Nat := u ||| 2 ^ eA es k ||| 2 ^ eB es k
/-- How many edges a bond can have, of r edges from the k-th on, if no node of the word u is met. -/
def bN (es : List E3) : Nat → Nat → Nat → Nat
  | 0, _, _ => 0
  | r + 1, k, u => if freeK es u k = true then max (bN es r (k + 1) u) (1 + bN es r (k + 1) (withK es u k)) else bN es r (k + 1) u
/-- The first of the best bonds. -/
def bndL (es : List E3) : Nat → Nat → Nat → List Nat
  | 0, _, _ => []
  | r + 1, k, u => if freeK es u k = true ∧ 1 + bN es r (k + 1) (withK es u k) = bN es (r + 1) k u then k :: bndL es r (k + 1) (withK es u k) else bndL es r (k + 1) u
/-- None of its edges meets a node of the word. -/
def Avoid (es : List E3) (u : Nat) (l : List Nat) : Prop := ∀ k ∈ l, freeK es u k = true
section
variable {es : List E3} {u k i : Nat} {l : List Nat}
theorem freeK_iff : freeK es u k = true ↔ ∀ i, tchK es k i = true → u.testBit i = false := by
  unfold freeK
  simp only [Bool.and_eq_true, Bool.not_eq_true']
  constructor
  · rintro ⟨h1, h2⟩ i hi
    rcases tchK_iff.1 hi with h | h
    · rw [← h]; exact h1
    · rw [← h]; exact h2
  · intro h
    exact ⟨h _ (tchK_iff.2 (.inl rfl)), h _ (tchK_iff.2 (.inr rfl))⟩
theorem withK_bit : (withK es u k).testBit i = (u.testBit i || tchK es k i) := by
  unfold withK tchK
  rw [Nat.testBit_or, Nat.testBit_or, Nat.testBit_two_pow, Nat.testBit_two_pow, Bool.or_assoc]
  rfl
theorem free_with {k' : Nat} : freeK es (withK es u k) k' = true ↔ freeK es u k' = true ∧ ¬ crsK es k k' := by
  rw [freeK_iff, freeK_iff]
  constructor
  · intro h
    refine ⟨fun i hi => ?_, fun ⟨i, h1, h2⟩ => ?_⟩
    · have := h i hi
      rw [withK_bit] at this
      simp only [Bool.or_eq_false_iff] at this
      exact this.1
    · have := h i h2
      rw [withK_bit, h1] at this
      simp at this
  · rintro ⟨h1, h2⟩ i hi
    rw [withK_bit, h1 i hi, Bool.false_or, Bool.eq_false_iff]
    exact fun h => h2 ⟨i, h, hi⟩
theorem avoid_with : Avoid es (withK es u k) l ↔ Avoid es u l ∧ ∀ k' ∈ l, ¬ crsK es k k' := by
  unfold Avoid
  constructor
  · intro h
    exact ⟨fun x hx => (free_with.1 (h x hx)).1, fun x hx => (free_with.1 (h x hx)).2⟩
  · rintro ⟨h1, h2⟩ x hx
    exact free_with.2 ⟨h1 x hx, h2 x hx⟩
theorem bond_cons : BondL es (k :: l) ↔ k < es.length ∧ BondL es l ∧ (∀ x ∈ l, k < x) ∧ ∀ x ∈ l, ¬ crsK es k x := by
  constructor
  · intro h
    exact ⟨h.lt k (List.mem_cons_self ..), h.tail, (List.pairwise_cons.1 h.rise).1, (List.pairwise_cons.1 h.apart).1⟩
  · rintro ⟨h1, h2, h3, h4⟩
    refine ⟨fun x hx => ?_, List.pairwise_cons.2 ⟨h3, h2.rise⟩, List.pairwise_cons.2 ⟨h4, h2.apart⟩⟩
    rcases List.mem_cons.1 hx with rfl | hx
    · exact h1
    · exact h2.lt x hx
/-- No bond has more. -/
theorem bond_le : ∀ (r k u : Nat) (l : List Nat), k + r = es.length → BondL es l → (∀ x ∈ l, k ≤ x) → Avoid es u l → l.length ≤ bN es r k u
  | 0, k, u, l, hk, hb, hl, _ => by
    cases l with
    | nil => exact Nat.zero_le _
    | cons x l => have h1 := hb.lt x (List.mem_cons_self ..); have h2 := hl x (List.mem_cons_self ..); omega
  | r + 1, k, u, l, hk, hb, hl, ha => by
    have hskip : (∀ x ∈ l, k + 1 ≤ x) → l.length ≤ bN es (r + 1) k u := fun h => by
      have := bond_le r (k + 1) u l (by omega) hb h ha
      unfold bN
      split
      · exact Nat.le_trans this (Nat.le_max_left _ _)
      · exact this
    cases l with
    | nil => exact Nat.zero_le _
    | cons x l =>
      obtain ⟨h1, h2, h3, h4⟩ := bond_cons.1 hb
      rcases Nat.lt_or_ge k x with h5 | h5
      · refine hskip fun y hy => ?_
        rcases List.mem_cons.1 hy with rfl | hy
        · omega
        · have := h3 y hy; omega
      · obtain rfl : x = k := by have := hl x (List.mem_cons_self ..); omega
        have hf := ha x (List.mem_cons_self ..)
        have := bond_le r (x + 1) (withK es u x) l (by omega) h2 (fun y hy => h3 y hy) (avoid_with.2 ⟨fun y hy => ha y (List.mem_cons_of_mem _ hy), h4⟩)
        unfold bN
        rw [if_pos hf, List.length_cons]
        exact Nat.le_trans (by omega) (Nat.le_max_right _ _)
/-- The first of the best is a bond, and has as many. -/
theorem bndL_ok : ∀ (r k u : Nat), k + r = es.length → BondL es (bndL es r k u) ∧ (∀ x ∈ bndL es r k u, k ≤ x) ∧ Avoid es u (bndL es r k u) ∧ (bndL es r k u).length = bN es r k u
  | 0, k, u, _ => ⟨BondL.nil, by simp [bndL], by simp [bndL, Avoid], rfl⟩
  | r + 1, k, u, hk => by
    simp only [bndL]
    by_cases h : freeK es u k = true ∧ 1 + bN es r (k + 1) (withK es u k) = bN es (r + 1) k u
    · rw [if_pos h]
      obtain ⟨h1, h2, h3, h4⟩ := bndL_ok r (k + 1) (withK es u k) (by omega)
      obtain ⟨h5, h6⟩ := avoid_with.1 h3
      refine ⟨bond_cons.2 ⟨by omega, h1, fun x hx => h2 x hx, h6⟩, fun x hx => ?_, fun x hx => ?_, ?_⟩
      · rcases List.mem_cons.1 hx with rfl | hx
        · exact Nat.le_refl _
        · have := h2 x hx; omega
      · rcases List.mem_cons.1 hx with rfl | hx
        · exact h.1
        · exact h5 x hx
      · rw [List.length_cons, h4, ← h.2]; omega
    · rw [if_neg h]
      obtain ⟨h1, h2, h3, h4⟩ := bndL_ok r (k + 1) u (by omega)
      refine ⟨h1, fun x hx => by have := h2 x hx; omega, h3, ?_⟩
      rw [h4]
      by_cases hf : freeK es u k = true
      · have e : bN es (r + 1) k u = max (bN es r (k + 1) u) (1 + bN es r (k + 1) (withK es u k)) := by
          show (if freeK es u k = true then _ else _) = _
          rw [if_pos hf]
        have hne : ¬ 1 + bN es r (k + 1) (withK es u k) = bN es (r + 1) k u := fun hh => h ⟨hf, hh⟩
        omega
      · show _ = (if freeK es u k = true then _ else _)
        rw [if_neg hf]
/-- Of all the best ones it is the first: where another one first differs, it has a greater place. -/
theorem bndL_first : ∀ (r k u : Nat) (l : List Nat), k + r = es.length → BondL es l → (∀ x ∈ l, k ≤ x) → Avoid es u l → l.length = bN es r k u →
    l = bndL es r k u ∨ ∃ (p : List Nat) (x y : Nat) (s t : List Nat), bndL es r k u = p ++ x :: s ∧ l = p ++ y :: t ∧ x < y
  | 0, k, u, l, _, _, _, _, hl => by
    have : l = [] := List.length_eq_zero_iff.1 hl
    exact .inl this
  | r + 1, k, u, l, hk, hb, hl, ha, hn => by
    by_cases h : freeK es u k = true ∧ 1 + bN es r (k + 1) (withK es u k) = bN es (r + 1) k u
    · have e : bndL es (r + 1) k u = k :: bndL es r (k + 1) (withK es u k) := if_pos h
      rw [e]
      cases l with
      | nil => rw [← h.2] at hn; simp at hn; omega
      | cons y t =>
        obtain ⟨h1, h2, h3, h4⟩ := bond_cons.1 hb
        rcases Nat.lt_or_ge k y with h5 | h5
        · exact .inr ⟨[], k, y, _, t, rfl, rfl, h5⟩
        · obtain rfl : y = k := by have := hl y (List.mem_cons_self ..); omega
          rcases bndL_first r (y + 1) (withK es u y) t (by omega) h2 (fun x hx => h3 x hx) (avoid_with.2 ⟨fun x hx => ha x (List.mem_cons_of_mem _ hx), h4⟩) (by rw [← h.2, List.length_cons] at hn; omega) with h6 | ⟨p, x, z, s, q, h6, h7, h8⟩
          · exact .inl (by rw [← h6])
          · exact .inr ⟨y :: p, x, z, s, q, by rw [h6]; rfl, by rw [h7]; rfl, h8⟩
    · have e : bndL es (r + 1) k u = bndL es r (k + 1) u := if_neg h
      rw [e]
      have hno : ∀ x ∈ l, k + 1 ≤ x := fun x hx => by
        have hx1 := hl x hx
        rcases Nat.lt_or_ge k x with h5 | h5
        · exact h5
        · exfalso
          obtain rfl : x = k := by omega
          cases l with
          | nil => cases hx
          | cons y t =>
            obtain ⟨h1, h2, h3, h4⟩ := bond_cons.1 hb
            have hy : y = x := by
              rcases List.mem_cons.1 hx with rfl | hx2
              · rfl
              · have := h3 x hx2; have := hl y (List.mem_cons_self ..); omega
            subst hy
            have hf := ha y (List.mem_cons_self ..)
            have hle := bond_le r (y + 1) (withK es u y) t (by omega) h2 (fun x hx => h3 x hx) (avoid_with.2 ⟨fun x hx => ha x (List.mem_cons_of_mem _ hx), h4⟩)
            have hge : 1 + bN es r (y + 1) (withK es u y) ≤ bN es (r + 1) y u := by
              show _ ≤ (if freeK es u y = true then _ else _)
              rw [if_pos hf]; exact Nat.le_max_right _ _
            rw [List.length_cons] at hn
            exact h ⟨hf, by omega⟩
      have hb2 : bN es r (k + 1) u = bN es (r + 1) k u := by
        have h1 := bond_le r (k + 1) u l (by omega) hb hno ha
        have h2 : bN es r (k + 1) u ≤ bN es (r + 1) k u := by
          show _ ≤ (if freeK es u k = true then _ else _)
          split
          · exact Nat.le_max_left _ _
          · exact Nat.le_refl _
        omega
      exact bndL_first r (k + 1) u l (by omega) hb hno ha (by rw [hb2]; exact hn)
/-- The first of the best, where the best is told over all edges each time. -/
def gndL (es : List E3) : Nat → Nat → Nat → List Nat
  | 0, _, _ => []
  | r + 1, k, u => if freeK es u k = true ∧ 1 + bN es es.length 0 (withK es u k) = bN es es.length 0 u then k :: gndL es r (k + 1) (withK es u k) else gndL es r (k + 1) u
theorem insert_bond : ∀ {l : List Nat}, BondL es l → k < es.length → (∀ x ∈ l, ¬ crsK es k x) → k ∉ l → ∃ l', BondL es l' ∧ l'.Perm (k :: l)
  | [], _, hk, _, _ => ⟨[k], bond_cons.2 ⟨hk, BondL.nil, by simp, by simp⟩, List.Perm.refl _⟩
  | y :: l, hb, hk, hc, hn => by
    obtain ⟨h1, h2, h3, h4⟩ := bond_cons.1 hb
    rcases Nat.lt_trichotomy k y with h5 | h5 | h5
    · refine ⟨k :: y :: l, bond_cons.2 ⟨hk, hb, fun x hx => ?_, hc⟩, List.Perm.refl _⟩
      rcases List.mem_cons.1 hx with rfl | hx
      · exact h5
      · have := h3 x hx; omega
    · exact absurd (h5 ▸ List.mem_cons_self ..) hn
    · obtain ⟨l', g1, g2⟩ := insert_bond h2 hk (fun x hx => hc x (List.mem_cons_of_mem _ hx)) fun h => hn (List.mem_cons_of_mem _ h)
      refine ⟨y :: l', bond_cons.2 ⟨h1, g1, fun x hx => ?_, fun x hx => ?_⟩, (List.Perm.cons y g2).trans (List.Perm.swap k y l)⟩
      · rcases List.mem_cons.1 (g2.mem_iff.1 hx) with rfl | hx
        · exact h5
        · exact h3 x hx
      · rcases List.mem_cons.1 (g2.mem_iff.1 hx) with rfl | hx
        · rintro ⟨i, a1, a2⟩
          exact hc y (List.mem_cons_self ..) ⟨i, a2, a1⟩
        · exact h4 x hx
/-- No best bond has a place ahead of k. -/
def NoLess (es : List E3) (k u : Nat) : Prop := ∀ l, BondL es l → Avoid es u l → l.length = bN es es.length 0 u → ∀ x ∈ l, k ≤ x
theorem bN_all {r : Nat} (hk : k + r = es.length) (H : NoLess es k u) : bN es r k u = bN es es.length 0 u := by
  obtain ⟨h1, _, h3, h4⟩ := bndL_ok (es := es) es.length 0 u (by omega)
  obtain ⟨g1, _, g3, g4⟩ := bndL_ok (es := es) r k u hk
  have e1 := bond_le r k u _ hk h1 (H _ h1 h3 h4) h3
  have e2 := bond_le es.length 0 u _ (by omega) g1 (fun _ _ => Nat.zero_le _) g3
  omega
theorem gndL_eq : ∀ (r k u : Nat), k + r = es.length → NoLess es k u → gndL es r k u = bndL es r k u
  | 0, _, _, _, _ => rfl
  | r + 1, k, u, hk, H => by
    have hall := bN_all hk H
    by_cases hf : freeK es u k = true
    · have hself : crsK es k k := ⟨eA es k, tchK_iff.2 (.inl rfl), tchK_iff.2 (.inl rfl)⟩
      -- a bond that avoids both, with k put to it
      have hput : ∀ l, BondL es l → Avoid es (withK es u k) l → ∃ l', BondL es l' ∧ l'.Perm (k :: l) ∧ Avoid es u l' := fun l hb ha => by
        obtain ⟨a1, a2⟩ := avoid_with.1 ha
        obtain ⟨l', g1, g2⟩ := insert_bond hb (show k < es.length by omega) a2 fun hm => a2 k hm hself
        refine ⟨l', g1, g2, fun x hx => ?_⟩
        rcases List.mem_cons.1 (g2.mem_iff.1 hx) with rfl | hx
        · exact hf
        · exact a1 x hx
      obtain ⟨b1, _, b3, b4⟩ := bndL_ok (es := es) es.length 0 (withK es u k) (by omega)
      obtain ⟨l', p1, p2, p3⟩ := hput _ b1 b3
      have hle := bond_le es.length 0 u l' (by omega) p1 (fun _ _ => Nat.zero_le _) p3
      rw [p2.length_eq, List.length_cons, b4] at hle
      have hsub : bN es r (k + 1) (withK es u k) ≤ bN es es.length 0 (withK es u k) := by
        obtain ⟨g1, _, g3, g4⟩ := bndL_ok (es := es) r (k + 1) (withK es u k) (by omega)
        rw [← g4]
        exact bond_le es.length 0 _ _ (by omega) g1 (fun _ _ => Nat.zero_le _) g3
      by_cases ht : 1 + bN es es.length 0 (withK es u k) = bN es es.length 0 u
      · have hno : NoLess es (k + 1) (withK es u k) := fun l hb ha hl x hx => by
          obtain ⟨l2, q1, q2, q3⟩ := hput l hb ha
          have := H l2 q1 q3 (by rw [q2.length_eq, List.length_cons, hl]; omega) x (q2.mem_iff.2 (List.mem_cons_of_mem _ hx))
          have hne : x ≠ k := fun e => (avoid_with.1 ha).2 x hx (e ▸ hself)
          omega
        have e1 := bN_all (r := r) (by omega) hno
        have g1 : gndL es (r + 1) k u = k :: gndL es r (k + 1) (withK es u k) := if_pos ⟨hf, ht⟩
        have g2 : bndL es (r + 1) k u = k :: bndL es r (k + 1) (withK es u k) := if_pos ⟨hf, by rw [e1, hall]; exact ht⟩
        rw [g1, g2, gndL_eq r (k + 1) _ (by omega) hno]
      · have hno : NoLess es (k + 1) u := fun l hb ha hl x hx => by
          have h1 := H l hb ha hl x hx
          rcases Nat.lt_or_ge k x with h2 | h2
          · exact h2
          · exfalso
            obtain rfl : x = k := by omega
            cases l with
            | nil => cases hx
            | cons y t =>
              obtain ⟨c1, c2, c3, c4⟩ := bond_cons.1 hb
              have hy : y = x := by
                rcases List.mem_cons.1 hx with rfl | hx2
                · rfl
                · have := c3 x hx2; have := H _ hb ha hl y (List.mem_cons_self ..); omega
              subst hy
              have := bond_le es.length 0 (withK es u y) t (by omega) c2 (fun _ _ => Nat.zero_le _) (avoid_with.2 ⟨fun x hx => ha x (List.mem_cons_of_mem _ hx), c4⟩)
              rw [List.length_cons] at hl
              omega
        have g1 : gndL es (r + 1) k u = gndL es r (k + 1) u := if_neg fun h => ht h.2
        have g2 : bndL es (r + 1) k u = bndL es r (k + 1) u := if_neg fun h => by
          have := h.2
          rw [hall] at this
          omega
        rw [g1, g2, gndL_eq r (k + 1) u (by omega) hno]
    · have hno : NoLess es (k + 1) u := fun l hb ha hl x hx => by
        have h1 := H l hb ha hl x hx
        rcases Nat.lt_or_ge k x with h2 | h2
        · exact h2
        · obtain rfl : x = k := by omega
          exact absurd (ha x hx) hf
      have g1 : gndL es (r + 1) k u = gndL es r (k + 1) u := if_neg fun h => hf h.1
      have g2 : bndL es (r + 1) k u = bndL es r (k + 1) u := if_neg fun h => hf h.1
      rw [g1, g2, gndL_eq r (k + 1) u (by omega) hno]
theorem gndL_all (es : List E3) : gndL es es.length 0 0 = bndL es es.length 0 0 := gndL_eq _ _ _ (by omega) fun _ _ _ _ _ _ => Nat.zero_le _
end
/-- The best bond leaves over the least. -/
theorem bond_least {n : Nat} {es : List E3} (hg : goodE n es) : ∃ m, Least (adjE es) n (fun _ => true) m ∧ sizeP (fixB (fun _ => true) m) n + 2 * bN es es.length 0 0 = n := by
  obtain ⟨m, hm⟩ := least_ex (adj := adjE es) (n := n) (S := fun _ => true)
  refine ⟨m, hm, ?_⟩
  obtain ⟨l, h1, h2⟩ := mat_bond hg hm.1
  obtain ⟨g1, g2, g3, g4⟩ := bndL_ok (es := es) es.length 0 0 (by omega)
  obtain ⟨k1, k2⟩ := bond_mat hg g1
  have := hm.2 _ k1
  have := bond_le es.length 0 0 l (by omega) h1 (fun _ _ => Nat.zero_le _) fun k _ => by simp [freeK]
  omega
end Go.Proofs.YthfgbgmkiggjmacDoor
