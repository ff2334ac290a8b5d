/- GALE, SHAPLEY; KNUTH; ROTH; CONWAY: pairings that hold: who is asked and says no; the one that is best for the left is the worst for the right; who is left over in one is so in all; the better ones of two are one. Plain facts, of no program. -/
import Derived.Test.YtmelgnfhocofiaaTutteP
namespace Go.Proofs.Ytmelgnfhocofiaa

/-- How far ahead one stands in a list. -/
def ahd : List Int → Int → Nat
  | [], _ => 0
  | y :: l, x => if y = x then 0 else ahd l x + 1
theorem ahd_le : ∀ (l : List Int) (x : Int), ahd l x ≤ l.length
  | [], _ => Nat.le_refl _
  | y :: l, x => by
    have := ahd_le l x
    unfold ahd
    rw [List.length_cons]
    split <;> omega
theorem ahd_lt {x : Int} : ∀ {l : List Int}, ahd l x < l.length ↔ x ∈ l
  | [] => by simp
  | y :: l => by
    have ih := @ahd_lt x l
    unfold ahd
    rw [List.length_cons, List.mem_cons]
    by_cases h : y = x
    · rw [if_pos h]; exact ⟨fun _ => .inl h.symm, fun _ => by omega⟩
    · rw [if_neg h]
      constructor
      · intro h1; exact .inr (ih.1 (by omega))
      · rintro (h1 | h1)
        · exact absurd h1.symm h
        · have := ih.2 h1; omega
theorem ahd_not {x : Int} {l : List Int} (h : x ∉ l) : ahd l x = l.length := by
  have := ahd_le l x
  have h2 : ¬ ahd l x < l.length := fun h3 => h (ahd_lt.1 h3)
  omega
theorem ahd_get {x : Int} : ∀ {l : List Int}, x ∈ l → l[ahd l x]? = some x
  | [], h => by cases h
  | y :: l, h => by
    unfold ahd
    by_cases e : y = x
    · rw [if_pos e, e]; rfl
    · rw [if_neg e, List.getElem?_cons_succ]
      exact ahd_get ((List.mem_cons.1 h).resolve_left fun h => e h.symm)
theorem ahd_inj {x y : Int} {l : List Int} (hx : x ∈ l) (h : ahd l x = ahd l y) : x = y := by
  have hy : y ∈ l := ahd_lt.1 (by rw [← h]; exact ahd_lt.2 hx)
  have h1 := ahd_get hx
  have h2 := ahd_get hy
  rw [h, h2] at h1
  injection h1 with h1
  exact h1.symm
theorem ahd_at {x : Int} : ∀ {l : List Int} {k : Nat}, l.Nodup → l[k]? = some x → ahd l x = k
  | [], k, _, h => by simp at h
  | y :: l, 0, _, h => by
    simp only [List.getElem?_cons_zero, Option.some.injEq] at h
    unfold ahd; rw [if_pos h]
  | y :: l, k + 1, hn, h => by
    rw [List.getElem?_cons_succ] at h
    have hm := List.mem_of_getElem? h
    have : y ≠ x := fun e => (List.nodup_cons.1 hn).1 (e ▸ hm)
    unfold ahd
    rw [if_neg this, ahd_at (List.nodup_cons.1 hn).2 h]

/-- Wishes without fault. -/
structure WishOK (n : Nat) (L R : Nat → List Int) : Prop where
  left : ∀ i, i < n → (L i).Nodup ∧ ∀ x ∈ L i, 0 ≤ x ∧ x < (n : Int)
  right : ∀ j, j < n → (R j).Nodup ∧ ∀ x ∈ R j, 0 ≤ x ∧ x < (n : Int)
/-- Who on the left has one on the right. -/
def owP (l : List Int) (j : Int) : Int := if j ∈ l then (ahd l j : Int) else -1
/-- A pairing: numbers or -1, nobody on the right twice. -/
structure PairOK (n : Nat) (l : List Int) : Prop where
  len : l.length = n
  rng : ∀ i, i < n → l.getD i (-1) = -1 ∨ (0 ≤ l.getD i (-1) ∧ l.getD i (-1) < (n : Int))
  one : ∀ i k, i < n → k < n → 0 ≤ l.getD i (-1) → l.getD i (-1) = l.getD k (-1) → i = k
/-- A pairing that holds. -/
structure HoldP (n : Nat) (L R : Nat → List Int) (l : List Int) : Prop where
  pair : PairOK n l
  may : ∀ i, i < n → 0 ≤ l.getD i (-1) → l.getD i (-1) ∈ L i ∧ (i : Int) ∈ R (l.getD i (-1)).toNat
  hold : ∀ i j : Nat, i < n → j < n → ahd (L i) (j : Int) < ahd (L i) (l.getD i (-1)) → ¬ ahd (R j) (i : Int) < ahd (R j) (owP l (j : Int))
section
variable {n : Nat} {L R : Nat → List Int} {l m : List Int} {i j k : Nat}
theorem getD_mem (hl : l.length = n) (hi : i < n) : l.getD i (-1) ∈ l := by
  rw [List.getD_eq_getElem?_getD, List.getElem?_eq_getElem (by omega)]
  exact List.getElem_mem _
theorem ow_at (H : PairOK n l) (hi : i < n) (h : l.getD i (-1) = (j : Int)) : owP l (j : Int) = (i : Int) := by
  have hm : (j : Int) ∈ l := h ▸ getD_mem H.len hi
  unfold owP
  rw [if_pos hm]
  have h1 := ahd_get hm
  have hl := (List.getElem?_eq_some_iff.1 h1).1
  have h2 : l.getD (ahd l (j : Int)) (-1) = (j : Int) := by rw [List.getD_eq_getElem?_getD, h1]; rfl
  have := H.one i _ hi (by rw [← H.len]; exact hl) (by omega) (h.trans h2.symm)
  omega
theorem ow_cases (H : PairOK n l) (j : Nat) : (owP l (j : Int) = -1 ∧ ∀ i, i < n → l.getD i (-1) ≠ (j : Int)) ∨ ∃ i : Nat, i < n ∧ owP l (j : Int) = (i : Int) ∧ l.getD i (-1) = (j : Int) := by
  by_cases hm : (j : Int) ∈ l
  · have h1 := ahd_get hm
    have hl := (List.getElem?_eq_some_iff.1 h1).1
    refine .inr ⟨ahd l (j : Int), by rw [← H.len]; exact hl, by unfold owP; rw [if_pos hm], by rw [List.getD_eq_getElem?_getD, h1]; rfl⟩
  · exact .inl ⟨by unfold owP; rw [if_neg hm], fun i hi e => hm (e ▸ getD_mem H.len hi)⟩
theorem ahd_none (W : WishOK n L R) (hi : i < n) : ahd (L i) (-1) = (L i).length := ahd_not fun h => by have := ((W.left i hi).2 _ h).1; omega
theorem ahd_none' (W : WishOK n L R) (hj : j < n) : ahd (R j) (-1) = (R j).length := ahd_not fun h => by have := ((W.right j hj).2 _ h).1; omega
/-- Two on the left who hold one each by the better one of two pairings that hold don't hold the same. -/
theorem better_one (HL : HoldP n L R l) (HM : HoldP n L R m) (hi : i < n) (hk : k < n) (hik : i ≠ k) {j : Nat} (h1 : l.getD i (-1) = (j : Int)) (h2 : m.getD k (-1) = (j : Int)) (b1 : ahd (L i) (j : Int) ≤ ahd (L i) (m.getD i (-1))) (b2 : ahd (L k) (j : Int) ≤ ahd (L k) (l.getD k (-1))) : False := by
  have hj : j < n := by rcases HL.pair.rng i hi with h | h <;> omega
  obtain ⟨a1, a2⟩ := HL.may i hi (by omega)
  obtain ⟨c1, c2⟩ := HM.may k hk (by omega)
  rw [h1] at a1 a2
  rw [h2] at c1 c2
  rw [Int.toNat_natCast] at a2 c2
  have s1 : ahd (L i) (j : Int) < ahd (L i) (m.getD i (-1)) := by
    rcases Nat.lt_or_ge (ahd (L i) (j : Int)) (ahd (L i) (m.getD i (-1))) with h | h
    · exact h
    · have := ahd_inj a1 (show ahd (L i) (j : Int) = ahd (L i) (m.getD i (-1)) by omega)
      exact absurd (HM.pair.one i k hi hk (by omega) (by omega)) hik
  have s2 : ahd (L k) (j : Int) < ahd (L k) (l.getD k (-1)) := by
    rcases Nat.lt_or_ge (ahd (L k) (j : Int)) (ahd (L k) (l.getD k (-1))) with h | h
    · exact h
    · have := ahd_inj c1 (show ahd (L k) (j : Int) = ahd (L k) (l.getD k (-1)) by omega)
      exact absurd (HL.pair.one i k hi hk (by omega) (by omega)) hik
  have q1 := HM.hold i j hi hj s1
  have q2 := HL.hold k j hk hj s2
  rw [ow_at HM.pair hk h2] at q1
  rw [ow_at HL.pair hi h1] at q2
  have := ahd_inj a2 (show ahd (R j) (i : Int) = ahd (R j) (k : Int) by omega)
  omega
/-- Best for the left of all that hold. -/
def BestL (n : Nat) (L R : Nat → List Int) (l : List Int) : Prop := HoldP n L R l ∧ ∀ m, HoldP n L R m → ∀ i, i < n → ahd (L i) (l.getD i (-1)) ≤ ahd (L i) (m.getD i (-1))
/-- KNUTH: the best for the left is the worst for the right. -/
theorem worst_right (W : WishOK n L R) (HB : BestL n L R l) (HM : HoldP n L R m) (hj : j < n) : ahd (R j) (owP m (j : Int)) ≤ ahd (R j) (owP l (j : Int)) := by
  apply Nat.le_of_not_lt
  intro hlt
  rcases ow_cases HB.1.pair j with ⟨h1, _⟩ | ⟨i, hi, h1, h2⟩
  · rw [h1, ahd_none' W hj] at hlt
    have := ahd_le (R j) (owP m (j : Int))
    omega
  · rw [h1] at hlt
    have hb := HB.2 m HM i hi
    rw [h2] at hb
    obtain ⟨a1, a2⟩ := HB.1.may i hi (by omega)
    rw [h2] at a1
    have hs : ahd (L i) (j : Int) < ahd (L i) (m.getD i (-1)) := by
      rcases Nat.lt_or_ge (ahd (L i) (j : Int)) (ahd (L i) (m.getD i (-1))) with h | h
      · exact h
      · have := ahd_inj a1 (show ahd (L i) (j : Int) = ahd (L i) (m.getD i (-1)) by omega)
        rw [ow_at HM.pair hi this.symm] at hlt
        omega
    exact HM.hold i j hi hj hs hlt
/-- Has one somebody? -/
def hasL (l : List Int) (i : Nat) : Bool := decide (0 ≤ l.getD i (-1))
def hasR (l : List Int) (j : Nat) : Bool := decide (0 ≤ owP l (j : Int))
theorem has_size (H : PairOK n l) : sizeP (hasL l) n = sizeP (hasR l) n := by
  apply Nat.le_antisymm
  · refine sizeP_inj _ (m := fun i => (l.getD i (-1)).toNat) rfl (fun i hi h => ?_) fun i k hi hk h1 h2 e => ?_
    · have h0 : 0 ≤ l.getD i (-1) := by simpa [hasL] using h
      have hr := H.rng i hi
      obtain ⟨j, hj⟩ := Int.eq_ofNat_of_zero_le h0
      have := ow_at H hi hj
      refine ⟨by show (l.getD i (-1)).toNat < n; omega, ?_⟩
      show hasR l (l.getD i (-1)).toNat = true
      rw [hj, Int.toNat_natCast]
      simp [hasR]; omega
    · have h0 : 0 ≤ l.getD i (-1) := by simpa [hasL] using h1
      have h0' : 0 ≤ l.getD k (-1) := by simpa [hasL] using h2
      have e : (l.getD i (-1)).toNat = (l.getD k (-1)).toNat := e
      exact H.one i k hi hk h0 (by omega)
  · refine sizeP_inj _ (m := fun j => (owP l (j : Int)).toNat) rfl (fun j hj h => ?_) fun j k hj hk h1 h2 e => ?_
    · rcases ow_cases H j with ⟨h1, _⟩ | ⟨i, hi, h1, h2⟩
      · simp [hasR, h1] at h
      · show (owP l (j : Int)).toNat < n ∧ hasL l (owP l (j : Int)).toNat = true
        rw [h1, Int.toNat_natCast]
        exact ⟨hi, by simp only [hasL, decide_eq_true_eq]; omega⟩
    · have e : (owP l (j : Int)).toNat = (owP l (k : Int)).toNat := e
      rcases ow_cases H j with ⟨g1, _⟩ | ⟨i, hi, g1, g2⟩
      · simp [hasR, g1] at h1
      · rcases ow_cases H k with ⟨q1, _⟩ | ⟨i', hi', q1, q2⟩
        · simp [hasR, q1] at h2
        · rw [g1, q1, Int.toNat_natCast, Int.toNat_natCast] at e
          subst e
          omega
theorem has_left (W : WishOK n L R) (H : HoldP n L R l) (hi : i < n) : hasL l i = true ↔ ahd (L i) (l.getD i (-1)) < (L i).length := by
  simp only [hasL, decide_eq_true_eq]
  constructor
  · intro h; exact ahd_lt.2 (H.may i hi h).1
  · intro h
    rcases H.pair.rng i hi with h1 | h1
    · rw [h1, ahd_none W hi] at h; omega
    · exact h1.1
theorem has_right (W : WishOK n L R) (H : HoldP n L R l) (hj : j < n) : hasR l j = true ↔ ahd (R j) (owP l (j : Int)) < (R j).length := by
  simp only [hasR, decide_eq_true_eq]
  rcases ow_cases H.pair j with ⟨h1, _⟩ | ⟨i, hi, h1, h2⟩
  · rw [h1, ahd_none' W hj]; omega
  · have := (H.may i hi (by omega)).2
    rw [h2, Int.toNat_natCast] at this
    rw [h1]
    exact ⟨fun _ => ahd_lt.2 this, fun _ => by omega⟩
theorem same_of_size {A B : Nat → Bool} (h : ∀ i, i < n → A i = true → B i = true) (hs : sizeP B n ≤ sizeP A n) : ∀ i, i < n → A i = B i := fun i hi => by
  cases ha : A i with
  | true => exact (h i hi ha).symm
  | false =>
    cases hb : B i with
    | false => rfl
    | true =>
      exfalso
      have h1 := sizeP_del hb hi
      have h2 : sizeP A n ≤ sizeP (delB B i) n := sizeP_sub fun x hx hA => delB_iff.2 ⟨h x hx hA, fun e => by rw [e, ha] at hA; cases hA⟩
      omega
/-- ROTH: whoever is left over in one that holds is so in all. -/
theorem rural_best (W : WishOK n L R) (HB : BestL n L R l) (HM : HoldP n L R m) : (∀ i, i < n → hasL m i = hasL l i) ∧ ∀ j, j < n → hasR l j = hasR m j := by
  have h1 : ∀ i, i < n → hasL m i = true → hasL l i = true := fun i hi h => (has_left W HB.1 hi).2 (by
    have := (has_left W HM hi).1 h
    have := HB.2 m HM i hi
    omega)
  have h2 : ∀ j, j < n → hasR l j = true → hasR m j = true := fun j hj h => (has_right W HM hj).2 (by
    have := (has_right W HB.1 hj).1 h
    have := worst_right W HB HM hj
    omega)
  have s1 := sizeP_sub h1
  have s2 := sizeP_sub h2
  have e1 := has_size HB.1.pair
  have e2 := has_size HM.pair
  exact ⟨same_of_size h1 (by omega), same_of_size h2 (by omega)⟩

/-- The better one of both, for each on the left. -/
def betP (L : Nat → List Int) (n : Nat) (l m : List Int) : List Int := (List.range n).map fun i => if ahd (L i) (m.getD i (-1)) < ahd (L i) (l.getD i (-1)) then m.getD i (-1) else l.getD i (-1)
theorem betP_get (hi : i < n) : (betP L n l m).getD i (-1) = if ahd (L i) (m.getD i (-1)) < ahd (L i) (l.getD i (-1)) then m.getD i (-1) else l.getD i (-1) := by
  unfold betP
  rw [List.getD_eq_getElem?_getD, List.getElem?_map, List.getElem?_range hi]; rfl
theorem betP_cases (hi : i < n) : ((betP L n l m).getD i (-1) = l.getD i (-1) ∧ ahd (L i) (l.getD i (-1)) ≤ ahd (L i) (m.getD i (-1))) ∨ ((betP L n l m).getD i (-1) = m.getD i (-1) ∧ ahd (L i) (m.getD i (-1)) ≤ ahd (L i) (l.getD i (-1))) := by
  rw [betP_get hi]
  split
  · exact .inr ⟨rfl, by omega⟩
  · exact .inl ⟨rfl, by omega⟩
/-- CONWAY, KNUTH: it is a pairing that holds. -/
theorem lattice (W : WishOK n L R) {l0 : List Int} (HB : BestL n L R l0) (HL : HoldP n L R l) (HM : HoldP n L R m) : HoldP n L R (betP L n l m) := by
  have hlen : (betP L n l m).length = n := by simp [betP]
  have hone : ∀ i k, i < n → k < n → 0 ≤ (betP L n l m).getD i (-1) → (betP L n l m).getD i (-1) = (betP L n l m).getD k (-1) → i = k := fun i k hi hk h0 he => by
    apply Classical.byContradiction
    intro hik
    obtain ⟨j, hj⟩ := Int.eq_ofNat_of_zero_le h0
    rcases betP_cases (L := L) (l := l) (m := m) hi with ⟨a1, a2⟩ | ⟨a1, a2⟩ <;> rcases betP_cases (L := L) (l := l) (m := m) hk with ⟨b1, b2⟩ | ⟨b1, b2⟩
    · exact hik (HL.pair.one i k hi hk (by omega) (by omega))
    · have e1 : l.getD i (-1) = (j : Int) := by omega
      have e2 : m.getD k (-1) = (j : Int) := by omega
      rw [e1] at a2; rw [e2] at b2
      exact better_one HL HM hi hk hik e1 e2 a2 b2
    · have e1 : m.getD i (-1) = (j : Int) := by omega
      have e2 : l.getD k (-1) = (j : Int) := by omega
      rw [e1] at a2; rw [e2] at b2
      exact better_one HL HM hk hi (Ne.symm hik) e2 e1 b2 a2
    · exact hik (HM.pair.one i k hi hk (by omega) (by omega))
  have hP : PairOK n (betP L n l m) := ⟨hlen, fun i hi => by
    rcases betP_cases (L := L) (l := l) (m := m) hi with ⟨a1, _⟩ | ⟨a1, _⟩
    · rw [a1]; exact HL.pair.rng i hi
    · rw [a1]; exact HM.pair.rng i hi, hone⟩
  have hsame : ∀ i, i < n → hasL (betP L n l m) i = hasL l i := fun i hi => by
    have h1 := (rural_best W HB HL).1 i hi
    have h2 := (rural_best W HB HM).1 i hi
    rcases betP_cases (L := L) (l := l) (m := m) hi with ⟨a1, _⟩ | ⟨a1, _⟩
    · unfold hasL; rw [a1]
    · have : hasL (betP L n l m) i = hasL m i := by unfold hasL; rw [a1]
      rw [this, h2, h1]
  have hright : ∀ j, j < n → hasR (betP L n l m) j = hasR l j := by
    refine same_of_size (fun j hj h => ?_) ?_
    · rcases ow_cases hP j with ⟨h1, _⟩ | ⟨i, hi, h1, h2⟩
      · simp [hasR, h1] at h
      · rcases betP_cases (L := L) (l := l) (m := m) hi with ⟨a1, _⟩ | ⟨a1, _⟩
        · have := ow_at HL.pair hi (a1.symm.trans h2)
          simp [hasR, this]
        · have h3 := ow_at HM.pair hi (a1.symm.trans h2)
          have h4 : hasR m j = true := by simp [hasR, h3]
          have e1 := (rural_best W HB HL).2 j hj
          have e2 := (rural_best W HB HM).2 j hj
          rw [← e1, e2]; exact h4
    · rw [← has_size HL.pair, ← has_size hP, sizeP_congr n hsame]
      exact Nat.le_refl _
  refine ⟨hP, fun i hi h0 => ?_, fun i j hi hj hs hr => ?_⟩
  · rcases betP_cases (L := L) (l := l) (m := m) hi with ⟨a1, _⟩ | ⟨a1, _⟩
    · rw [a1] at h0 ⊢; exact HL.may i hi h0
    · rw [a1] at h0 ⊢; exact HM.may i hi h0
  · have s1 : ahd (L i) (j : Int) < ahd (L i) (l.getD i (-1)) := by
      rcases betP_cases (L := L) (l := l) (m := m) hi with ⟨a1, a2⟩ | ⟨a1, a2⟩ <;> rw [a1] at hs <;> omega
    have s2 : ahd (L i) (j : Int) < ahd (L i) (m.getD i (-1)) := by
      rcases betP_cases (L := L) (l := l) (m := m) hi with ⟨a1, a2⟩ | ⟨a1, a2⟩ <;> rw [a1] at hs <;> omega
    have q1 := HL.hold i j hi hj s1
    have q2 := HM.hold i j hi hj s2
    have hle := ahd_le (R j) (owP (betP L n l m) (j : Int))
    have g1 : hasR l j = true := (has_right W HL hj).2 (by omega)
    have g2 : hasR (betP L n l m) j = true := (hright j hj).trans g1
    rcases ow_cases hP j with ⟨h1, _⟩ | ⟨k, hk, h1, h2⟩
    · simp [hasR, h1] at g2
    · rw [h1] at hr
      rcases betP_cases (L := L) (l := l) (m := m) hk with ⟨a1, _⟩ | ⟨a1, _⟩
      · rw [ow_at HL.pair hk (a1.symm.trans h2)] at q1; omega
      · rw [ow_at HM.pair hk (a1.symm.trans h2)] at q2; omega
end

/-- Who is asked, and says no: nx: by how many of its list each on the left was refused; ow: whom each on the right holds. -/
structure AskP (n : Nat) (L R : Nat → List Int) (nx : Nat → Nat) (ow : Nat → Int) : Prop where
  le : ∀ i, i < n → nx i ≤ (L i).length
  rng : ∀ j, j < n → ow j = -1 ∨ (0 ≤ ow j ∧ ow j < (n : Int))
  held : ∀ i j : Nat, i < n → j < n → ow j = (i : Int) → (L i)[nx i]? = some (j : Int) ∧ (i : Int) ∈ R j
  said : ∀ i k : Nat, i < n → k < nx i → ∀ j : Nat, (L i)[k]? = some (j : Int) → (i : Int) ∉ R j ∨ ahd (R j) (ow j) < ahd (R j) (i : Int)
  never : ∀ i k : Nat, i < n → k < nx i → ∀ m, HoldP n L R m → some (m.getD i (-1)) ≠ (L i)[k]?
def updNx (f : Nat → Nat) (i : Nat) : Nat → Nat := fun x => if x = i then f x + 1 else f x
def updOw (f : Nat → Int) (j : Nat) (v : Int) : Nat → Int := fun x => if x = j then v else f x
section
variable {n : Nat} {L R : Nat → List Int} {nx : Nat → Nat} {ow : Nat → Int} {i j : Nat}
theorem AskP.start : AskP n L R (fun _ => 0) (fun _ => -1) :=
  ⟨fun _ _ => Nat.zero_le _, fun _ _ => .inl rfl, fun i j _ _ h => by omega, fun i k _ h => by omega, fun i k _ h => by omega⟩
/-- One is refused: it is no wish of who was asked, or that one holds a better one. -/
theorem AskP.refuse (W : WishOK n L R) (H : AskP n L R nx ow) (hi : i < n) (hj : j < n) (hg : (L i)[nx i]? = some (j : Int)) (hfree : ∀ j', j' < n → ow j' ≠ (i : Int))
    (hno : (i : Int) ∉ R j ∨ ahd (R j) (ow j) < ahd (R j) (i : Int)) : AskP n L R (updNx nx i) ow := by
  have hlt := (List.getElem?_eq_some_iff.1 hg).1
  refine ⟨fun x hx => ?_, H.rng, fun x y hx hy h => ?_, fun x k hx hk y hy => ?_, fun x k hx hk m HM => ?_⟩
  · unfold updNx; split
    · rename_i e; subst e; omega
    · exact H.le x hx
  · have hxi : x ≠ i := fun e => hfree y hy (e ▸ h)
    unfold updNx; rw [if_neg hxi]; exact H.held x y hx hy h
  · unfold updNx at hk
    by_cases e : x = i
    · subst e
      rw [if_pos rfl] at hk
      rcases Nat.lt_or_ge k (nx x) with h1 | h1
      · exact H.said x k hx h1 y hy
      · obtain rfl : k = nx x := by omega
        rw [hg] at hy
        injection hy with hy
        obtain rfl : j = y := by omega
        exact hno
    · rw [if_neg e] at hk; exact H.said x k hx hk y hy
  · unfold updNx at hk
    by_cases e : x = i
    · subst e
      rw [if_pos rfl] at hk
      rcases Nat.lt_or_ge k (nx x) with h1 | h1
      · exact H.never x k hx h1 m HM
      · obtain rfl : k = nx x := by omega
        rw [hg]
        intro he
        injection he with he
        obtain ⟨a1, a2⟩ := HM.may x hx (by omega)
        rw [he, Int.toNat_natCast] at a2
        rcases hno with h2 | h2
        · exact h2 a2
        · -- who is held is better, and was not refused by any that it has in a pairing that holds
          rcases H.rng j hj with h3 | ⟨h3, h4⟩
          · rw [h3, ahd_none' W hj] at h2
            have := ahd_le (R j) (x : Int)
            omega
          · obtain ⟨c, hc⟩ := Int.eq_ofNat_of_zero_le h3
            have hcn : c < n := by omega
            obtain ⟨g1, g2⟩ := H.held c j hcn hj hc
            have hcx : c ≠ x := fun e => hfree j hj (by rw [hc, e])
            have hmc : m.getD c (-1) ≠ (j : Int) := fun e => hcx (HM.pair.one c x hcn hx (by omega) (e.trans he.symm))
            have hjm := List.mem_of_getElem? g1
            have hpos := ahd_at (W.left c hcn).1 g1
            have hs : ahd (L c) (j : Int) < ahd (L c) (m.getD c (-1)) := by
              apply Nat.lt_of_not_le
              intro hle
              rcases HM.pair.rng c hcn with q | q
              · rw [q, ahd_none W hcn] at hle
                have := ahd_lt.2 hjm
                omega
              · have hq := (HM.may c hcn q.1).1
                rcases Nat.lt_or_ge (ahd (L c) (m.getD c (-1))) (nx c) with q2 | q2
                · exact H.never c _ hcn q2 m HM (ahd_get hq).symm
                · exact hmc (ahd_inj hq (by omega))
            have := HM.hold c j hcn hj hs
            rw [ow_at HM.pair hx he, ← hc] at this
            exact this h2
    · rw [if_neg e] at hk; exact H.never x k hx hk m HM
/-- One is held by who held nobody. -/
theorem AskP.accept (W : WishOK n L R) (H : AskP n L R nx ow) (hi : i < n) (hj : j < n) (hg : (L i)[nx i]? = some (j : Int)) (hr : (i : Int) ∈ R j) (h0 : ow j = -1) : AskP n L R nx (updOw ow j (i : Int)) := by
  refine ⟨H.le, fun y hy => ?_, fun x y hx hy h => ?_, fun x k hx hk y hy => ?_, H.never⟩
  · unfold updOw; split
    · exact .inr ⟨by omega, by omega⟩
    · exact H.rng y hy
  · unfold updOw at h
    by_cases e : y = j
    · subst e
      rw [if_pos rfl] at h
      obtain rfl : i = x := by omega
      exact ⟨hg, hr⟩
    · rw [if_neg e] at h; exact H.held x y hx hy h
  · rcases H.said x k hx hk y hy with h | h
    · exact .inl h
    · unfold updOw
      by_cases e : y = j
      · subst e
        rw [h0, ahd_none' W hj] at h
        have := ahd_le (R y) (x : Int)
        omega
      · rw [if_neg e]; exact .inr h
/-- One is held in place of another one. -/
theorem AskP.instead (W : WishOK n L R) (H : AskP n L R nx ow) (hi : i < n) (hj : j < n) (hg : (L i)[nx i]? = some (j : Int)) (hr : (i : Int) ∈ R j) {c : Nat} (hcn : c < n) (hc : ow j = (c : Int)) (hfree : ∀ j', j' < n → ow j' ≠ (i : Int)) (hb : ahd (R j) (i : Int) < ahd (R j) (c : Int)) :
    AskP n L R (updNx nx c) (updOw ow j (i : Int)) := by
  have hci : c ≠ i := fun e => hfree j hj (by rw [hc, e])
  obtain ⟨g1, g2⟩ := H.held c j hcn hj hc
  -- as if nobody were held, and then the other one refused
  have H1 : AskP n L R nx (updOw ow j (i : Int)) := by
    refine ⟨H.le, fun y hy => ?_, fun x y hx hy h => ?_, fun x k hx hk y hy => ?_, H.never⟩
    · unfold updOw; split
      · exact .inr ⟨by omega, by omega⟩
      · exact H.rng y hy
    · unfold updOw at h
      by_cases e : y = j
      · subst e
        rw [if_pos rfl] at h
        obtain rfl : i = x := by omega
        exact ⟨hg, hr⟩
      · rw [if_neg e] at h; exact H.held x y hx hy h
    · rcases H.said x k hx hk y hy with h | h
      · exact .inl h
      · unfold updOw
        by_cases e : y = j
        · subst e
          rw [hc] at h
          rw [if_pos rfl]; exact .inr (by omega)
        · rw [if_neg e]; exact .inr h
  refine H1.refuse W hcn hj g1 (fun y hy h => ?_) (.inr ?_)
  · unfold updOw at h
    by_cases e : y = j
    · rw [if_pos e] at h; omega
    · rw [if_neg e] at h
      have := (H.held c y hcn hy h).1
      rw [g1] at this
      injection this with this
      omega
  · unfold updOw; rw [if_pos rfl]; exact hb
/-- Whom each on the left has at the end. -/
def endP (n : Nat) (ow : Nat → Int) : List Int := (List.range n).map fun i : Nat => match (List.range n).find? fun j => ow j == (i : Int) with
  | some j => (j : Int)
  | none => -1
theorem endP_get (hi : i < n) : (endP n ow).getD i (-1) = match (List.range n).find? fun j => ow j == (i : Int) with
  | some j => (j : Int)
  | none => -1 := by
  unfold endP
  rw [List.getD_eq_getElem?_getD, List.getElem?_map, List.getElem?_range hi]; rfl
theorem AskP.only (H : AskP n L R nx ow) (hi : i < n) {j j' : Nat} (hj : j < n) (hj' : j' < n) (h : ow j = (i : Int)) (h' : ow j' = (i : Int)) : j = j' := by
  have h1 := (H.held i j hi hj h).1
  have h2 := (H.held i j' hi hj' h').1
  rw [h1] at h2
  injection h2 with h2
  omega
theorem endP_cases (_H : AskP n L R nx ow) (hi : i < n) : ((endP n ow).getD i (-1) = -1 ∧ ∀ j, j < n → ow j ≠ (i : Int)) ∨ ∃ j : Nat, j < n ∧ ow j = (i : Int) ∧ (endP n ow).getD i (-1) = (j : Int) := by
  rw [endP_get hi]
  cases hf : (List.range n).find? fun j => ow j == (i : Int) with
  | none => exact .inl ⟨rfl, fun j hj h => by
      have := List.find?_eq_none.1 hf j (List.mem_range.2 hj)
      simp [h] at this⟩
  | some j =>
    have h1 := List.find?_some hf
    exact .inr ⟨j, List.mem_range.1 (List.mem_of_find?_eq_some hf), by simpa using h1, rfl⟩
/-- GALE, SHAPLEY: when nobody is left who may ask, it holds, and is the best for the left. -/
theorem AskP.done (W : WishOK n L R) (H : AskP n L R nx ow) (hend : ∀ i, i < n → (∃ j, j < n ∧ ow j = (i : Int)) ∨ nx i = (L i).length) : BestL n L R (endP n ow) := by
  have hlen : (endP n ow).length = n := by simp [endP]
  have hP : PairOK n (endP n ow) := by
    refine ⟨hlen, fun i hi => ?_, fun i k hi hk h0 he => ?_⟩
    · rcases endP_cases H hi with ⟨h, _⟩ | ⟨j, hj, _, h⟩
      · exact .inl h
      · exact .inr ⟨by omega, by omega⟩
    · rcases endP_cases H hi with ⟨h, _⟩ | ⟨j, hj, h1, h2⟩
      · omega
      · rcases endP_cases H hk with ⟨h, _⟩ | ⟨j', hj', g1, g2⟩
        · omega
        · obtain rfl : j = j' := by omega
          omega
  have how : ∀ j, j < n → owP (endP n ow) (j : Int) = ow j := fun j hj => by
    rcases H.rng j hj with h | ⟨h1, h2⟩
    · rcases ow_cases hP j with ⟨g, _⟩ | ⟨i, hi, g1, g2⟩
      · rw [g, h]
      · exfalso
        rcases endP_cases H hi with ⟨q, _⟩ | ⟨j', hj', q1, q2⟩
        · omega
        · obtain rfl : j = j' := by omega
          omega
    · obtain ⟨i, hi⟩ := Int.eq_ofNat_of_zero_le h1
      have hin : i < n := by omega
      rcases endP_cases H hin with ⟨_, q⟩ | ⟨j', hj', q1, q2⟩
      · exact absurd hi (q j hj)
      · obtain rfl := H.only hin hj hj' hi q1
        rw [ow_at hP hin q2, hi]
  have hrank : ∀ i, i < n → ahd (L i) ((endP n ow).getD i (-1)) = nx i := fun i hi => by
    rcases endP_cases H hi with ⟨h, q⟩ | ⟨j, hj, h1, h2⟩
    · rw [h, ahd_none W hi]
      rcases hend i hi with ⟨j, hj, hh⟩ | hh
      · exact absurd hh (q j hj)
      · exact hh.symm
    · rw [h2]
      exact ahd_at (W.left i hi).1 (H.held i j hi hj h1).1
  refine ⟨⟨hP, fun i hi h0 => ?_, fun i j hi hj hs => ?_⟩, fun m HM i hi => ?_⟩
  · rcases endP_cases H hi with ⟨h, _⟩ | ⟨j, hj, h1, h2⟩
    · omega
    · obtain ⟨g1, g2⟩ := H.held i j hi hj h1
      rw [h2, Int.toNat_natCast]
      exact ⟨List.mem_of_getElem? g1, g2⟩
  · rw [hrank i hi] at hs
    have hmem : (j : Int) ∈ L i := ahd_lt.1 (by have := H.le i hi; omega)
    rw [how j hj]
    intro hr
    rcases H.said i _ hi hs j (ahd_get hmem) with h | h
    · rw [ahd_not h] at hr
      have := ahd_le (R j) (ow j)
      omega
    · omega
  · rw [hrank i hi]
    apply Nat.le_of_not_lt
    intro hlt
    have hmem : m.getD i (-1) ∈ L i := ahd_lt.1 (by have := H.le i hi; omega)
    exact H.never i _ hi hlt m HM (ahd_get hmem).symm
theorem sum_upd {f : Nat → Nat} (hi : i < n) : sumTo (updNx f i) n = sumTo f n + 1 := by
  have : ∀ k, sumTo (updNx f i) k = sumTo f k + (if i < k then 1 else 0) := fun k => by
    induction k with
    | zero => rfl
    | succ k ih =>
      simp only [sumTo]
      rw [ih]
      unfold updNx
      by_cases h1 : k = i
      · subst h1; rw [if_pos rfl, if_neg (by omega), if_pos (by omega)]; omega
      · rw [if_neg h1]
        by_cases h2 : i < k
        · rw [if_pos h2, if_pos (by omega)]; omega
        · rw [if_neg h2, if_neg (by omega)]; omega
  rw [this n, if_pos hi]
def freeR (ow : Nat → Int) : Nat → Bool := fun j => decide (ow j = -1)
/-- It comes to an end. -/
theorem AskP.ends (W : WishOK n L R) : ∀ (c : Nat) (nx : Nat → Nat) (ow : Nat → Int), AskP n L R nx ow → (sumTo (fun i => (L i).length) n - sumTo nx n) * (n + 1) + sizeP (freeR ow) n ≤ c → ∃ nx' ow', AskP n L R nx' ow' ∧ ∀ i, i < n → (∃ j, j < n ∧ ow' j = (i : Int)) ∨ nx' i = (L i).length
  | c, nx, ow, H, hc => by
    by_cases hend : ∀ i, i < n → (∃ j, j < n ∧ ow j = (i : Int)) ∨ nx i = (L i).length
    · exact ⟨nx, ow, H, hend⟩
    · obtain ⟨i, hi, hfree, hnx⟩ : ∃ i, i < n ∧ (∀ j, j < n → ow j ≠ (i : Int)) ∧ nx i < (L i).length := by
        apply Classical.byContradiction
        intro hno
        refine hend fun i hi => ?_
        by_cases h1 : ∃ j, j < n ∧ ow j = (i : Int)
        · exact .inl h1
        · refine .inr ?_
          have h2 := H.le i hi
          have h3 : ¬ nx i < (L i).length := fun h => hno ⟨i, hi, fun j hj e => h1 ⟨j, hj, e⟩, h⟩
          omega
      have hle : sumTo nx n ≤ sumTo (fun i => (L i).length) n := sumTo_le n H.le
      have hg : (L i)[nx i]? = some (L i)[nx i] := List.getElem?_eq_getElem hnx
      have hrg := (W.left i hi).2 _ (List.getElem_mem hnx)
      obtain ⟨j, hj⟩ := Int.eq_ofNat_of_zero_le hrg.1
      rw [hj] at hg
      have hjn : j < n := by omega
      have hf := sizeP_le (freeR ow) n
      -- a step that refuses one lessens the sum
      have hstep : ∀ (i' : Nat) (ow' : Nat → Int), i' < n → AskP n L R (updNx nx i') ow' → (sumTo (fun i => (L i).length) n - sumTo (updNx nx i') n) * (n + 1) + sizeP (freeR ow') n < c := fun i' ow' hi' H' => by
        have h1 := sum_upd (n := n) (f := nx) hi'
        have h2 : sumTo (updNx nx i') n ≤ sumTo (fun i => (L i).length) n := sumTo_le n H'.le
        have h3 := sizeP_le (freeR ow') n
        have h4 : sumTo (fun i => (L i).length) n - sumTo nx n = (sumTo (fun i => (L i).length) n - sumTo (updNx nx i') n) + 1 := by omega
        rw [h4, Nat.succ_mul] at hc
        omega
      by_cases hr : (i : Int) ∈ R j
      · rcases H.rng j hjn with h0 | ⟨h0, h1⟩
        · have H' := H.accept W hi hjn hg hr h0
          have hdec : sizeP (freeR (updOw ow j (i : Int))) n < sizeP (freeR ow) n := sizeP_lt (u := j) (fun x hx => by
            unfold freeR updOw at *
            by_cases e : x = j
            · rw [if_pos e] at hx; simp at hx
            · rw [if_neg e] at hx; exact hx) hjn (by unfold freeR updOw; rw [if_pos rfl]; simp) (by simp [freeR, h0])
          exact AskP.ends W (c - 1) _ _ H' (by omega)
        · obtain ⟨x, hx⟩ := Int.eq_ofNat_of_zero_le h0
          have hxn : x < n := by omega
          by_cases hb : ahd (R j) (i : Int) < ahd (R j) (x : Int)
          · have H' := H.instead W hi hjn hg hr hxn hx hfree hb
            have := hstep x _ hxn H'
            exact AskP.ends W (c - 1) _ _ H' (by omega)
          · have hne : x ≠ i := fun e => hfree j hjn (by rw [hx, e])
            have H' := H.refuse W hi hjn hg hfree (.inr (by
              rw [hx]
              rcases Nat.lt_or_ge (ahd (R j) (x : Int)) (ahd (R j) (i : Int)) with h | h
              · exact h
              · have := ahd_inj hr (show ahd (R j) (i : Int) = ahd (R j) (x : Int) by omega)
                omega))
            have := hstep i _ hi H'
            exact AskP.ends W (c - 1) _ _ H' (by omega)
      · have H' := H.refuse W hi hjn hg hfree (.inl hr)
        have := hstep i _ hi H'
        exact AskP.ends W (c - 1) _ _ H' (by omega)
  termination_by c => c
  decreasing_by all_goals omega
theorem best_ex (W : WishOK n L R) : ∃ l, BestL n L R l := by
  obtain ⟨nx, ow, H, hend⟩ := AskP.ends W _ _ _ AskP.start (Nat.le_refl _)
  exact ⟨_, H.done W hend⟩
/-- The best for the left is one alone. -/
theorem best_one {l m : List Int} (_W : WishOK n L R) (hl : BestL n L R l) (hm : BestL n L R m) : l = m := by
  apply List.ext_getElem?
  intro i
  rcases Nat.lt_or_ge i n with hi | hi
  · have h1 := hl.2 m hm.1 i hi
    have h2 := hm.2 l hl.1 i hi
    have he : l.getD i (-1) = m.getD i (-1) := by
      by_cases h0 : 0 ≤ l.getD i (-1)
      · exact ahd_inj (hl.1.may i hi h0).1 (by omega)
      · by_cases h3 : 0 ≤ m.getD i (-1)
        · exact (ahd_inj (hm.1.may i hi h3).1 (by omega)).symm
        · have := hl.1.pair.rng i hi
          have := hm.1.pair.rng i hi
          omega
    rw [List.getD_eq_getElem?_getD, List.getD_eq_getElem?_getD, List.getElem?_eq_getElem (by rw [hl.1.pair.len]; exact hi), List.getElem?_eq_getElem (by rw [hm.1.pair.len]; exact hi)] at he
    rw [List.getElem?_eq_getElem (by rw [hl.1.pair.len]; exact hi), List.getElem?_eq_getElem (by rw [hm.1.pair.len]; exact hi)]
    simpa using he
  · rw [List.getElem?_eq_none (by rw [hl.1.pair.len]; exact hi), List.getElem?_eq_none (by rw [hm.1.pair.len]; exact hi)]
end
end Go.Proofs.Ytmelgnfhocofiaa
