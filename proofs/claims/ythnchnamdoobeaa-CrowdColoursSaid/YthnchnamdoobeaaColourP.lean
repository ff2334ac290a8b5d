/- WELSH, POWELL; GALLAI, ROY, VITAVER; HAJNAL, SURANYI, BERGE: colours, crowds and rows. Plain facts, of no program. -/
import Derived.Test.YthnchnamdoobeaaMapsP
namespace Go.Proofs.Ythnchnamdoobeaa
section
variable {n k : Nat} {adj : Nat → Nat → Bool} {col pos : Nat → Nat} {A K : BS}
/-- Who has the least number that none of some has has none greater than how many these are. -/
theorem mex_le : ∀ (c : Nat) (A : BS), (∀ x, x < c → ∃ j, j < n ∧ A j = true ∧ col j = x) → c ≤ sizeP A n
  | 0, _, _ => Nat.zero_le _
  | c + 1, A, h => by
    obtain ⟨j, hj, ha, hc⟩ := h c (by omega)
    have ih := mex_le c (delB A j) fun x hx => by
      obtain ⟨i, hi, g1, g2⟩ := h x (by omega)
      exact ⟨i, hi, delB_iff.2 ⟨g1, fun e => by rw [e, hc] at g2; omega⟩, g2⟩
    have := sizeP_del ha hj
    omega
/-- A crowd needs as many colours as it has members. -/
theorem clq_col (hK : ClqB adj K) (hlt : ∀ i, i < n → K i = true → col i < k) (hne : ∀ i j, i < n → j < n → K i = true → K j = true → adj i j = true → col i ≠ col j) : sizeP K n ≤ k := by
  have h := sizeP_inj (n := max n k) (sizeP (fun i => K i && decide (i < n)) (max n k)) (A := fun i => K i && decide (i < n)) (B := fun x => decide (x < k)) (m := col) rfl (fun i _ h => by
    simp only [Bool.and_eq_true, decide_eq_true_eq] at h
    have := hlt i h.2 h.1
    exact ⟨by omega, decide_eq_true this⟩) fun i j _ _ h1 h2 e => by
      simp only [Bool.and_eq_true, decide_eq_true_eq] at h1 h2
      apply Classical.byContradiction
      intro hij
      exact hne i j h1.2 h2.2 h1.1 h2.1 (hK i j h1.1 h2.1 hij) e
  rw [sizeP_below _ (by omega)] at h
  have e2 : sizeP K n = sizeP (fun i => K i && decide (i < n)) n := sizeP_congr n fun i hi => by rw [decide_eq_true hi, Bool.and_true]
  have e3 : ∀ d, sizeP (fun i => K i && decide (i < n)) n ≤ sizeP (fun i => K i && decide (i < n)) (n + d) := fun d => by
    induction d with
    | zero => exact Nat.le_refl _
    | succ d ih => rw [← Nat.add_assoc, sizeP_succ]; omega
  have := e3 (max n k - n)
  rw [show n + (max n k - n) = max n k by omega] at this
  omega
/-- Each colour has no more nodes than the largest set without an edge. -/
theorem col_part {al : Nat} (hlt : ∀ i, i < n → col i < k) (hne : ∀ i j, i < n → j < n → adj i j = true → col i ≠ col j) (hal : ∀ S : BS, (∀ i, S i = true → i < n) → LseB adj S → sizeP S n ≤ al) : n ≤ k * al := by
  have h1 := sizeP_parts (N := k) (lab := col) (A := fun _ => true) n fun j hj _ => hlt j hj
  have e : sizeP (fun _ => true) n = n := by
    have := sizeP_below n (d := n) (Nat.le_refl n)
    rw [← sizeP_congr (S := fun x => decide (x < n)) (T := fun _ => true) n fun i hi => decide_eq_true hi]; exact this
  rw [e] at h1
  have h2 : ∀ N, sumTo (fun i => sizeP (fun j => true && decide (col j = i)) n) N ≤ N * al := fun N => by
    induction N with
    | zero => exact Nat.zero_le _
    | succ N ih =>
      simp only [sumTo]
      have h3 := hal (fun j => decide (j < n) && decide (col j = N)) (fun i hi => by simp at hi; exact hi.1) fun i j hi hj => by
        simp only [Bool.and_eq_true, decide_eq_true_eq] at hi hj
        cases g : adj i j with
        | false => rfl
        | true => exact absurd (hi.2.trans hj.2.symm) (hne i j hi.1 hj.1 g)
      have h4 : sizeP (fun j => true && decide (col j = N)) n = sizeP (fun j => decide (j < n) && decide (col j = N)) n := sizeP_congr n fun j hj => by rw [decide_eq_true hj]
      rw [Nat.add_mul, Nat.one_mul]
      omega
  have := h2 k
  omega
/-- Node by node the least number that none ahead has with which it has an edge. -/
structure GreedyC (n : Nat) (adj : Nat → Nat → Bool) (pos col : Nat → Nat) : Prop where
  ne : ∀ i j, i < n → j < n → pos j < pos i → adj i j = true → col i ≠ col j
  least : ∀ i x, i < n → x < col i → ∃ j, j < n ∧ pos j < pos i ∧ adj i j = true ∧ col j = x
/-- WELSH, POWELL. -/
theorem welsh (H : GreedyC n adj pos col) {i : Nat} (hi : i < n) : col i ≤ sizeP (adj i) n ∧ col i ≤ sizeP (fun j => decide (pos j < pos i)) n := by
  constructor
  · refine mex_le (col := col) (col i) (adj i) fun x hx => ?_
    obtain ⟨j, h1, _, h3, h4⟩ := H.least i x hi hx
    exact ⟨j, h1, h3, h4⟩
  · refine mex_le (col := col) (col i) _ fun x hx => ?_
    obtain ⟨j, h1, h2, _, h4⟩ := H.least i x hi hx
    exact ⟨j, h1, decide_eq_true h2, h4⟩
/-- HAJNAL, SURANYI; BERGE: where whoever is ahead of one with an edge to it have all edges, it needs no more colours than the largest crowd has members. -/
theorem perfect (H : GreedyC n adj pos col) (hsym : ∀ i j, adj i j = adj j i) (_hirr : ∀ i, adj i i = false) {om i : Nat} (hi : i < n) (hom : ∀ S : BS, (∀ i, S i = true → i < n) → ClqB adj S → sizeP S n ≤ om)
    (hs : ∀ j l, j < n → l < n → pos j < pos i → pos l < pos i → adj i j = true → adj i l = true → j ≠ l → adj j l = true) : col i < om := by
  let S : BS := fun j => decide (j < n) && (decide (pos j < pos i) && adj i j)
  have hS : ∀ j, S j = true ↔ j < n ∧ pos j < pos i ∧ adj i j = true := fun j => by
    show (decide (j < n) && (decide (pos j < pos i) && adj i j)) = true ↔ _
    simp
  have h1 : col i ≤ sizeP S n := mex_le (col := col) (col i) S fun x hx => by
    obtain ⟨j, h1, h2, h3, h4⟩ := H.least i x hi hx
    exact ⟨j, h1, (hS j).2 ⟨h1, h2, h3⟩, h4⟩
  have hSi : S i = false := by
    cases g : S i with
    | false => rfl
    | true => have := ((hS i).1 g).2.1; omega
  have h2 := hom (insB S i) (fun j hj => by
    rcases insB_iff.1 hj with h | rfl
    · exact ((hS j).1 h).1
    · exact hi) fun j l hj hl hjl => by
      rcases insB_iff.1 hj with h | rfl <;> rcases insB_iff.1 hl with h' | rfl
      · obtain ⟨a1, a2, a3⟩ := (hS j).1 h
        obtain ⟨b1, b2, b3⟩ := (hS l).1 h'
        exact hs j l a1 b1 a2 b2 a3 b3 hjl
      · rw [hsym]; exact ((hS j).1 h).2.2
      · exact ((hS l).1 h').2.2
      · exact absurd rfl hjl
  rw [sizeP_ins hi hSi] at h2
  omega
/-- In the order of a colouring, colour by colour, nobody gets a greater one. -/
theorem order_col {c : Nat → Nat} (H : GreedyC n adj pos col) (hc : ∀ i j, i < n → j < n → adj i j = true → c i ≠ c j) (ho : ∀ i j, i < n → j < n → pos j < pos i → c j ≤ c i) : ∀ (m i : Nat), pos i < m → i < n → col i ≤ c i
  | 0, _, h, _ => absurd h (Nat.not_lt_zero _)
  | m + 1, i, hm, hi => by
    apply Classical.byContradiction
    intro hlt
    obtain ⟨j, h1, h2, h3, h4⟩ := H.least i (c i) hi (by omega)
    have h5 := order_col H hc ho m j (by omega) h1
    have h6 := ho i j hi h1 h2
    exact hc i j hi h1 h3 (by omega)
/-- The longest row along edges that ends in each: each has more than those ahead with which it has an edge. -/
structure RowsC (n : Nat) (adj : Nat → Nat → Bool) (pos b : Nat → Nat) : Prop where
  more : ∀ i j, i < n → j < n → pos j < pos i → adj i j = true → b j < b i
  least : ∀ i, i < n → b i = 1 ∨ ∃ j, j < n ∧ pos j < pos i ∧ adj i j = true ∧ b i = b j + 1
/-- GALLAI, ROY, VITAVER: the rows' lengths are a colouring; and in the order of a colouring no row is longer than it has colours. -/
theorem roy_col {b : Nat → Nat} (H : RowsC n adj pos b) (hsym : ∀ i j, adj i j = adj j i) (hp : ∀ i j, i < n → j < n → pos i = pos j → i = j) (hirr : ∀ i, adj i i = false) (i j : Nat) (hi : i < n) (hj : j < n) (h : adj i j = true) : b i ≠ b j := by
  rcases Nat.lt_trichotomy (pos i) (pos j) with g | g | g
  · have := H.more j i hj hi g (by rw [hsym]; exact h); omega
  · have := hp i j hi hj g; subst this; rw [hirr] at h; cases h
  · have := H.more i j hi hj g h; omega
theorem roy_row {b c : Nat → Nat} (H : RowsC n adj pos b) (hc : ∀ i j, i < n → j < n → adj i j = true → c i ≠ c j) (ho : ∀ i j, i < n → j < n → pos j < pos i → c j ≤ c i) : ∀ (m i : Nat), pos i < m → i < n → b i ≤ c i + 1
  | 0, _, h, _ => absurd h (Nat.not_lt_zero _)
  | m + 1, i, hm, hi => by
    rcases H.least i hi with h | ⟨j, h1, h2, h3, h4⟩
    · omega
    · have h5 := roy_row H hc ho m j (by omega) h1
      have h6 := ho i j hi h1 h2
      have h7 := hc i j hi h1 h3
      omega
end
end Go.Proofs.Ythnchnamdoobeaa
