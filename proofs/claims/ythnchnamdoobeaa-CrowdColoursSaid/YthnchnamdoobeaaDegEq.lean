/- A node of a graph has just as many neighbours as edges; all degrees together are twice the edges. Plain facts. -/
import Derived.Test.YthnchnamdoobeaaAdjDeg
import Derived.Test.YthnchnamdoobeaaBrooksAllP
namespace Go.Proofs.Ythnchnamdoobeaa

section
variable {m : Nat} {es : List E3}
theorem take_good {n : Int} (hg : goodE n es) (k : Nat) : goodE n (es.take k) := fun t e he => by
  rw [List.getElem?_take] at he
  split at he
  · rename_i h
    have := hg t e he
    rwa [List.take_take, Nat.min_eq_left (by omega)]
  · cases he
theorem adj_next {k : Nat} {e : E3} (he : es[k]? = some e) (i j : Nat) : adjE (es.take (k + 1)) i j = (adjE (es.take k) i j || ((e.1 == (i : Int) && e.2.1 == (j : Int)) || (e.1 == (j : Int) && e.2.1 == (i : Int)))) := by
  obtain ⟨hk, rfl⟩ := List.getElem?_eq_some_iff.1 he
  unfold adjE
  rw [← List.take_append_getElem hk, List.any_append]
  simp
theorem deg_adj (hg : goodE m es) {i : Nat} : ∀ k, k ≤ es.length → degN (es.take k) i ≤ sizeP (adjE (es.take k) i) m
  | 0, _ => by rw [List.take_zero]; exact Nat.zero_le _
  | k + 1, hk => by
    have ih := deg_adj hg (i := i) k (by omega)
    have he : es[k]? = some es[k] := List.getElem?_eq_getElem (by omega)
    generalize es[k] = e at he
    obtain ⟨p0, p1, p2, p3, p4, p5⟩ := edge_ok (hg k e he)
    rw [degN_next es k e i he]
    have hup : ∀ j, adjE (es.take k) i j = true → adjE (es.take (k + 1)) i j = true := fun j h => by rw [adj_next he, h]; rfl
    by_cases ht : touchB i e = true
    · rw [if_pos ht]
      obtain ⟨x, hx⟩ := Int.eq_ofNat_of_zero_le p0
      obtain ⟨y, hy⟩ := Int.eq_ofNat_of_zero_le p2
      obtain ⟨a, b, c⟩ := e
      simp only at hx hy p1 p3 p4
      subst hx hy
      have hno : ∀ u v : Nat, ((x = u ∧ y = v) ∨ (x = v ∧ y = u)) → adjE (es.take k) u v = false := fun u v h => by
        rw [← Bool.not_eq_true]
        intro hh
        unfold adjE at hh
        obtain ⟨f, hf, hq⟩ := List.any_eq_true.1 hh
        have hm : metB (es.take k) ((x : Int), (y : Int), c) = true := by
          unfold metB
          rw [List.any_eq_true]
          refine ⟨f, hf, ?_⟩
          unfold sameB
          simp only [Bool.or_eq_true, Bool.and_eq_true, beq_iff_eq] at hq ⊢
          omega
        rw [hm] at p5; cases p5
      have hyes : ∀ u v : Nat, ((x = u ∧ y = v) ∨ (x = v ∧ y = u)) → adjE (es.take (k + 1)) u v = true := fun u v h => by
        rw [adj_next he, Bool.or_eq_true]
        refine .inr ?_
        simp only [Bool.or_eq_true, Bool.and_eq_true, beq_iff_eq]
        omega
      unfold touchB at ht
      simp only [Bool.or_eq_true, beq_iff_eq] at ht
      have hlt : sizeP (adjE (es.take k) i) m < sizeP (adjE (es.take (k + 1)) i) m := by
        rcases ht with h | h
        · exact sizeP_lt hup (u := y) (by omega) (hno i y (.inl ⟨by omega, rfl⟩)) (hyes i y (.inl ⟨by omega, rfl⟩))
        · exact sizeP_lt hup (u := x) (by omega) (hno i x (.inr ⟨rfl, by omega⟩)) (hyes i x (.inr ⟨rfl, by omega⟩))
      omega
    · rw [if_neg ht]
      have := sizeP_sub (n := m) fun j _ h => hup j h
      omega
theorem deg_eq (hg : goodE m es) (i : Nat) : sizeP (adjE es i) m = degN es i := by
  apply Nat.le_antisymm (adj_deg m i es)
  have h := deg_adj hg (i := i) es.length (Nat.le_refl _)
  rwa [List.take_length] at h
theorem degs_eq (hg : goodE m es) (i : Nat) : degS (adjE es) m allB i = degN es i := by
  rw [← deg_eq hg]
  exact sizeP_congr m fun j _ => by simp [allB]
theorem sum_degN (hg : goodE m es) : ∀ k, k ≤ es.length → sumTo (fun i => degN (es.take k) i) m = 2 * k
  | 0, _ => sumTo_zero m fun i _ => by rw [List.take_zero]; rfl
  | k + 1, hk => by
    have ih := sum_degN hg k (by omega)
    have he : es[k]? = some es[k] := List.getElem?_eq_getElem (by omega)
    generalize es[k] = e at he
    obtain ⟨p0, p1, p2, p3, p4, p5⟩ := edge_ok (hg k e he)
    rw [sumTo_congr (g := fun i => degN (es.take k) i + (if touchB i e = true then 1 else 0)) m (fun i _ => degN_next es k e i he), sumTo_add, ih]
    have h2 : sizeP (fun i : Nat => touchB i e) m = 2 := by
      obtain ⟨x, hx⟩ := Int.eq_ofNat_of_zero_le p0
      obtain ⟨y, hy⟩ := Int.eq_ofNat_of_zero_le p2
      rw [sizeP_del (i := x) (by simp [touchB, hx]) (by omega), sizeP_del (i := y) (delB_iff.2 ⟨by simp [touchB, hy], by omega⟩) (by omega), sizeP_none]
      intro i _
      rw [← Bool.not_eq_true]
      intro hh
      obtain ⟨h1, h3⟩ := delB_iff.1 hh
      obtain ⟨h1, h4⟩ := delB_iff.1 h1
      unfold touchB at h1
      simp only [Bool.or_eq_true, beq_iff_eq] at h1
      omega
    have h3 : sumTo (fun i : Nat => if touchB i e = true then 1 else 0) m = 2 := h2
    omega
theorem deg_less (hg : goodE m es) {i : Nat} (hi : i < m) : degN es i ≤ m - 1 := by
  rw [← deg_eq hg]
  have h := sizeP_lt (A := adjE es i) (B := fun _ => true) (n := m) (fun _ _ => rfl) hi (by
    cases h : adjE es i i with
    | false => rfl
    | true => exact absurd rfl (adjE_lt hg h).2.2) rfl
  have := sizeP_le (fun _ => true) m
  omega
theorem sum_const (c : Nat) : ∀ n, sumTo (fun _ => c) n = n * c
  | 0 => by simp [sumTo]
  | n + 1 => by rw [sumTo, sum_const c n, Nat.succ_mul]
theorem half_all (m : Nat) : 2 * (m * (m - 1) / 2) = m * (m - 1) := by
  rcases Nat.mod_two_eq_zero_or_one m with h | h
  · obtain ⟨q, rfl⟩ : ∃ q, m = 2 * q := ⟨m / 2, by omega⟩
    rw [Nat.mul_assoc, Nat.mul_div_cancel_left _ (by omega)]
  · obtain ⟨q, rfl⟩ : ∃ q, m = 2 * q + 1 := ⟨m / 2, by omega⟩
    rw [show 2 * q + 1 - 1 = q * 2 by omega, ← Nat.mul_assoc, Nat.mul_div_cancel _ (by omega)]
    rw [Nat.mul_comm]
/-- Each two have an edge just if there are that many. -/
theorem full_iff (hg : goodE m es) : es.length = m * (m - 1) / 2 ↔ ∀ a b, a < m → b < m → a ≠ b → adjE es a b = true := by
  have hs := sum_degN hg es.length (Nat.le_refl _)
  rw [List.take_length] at hs
  have hh := half_all m
  constructor
  · intro h a b ha hb hab
    apply Classical.byContradiction
    intro hno
    have h1 : sizeP (delB (adjE es a) b) m < m - 1 := by
      have e1 := sizeP_del (A := fun _ => true) (i := a) (n := m) rfl ha
      have e2 := sizeP_del (A := delB (fun _ => true) a) (i := b) (n := m) (delB_iff.2 ⟨rfl, Ne.symm hab⟩) hb
      have e3 := sizeP_le (fun _ => true) m
      have e4 : sizeP (delB (adjE es a) b) m ≤ sizeP (delB (delB (fun _ => true) a) b) m := sizeP_sub fun j _ hj => by
        obtain ⟨q1, q2⟩ := delB_iff.1 hj
        exact delB_iff.2 ⟨delB_iff.2 ⟨rfl, fun e => (adjE_lt hg q1).2.2 e.symm⟩, q2⟩
      omega
    have h2 : degN es a < m - 1 := by
      rw [← deg_eq hg]
      refine Nat.lt_of_le_of_lt (sizeP_sub fun j _ hj => ?_) h1
      exact delB_iff.2 ⟨hj, fun e => hno (e ▸ hj)⟩
    have h3 := sumTo_one (f := fun i => if i < m then degN es i else 0) (g := fun _ => m - 1) (i := a) (fun j _ => by
      show (if j < m then degN es j else 0) ≤ m - 1
      split
      · rename_i h; exact deg_less hg h
      · exact Nat.zero_le _) (by rw [if_pos ha]; exact h2) m ha
    rw [sum_const, sumTo_congr (g := fun i => degN es i) m (fun j hj => if_pos hj), hs] at h3
    omega
  · intro h
    have h1 : sumTo (fun i => degN es i) m = sumTo (fun _ => m - 1) m := sumTo_congr m fun i hi => by
      rw [← deg_eq hg]
      have e1 := sizeP_del (A := fun _ => true) (i := i) (n := m) rfl hi
      have e2 : sizeP (fun _ => true) m = m := by have := sizeP_not (fun _ => false) m; have e := sizeP_none (A := fun _ => false) (n := m) fun _ _ => rfl; simp at this; omega
      have e3 : sizeP (adjE es i) m = sizeP (delB (fun _ => true) i) m := sizeP_congr m fun j hj => by
        by_cases hji : j = i
        · subst hji
          rw [show delB (fun _ => true) j j = false by simp [delB]]
          cases hq : adjE es j j with
          | false => rfl
          | true => exact absurd rfl (adjE_lt hg hq).2.2
        · rw [h i j hi hj (Ne.symm hji), delB_iff.2 ⟨rfl, hji⟩]
      omega
    rw [sum_const, hs] at h1
    omega
end
end Go.Proofs.Ythnchnamdoobeaa
