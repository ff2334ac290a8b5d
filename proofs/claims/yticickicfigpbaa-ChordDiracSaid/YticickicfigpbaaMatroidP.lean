/- WHITNEY, RADO, EDMONDS: what is free, how many can be, and what is free by two at once. Plain facts, of no program. -/
import Derived.Test.YticickicfigpbaaTutteP
namespace Go.Proofs.Yticickicfigpbaa

abbrev BS := Nat → Bool
def subB (n : Nat) (S T : BS) : Prop := ∀ i, i < n → S i = true → T i = true
def insB (S : BS) (x : Nat) : BS := fun i => S i || decide (i = x)
theorem insB_iff {S : BS} {x i : Nat} : insB S x i = true ↔ S i = true ∨ i = x := by simp [insB]
def capB (S T : BS) : BS := fun i => S i && T i
def cupB (S T : BS) : BS := fun i => S i || T i
def difB (S T : BS) : BS := fun i => S i && !T i
section
variable {n : Nat} {S T : BS}
theorem sizeP_ins {x : Nat} (hx : x < n) (h : S x = false) : sizeP (insB S x) n = sizeP S n + 1 := by
  rw [sizeP_del (A := insB S x) (i := x) (insB_iff.2 (.inr rfl)) hx]
  congr 1
  refine sizeP_congr n fun i _ => ?_
  rw [Bool.eq_iff_iff, delB_iff, insB_iff]
  constructor
  · rintro ⟨h1 | h1, h2⟩
    · exact h1
    · exact absurd h1 h2
  · intro h1
    exact ⟨.inl h1, fun e => by rw [e, h] at h1; cases h1⟩
theorem size_cup_cap (S T : BS) : ∀ n, sizeP (cupB S T) n + sizeP (capB S T) n = sizeP S n + sizeP T n
  | 0 => rfl
  | n + 1 => by
    have ih := size_cup_cap S T n
    rw [sizeP_succ, sizeP_succ, sizeP_succ, sizeP_succ]
    have e1 : cupB S T n = (S n || T n) := rfl
    have e2 : capB S T n = (S n && T n) := rfl
    rw [e1, e2]
    cases S n <;> cases T n <;> simp <;> omega
theorem sub_eq (h : subB n S T) (hs : sizeP T n ≤ sizeP S n) : ∀ i, i < n → S i = T i := fun i hi => by
  cases hS : S i with
  | true => exact (h i hi hS).symm
  | false =>
    cases hT : T i with
    | false => rfl
    | true =>
      exfalso
      have h1 := sizeP_del hT hi
      have h2 : sizeP S n ≤ sizeP (delB T i) n := sizeP_sub fun x hx hx2 => delB_iff.2 ⟨h x hx hx2, fun e => by rw [e, hS] at hx2; cases hx2⟩
      omega
end
/-- What may be free. -/
structure Mtd (n : Nat) (F : BS → Prop) : Prop where
  none_ : F fun _ => false
  sub : ∀ S T, F S → subB n T S → F T
  swap : ∀ S T, F S → F T → sizeP S n < sizeP T n → ∃ i, i < n ∧ T i = true ∧ S i = false ∧ F (insB S i)
section
variable {n : Nat} {F : BS → Prop} (M : Mtd n F)
include M
/-- Anything free can be made as large as can be. -/
theorem Mtd.grow {X J : BS} (hJ : F J) (hJX : subB n J X) : ∃ I, F I ∧ subB n I X ∧ subB n J I ∧ ∀ K, F K → subB n K X → sizeP K n ≤ sizeP I n := by
  have : ∀ c J, F J → subB n J X → n ≤ sizeP J n + c → ∃ I, F I ∧ subB n I X ∧ subB n J I ∧ ∀ K, F K → subB n K X → sizeP K n ≤ sizeP I n := fun c => by
    induction c with
    | zero => exact fun J h1 h2 h3 => ⟨J, h1, h2, fun _ _ h => h, fun K _ _ => by have := sizeP_le K n; omega⟩
    | succ c ih =>
      intro J h1 h2 h3
      by_cases hK : ∃ K, F K ∧ subB n K X ∧ sizeP J n < sizeP K n
      · obtain ⟨K, k1, k2, k3⟩ := hK
        obtain ⟨i, hi, g1, g2, g3⟩ := M.swap J K h1 k1 k3
        have hsz := sizeP_ins hi g2
        obtain ⟨I, q1, q2, q3, q4⟩ := ih (insB J i) g3 (fun x hx hh => by
          rcases insB_iff.1 hh with h | h
          · exact h2 x hx h
          · rw [h]; exact k2 i hi g1) (by omega)
        exact ⟨I, q1, q2, fun x hx h => q3 x hx (insB_iff.2 (.inl h)), q4⟩
      · exact ⟨J, h1, h2, fun _ _ h => h, fun K k1 k2 => by
          have : ¬ sizeP J n < sizeP K n := fun h => hK ⟨K, k1, k2, h⟩
          omega⟩
  exact this n J hJ hJX (by omega)
theorem Mtd.base (X : BS) : ∃ I, F I ∧ subB n I X ∧ ∀ K, F K → subB n K X → sizeP K n ≤ sizeP I n := by
  obtain ⟨I, h1, h2, _, h4⟩ := M.grow (X := X) M.none_ fun i _ h => by cases h
  exact ⟨I, h1, h2, h4⟩
end
/-- How many of some are free at the most, as a number of its own. -/
structure RkF (n : Nat) (r : BS → Nat) : Prop where
  zero : r (fun _ => false) = 0
  mono : ∀ S T, subB n S T → r S ≤ r T
  one : ∀ S x, r (insB S x) ≤ r S + 1
  subm : ∀ S T, r (cupB S T) + r (capB S T) ≤ r S + r T
theorem RkF.congr {n : Nat} {r : BS → Nat} (H : RkF n r) {S T : BS} (h : ∀ i, i < n → S i = T i) : r S = r T :=
  Nat.le_antisymm (H.mono S T fun i hi hS => by rw [← h i hi]; exact hS) (H.mono T S fun i hi hT => by rw [h i hi]; exact hT)
/-- WHITNEY: the rank of what may be free. -/
theorem rank_ex {n : Nat} {F : BS → Prop} (M : Mtd n F) : ∃ r : BS → Nat, RkF n r ∧ (∀ X, ∃ I, F I ∧ subB n I X ∧ sizeP I n = r X) ∧ ∀ X K, F K → subB n K X → sizeP K n ≤ r X := by
  have hb : ∀ X, ∃ c, (∃ I, F I ∧ subB n I X ∧ sizeP I n = c) ∧ ∀ K, F K → subB n K X → sizeP K n ≤ c := fun X => by
    obtain ⟨I, h1, h2, h3⟩ := M.base X
    exact ⟨sizeP I n, ⟨I, h1, h2, rfl⟩, h3⟩
  obtain ⟨r, hr⟩ := Classical.axiomOfChoice hb
  refine ⟨r, ⟨?_, fun S T h => ?_, fun S x => ?_, fun S T => ?_⟩, fun X => (hr X).1, fun X => (hr X).2⟩
  · obtain ⟨I, _, h2, h3⟩ := (hr fun _ => false).1
    rw [← h3]
    exact sizeP_none fun i hi => by
      cases hI : I i with
      | false => rfl
      | true => exact absurd (h2 i hi hI) (by simp)
  · obtain ⟨I, h1, h2, h3⟩ := (hr S).1
    rw [← h3]
    exact (hr T).2 I h1 fun i hi hI => h i hi (h2 i hi hI)
  · obtain ⟨I, h1, h2, h3⟩ := (hr (insB S x)).1
    rw [← h3]
    have h4 := (hr S).2 (delB I x) (M.sub I _ h1 fun i _ h => (delB_iff.1 h).1) fun i hi h => by
      obtain ⟨a, b⟩ := delB_iff.1 h
      exact (insB_iff.1 (h2 i hi a)).resolve_right b
    by_cases hx : x < n ∧ I x = true
    · have := sizeP_del hx.2 hx.1
      omega
    · have : sizeP I n = sizeP (delB I x) n := sizeP_congr n fun i hi => by
        rw [Bool.eq_iff_iff, delB_iff]
        exact ⟨fun h => ⟨h, fun e => hx (by subst e; exact ⟨hi, h⟩)⟩, fun h => h.1⟩
      omega
  · obtain ⟨I, h1, h2, h3⟩ := (hr (capB S T)).1
    obtain ⟨J, j1, j2, j3, j4⟩ := M.grow (X := cupB S T) h1 fun i hi h => by
      have := h2 i hi h
      simp only [capB, Bool.and_eq_true] at this
      simp [cupB, this.1]
    obtain ⟨B, b1, b2, b3⟩ := (hr (cupB S T)).1
    have h5 := j4 B b1 b2
    have h6 := (hr S).2 (capB J S) (M.sub J _ j1 fun i _ h => by simp only [capB, Bool.and_eq_true] at h; exact h.1) fun i _ h => by simp only [capB, Bool.and_eq_true] at h; exact h.2
    have h7 := (hr T).2 (capB J T) (M.sub J _ j1 fun i _ h => by simp only [capB, Bool.and_eq_true] at h; exact h.1) fun i _ h => by simp only [capB, Bool.and_eq_true] at h; exact h.2
    have h8 := size_cup_cap (capB J S) (capB J T) n
    have h9 : sizeP J n ≤ sizeP (cupB (capB J S) (capB J T)) n := sizeP_sub fun i hi h => by
      have := j2 i hi h
      simp only [cupB, capB, Bool.or_eq_true, Bool.and_eq_true] at this ⊢
      exact this.imp (fun t => ⟨h, t⟩) fun t => ⟨h, t⟩
    have h10 : sizeP I n ≤ sizeP (capB (capB J S) (capB J T)) n := sizeP_sub fun i hi h => by
      have a := h2 i hi h
      simp only [capB, Bool.and_eq_true] at a ⊢
      exact ⟨⟨j3 i hi h, a.1⟩, j3 i hi h, a.2⟩
    omega
/-- With one thing always taken. -/
theorem RkF.with_ {n : Nat} {r : BS → Nat} (H : RkF n r) {e : Nat} (he : r (insB (fun _ => false) e) = 1) : RkF n fun X => r (insB X e) - 1 := by
  have hge : ∀ X, 1 ≤ r (insB X e) := fun X => by
    rw [← he]
    exact H.mono _ _ fun i _ h => insB_iff.2 (.inr ((insB_iff.1 h).resolve_left (by simp)))
  refine ⟨by show r (insB (fun _ => false) e) - 1 = 0; omega, fun S T h => ?_, fun S x => ?_, fun S T => ?_⟩
  · have := H.mono (insB S e) (insB T e) fun i hi hh => insB_iff.2 ((insB_iff.1 hh).imp (h i hi) id)
    omega
  · have h1 := H.one (insB S e) x
    have h2 : r (insB (insB S x) e) = r (insB (insB S e) x) := H.congr fun i _ => by
      simp only [insB]
      cases S i <;> cases decide (i = x) <;> cases decide (i = e) <;> rfl
    show r (insB (insB S x) e) - 1 ≤ r (insB S e) - 1 + 1
    omega
  · have h1 := H.subm (insB S e) (insB T e)
    have h2 : r (cupB (insB S e) (insB T e)) = r (insB (cupB S T) e) := H.congr fun i _ => by
      simp only [cupB, insB]
      cases S i <;> cases T i <;> cases decide (i = e) <;> rfl
    have h3 : r (capB (insB S e) (insB T e)) = r (insB (capB S T) e) := H.congr fun i _ => by
      simp only [capB, insB]
      cases S i <;> cases T i <;> cases decide (i = e) <;> rfl
    have := hge (cupB S T)
    have := hge (capB S T)
    have := hge S
    have := hge T
    show r (insB (cupB S T) e) - 1 + (r (insB (capB S T) e) - 1) ≤ r (insB S e) - 1 + (r (insB T e) - 1)
    omega
/-- EDMONDS: as many are free by two at once as the least of what is free of some by the one, and of the others by the other one. -/
theorem edmonds {n : Nat} : ∀ (m : Nat) (E : BS) (r1 r2 : BS → Nat) (k : Nat), sizeP E n = m → RkF n r1 → RkF n r2 → (∀ S, subB n S E → k ≤ r1 S + r2 (difB E S)) → ∃ I, subB n I E ∧ sizeP I n = k ∧ r1 I = k ∧ r2 I = k
  | m, E, r1, r2, k, hm, H1, H2, hk => by
    rcases Nat.eq_zero_or_pos k with h0 | h0
    · subst h0
      exact ⟨fun _ => false, (fun i _ h => by cases h), sizeP_none fun _ _ => rfl, H1.zero, H2.zero⟩
    · -- one thing that is something by both
      obtain ⟨e, hen, heE, he1, he2⟩ : ∃ e, e < n ∧ E e = true ∧ r1 (insB (fun _ => false) e) = 1 ∧ r2 (insB (fun _ => false) e) = 1 := by
        apply Classical.byContradiction
        intro hno
        have hone : ∀ (r : BS → Nat), RkF n r → ∀ e, r (insB (fun _ => false) e) = 0 ∨ r (insB (fun _ => false) e) = 1 := fun r H e => by
          have := H.one (fun _ => false) e
          rw [H.zero] at this
          omega
        -- those that are nothing together are nothing
        have hnil : ∀ (r : BS → Nat), RkF n r → ∀ X : BS, (∀ i, i < n → X i = true → r (insB (fun _ => false) i) = 0) → r X = 0 := fun r H X hX => by
          have : ∀ c, ∀ Y : BS, sizeP Y n ≤ c → subB n Y X → r Y = 0 := fun c => by
            induction c with
            | zero =>
              intro Y hc _
              have : r Y = r (fun _ => false) := H.congr fun i hi => by
                cases hY : Y i with
                | false => rfl
                | true => have := sizeP_del hY hi; omega
              rw [this, H.zero]
            | succ c ih =>
              intro Y hc hYX
              rcases Nat.eq_zero_or_pos (sizeP Y n) with h1 | h1
              · exact ih Y (by omega) hYX
              · obtain ⟨i, hi, hYi⟩ := sizeP_pos h1
                have hdel := sizeP_del hYi hi
                have h2 := ih (delB Y i) (by omega) fun x hx h => hYX x hx (delB_iff.1 h).1
                have h3 := H.subm (delB Y i) (insB (fun _ => false) i)
                have h4 : r (cupB (delB Y i) (insB (fun _ => false) i)) = r Y := H.congr fun x _ => by
                  rw [Bool.eq_iff_iff]
                  simp only [cupB, Bool.or_eq_true, delB_iff, insB_iff]
                  constructor
                  · rintro (h | h | h)
                    · exact h.1
                    · cases h
                    · rw [h]; exact hYi
                  · intro h
                    by_cases e : x = i
                    · exact .inr (.inr e)
                    · exact .inl ⟨h, e⟩
                have h5 := hX i hi (hYX i hi hYi)
                omega
          exact this _ X (Nat.le_refl _) fun _ _ h => h
        have hS := hk (fun i => E i && decide (r1 (insB (fun _ => false) i) = 0)) fun i _ h => by simp only [Bool.and_eq_true] at h; exact h.1
        have z1 := hnil r1 H1 (fun i => E i && decide (r1 (insB (fun _ => false) i) = 0)) fun i _ h => by simp only [Bool.and_eq_true, decide_eq_true_eq] at h; exact h.2
        have z2 := hnil r2 H2 (difB E fun i => E i && decide (r1 (insB (fun _ => false) i) = 0)) fun i hi h => by
          simp only [difB, Bool.and_eq_true, Bool.not_eq_true', Bool.and_eq_false_iff, decide_eq_false_iff_not] at h
          obtain ⟨h1, h2⟩ := h
          rcases hone r2 H2 i with h3 | h3
          · exact h3
          · exfalso
            rcases h2 with h2 | h2
            · rw [h1] at h2; cases h2
            · exact hno ⟨i, hi, h1, (hone r1 H1 i).resolve_left h2, h3⟩
        omega
      have hdel := sizeP_del heE hen
      by_cases hA : ∀ S, subB n S (delB E e) → k ≤ r1 S + r2 (difB (delB E e) S)
      · -- without it
        obtain ⟨I, h1, h2⟩ := edmonds (m - 1) (delB E e) r1 r2 k (by omega) H1 H2 hA
        exact ⟨I, fun i hi h => (delB_iff.1 (h1 i hi h)).1, h2⟩
      · obtain ⟨A, hAE, hAk⟩ : ∃ A, subB n A (delB E e) ∧ r1 A + r2 (difB (delB E e) A) < k := by
          apply Classical.byContradiction
          intro hno
          exact hA fun S hS => Nat.le_of_not_lt fun h => hno ⟨S, hS, h⟩
        have hge : ∀ (r : BS → Nat), RkF n r → r (insB (fun _ => false) e) = 1 → ∀ X, 1 ≤ r (insB X e) := fun r H he X => by
          rw [← he]
          exact H.mono _ _ fun i _ h => insB_iff.2 (.inr ((insB_iff.1 h).resolve_left (by simp)))
        by_cases hB : ∀ S, subB n S (delB E e) → k - 1 ≤ (r1 (insB S e) - 1) + (r2 (insB (difB (delB E e) S) e) - 1)
        · -- with it
          obtain ⟨I, h1, h2, h3, h4⟩ := edmonds (m - 1) (delB E e) (fun X => r1 (insB X e) - 1) (fun X => r2 (insB X e) - 1) (k - 1) (by omega) (H1.with_ he1) (H2.with_ he2) hB
          have hIe : I e = false := by
            cases hI : I e with
            | false => rfl
            | true => exact absurd rfl (delB_iff.1 (h1 e hen hI)).2
          have g1 := hge r1 H1 he1 I
          have g2 := hge r2 H2 he2 I
          refine ⟨insB I e, fun i hi h => ?_, by rw [sizeP_ins hen hIe]; omega, by omega, by omega⟩
          rcases insB_iff.1 h with h | h
          · exact (delB_iff.1 (h1 i hi h)).1
          · rw [h]; exact heE
        · exfalso
          obtain ⟨B, hBE, hBk⟩ : ∃ B, subB n B (delB E e) ∧ (r1 (insB B e) - 1) + (r2 (insB (difB (delB E e) B) e) - 1) < k - 1 := by
            apply Classical.byContradiction
            intro hno
            exact hB fun S hS => Nat.le_of_not_lt fun h => hno ⟨S, hS, h⟩
          have g1 := hge r1 H1 he1 B
          have g2 := hge r2 H2 he2 (difB (delB E e) B)
          have s1 := H1.subm A (insB B e)
          have s2 := H2.subm (difB (delB E e) A) (insB (difB (delB E e) B) e)
          have hAe : ∀ i, i < n → A i = true → i ≠ e ∧ E i = true := fun i hi h => ⟨(delB_iff.1 (hAE i hi h)).2, (delB_iff.1 (hAE i hi h)).1⟩
          have hBe : ∀ i, i < n → B i = true → i ≠ e ∧ E i = true := fun i hi h => ⟨(delB_iff.1 (hBE i hi h)).2, (delB_iff.1 (hBE i hi h)).1⟩
          have q1 := hk (cupB A (insB B e)) fun i hi h => by
            simp only [cupB, Bool.or_eq_true] at h
            rcases h with h | h
            · exact (hAe i hi h).2
            · rcases insB_iff.1 h with h | h
              · exact (hBe i hi h).2
              · rw [h]; exact heE
          have q2 := hk (capB A (insB B e)) fun i hi h => by
            simp only [capB, Bool.and_eq_true] at h
            exact (hAe i hi h.1).2
          have t1 : r2 (difB E (cupB A (insB B e))) = r2 (capB (difB (delB E e) A) (insB (difB (delB E e) B) e)) := H2.congr fun i hi => by
            simp only [difB, cupB, capB, insB, delB]
            by_cases he : i = e
            · simp [he]
            · simp [he]
              cases E i <;> cases A i <;> cases B i <;> rfl
          have t2 : r2 (difB E (capB A (insB B e))) = r2 (cupB (difB (delB E e) A) (insB (difB (delB E e) B) e)) := H2.congr fun i hi => by
            simp only [difB, cupB, capB, insB, delB]
            by_cases he : i = e
            · have hA0 : A e = false := by
                cases hh : A e with
                | false => rfl
                | true => exact absurd rfl (hAe e hen hh).1
              simp [he, heE, hA0]
            · simp [he]
              cases E i <;> cases A i <;> cases B i <;> rfl
          omega
  termination_by m => m
  decreasing_by all_goals omega
end Go.Proofs.Yticickicfigpbaa
