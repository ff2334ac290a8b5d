/- TUTTE, BERGE; GALLAI: of the bonds of a graph, as matchings: as many nodes are left over by the best as there are odd parts behind some wall, less the wall; and behind no wall more. Plain facts, of no program. -/
import Derived.Test.YticickicfigpbaaKonigP
namespace Go.Proofs.Yticickicfigpbaa

section
variable {n : Nat} {A B : Nat → Bool}
theorem sizeP_sub : ∀ {n : Nat}, (∀ i, i < n → A i = true → B i = true) → sizeP A n ≤ sizeP B n := fun {n} h => sumTo_le n fun j hj => by
  by_cases ha : A j = true
  · rw [if_pos ha, if_pos (h j hj ha)]; exact Nat.le_refl _
  · rw [if_neg ha]; exact Nat.zero_le _
theorem sizeP_lt (h : ∀ i, A i = true → B i = true) {u : Nat} (hu : u < n) (h1 : A u = false) (h2 : B u = true) : sizeP A n < sizeP B n := by
  refine sumTo_one (i := u) (fun j _ => ?_) ?_ n hu
  · by_cases ha : A j = true
    · rw [if_pos ha, if_pos (h j ha)]; exact Nat.le_refl _
    · rw [if_neg ha]; exact Nat.zero_le _
  · rw [if_neg (by simp [h1]), if_pos h2]; exact Nat.le_refl _
/-- Without one. -/
def delB (A : Nat → Bool) (i : Nat) : Nat → Bool := fun x => A x && !decide (x = i)
theorem delB_iff {i x : Nat} : delB A i x = true ↔ A x = true ∧ x ≠ i := by simp [delB]
theorem sizeP_del {i : Nat} (ha : A i = true) : ∀ {n : Nat}, i < n → sizeP A n = sizeP (delB A i) n + 1
  | n + 1, h => by
    rw [sizeP_succ, sizeP_succ]
    by_cases hin : i = n
    · subst hin
      have e : sizeP (delB A i) i = sizeP A i := sizeP_congr i fun j hj => by simp [delB, show j ≠ i by omega]
      rw [e, if_pos ha, if_neg (by simp [delB])]
    · have ih := sizeP_del ha (show i < n by omega)
      rw [ih]
      have e : delB A i n = A n := by simp [delB, show n ≠ i from fun e => hin e.symm]
      rw [e]; omega
theorem sizeP_pos : ∀ {n : Nat}, 0 < sizeP A n → ∃ i, i < n ∧ A i = true
  | 0, h => absurd h (by simp [sizeP, sumTo])
  | n + 1, h => by
    rw [sizeP_succ] at h
    by_cases ha : A n = true
    · exact ⟨n, by omega, ha⟩
    · rw [if_neg ha] at h
      obtain ⟨i, h1, h2⟩ := sizeP_pos (show 0 < sizeP A n by omega)
      exact ⟨i, by omega, h2⟩
theorem sizeP_none (h : ∀ i, i < n → A i = false) : sizeP A n = 0 := sumTo_zero n fun j hj => if_neg (by simp [h j hj])
theorem sizeP_two {t : Nat} (h : 2 ≤ sizeP A n) : ∃ x, x < n ∧ A x = true ∧ x ≠ t := by
  by_cases ht : t < n ∧ A t = true
  · have := sizeP_del ht.2 ht.1
    obtain ⟨x, h1, h2⟩ := sizeP_pos (show 0 < sizeP (delB A t) n by omega)
    obtain ⟨h3, h4⟩ := delB_iff.1 h2
    exact ⟨x, h1, h3, h4⟩
  · obtain ⟨x, h1, h2⟩ := sizeP_pos (show 0 < sizeP A n by omega)
    exact ⟨x, h1, h2, fun e => ht (by subst e; exact ⟨h1, h2⟩)⟩
theorem sizeP_part (A B : Nat → Bool) : ∀ n, sizeP A n = sizeP (fun i => A i && B i) n + sizeP (fun i => A i && !B i) n
  | 0 => rfl
  | n + 1 => by
    rw [sizeP_succ, sizeP_succ, sizeP_succ, sizeP_part A B n]
    cases ha : A n <;> cases hb : B n <;> simp <;> omega
/-- An injection. -/
theorem sizeP_inj : ∀ (c : Nat) {A B : Nat → Bool} {m : Nat → Nat}, sizeP A n = c → (∀ i, i < n → A i = true → m i < n ∧ B (m i) = true) → (∀ i j, i < n → j < n → A i = true → A j = true → m i = m j → i = j) → sizeP A n ≤ sizeP B n
  | 0, A, B, m, hc, _, _ => by rw [hc]; exact Nat.zero_le _
  | c + 1, A, B, m, hc, h1, h2 => by
    obtain ⟨i, hi, ha⟩ := sizeP_pos (show 0 < sizeP A n by omega)
    obtain ⟨g1, g2⟩ := h1 i hi ha
    have e1 := sizeP_del ha hi
    have e2 := sizeP_del g2 g1
    have := sizeP_inj c (A := delB A i) (B := delB B (m i)) (m := m) (by omega) (fun j hj hA => by
      obtain ⟨k1, k2⟩ := delB_iff.1 hA
      obtain ⟨k3, k4⟩ := h1 j hj k1
      exact ⟨k3, delB_iff.2 ⟨k4, fun e => k2 (h2 j i hj hi k1 ha e)⟩⟩) fun a b ha' hb' hA hB e => h2 a b ha' hb' (delB_iff.1 hA).1 (delB_iff.1 hB).1 e
    omega
/-- A set whose members are in pairs is even. -/
theorem even_pairs : ∀ (c : Nat) {A : Nat → Bool} {m : Nat → Nat}, sizeP A n ≤ c → (∀ i, i < n → A i = true → m i < n ∧ A (m i) = true ∧ m (m i) = i ∧ m i ≠ i) → sizeP A n % 2 = 0
  | 0, A, m, hc, _ => by rw [show sizeP A n = 0 by omega]
  | c + 1, A, m, hc, h => by
    rcases Nat.eq_zero_or_pos (sizeP A n) with h0 | h0
    · rw [h0]
    · obtain ⟨i, hi, ha⟩ := sizeP_pos h0
      obtain ⟨g1, g2, g3, g4⟩ := h i hi ha
      have e1 := sizeP_del ha hi
      have e2 := sizeP_del (A := delB A i) (delB_iff.2 ⟨g2, g4⟩) g1
      have := even_pairs c (A := delB (delB A i) (m i)) (m := m) (by omega) fun j hj hA => by
        obtain ⟨k1, k2⟩ := delB_iff.1 hA
        obtain ⟨k3, k4⟩ := delB_iff.1 k1
        obtain ⟨q1, q2, q3, q4⟩ := h j hj k3
        refine ⟨q1, delB_iff.2 ⟨delB_iff.2 ⟨q2, fun e => k2 (by rw [← q3, e])⟩, fun e => k4 (by rw [← q3, e, g3])⟩, q3, q4⟩
      omega
theorem sumTo_ind (v : Nat) : ∀ N, sumTo (fun i => if v = i then 1 else 0) N = if v < N then 1 else 0
  | 0 => rfl
  | N + 1 => by
    simp only [sumTo]
    rw [sumTo_ind v N]
    by_cases h1 : v < N
    · rw [if_pos h1, if_neg (by omega), if_pos (by omega)]
    · by_cases h2 : v = N
      · rw [if_neg h1, if_pos h2, if_pos (by omega)]
      · rw [if_neg h1, if_neg h2, if_neg (by omega)]
/-- A set by its parts. -/
theorem sizeP_parts {N : Nat} {lab : Nat → Nat} : ∀ k, (∀ j, j < k → A j = true → lab j < N) → sumTo (fun i => sizeP (fun j => A j && decide (lab j = i)) k) N = sizeP A k
  | 0, _ => sumTo_zero N fun _ _ => rfl
  | k + 1, h => by
    have ih := sizeP_parts k fun j hj => h j (by omega)
    have e : sumTo (fun i => sizeP (fun j => A j && decide (lab j = i)) (k + 1)) N = sumTo (fun i => sizeP (fun j => A j && decide (lab j = i)) k + (if (A k && decide (lab k = i)) = true then 1 else 0)) N := sumTo_congr N fun i _ => sizeP_succ _ k
    rw [e, sumTo_add, ih, sizeP_succ]
    congr 1
    by_cases hA : A k = true
    · rw [if_pos hA]
      have e2 : sumTo (fun i => if (A k && decide (lab k = i)) = true then 1 else 0) N = sumTo (fun i => if lab k = i then 1 else 0) N := sumTo_congr N fun i _ => by simp [hA]
      rw [e2, sumTo_ind, if_pos (h k (by omega) hA)]
    · rw [if_neg hA]
      exact sumTo_zero N fun i _ => if_neg (by simp [hA])
end

/-- Whom each node of a set is bound to: itself, if to nobody. -/
structure Mat (adj : Nat → Nat → Bool) (n : Nat) (S : Nat → Bool) (m : Nat → Nat) : Prop where
  in_ : ∀ i, i < n → S i = true → m i < n ∧ S (m i) = true
  inv : ∀ i, i < n → S i = true → m (m i) = i
  adj_ : ∀ i, i < n → S i = true → m i ≠ i → adj i (m i) = true
/-- Who is left over. -/
def fixB (S : Nat → Bool) (m : Nat → Nat) : Nat → Bool := fun i => S i && decide (m i = i)
theorem fixB_iff {S : Nat → Bool} {m : Nat → Nat} {i : Nat} : fixB S m i = true ↔ S i = true ∧ m i = i := by simp [fixB]
/-- Linked within a set by so many steps. -/
def lnkS (adj : Nat → Nat → Bool) (n : Nat) (S : Nat → Bool) : Nat → Nat → Nat → Prop
  | 0, u, v => u = v
  | k + 1, u, v => ∃ t, t < n ∧ S t = true ∧ lnkS adj n S k u t ∧ adj t v = true
/-- Names of the parts within a set. -/
structure LabOK (adj : Nat → Nat → Bool) (n : Nat) (T : Nat → Bool) (lab : Nat → Nat) : Prop where
  lt : ∀ a, a < n → T a = true → lab a < n
  near : ∀ a b, a < n → b < n → T a = true → T b = true → adj a b = true → lab a = lab b
  far : ∀ a b, a < n → b < n → T a = true → T b = true → lab a = lab b → ∃ k, lnkS adj n T k a b
/-- How many parts are odd. -/
def oddS (n : Nat) (lab : Nat → Nat) (T : Nat → Bool) : Nat := sumTo (fun i => sizeP (fun j => T j && decide (lab j = i)) n % 2) n
section
variable {adj : Nat → Nat → Bool} {n : Nat} {S : Nat → Bool} {m : Nat → Nat}
theorem Mat.par (H : Mat adj n S m) : sizeP S n % 2 = sizeP (fixB S m) n % 2 := by
  have h1 := sizeP_part S (fun i => decide (m i = i)) n
  have h2 : sizeP (fun i => S i && !decide (m i = i)) n % 2 = 0 := even_pairs _ (m := m) (Nat.le_refl _) fun i hi hA => by
    simp only [Bool.and_eq_true, Bool.not_eq_true', decide_eq_false_iff_not] at hA ⊢
    obtain ⟨g1, g2⟩ := H.in_ i hi hA.1
    have g3 := H.inv i hi hA.1
    exact ⟨g1, ⟨g2, fun e => hA.2 (by rw [g3] at e; exact e.symm)⟩, g3, hA.2⟩
  have e : sizeP (fun i => S i && decide (m i = i)) n = sizeP (fixB S m) n := rfl
  omega
/-- BERGE: behind no wall more parts are odd than are left over, and than the wall has. -/
theorem berge_le {T : Nat → Bool} {lab : Nat → Nat} (H : Mat adj n (fun _ => true) m) (hlt : ∀ a, a < n → T a = true → lab a < n) (hnear : ∀ a b, a < n → b < n → T a = true → T b = true → adj a b = true → lab a = lab b) :
    oddS n lab T + sizeP T n ≤ n + sizeP (fixB (fun _ => true) m) n := by
  have hbad : oddS n lab T ≤ sumTo (fun i => sizeP (fun j => (T j && (decide (m j = j) || !T (m j))) && decide (lab j = i)) n) n := sumTo_le n fun i _ => by
    rcases Nat.eq_zero_or_pos (sizeP (fun j => (T j && (decide (m j = j) || !T (m j))) && decide (lab j = i)) n) with h0 | h0
    · rw [h0]
      have hno : ∀ j, j < n → T j = true → lab j = i → m j ≠ j ∧ T (m j) = true := fun j hj h1 h2 => by
        have hz : (T j && (decide (m j = j) || !T (m j)) && decide (lab j = i)) = false := by
          cases hb : (T j && (decide (m j = j) || !T (m j)) && decide (lab j = i)) with
          | false => rfl
          | true =>
            have := sizeP_del (A := fun j => (T j && (decide (m j = j) || !T (m j))) && decide (lab j = i)) hb hj
            omega
        rw [h1, decide_eq_true h2] at hz
        simp at hz
        exact ⟨hz.1, hz.2⟩
      rw [even_pairs _ (m := m) (Nat.le_refl _) fun j hj hA => ?_]
      · exact Nat.le_refl _
      · simp only [Bool.and_eq_true, decide_eq_true_eq] at hA ⊢
        obtain ⟨g1, g2⟩ := hno j hj hA.1 hA.2
        obtain ⟨g3, _⟩ := H.in_ j hj rfl
        have g4 := hnear j (m j) hj g3 hA.1 g2 (H.adj_ j hj rfl g1)
        exact ⟨g3, ⟨g2, by rw [← g4]; exact hA.2⟩, H.inv j hj rfl, g1⟩
    · have := Nat.mod_lt (sizeP (fun j => T j && decide (lab j = i)) n) (show 0 < 2 by omega)
      omega
  rw [sizeP_parts (A := fun j => T j && (decide (m j = j) || !T (m j))) n (fun j hj hA => hlt j hj (by simp only [Bool.and_eq_true] at hA; exact hA.1))] at hbad
  have h1 := sizeP_part (fun j => T j && (decide (m j = j) || !T (m j))) (fun j => decide (m j = j)) n
  have h2 : sizeP (fun i => (T i && (decide (m i = i) || !T (m i))) && decide (m i = i)) n ≤ sizeP (fixB (fun _ => true) m) n := sizeP_sub fun i _ h => by
    simp only [Bool.and_eq_true] at h
    exact fixB_iff.2 ⟨rfl, by simpa using h.2⟩
  have h3 : sizeP (fun i => (T i && (decide (m i = i) || !T (m i))) && !decide (m i = i)) n ≤ sizeP (fun i => !T i) n := sizeP_inj _ (m := m) rfl (fun i hi h => by
    simp only [Bool.and_eq_true, Bool.or_eq_true, decide_eq_true_eq, Bool.not_eq_true', decide_eq_false_iff_not] at h ⊢
    exact ⟨(H.in_ i hi rfl).1, h.1.2.resolve_left h.2⟩) fun i j hi hj _ _ e => by rw [← H.inv i hi rfl, ← H.inv j hj rfl, e]
  have h4 := sizeP_not T n
  omega
/-- One with the least left over. -/
def Least (adj : Nat → Nat → Bool) (n : Nat) (S : Nat → Bool) (m : Nat → Nat) : Prop := Mat adj n S m ∧ ∀ m', Mat adj n S m' → sizeP (fixB S m) n ≤ sizeP (fixB S m') n
theorem mat_id : Mat adj n S id := ⟨fun _i hi h => ⟨hi, h⟩, fun _ _ _ => rfl, fun _i _ _ h => absurd rfl h⟩
theorem least_ex : ∃ m, Least adj n S m := by
  have : ∀ c m, Mat adj n S m → sizeP (fixB S m) n ≤ c → ∃ m, Least adj n S m := fun c => by
    induction c with
    | zero => exact fun m hm h0 => ⟨m, hm, fun m' _ => by omega⟩
    | succ c ih =>
      intro m hm hc
      by_cases h : ∃ m', Mat adj n S m' ∧ sizeP (fixB S m') n ≤ c
      · obtain ⟨m', h1, h2⟩ := h
        exact ih m' h1 h2
      · exact ⟨m, hm, fun m' h1 => by
          have : ¬ sizeP (fixB S m') n ≤ c := fun h2 => h ⟨m', h1, h2⟩
          omega⟩
  exact this _ id mat_id (Nat.le_refl _)
/-- Among those that leave t over, one that agrees with m the most. -/
theorem agree_ex {t : Nat} (h : ∃ N, Least adj n S N ∧ N t = t) : ∃ N, Least adj n S N ∧ N t = t ∧ ∀ N', Least adj n S N' → N' t = t → sizeP (fun i => S i && decide (m i = N' i)) n ≤ sizeP (fun i => S i && decide (m i = N i)) n := by
  have : ∀ c N, Least adj n S N → N t = t → n ≤ sizeP (fun i => S i && decide (m i = N i)) n + c → ∃ N, Least adj n S N ∧ N t = t ∧ ∀ N', Least adj n S N' → N' t = t → sizeP (fun i => S i && decide (m i = N' i)) n ≤ sizeP (fun i => S i && decide (m i = N i)) n := fun c => by
    induction c with
    | zero => exact fun N h1 h2 h3 => ⟨N, h1, h2, fun N' _ _ => by have := sizeP_le (fun i => S i && decide (m i = N' i)) n; omega⟩
    | succ c ih =>
      intro N h1 h2 h3
      by_cases hb : ∃ N', Least adj n S N' ∧ N' t = t ∧ sizeP (fun i => S i && decide (m i = N i)) n < sizeP (fun i => S i && decide (m i = N' i)) n
      · obtain ⟨N', g1, g2, g3⟩ := hb
        exact ih N' g1 g2 (by omega)
      · exact ⟨N, h1, h2, fun N' g1 g2 => by
          have : ¬ sizeP (fun i => S i && decide (m i = N i)) n < sizeP (fun i => S i && decide (m i = N' i)) n := fun g3 => hb ⟨N', g1, g2, g3⟩
          omega⟩
  obtain ⟨N, h1, h2⟩ := h
  exact this n N h1 h2 (by omega)
variable (hsym : ∀ a b, adj a b = adj b a)
include hsym
/-- Two that have an edge are not both left over. -/
theorem no_aug (H : Least adj n S m) {u v : Nat} (hu : u < n) (hv : v < n) (hSu : S u = true) (hSv : S v = true) (huv : u ≠ v) (ha : adj u v = true) : ¬ (m u = u ∧ m v = v) := by
  rintro ⟨h1, h2⟩
  have hne : ∀ i, i < n → S i = true → i ≠ u → i ≠ v → m i ≠ u ∧ m i ≠ v := fun i hi hSi hiu hiv => by
    have := H.1.inv i hi hSi
    exact ⟨fun e => hiu (by rw [← this, e, h1]), fun e => hiv (by rw [← this, e, h2])⟩
  have hM : Mat adj n S (fun i => if i = u then v else if i = v then u else m i) := by
    refine ⟨fun i hi hSi => ?_, fun i hi hSi => ?_, fun i hi hSi hi2 => ?_⟩
    · by_cases e1 : i = u
      · simp only [if_pos e1]; exact ⟨hv, hSv⟩
      · by_cases e2 : i = v
        · simp only [if_neg e1, if_pos e2]; exact ⟨hu, hSu⟩
        · simp only [if_neg e1, if_neg e2]; exact H.1.in_ i hi hSi
    · by_cases e1 : i = u
      · simp only [if_pos e1, if_neg (Ne.symm huv), if_true]; exact e1.symm
      · by_cases e2 : i = v
        · simp only [if_neg e1, if_pos e2, if_true]; exact e2.symm
        · obtain ⟨g1, g2⟩ := hne i hi hSi e1 e2
          simp only [if_neg e1, if_neg e2, if_neg g1, if_neg g2]; exact H.1.inv i hi hSi
    · by_cases e1 : i = u
      · simp only [if_pos e1]; rw [e1]; exact ha
      · by_cases e2 : i = v
        · simp only [if_neg e1, if_pos e2]; rw [e2, hsym]; exact ha
        · simp only [if_neg e1, if_neg e2] at hi2 ⊢; exact H.1.adj_ i hi hSi hi2
  have := H.2 _ hM
  have hlt : sizeP (fixB S (fun i => if i = u then v else if i = v then u else m i)) n < sizeP (fixB S m) n := sizeP_lt (u := u) (fun i hi => by
    obtain ⟨g1, g2⟩ := fixB_iff.1 hi
    refine fixB_iff.2 ⟨g1, ?_⟩
    by_cases e1 : i = u
    · rw [e1]; exact h1
    · by_cases e2 : i = v
      · rw [e2]; exact h2
      · simp only [if_neg e1, if_neg e2] at g2; exact g2) hu (by
      cases hb : fixB S (fun i => if i = u then v else if i = v then u else m i) u with
      | false => rfl
      | true =>
        have := (fixB_iff.1 hb).2
        simp only [if_true] at this
        exact absurd this.symm huv) (fixB_iff.2 ⟨hSu, h1⟩)
  omega
/-- GALLAI: where each one is left over by some best one, no two that are linked are left over by the same. -/
theorem gallai (hall : ∀ t, t < n → S t = true → ∃ N, Least adj n S N ∧ N t = t) : ∀ (k u v : Nat) (M : Nat → Nat), u < n → v < n → S u = true → S v = true → lnkS adj n S k u v → u ≠ v → Least adj n S M → ¬ (M u = u ∧ M v = v)
  | 0, u, v, M, _, _, _, _, hl, huv, _ => absurd hl huv
  | k + 1, u, v, M, hu, hv, hSu, hSv, ⟨t, ht, hSt, hl, hta⟩, huv, HM => by
    rintro ⟨hMu, hMv⟩
    by_cases htu : t = u
    · subst htu
      exact no_aug hsym HM hu hv hSu hSv huv hta ⟨hMu, hMv⟩
    by_cases htv : t = v
    · subst htv
      exact gallai hall k u t M hu hv hSu hSv hl huv HM ⟨hMu, hMv⟩
    have hMt : M t ≠ t := fun e => no_aug hsym HM ht hv hSt hSv htv hta ⟨e, hMv⟩
    obtain ⟨N, HN, hNt, hmax⟩ := agree_ex (m := M) (hall t ht hSt)
    have hNu : N u ≠ u := fun e => gallai hall k u t N hu ht hSu hSt hl (Ne.symm htu) HN ⟨e, hNt⟩
    have hNv : N v ≠ v := fun e => no_aug hsym HN ht hv hSt hSv htv hta ⟨hNt, e⟩
    -- two at least are left over by M and not by N, so two by N and not by M
    have hfe : sizeP (fixB S M) n = sizeP (fixB S N) n := Nat.le_antisymm (HM.2 N HN.1) (HN.2 M HM.1)
    have p1 := sizeP_part (fixB S M) (fixB S N) n
    have p2 := sizeP_part (fixB S N) (fixB S M) n
    have p3 : sizeP (fun i => fixB S M i && fixB S N i) n = sizeP (fun i => fixB S N i && fixB S M i) n := sizeP_congr n fun i _ => Bool.and_comm _ _
    have hb : ∀ x, S x = true → M x = x → N x ≠ x → (fixB S M x && !fixB S N x) = true := fun x h1 h2 h3 => by
      rw [fixB_iff.2 ⟨h1, h2⟩]
      cases hx : fixB S N x with
      | false => rfl
      | true => exact absurd (fixB_iff.1 hx).2 h3
    have e1 := sizeP_del (A := fun i => fixB S M i && !fixB S N i) (hb u hSu hMu hNu) hu
    have e2 := sizeP_del (A := delB (fun i => fixB S M i && !fixB S N i) u) (delB_iff.2 ⟨hb v hSv hMv hNv, Ne.symm huv⟩) hv
    obtain ⟨x, hx, hxb, hxt⟩ := sizeP_two (t := t) (show 2 ≤ sizeP (fun i => fixB S N i && !fixB S M i) n by omega)
    simp only [Bool.and_eq_true, Bool.not_eq_true'] at hxb
    obtain ⟨hSx, hNx⟩ := fixB_iff.1 hxb.1
    have hMx : M x ≠ x := fun e => by
      have := fixB_iff.2 ⟨hSx, e⟩
      rw [hxb.2] at this; cases this
    obtain ⟨hy, hSy⟩ := HM.1.in_ x hx hSx
    have hMy : M (M x) = x := HM.1.inv x hx hSx
    have hxy : adj x (M x) = true := HM.1.adj_ x hx hSx hMx
    generalize hye : M x = y at hMx hy hSy hMy hxy
    have hyx : y ≠ x := hMx
    have hNy : N y ≠ y := fun e => no_aug hsym HN hx hy hSx hSy (Ne.symm hyx) hxy ⟨hNx, e⟩
    obtain ⟨hz, hSz⟩ := HN.1.in_ y hy hSy
    have hNz : N (N y) = y := HN.1.inv y hy hSy
    generalize hze : N y = z at hNy hz hSz hNz
    have hzx : z ≠ x := fun e => by rw [e, hNx] at hNz; exact hyx hNz.symm
    have hty : t ≠ y := fun e => by rw [← e, hNt] at hze; exact hNy (by rw [← hze, e])
    have htz : t ≠ z := fun e => by rw [← e, hNt] at hNz; exact hty hNz
    -- the other one
    have hne : ∀ i, i < n → S i = true → i ≠ x → i ≠ y → i ≠ z → N i ≠ x ∧ N i ≠ y ∧ N i ≠ z := fun i hi hSi a1 a2 a3 => by
      have h := HN.1.inv i hi hSi
      refine ⟨fun e => a1 ?_, fun e => a3 ?_, fun e => a2 ?_⟩
      · rw [← h, e, hNx]
      · rw [← h, e, hze]
      · rw [← h, e, hNz]
    have hM2 : Mat adj n S (fun i => if i = x then y else if i = y then x else if i = z then z else N i) := by
      refine ⟨fun i hi hSi => ?_, fun i hi hSi => ?_, fun i hi hSi hi2 => ?_⟩
      · by_cases a1 : i = x
        · simp only [if_pos a1]; exact ⟨hy, hSy⟩
        · by_cases a2 : i = y
          · simp only [if_neg a1, if_pos a2]; exact ⟨hx, hSx⟩
          · by_cases a3 : i = z
            · simp only [if_neg a1, if_neg a2, if_pos a3]; exact ⟨hz, hSz⟩
            · simp only [if_neg a1, if_neg a2, if_neg a3]; exact HN.1.in_ i hi hSi
      · by_cases a1 : i = x
        · simp only [if_pos a1, if_neg hyx, if_true]; exact a1.symm
        · by_cases a2 : i = y
          · simp only [if_neg a1, if_pos a2, if_true]; exact a2.symm
          · by_cases a3 : i = z
            · simp only [if_neg a1, if_neg a2, if_pos a3, if_neg hzx, if_neg hNy, if_true]; exact a3.symm
            · obtain ⟨b1, b2, b3⟩ := hne i hi hSi a1 a2 a3
              simp only [if_neg a1, if_neg a2, if_neg a3, if_neg b1, if_neg b2, if_neg b3]; exact HN.1.inv i hi hSi
      · by_cases a1 : i = x
        · simp only [if_pos a1]; rw [a1]; exact hxy
        · by_cases a2 : i = y
          · simp only [if_neg a1, if_pos a2]; rw [a2, hsym]; exact hxy
          · by_cases a3 : i = z
            · simp only [if_neg a1, if_neg a2, if_pos a3] at hi2; exact absurd a3.symm hi2
            · simp only [if_neg a1, if_neg a2, if_neg a3] at hi2 ⊢; exact HN.1.adj_ i hi hSi hi2
    have hfix : sizeP (fixB S (fun i => if i = x then y else if i = y then x else if i = z then z else N i)) n ≤ sizeP (fixB S N) n := by
      have q1 := sizeP_del (A := fixB S N) (fixB_iff.2 ⟨hSx, hNx⟩) hx
      have q2 := sizeP_del (A := fixB S (fun i => if i = x then y else if i = y then x else if i = z then z else N i)) (i := z) (fixB_iff.2 ⟨hSz, by simp only [if_neg hzx, if_neg hNy, if_true]⟩) hz
      have q3 : sizeP (delB (fixB S (fun i => if i = x then y else if i = y then x else if i = z then z else N i)) z) n ≤ sizeP (delB (fixB S N) x) n := sizeP_sub fun i _ hi => by
        obtain ⟨c1, c2⟩ := delB_iff.1 hi
        obtain ⟨c3, c4⟩ := fixB_iff.1 c1
        by_cases a1 : i = x
        · simp only [if_pos a1] at c4; exact absurd (c4.trans a1) hyx
        · by_cases a2 : i = y
          · simp only [if_neg a1, if_pos a2] at c4; exact absurd c4.symm a1
          · simp only [if_neg a1, if_neg a2, if_neg c2] at c4
            exact delB_iff.2 ⟨fixB_iff.2 ⟨c3, c4⟩, a1⟩
      omega
    have hL2 : Least adj n S (fun i => if i = x then y else if i = y then x else if i = z then z else N i) := ⟨hM2, fun m' hm' => Nat.le_trans hfix (HN.2 m' hm')⟩
    have hag := hmax _ hL2 (by simp only [if_neg (Ne.symm hxt), if_neg hty, if_neg htz]; exact hNt)
    have hlt : sizeP (fun i => S i && decide (M i = N i)) n < sizeP (fun i => S i && decide (M i = (fun i => if i = x then y else if i = y then x else if i = z then z else N i) i)) n := sizeP_lt (u := x) (fun i hi => by
      simp only [Bool.and_eq_true, decide_eq_true_eq] at hi ⊢
      refine ⟨hi.1, ?_⟩
      have a1 : i ≠ x := fun e => by rw [e, hye, hNx] at hi; exact hyx hi.2
      have a2 : i ≠ y := fun e => by rw [e, hMy, hze] at hi; exact hzx hi.2.symm
      have a3 : i ≠ z := fun e => by
        rw [e, hNz] at hi
        have : M (M z) = M y := by rw [hi.2]
        rw [HM.1.inv z hz hSz, hMy] at this
        exact hzx this
      rw [if_neg a1, if_neg a2, if_neg a3]; exact hi.2) hx (by
        cases hb : (S x && decide (M x = N x)) with
        | false => rfl
        | true =>
          simp only [Bool.and_eq_true, decide_eq_true_eq] at hb
          rw [hye, hNx] at hb
          exact absurd hb.2 hyx) (by simp only [if_true, Bool.and_eq_true, decide_eq_true_eq]; exact ⟨hSx, hye⟩)
    exact Nat.not_le_of_lt hlt hag
/-- TUTTE, BERGE: behind some wall (T: what is not of it) as many parts are odd as are left over by a best one, and as the wall has. -/
theorem tutte_ex : ∀ (c : Nat) (S : Nat → Bool), sizeP S n = c → ∃ (T : Nat → Bool) (m : Nat → Nat), (∀ i, T i = true → S i = true) ∧ Mat adj n S m ∧ ∀ lab, LabOK adj n T lab → sizeP (fixB S m) n + sizeP S n ≤ oddS n lab T + sizeP T n
  | c, S, hc => by
    by_cases hall : ∀ t, t < n → S t = true → ∃ N, Least adj n S N ∧ N t = t
    · obtain ⟨m, hm⟩ := least_ex (adj := adj) (n := n) (S := S)
      refine ⟨S, m, fun i h => h, hm.1, fun lab hL => ?_⟩
      have hparts := sizeP_parts (A := fixB S m) (N := n) (lab := lab) n fun j hj h => hL.lt j hj (fixB_iff.1 h).1
      have : sumTo (fun i => sizeP (fun j => fixB S m j && decide (lab j = i)) n) n ≤ oddS n lab S := sumTo_le n fun i _ => by
        -- one at most is left over in each part
        have h1 : sizeP (fun j => fixB S m j && decide (lab j = i)) n ≤ 1 := by
          apply Nat.le_of_not_lt
          intro h2
          obtain ⟨x, hx, hxb⟩ := sizeP_pos (show 0 < sizeP (fun j => fixB S m j && decide (lab j = i)) n by omega)
          obtain ⟨y, hy, hyb, hyx⟩ := sizeP_two (t := x) (show 2 ≤ sizeP (fun j => fixB S m j && decide (lab j = i)) n by omega)
          simp only [Bool.and_eq_true, decide_eq_true_eq] at hxb hyb
          obtain ⟨a1, a2⟩ := fixB_iff.1 hxb.1
          obtain ⟨b1, b2⟩ := fixB_iff.1 hyb.1
          obtain ⟨k, hk⟩ := hL.far x y hx hy a1 b1 (by rw [hxb.2, hyb.2])
          exact gallai hsym hall k x y m hx hy a1 b1 hk (Ne.symm hyx) hm ⟨a2, b2⟩
        have h2 := sizeP_part (fun j => S j && decide (lab j = i)) (fun j => decide (m j = j)) n
        have h3 : sizeP (fun j => (S j && decide (lab j = i)) && !decide (m j = j)) n % 2 = 0 := even_pairs _ (m := m) (Nat.le_refl _) fun j hj hA => by
          simp only [Bool.and_eq_true, Bool.not_eq_true', decide_eq_true_eq, decide_eq_false_iff_not] at hA ⊢
          obtain ⟨g1, g2⟩ := hm.1.in_ j hj hA.1.1
          have g3 := hm.1.inv j hj hA.1.1
          have g4 := hL.near j (m j) hj g1 hA.1.1 g2 (hm.1.adj_ j hj hA.1.1 hA.2)
          exact ⟨g1, ⟨⟨g2, by rw [← g4]; exact hA.1.2⟩, fun e => hA.2 (by rw [g3] at e; exact e.symm)⟩, g3, hA.2⟩
        have h4 : sizeP (fun j => (S j && decide (lab j = i)) && decide (m j = j)) n = sizeP (fun j => fixB S m j && decide (lab j = i)) n := sizeP_congr n fun j _ => by
          unfold fixB
          cases S j <;> cases decide (lab j = i) <;> cases decide (m j = j) <;> rfl
        omega
      omega
    · obtain ⟨v, hv, hSv, hno⟩ : ∃ v, v < n ∧ S v = true ∧ ¬ ∃ N, Least adj n S N ∧ N v = v := by
        apply Classical.byContradiction
        intro h
        exact hall fun t ht hSt => Classical.byContradiction fun h2 => h ⟨t, ht, hSt, h2⟩
      have hd := sizeP_del hSv hv
      obtain ⟨T, m', h1, h2, h3⟩ := tutte_ex (c - 1) (delB S v) (by omega)
      obtain ⟨m, hm⟩ := least_ex (adj := adj) (n := n) (S := S)
      refine ⟨T, m, fun i hi => (delB_iff.1 (h1 i hi)).1, hm.1, fun lab hL => ?_⟩
      have h4 := h3 lab hL
      -- the other one, with v left over
      have hnv : ∀ i, i < n → delB S v i = true → m' i ≠ v := fun i hi hS e => by
        have := (h2.in_ i hi hS).2
        rw [e] at this
        exact (delB_iff.1 this).2 rfl
      have hM : Mat adj n S (fun i => if i = v then v else m' i) := by
        have hS : ∀ i, S i = true → i ≠ v → delB S v i = true := fun i h1 h2 => delB_iff.2 ⟨h1, h2⟩
        refine ⟨fun i hi hSi => ?_, fun i hi hSi => ?_, fun i hi hSi hi2 => ?_⟩
        · by_cases e : i = v
          · simp only [if_pos e]; exact ⟨hv, hSv⟩
          · simp only [if_neg e]
            obtain ⟨g1, g2⟩ := h2.in_ i hi (hS i hSi e)
            exact ⟨g1, (delB_iff.1 g2).1⟩
        · by_cases e : i = v
          · simp only [if_pos e, if_true]; exact e.symm
          · simp only [if_neg e, if_neg (hnv i hi (hS i hSi e))]; exact h2.inv i hi (hS i hSi e)
        · by_cases e : i = v
          · simp only [if_pos e] at hi2; exact absurd e.symm hi2
          · simp only [if_neg e] at hi2 ⊢; exact h2.adj_ i hi (hS i hSi e) hi2
      have hf : sizeP (fixB S (fun i => if i = v then v else m' i)) n = sizeP (fixB (delB S v) m') n + 1 := by
        rw [sizeP_del (i := v) (A := fixB S (fun i => if i = v then v else m' i)) (fixB_iff.2 ⟨hSv, if_pos rfl⟩) hv]
        congr 1
        refine sizeP_congr n fun i _ => ?_
        unfold delB fixB
        by_cases e : i = v
        · simp [e]
        · simp [e]
      have p1 := hm.1.par
      have p2 := h2.par
      have hge : sizeP (fixB S m) n < sizeP (fixB (delB S v) m') n + 1 := by
        apply Nat.lt_of_not_le
        intro hle
        exact hno ⟨_, ⟨hM, fun m'' hm'' => by rw [hf]; exact Nat.le_trans hle (hm.2 m'' hm'')⟩, if_pos rfl⟩
      omega
  termination_by c S _hc => c
  decreasing_by
    have := sizeP_del hSv hv
    omega
end
end Go.Proofs.Yticickicfigpbaa
