/- CARO, WEI; TURAN, MANTEL; RAMSEY, GREENWOOD, GLEASON; GALLAI. Plain facts, of no program. -/
import Derived.Test.YticickicfigpbaaGossipP
import Derived.Test.YticickicfigpbaaBrooksP
namespace Go.Proofs.Yticickicfigpbaa

def ClqB (adj : Nat → Nat → Bool) (K : BS) : Prop := ∀ i j, K i = true → K j = true → i ≠ j → adj i j = true
def LseB (adj : Nat → Nat → Bool) (K : BS) : Prop := ∀ i j, K i = true → K j = true → adj i j = false
/-- All that some have together. -/
def sumA (A : BS) (f : Nat → Nat) (n : Nat) : Nat := sumTo (fun i => if A i = true then f i else 0) n
section
variable {n : Nat} {A B K : BS} {f g : Nat → Nat} {adj : Nat → Nat → Bool}
theorem sumA_part (A B : BS) (f : Nat → Nat) (n : Nat) : sumA A f n = sumA (fun i => A i && B i) f n + sumA (fun i => A i && !B i) f n := by
  unfold sumA
  rw [← sumTo_add]
  refine sumTo_congr n fun i _ => ?_
  show _ = (if (A i && B i) = true then f i else 0) + (if (A i && !B i) = true then f i else 0)
  cases A i <;> cases B i <;> simp
theorem sumA_le (h : ∀ i, i < n → A i = true → f i ≤ g i) : sumA A f n ≤ sumA A g n := sumTo_le n fun i hi => by
  by_cases ha : A i = true
  · rw [if_pos ha, if_pos ha]; exact h i hi ha
  · rw [if_neg ha, if_neg ha]; exact Nat.le_refl _
theorem sumA_const (A : BS) (c : Nat) : ∀ n, sumA A (fun _ => c) n = sizeP A n * c
  | 0 => by simp [sumA, sizeP, sumTo]
  | n + 1 => by
    have ih := sumA_const A c n
    rw [sizeP_succ]
    unfold sumA at ih ⊢
    simp only [sumTo]
    rw [ih]
    by_cases ha : A n = true
    · rw [if_pos ha, if_pos ha, Nat.add_mul, Nat.one_mul]
    · rw [if_neg ha, if_neg ha]; rfl
theorem sumA_congr (h : ∀ i, i < n → A i = B i) : sumA A f n = sumA B f n := sumTo_congr n fun i hi => by rw [h i hi]
theorem sumA_swap (hsym : ∀ i j, adj i j = adj j i) (A B : BS) (n : Nat) : sumA A (degS adj n B) n = sumA B (degS adj n A) n := by
  have e : ∀ A B : BS, sumA A (degS adj n B) n = sumTo (fun i => sumTo (fun j => if (A i && (B j && adj i j)) = true then 1 else 0) n) n := fun A B => by
    unfold sumA degS sizeP
    refine sumTo_congr n fun i _ => ?_
    cases A i with
    | false => simp only [Bool.false_and, Bool.false_eq_true, if_false]; exact (sumTo_zero n fun _ _ => rfl).symm
    | true => simp only [Bool.true_and, if_true]
  rw [e, e, sumTo_swap (fun i j => if (A i && (B j && adj i j)) = true then 1 else 0) n n]
  refine sumTo_congr n fun i _ => sumTo_congr n fun j _ => ?_
  rw [hsym j i]
  cases A j <;> cases B i <;> simp
theorem arg_min {P : Nat → Prop} (f : Nat → Nat) : ∀ (m v : Nat), f v ≤ m → P v → ∃ w, P w ∧ ∀ u, P u → f w ≤ f u
  | 0, v, hm, hv => ⟨v, hv, fun u _ => by omega⟩
  | m + 1, v, hm, hv => by
    by_cases h : ∃ u, P u ∧ f u < f v
    · obtain ⟨u, hu, hlt⟩ := h
      exact arg_min f m u (by omega) hu
    · exact ⟨v, hv, fun u hu => Nat.le_of_not_lt fun hl => h ⟨u, hu, hl⟩⟩
theorem deg_mono (h : ∀ i, A i = true → B i = true) (v : Nat) : degS adj n A v ≤ degS adj n B v := sizeP_sub fun i _ hi => by
  rw [Bool.and_eq_true] at hi ⊢; exact ⟨h i hi.1, hi.2⟩
/-- CARO, WEI. -/
theorem wei (hsym : ∀ i j, adj i j = adj j i) (hirr : ∀ i, adj i i = false) (L : Nat) : ∀ (c : Nat) (A : BS), sizeP A n ≤ c → (∀ i, A i = true → i < n) →
    ∃ I : BS, (∀ i, I i = true → A i = true) ∧ LseB adj I ∧ sumA A (fun i => L / (degS adj n A i + 1)) n ≤ L * sizeP I n := fun c => by
  induction c with
  | zero =>
    intro A hc hA
    have hno : ∀ i, i < n → A i = false := fun i hi => by
      cases h : A i with
      | false => rfl
      | true => have := sizeP_del h hi; omega
    refine ⟨fun _ => false, fun i hi => (by cases hi), fun i j hi => (by cases hi), ?_⟩
    rw [show sumA A (fun i => L / (degS adj n A i + 1)) n = 0 from sumTo_zero n fun i hi => if_neg (by simp [hno i hi])]
    exact Nat.zero_le _
  | succ c ih =>
    intro A hc hA
    by_cases hex : ∃ v, A v = true
    case neg =>
      have hno : ∀ i, i < n → A i = false := fun i hi => by
        cases h : A i with
        | false => rfl
        | true => exact absurd ⟨i, h⟩ hex
      refine ⟨fun _ => false, fun i hi => (by cases hi), fun i j hi => (by cases hi), ?_⟩
      rw [show sumA A (fun i => L / (degS adj n A i + 1)) n = 0 from sumTo_zero n fun i hi => if_neg (by simp [hno i hi])]
      exact Nat.zero_le _
    obtain ⟨v0, hv0⟩ := hex
    obtain ⟨v, hv, hmin⟩ := arg_min (P := fun v => A v = true) (degS adj n A) _ v0 (Nat.le_refl _) hv0
    have hvn := hA v hv
    let N : BS := fun j => decide (j = v) || adj v j
    let C : BS := fun j => A j && N j
    let D : BS := fun j => A j && !N j
    have hsC : sizeP C n = degS adj n A v + 1 := by
      rw [sizeP_del (A := C) (i := v) (by show (A v && (decide (v = v) || adj v v)) = true; simp [hv]) hvn]
      congr 1
      refine sizeP_congr n fun j _ => ?_
      show (A j && (decide (j = v) || adj v j) && !decide (j = v)) = (A j && adj v j)
      by_cases hj : j = v
      · subst hj; simp [hirr]
      · simp [hj]
    have hpart := sizeP_part A N n
    have hDA : ∀ i, D i = true → A i = true := fun i hi => by
      change (A i && !N i) = true at hi
      rw [Bool.and_eq_true] at hi; exact hi.1
    obtain ⟨I, hI, hl, hs⟩ := ih D (by show sizeP (fun j => A j && !N j) n ≤ c; have : sizeP (fun j => A j && N j) n = _ := hsC; omega) (fun i hi => hA i (hDA i hi))
    have hID : ∀ i, I i = true → adj v i = false ∧ i ≠ v := fun i hi => by
      have h := hI i hi
      change (A i && !(decide (i = v) || adj v i)) = true at h
      simp at h
      exact ⟨h.2.2, h.2.1⟩
    have hIv : I v = false := by
      cases h : I v with
      | false => rfl
      | true => exact absurd rfl (hID v h).2
    refine ⟨insB I v, fun i hi => ?_, fun i j hi hj => ?_, ?_⟩
    · rcases insB_iff.1 hi with h | rfl
      · exact hDA i (hI i h)
      · exact hv
    · rcases insB_iff.1 hi with h | rfl <;> rcases insB_iff.1 hj with h' | rfl
      · exact hl i j h h'
      · rw [hsym]; exact (hID i h).1
      · exact (hID j h').1
      · exact hirr _
    · rw [sizeP_ins hvn hIv, Nat.mul_add, Nat.mul_one, sumA_part A N]
      have h1 : sumA (fun i => A i && N i) (fun i => L / (degS adj n A i + 1)) n ≤ L := by
        refine Nat.le_trans (sumA_le (g := fun _ => L / (degS adj n A v + 1)) fun i _ hi => ?_) ?_
        · refine Nat.div_le_div_left ?_ (by omega)
          have := hmin i (by rw [Bool.and_eq_true] at hi; exact hi.1)
          omega
        · rw [sumA_const, show sizeP (fun i => A i && N i) n = _ from hsC]
          exact Nat.mul_div_le L (degS adj n A v + 1)
      have h2 : sumA (fun i => A i && !N i) (fun i => L / (degS adj n A i + 1)) n ≤ sumA D (fun i => L / (degS adj n D i + 1)) n := sumA_le fun i _ _ => by
        refine Nat.div_le_div_left ?_ (by omega)
        have := deg_mono (adj := adj) (n := n) hDA i
        omega
      omega
theorem turan_num (r m x D S t : Nat) (hm : m = t + x) (hS : S ≤ D + 2 * (t * x)) (hD : D * (r + 1) ≤ r * (x * x)) : S * (r + 2) ≤ (r + 1) * (m * m) := by
  subst hm
  have h1 : S * (r + 2) * (r + 1) ≤ (D + 2 * (t * x)) * (r + 2) * (r + 1) := Nat.mul_le_mul_right _ (Nat.mul_le_mul_right _ hS)
  have h2 : D * (r + 1) * (r + 2) ≤ r * (x * x) * (r + 2) := Nat.mul_le_mul_right _ hD
  have h3 : 2 * (x * ((r + 1) * t)) ≤ x * x + (r + 1) * t * ((r + 1) * t) := by
    generalize (r + 1) * t = y
    rcases Nat.le_total x y with h | h
    · obtain ⟨k, rfl⟩ := Nat.exists_eq_add_of_le h
      have : (0 : Nat) ≤ k * k := Nat.zero_le _
      grind
    · obtain ⟨k, rfl⟩ := Nat.exists_eq_add_of_le h
      have : (0 : Nat) ≤ k * k := Nat.zero_le _
      grind
  refine Nat.le_of_mul_le_mul_right (c := r + 1) ?_ (by omega)
  grind
/-- TURAN, MANTEL. -/
theorem turan (hsym : ∀ i j, adj i j = adj j i) (hirr : ∀ i, adj i i = false) : ∀ (r : Nat) (A : BS), (∀ i, A i = true → i < n) → (∀ K, (∀ i, K i = true → A i = true) → ClqB adj K → sizeP K n ≤ r) →
    sumA A (degS adj n A) n * r ≤ (r - 1) * (sizeP A n * sizeP A n) := fun r => by
  induction r with
  | zero => intro A _ _; simp
  | succ r ih =>
    intro A hA hK
    by_cases hex : ∃ v, A v = true
    case neg =>
      rw [show sumA A (degS adj n A) n = 0 from sumTo_zero n fun i hi => if_neg fun h => hex ⟨i, h⟩]
      simp
    obtain ⟨v0, hv0⟩ := hex
    obtain ⟨v, hv, hmax'⟩ := arg_min (P := fun v => A v = true) (fun v => n - degS adj n A v) _ v0 (Nat.le_refl _) hv0
    have hdn : ∀ u, degS adj n A u ≤ n := fun u => sizeP_le _ _
    have hmax : ∀ u, A u = true → degS adj n A u ≤ degS adj n A v := fun u hu => by
      have := hmax' u hu
      have := hdn u
      have := hdn v
      omega
    have hvn := hA v hv
    let B : BS := fun j => A j && adj v j
    have hBA : ∀ i, B i = true → A i = true := fun i hi => by
      change (A i && adj v i) = true at hi
      rw [Bool.and_eq_true] at hi; exact hi.1
    have hsB : sizeP B n = degS adj n A v := rfl
    have hKB : ∀ K, (∀ i, K i = true → B i = true) → ClqB adj K → sizeP K n ≤ r := fun K h1 h2 => by
      have hKv : K v = false := by
        cases h : K v with
        | false => rfl
        | true =>
          have := h1 v h
          change (A v && adj v v) = true at this
          rw [hirr] at this; simp at this
      have hva : ∀ i, K i = true → adj v i = true := fun i hi => by
        have := h1 i hi
        change (A i && adj v i) = true at this
        rw [Bool.and_eq_true] at this; exact this.2
      have := hK (insB K v) (fun i hi => by
        rcases insB_iff.1 hi with h | rfl
        · exact hBA i (h1 i h)
        · exact hv) (fun i j hi hj hij => by
        rcases insB_iff.1 hi with h | rfl <;> rcases insB_iff.1 hj with h' | rfl
        · exact h2 i j h h' hij
        · rw [hsym]; exact hva i h
        · exact hva j h'
        · exact absurd rfl hij)
      rw [sizeP_ins hvn hKv] at this
      omega
    have hB := ih B (fun i hi => hA i (hBA i hi)) hKB
    -- degrees of the others, twice
    have hpart := sizeP_part A B n
    have hAB : sizeP (fun i => A i && B i) n = degS adj n A v := by
      rw [← hsB]
      refine sizeP_congr n fun i _ => ?_
      show (A i && (A i && adj v i)) = (A i && adj v i)
      cases A i <;> rfl
    have hABs : sumA (fun i => A i && B i) (degS adj n A) n = sumA B (degS adj n A) n := sumA_congr fun i _ => by
      show (A i && (A i && adj v i)) = (A i && adj v i)
      cases A i <;> rfl
    have hadd : sumA B (degS adj n A) n = sumA B (degS adj n B) n + sumA B (degS adj n (fun i => A i && !B i)) n := by
      unfold sumA
      rw [← sumTo_add]
      refine sumTo_congr n fun i _ => ?_
      by_cases hb : B i = true
      · rw [if_pos hb, if_pos hb, if_pos hb]
        have := sizeP_part (fun u => A u && adj i u) B n
        unfold degS
        rw [this]
        congr 1
        · refine sizeP_congr n fun j _ => ?_
          show (A j && adj i j && (A j && adj v j)) = (A j && adj v j && adj i j)
          cases A j <;> cases adj i j <;> cases adj v j <;> rfl
        · refine sizeP_congr n fun j _ => ?_
          show (A j && adj i j && !(A j && adj v j)) = (A j && !(A j && adj v j) && adj i j)
          cases A j <;> cases adj i j <;> cases adj v j <;> rfl
      · rw [if_neg hb, if_neg hb, if_neg hb]
    have hsw : sumA B (degS adj n (fun i => A i && !B i)) n ≤ sumA (fun i => A i && !B i) (degS adj n A) n := by
      rw [sumA_swap hsym]
      exact sumA_le fun i _ _ => deg_mono hBA i
    have hrest : sumA (fun i => A i && !B i) (degS adj n A) n ≤ sizeP (fun i => A i && !B i) n * degS adj n A v := by
      rw [← sumA_const]
      exact sumA_le fun i _ hi => hmax i (by rw [Bool.and_eq_true] at hi; exact hi.1)
    have hall := sumA_part A B (degS adj n A) n
    rw [hABs, hadd] at hall
    rw [hAB] at hpart
    cases r with
    | zero =>
      have hz : ∀ i, i < n → B i = false := fun i hi => by
        cases h : B i with
        | false => rfl
        | true =>
          have := hKB (fun j => decide (j = i)) (fun j hj => by rw [of_decide_eq_true hj]; exact h) (fun a b ha hb hab => absurd ((of_decide_eq_true ha).trans (of_decide_eq_true hb).symm) hab)
          have h2 := sizeP_del (A := fun j => decide (j = i)) (i := i) (by simp) hi
          omega
      have h0 : degS adj n A v = 0 := by rw [← hsB]; exact sizeP_none hz
      have h1 : sumA A (degS adj n A) n ≤ sizeP A n * degS adj n A v := by
        rw [← sumA_const]; exact sumA_le fun i _ hi => hmax i hi
      rw [h0] at h1
      simp at h1 ⊢
      exact h1
    | succ r =>
      exact turan_num r (sizeP A n) (degS adj n A v) (sumA B (degS adj n B) n) (sumA A (degS adj n A) n) (sizeP (fun i => A i && !B i) n) (by omega) (by omega) (by rw [hsB] at hB; exact hB)
/-- All pairs are two by two. -/
theorem even_sum {F : Nat → Nat → Nat} (hs : ∀ i j, F i j = F j i) (hz : ∀ i, F i i = 0) : ∀ n, sumTo (fun i => sumTo (F i) n) n % 2 = 0
  | 0 => rfl
  | n + 1 => by
    have ih := even_sum hs hz n
    have e : sumTo (fun i => sumTo (F i) (n + 1)) (n + 1) = sumTo (fun i => sumTo (F i) n) n + sumTo (fun i => F i n) n + (sumTo (F n) n + F n n) := by
      simp only [sumTo]
      rw [sumTo_add]
    have e2 : sumTo (fun i => F i n) n = sumTo (F n) n := sumTo_congr n fun i _ => hs i n
    rw [e, e2, hz]
    omega
theorem hands_even (hsym : ∀ i j, adj i j = adj j i) (hirr : ∀ i, adj i i = false) (A : BS) (n : Nat) : sumA A (degS adj n A) n % 2 = 0 := by
  have := even_sum (F := fun i j => if (A i && (A j && adj i j)) = true then 1 else 0) (fun i j => by rw [hsym j i]; cases A i <;> cases A j <;> simp) (fun i => by rw [hirr]; simp) n
  rw [← this]
  congr 1
  unfold sumA degS sizeP
  refine sumTo_congr n fun i _ => ?_
  cases A i with
  | false => simp only [Bool.false_and, Bool.false_eq_true, if_false]; exact (sumTo_zero n fun _ _ => rfl).symm
  | true => simp only [Bool.true_and, if_true]
end
section
variable {n : Nat} {A : BS} {R Q : Nat → Nat → Bool}
/-- Of some there are so many of whom each two have it. -/
def Has (R : Nat → Nat → Bool) (n : Nat) (A : BS) (r : Nat) : Prop := ∃ T, (∀ i, T i = true → A i = true) ∧ ClqB R T ∧ r ≤ sizeP T n
theorem has_up {B : BS} {r : Nat} (h : ∀ i, A i = true → B i = true) (H : Has R n A r) : Has R n B r := by
  obtain ⟨T, h1, h2, h3⟩ := H
  exact ⟨T, fun i hi => h i (h1 i hi), h2, h3⟩
theorem has_step (hsym : ∀ i j, R i j = R j i) (hA : ∀ i, A i = true → i < n) {v r : Nat} (hv : A v = true) (H : Has R n (fun j => A j && (!decide (j = v) && R v j)) r) : Has R n A (r + 1) := by
  obtain ⟨T, h1, h2, h3⟩ := H
  have hm : ∀ i, T i = true → A i = true ∧ i ≠ v ∧ R v i = true := fun i hi => by
    have := h1 i hi
    simp at this
    exact this
  have hTv : T v = false := by
    cases h : T v with
    | false => rfl
    | true => exact absurd rfl (hm v h).2.1
  refine ⟨insB T v, fun i hi => ?_, fun i j hi hj hij => ?_, ?_⟩
  · rcases insB_iff.1 hi with h | rfl
    · exact (hm i h).1
    · exact hv
  · rcases insB_iff.1 hi with h | rfl <;> rcases insB_iff.1 hj with h' | rfl
    · exact h2 i j h h' hij
    · rw [hsym]; exact (hm i h).2.2
    · exact (hm j h').2.2
    · exact absurd rfl hij
  · rw [sizeP_ins (hA v hv) hTv]; omega
theorem has_two (hor : ∀ i j, i ≠ j → R i j = true ∨ Q i j = true) (hsym : ∀ i j, R i j = R j i) (hA : ∀ i, A i = true → i < n) {k : Nat} (hk : k ≤ sizeP A n) : Has R n A 2 ∨ Has Q n A k := by
  by_cases h : ∃ i j, A i = true ∧ A j = true ∧ i ≠ j ∧ R i j = true
  · obtain ⟨i, j, hi, hj, hij, hr⟩ := h
    left
    refine has_step hsym hA hi ⟨fun x => decide (x = j), fun x hx => ?_, fun a b ha hb hab => absurd ((of_decide_eq_true ha).trans (of_decide_eq_true hb).symm) hab, ?_⟩
    · rw [of_decide_eq_true hx]; simp [hj, hr, Ne.symm hij]
    · have := sizeP_del (A := fun x => decide (x = j)) (i := j) (by simp) (hA j hj)
      omega
  · right
    exact ⟨A, fun _ h => h, fun i j hi hj hij => (hor i j hij).resolve_left fun hr => h ⟨i, j, hi, hj, hij, hr⟩, hk⟩
/-- Those with whom one has the one or the other are all but him. -/
theorem has_both (hor : ∀ i j, i ≠ j → R i j = true ∨ Q i j = true) (hA : ∀ i, A i = true → i < n) {v : Nat} (hv : A v = true) :
    sizeP A n ≤ sizeP (fun j => A j && (!decide (j = v) && R v j)) n + sizeP (fun j => A j && (!decide (j = v) && Q v j)) n + 1 := by
  rw [sizeP_del hv (hA v hv), sizeP_part (delB A v) (R v) n]
  have h1 : sizeP (fun i => delB A v i && R v i) n = sizeP (fun j => A j && (!decide (j = v) && R v j)) n := sizeP_congr n fun i _ => by
    unfold delB; rw [Bool.and_assoc]
  have h2 : sizeP (fun i => delB A v i && !R v i) n ≤ sizeP (fun j => A j && (!decide (j = v) && Q v j)) n := sizeP_sub fun i _ hi => by
    unfold delB at hi
    simp at hi ⊢
    refine ⟨hi.1.1, hi.1.2, ?_⟩
    rcases hor v i (Ne.symm hi.1.2) with h | h
    · rw [hi.2] at h; cases h
    · exact h
  omega
theorem nei_lt {v : Nat} (hA : ∀ i, A i = true → i < n) : ∀ i, (fun j => A j && (!decide (j = v) && R v j)) i = true → i < n := fun i hi => hA i (by
  simp at hi; exact hi.1)
theorem nei_in {v : Nat} : ∀ i, (fun j => A j && (!decide (j = v) && R v j)) i = true → A i = true := fun i hi => by
  simp at hi; exact hi.1
theorem ramsey33 (hor : ∀ i j, i ≠ j → R i j = true ∨ Q i j = true) (hR : ∀ i j, R i j = R j i) (hQ : ∀ i j, Q i j = Q j i) (hA : ∀ i, A i = true → i < n) (h6 : 6 ≤ sizeP A n) : Has R n A 3 ∨ Has Q n A 3 := by
  obtain ⟨v, _, hv⟩ := sizeP_pos (A := A) (n := n) (by omega)
  have hb := has_both hor hA hv
  rcases Nat.lt_or_ge (sizeP (fun j => A j && (!decide (j = v) && R v j)) n) 3 with h | h
  · have h3 : 3 ≤ sizeP (fun j => A j && (!decide (j = v) && Q v j)) n := by omega
    rcases has_two (R := Q) (Q := R) (fun i j h => (hor i j h).symm) hQ (nei_lt hA) h3 with h' | h'
    · exact .inr (has_step hQ hA hv h')
    · exact .inl (has_up nei_in h')
  · rcases has_two hor hR (nei_lt hA) h with h' | h'
    · exact .inl (has_step hR hA hv h')
    · exact .inr (has_up nei_in h')
theorem ramsey34 (hor : ∀ i j, i ≠ j → R i j = true ∨ Q i j = true) (hR : ∀ i j, R i j = R j i) (hQ : ∀ i j, Q i j = Q j i) (hirr : ∀ i, R i i = false) (hA : ∀ i, A i = true → i < n) (h9 : 9 ≤ sizeP A n) : Has R n A 3 ∨ Has Q n A 4 := by
  by_cases h4 : ∃ v, A v = true ∧ 4 ≤ sizeP (fun j => A j && (!decide (j = v) && R v j)) n
  · obtain ⟨v, hv, h4⟩ := h4
    rcases has_two hor hR (nei_lt hA) h4 with h' | h'
    · exact .inl (has_step hR hA hv h')
    · exact .inr (has_up nei_in h')
  by_cases h6 : ∃ v, A v = true ∧ 6 ≤ sizeP (fun j => A j && (!decide (j = v) && Q v j)) n
  · obtain ⟨v, hv, h6⟩ := h6
    rcases ramsey33 hor hR hQ (nei_lt hA) h6 with h' | h'
    · exact .inl (has_up nei_in h')
    · exact .inr (has_step hQ hA hv h')
  have h3 : ∀ v, A v = true → degS R n A v = 3 ∧ sizeP A n = 9 := fun v hv => by
    have hb := has_both hor hA hv
    have h1 : sizeP (fun j => A j && (!decide (j = v) && R v j)) n < 4 := Nat.lt_of_not_le fun h => h4 ⟨v, hv, h⟩
    have h2 : sizeP (fun j => A j && (!decide (j = v) && Q v j)) n < 6 := Nat.lt_of_not_le fun h => h6 ⟨v, hv, h⟩
    have e : degS R n A v = sizeP (fun j => A j && (!decide (j = v) && R v j)) n := sizeP_congr n fun j _ => by
      by_cases hj : j = v
      · subst hj; simp [hirr]
      · simp [hj]
    omega
  obtain ⟨v, _, hv⟩ := sizeP_pos (A := A) (n := n) (by omega)
  have he := hands_even hR hirr A n
  have hs : sumA A (degS R n A) n = sumA A (fun _ => 3) n := sumTo_congr n fun i _ => by
    by_cases hi : A i = true
    · rw [if_pos hi, if_pos hi]; exact (h3 i hi).1
    · rw [if_neg hi, if_neg hi]
  rw [hs, sumA_const, (h3 v hv).2] at he
  omega
end
end Go.Proofs.Yticickicfigpbaa
