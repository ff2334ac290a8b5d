/- BELLMAN; KLEIN: where no ring of steps is below nothing there are heights; by heights a flow can't be had cheaper; and each one more costs no less than the one ahead. Plain facts, of no program. -/
import Derived.Test.YticickicfigpbaaFlowP
import Derived.Test.YticickicfigpbaaTutteP
namespace Go.Proofs.Yticickicfigpbaa

/-- A walk of k steps: where it is, and what each step costs. -/
def WalkC (A : Nat → Nat → Int → Prop) (k : Nat) (p : Nat → Nat) (c : Nat → Int) : Prop := ∀ t, t < k → A (p t) (p (t + 1)) (c t)
/-- No closed walk costs less than nothing. -/
def NoNeg (A : Nat → Nat → Int → Prop) : Prop := ∀ k p c, WalkC A k p c → p 0 = p k → 0 ≤ sumI c k
section
variable {A : Nat → Nat → Int → Prop} {n : Nat}
/-- Of more places than there are nodes two are at one. -/
theorem pigeon {k : Nat} {p : Nat → Nat} (hp : ∀ t, t ≤ k → p t < n) (hk : n ≤ k) : ∃ a b, a < b ∧ b ≤ k ∧ p a = p b := by
  apply Classical.byContradiction
  intro hno
  have hinj : ∀ i j, i ≤ k → j ≤ k → p i = p j → i = j := fun i j hi hj e => by
    rcases Nat.lt_trichotomy i j with h | h | h
    · exact absurd ⟨i, j, h, hj, e⟩ hno
    · exact h
    · exact absurd ⟨j, i, h, hi, e.symm⟩ hno
  have h1 := sizeP_inj (n := n + 1) _ (A := fun _ => true) (B := fun x => decide (x < n)) (m := p) rfl (fun i hi _ => ⟨by have := hp i (by omega); omega, by simpa using hp i (by omega)⟩) fun i j hi hj _ _ e => hinj i j (by omega) (by omega) e
  have h2 : sizeP (fun _ : Nat => true) (n + 1) = n + 1 := by
    have h : sizeP (fun _ : Nat => false) (n + 1) + sizeP (fun _ : Nat => true) (n + 1) = n + 1 := sizeP_not (fun _ : Nat => true) (n + 1)
    have e : sizeP (fun _ : Nat => false) (n + 1) = 0 := sizeP_none fun _ _ => rfl
    omega
  have h3 : sizeP (fun x => decide (x < n)) (n + 1) ≤ n := by
    rw [sizeP_succ, if_neg (by simp)]
    exact sizeP_le _ n
  omega
theorem sumI_shift (c : Nat → Int) (a : Nat) : ∀ b, sumI c (a + b) = sumI c a + sumI (fun t => c (a + t)) b
  | 0 => by simp [sumI]
  | b + 1 => by
    have := sumI_shift c a b
    show sumI c (a + b) + c (a + b) = _ + (sumI (fun t => c (a + t)) b + c (a + b))
    omega
theorem WalkC.part {k a b : Nat} {p : Nat → Nat} {c : Nat → Int} (h : WalkC A k p c) (hab : a + b ≤ k) : WalkC A b (fun t => p (a + t)) (fun t => c (a + t)) := fun t ht => by
  have := h (a + t) (by omega)
  exact this
/-- Without what comes round. -/
theorem WalkC.cut {k a d : Nat} {p : Nat → Nat} {c : Nat → Int} (h : WalkC A k p c) (hd : a + d ≤ k) (he : p a = p (a + d)) :
    WalkC A (k - d) (fun t => if t ≤ a then p t else p (t + d)) (fun t => if t < a then c t else c (t + d)) ∧ sumI c k = sumI (fun t => if t < a then c t else c (t + d)) (k - d) + sumI (fun t => c (a + t)) d := by
  refine ⟨fun t ht => ?_, ?_⟩
  · rcases Nat.lt_trichotomy t a with h1 | h1 | h1
    · simp only [if_pos (show t ≤ a by omega), if_pos (show t + 1 ≤ a by omega), if_pos h1]
      exact h t (by omega)
    · subst h1
      simp only [if_pos (Nat.le_refl t), if_neg (show ¬ t + 1 ≤ t by omega), if_neg (Nat.lt_irrefl t)]
      rw [he, show t + 1 + d = t + d + 1 by omega]
      exact h (t + d) (by omega)
    · simp only [if_neg (show ¬ t ≤ a by omega), if_neg (show ¬ t + 1 ≤ a by omega), if_neg (show ¬ t < a by omega)]
      rw [show t + 1 + d = t + d + 1 by omega]
      exact h (t + d) (by omega)
  · obtain ⟨r, hr⟩ : ∃ r, k = a + d + r := ⟨k - (a + d), by omega⟩
    subst hr
    rw [show a + d + r - d = a + r by omega, sumI_shift c (a + d) r, sumI_shift c a d, sumI_shift (fun t => if t < a then c t else c (t + d)) a r]
    have e1 : sumI (fun t => if t < a then c t else c (t + d)) a = sumI c a := sumI_congr a fun t ht => if_pos ht
    have e2 : sumI (fun t => if a + t < a then c (a + t) else c (a + t + d)) r = sumI (fun t => c (a + d + t)) r := sumI_congr r fun t _ => by
      rw [if_neg (show ¬ a + t < a by omega), show a + t + d = a + d + t by omega]
    omega
/-- Where nothing costs less than nothing when it comes round, short walks are no dearer than long ones. -/
theorem short_walk (hA : ∀ i j c, A i j c → i < n ∧ j < n) (hN : NoNeg A) : ∀ (k : Nat) (p : Nat → Nat) (c : Nat → Int), WalkC A k p c → 1 ≤ n → ∃ k' p' c', k' < n ∧ WalkC A k' p' c' ∧ p' 0 = p 0 ∧ p' k' = p k ∧ sumI c' k' ≤ sumI c k
  | k, p, c, h, hn => by
    rcases Nat.lt_or_ge k n with hk | hk
    · exact ⟨k, p, c, hk, h, rfl, rfl, Int.le_refl _⟩
    · have hp : ∀ t, t ≤ k → p t < n := fun t ht => by
        rcases Nat.lt_or_ge t k with h1 | h1
        · exact (hA _ _ _ (h t h1)).1
        · obtain rfl : t = k := by omega
          have := (hA _ _ _ (h (t - 1) (by omega))).2
          rwa [show t - 1 + 1 = t by omega] at this
      obtain ⟨a, b, hab, hbk, he⟩ := pigeon hp hk
      obtain ⟨d, rfl⟩ : ∃ d, b = a + d := ⟨b - a, by omega⟩
      obtain ⟨h1, h2⟩ := h.cut hbk he
      have h3 := hN d _ _ (h.part (a := a) (b := d) (by omega)) (by simpa using he)
      obtain ⟨k', p', c', g1, g2, g3, g4, g5⟩ := short_walk hA hN (k - d) _ _ h1 hn
      refine ⟨k', p', c', g1, g2, ?_, ?_, by omega⟩
      · rw [g3]; simp
      · rw [g4]
        show (if k - d ≤ a then p (k - d) else p (k - d + d)) = p k
        rcases Nat.lt_or_ge a (k - d) with h4 | h4
        · rw [if_neg (by omega), show k - d + d = k by omega]
        · have e1 : k - d = a := by omega
          have e2 : a + d = k := by omega
          rw [if_pos (by omega), e1, he, e2]
  termination_by k => k
  decreasing_by omega
theorem int_least {P : Int → Prop} {B : Int} (hb : ∀ z, P z → B ≤ z) {z : Int} (hz : P z) : ∃ m, P m ∧ ∀ z, P z → m ≤ z := by
  have : ∀ (c : Nat) (z : Int), P z → z ≤ B + c → ∃ m, P m ∧ ∀ z, P z → m ≤ z := fun c => by
    induction c with
    | zero => exact fun z hz h => ⟨z, hz, fun y hy => by have := hb y hy; omega⟩
    | succ c ih =>
      intro z hz h
      by_cases h2 : ∃ y, P y ∧ y ≤ B + c
      · obtain ⟨y, h3, h4⟩ := h2
        exact ih y h3 h4
      · exact ⟨z, hz, fun y hy => by
          have : ¬ y ≤ B + c := fun h5 => h2 ⟨y, hy, h5⟩
          omega⟩
  exact this (z - B).toNat z hz (by have := hb z hz; omega)
/-- BELLMAN: there are heights. -/
theorem heights (hA : ∀ i j c, A i j c → i < n ∧ j < n) {M : Int} (hM : ∀ i j c, A i j c → -M ≤ c) (hM0 : 0 ≤ M) (hN : NoNeg A) : ∃ π : Nat → Int, ∀ i j c, A i j c → π j ≤ π i + c := by
  rcases Nat.eq_zero_or_pos n with h0 | h0
  · exact ⟨fun _ => 0, fun i j c h => by have := hA i j c h; omega⟩
  -- what walks cost that end at a node
  have hlow : ∀ (k : Nat) (c : Nat → Int), (∀ t, t < k → -M ≤ c t) → -(M * k) ≤ sumI c k := fun k c h => by
    induction k with
    | zero => simp [sumI]
    | succ k ih =>
      have h1 := ih fun t ht => h t (by omega)
      have h2 := h k (by omega)
      have : M * ((k + 1 : Nat) : Int) = M * (k : Int) + M := by rw [Int.natCast_succ, Int.mul_add, Int.mul_one]
      show _ ≤ sumI c k + c k
      omega
  have hbd : ∀ j z, (∃ k p c, WalkC A k p c ∧ p k = j ∧ sumI c k = z) → -(M * n) ≤ z := fun j z ⟨k, p, c, h1, h2, h3⟩ => by
    obtain ⟨k', p', c', g1, g2, _, _, g5⟩ := short_walk hA hN k p c h1 h0
    have h4 := hlow k' c' fun t ht => hM _ _ _ (g2 t ht)
    have h5 : M * (k' : Int) ≤ M * (n : Int) := Int.mul_le_mul_of_nonneg_left (by omega) hM0
    omega
  have hex : ∀ j, ∃ m, (∃ k p c, WalkC A k p c ∧ p k = j ∧ sumI c k = m) ∧ ∀ z, (∃ k p c, WalkC A k p c ∧ p k = j ∧ sumI c k = z) → m ≤ z := fun j =>
    int_least (B := -(M * n)) (hbd j) (z := 0) ⟨0, fun _ => j, fun _ => 0, fun t ht => by omega, rfl, rfl⟩
  obtain ⟨π, hπ⟩ := Classical.axiomOfChoice hex
  refine ⟨π, fun i j c h => ?_⟩
  obtain ⟨k, p, cs, h1, h2, h3⟩ := (hπ i).1
  refine (hπ j).2 _ ⟨k + 1, fun t => if t ≤ k then p t else j, fun t => if t < k then cs t else c, fun t ht => ?_, if_neg (by omega), ?_⟩
  · rcases Nat.lt_or_ge t k with h4 | h4
    · simp only [if_pos (show t ≤ k by omega), if_pos (show t + 1 ≤ k by omega), if_pos h4]
      exact h1 t h4
    · obtain rfl : t = k := by omega
      simp only [if_pos (Nat.le_refl t), if_neg (show ¬ t + 1 ≤ t by omega), if_neg (Nat.lt_irrefl t)]
      rw [h2]; exact h
  · show sumI (fun t => if t < k then cs t else c) k + (if k < k then cs k else c) = _
    rw [if_neg (Nat.lt_irrefl k), sumI_congr k (g := cs) fun t ht => if_pos ht, h3]
/-- And where there are heights nothing costs less than nothing when it comes round. -/
theorem noNeg_of {π : Nat → Int} (h : ∀ i j c, A i j c → π j ≤ π i + c) : NoNeg A := fun k p c hw he => by
  have : ∀ t, t ≤ k → π (p t) ≤ π (p 0) + sumI c t := fun t ht => by
    induction t with
    | zero => simp [sumI]
    | succ t ih =>
      have h1 := ih (by omega)
      have h2 := h _ _ _ (hw t (by omega))
      show _ ≤ _ + (sumI c t + c t)
      omega
  have h1 := this k (Nat.le_refl _)
  rw [← he] at h1
  omega
end

/-! ### What goes, and what it costs -/
def costP (N : NetP) (fee f : Nat → Int) : Int := sumI (fun k => f k * fee k) N.K
/-- A step, and what it costs: along an arc that has room, or back along one on which some goes. -/
def StepC (N : NetP) (fee f : Nat → Int) (i j : Nat) (c : Int) : Prop := ∃ k, k < N.K ∧ ((N.fr k = i ∧ N.to k = j ∧ f k < N.mo k ∧ c = fee k) ∨ (N.to k = i ∧ N.fr k = j ∧ 0 < f k ∧ c = -fee k))
/-- Heights that fit. -/
def PotP (N : NetP) (fee f : Nat → Int) (π : Nat → Int) : Prop := ∀ k, k < N.K → (f k < N.mo k → π (N.to k) ≤ π (N.fr k) + fee k) ∧ (0 < f k → π (N.fr k) + fee k ≤ π (N.to k))
section
variable {N : NetP} {fee f g : Nat → Int} {π : Nat → Int}
theorem pot_ex (hN : N.ok) {M : Int} (hM : ∀ k, k < N.K → -M ≤ fee k ∧ fee k ≤ M) (hM0 : 0 ≤ M) (h : NoNeg (StepC N fee f)) : ∃ π, PotP N fee f π := by
  obtain ⟨π, hπ⟩ := heights (n := N.n) (M := M) (fun i j c ⟨k, hk, hh⟩ => by
    obtain ⟨a1, a2, _⟩ := hN k hk
    omega) (fun i j c ⟨k, hk, hh⟩ => by
    have := hM k hk
    omega) hM0 h
  refine ⟨π, fun k hk => ⟨fun h1 => hπ _ _ _ ⟨k, hk, .inl ⟨rfl, rfl, h1, rfl⟩⟩, fun h1 => ?_⟩⟩
  have := hπ _ _ _ ⟨k, hk, .inr ⟨rfl, rfl, h1, rfl⟩⟩
  omega
/-- What goes through each node, by heights. -/
theorem sum_heights (hN : N.ok) (f π : Nat → Int) : sumI (fun k => f k * (π (N.fr k) - π (N.to k))) N.K = sumI (fun i => π i * outP N f i) N.n := by
  have h1 : sumI (fun i => π i * outP N f i) N.n = sumI (fun i => sumI (fun k => π i * ((if N.fr k = i then f k else 0) - (if N.to k = i then f k else 0))) N.K) N.n := sumI_congr _ fun i _ => by
    have : ∀ (c : Int) (F : Nat → Int) m, c * sumI F m = sumI (fun k => c * F k) m := fun c F m => by
      induction m with
      | zero => simp [sumI]
      | succ m ih => simp only [sumI]; rw [Int.mul_add, ih]
    exact this _ _ _
  rw [h1, sumI_comm]
  refine sumI_congr _ fun k hk => ?_
  obtain ⟨a1, a2, a3, _⟩ := hN k hk
  have e : sumI (fun i => π i * ((if N.fr k = i then f k else 0) - (if N.to k = i then f k else 0))) N.n = sumI (fun i => if N.fr k = i then π i * f k else 0) N.n - sumI (fun i => if N.to k = i then π i * f k else 0) N.n := by
    rw [← sumI_sub]
    refine sumI_congr _ fun i _ => ?_
    by_cases h1 : N.fr k = i <;> by_cases h2 : N.to k = i
    · omega
    · rw [if_pos h1, if_neg h2, if_pos h1, if_neg h2, Int.sub_zero, Int.sub_zero]
    · rw [if_neg h1, if_pos h2, if_neg h1, if_pos h2, Int.zero_sub, Int.zero_sub, Int.mul_neg]
    · rw [if_neg h1, if_neg h2, if_neg h1, if_neg h2, Int.sub_zero, Int.mul_zero]
  rw [e, sumI_one (i := N.fr k) N.n a1 (fun i _ hi => if_neg fun e => hi e.symm), sumI_one (i := N.to k) N.n a2 (fun i _ hi => if_neg fun e => hi e.symm), if_pos rfl, if_pos rfl, Int.mul_sub, Int.mul_comm (f k), Int.mul_comm (f k)]
/-- What heights make of what goes: no less than what fits them. -/
theorem pot_le (hP : PotP N fee f π) (hf : MayP N f) (hg : MayP N g) : sumI (fun k => f k * (fee k + π (N.fr k) - π (N.to k))) N.K ≤ sumI (fun k => g k * (fee k + π (N.fr k) - π (N.to k))) N.K := by
  refine sumI_le' fun k hk => ?_
  obtain ⟨h1, h2⟩ := hP k hk
  obtain ⟨a1, a2⟩ := hf k hk
  obtain ⟨b1, b2⟩ := hg k hk
  have key : 0 ≤ (g k - f k) * (fee k + π (N.fr k) - π (N.to k)) := by
    rcases Int.lt_trichotomy (f k) (g k) with h | h | h
    · exact Int.mul_nonneg (by omega) (by have := h1 (by omega); omega)
    · rw [show g k - f k = 0 by omega, Int.zero_mul]; exact Int.le_refl _
    · have h3 := h2 (by omega)
      have : 0 ≤ (f k - g k) * -(fee k + π (N.fr k) - π (N.to k)) := Int.mul_nonneg (by omega) (by omega)
      rw [Int.mul_neg, ← Int.neg_mul, show -(f k - g k) = g k - f k by omega] at this
      exact this
  rw [Int.sub_mul] at key
  omega
where
  sumI_le' {f g : Nat → Int} {n : Nat} (h : ∀ j, j < n → f j ≤ g j) : sumI f n ≤ sumI g n := sumI_le n h
theorem cost_split (hN : N.ok) (fee g π : Nat → Int) : costP N fee g = sumI (fun k => g k * (fee k + π (N.fr k) - π (N.to k))) N.K - sumI (fun i => π i * outP N g i) N.n := by
  rw [← sum_heights hN, ← sumI_sub]
  refine sumI_congr _ fun k _ => ?_
  rw [← Int.mul_sub]
  congr 1
  omega
/-- What goes through the nodes of a flow, by heights. -/
theorem flow_heights {s t : Nat} {v : Int} (hN : N.ok) (hs : s < N.n) (ht : t < N.n) (hst : s ≠ t) (F : FlowP N s t g v) (π : Nat → Int) : sumI (fun i => π i * outP N g i) N.n = (π s - π t) * v := by
  -- what comes in at t
  have hall : sumI (fun i => outP N g i) N.n = 0 := by
    have h := out_set hN g fun _ => true
    rw [sumI_congr N.n (g := fun i => outP N g i) fun i _ => if_pos rfl] at h
    rw [h]
    exact sumI_zero _ fun k _ => by simp
  have two : ∀ (H : Nat → Int), (∀ i, i < N.n → i ≠ s → i ≠ t → H i = 0) → sumI H N.n = H s + H t := fun H hH => by
    have e : sumI H N.n = sumI (fun i => if i = s then H i else 0) N.n + sumI (fun i => if i = t then H i else 0) N.n := by
      rw [← sumI_add]
      refine sumI_congr _ fun i hi => ?_
      by_cases h1 : i = s
      · rw [if_pos h1, if_neg (fun e => hst (h1.symm.trans e))]; omega
      · by_cases h2 : i = t
        · rw [if_neg h1, if_pos h2]; omega
        · rw [if_neg h1, if_neg h2, hH i hi h1 h2]; rfl
    rw [e, sumI_one (i := s) N.n hs (fun i _ hi => if_neg hi), sumI_one (i := t) N.n ht (fun i _ hi => if_neg hi), if_pos rfl, if_pos rfl]
  rw [two _ fun i hi h1 h2 => F.bal i hi h1 h2] at hall
  rw [two _ fun i hi h1 h2 => by rw [F.bal i hi h1 h2, Int.mul_zero], F.val, show outP N g t = -v by have := F.val; omega, Int.sub_mul, Int.mul_neg]
  omega
/-- KLEIN: by heights that fit no flow of the same value is cheaper. -/
theorem klein {s t : Nat} {v : Int} (hN : N.ok) (hs : s < N.n) (ht : t < N.n) (hst : s ≠ t) (hP : PotP N fee f π) (F : FlowP N s t f v) (G : FlowP N s t g v) : costP N fee f ≤ costP N fee g := by
  rw [cost_split hN fee f π, cost_split hN fee g π, flow_heights hN hs ht hst F, flow_heights hN hs ht hst G]
  have := pot_le hP F.may G.may
  omega
/-- Any flow, by the heights that fit another one. -/
theorem klein_any {s t : Nat} {u v : Int} (hN : N.ok) (hs : s < N.n) (ht : t < N.n) (hst : s ≠ t) (hP : PotP N fee f π) (F : FlowP N s t f v) (G : FlowP N s t g u) : costP N fee f + (π t - π s) * (u - v) ≤ costP N fee g := by
  rw [cost_split hN fee f π, cost_split hN fee g π, flow_heights hN hs ht hst F, flow_heights hN hs ht hst G]
  have h1 := pot_le hP F.may G.may
  have e : (π t - π s) * (u - v) = (π s - π t) * v - (π s - π t) * u := by
    rw [← Int.mul_sub, show u - v = -(v - u) by omega, Int.mul_neg, ← Int.neg_mul, show -(π t - π s) = π s - π t by omega]
  omega
/-- Each one more costs no less than the one ahead. -/
theorem rises {s t : Nat} {v : Int} {a b : Nat → Int} (hN : N.ok) (hs : s < N.n) (ht : t < N.n) (hst : s ≠ t) (hP : PotP N fee f π) (F : FlowP N s t f (v + 1)) (Ga : FlowP N s t a v) (Gb : FlowP N s t b (v + 2)) : costP N fee f - costP N fee a ≤ costP N fee b - costP N fee f := by
  have h1 := klein_any hN hs ht hst hP F Ga
  have h2 := klein_any hN hs ht hst hP F Gb
  rw [show v - (v + 1) = -1 by omega, Int.mul_neg, Int.mul_one] at h1
  rw [show v + 2 - (v + 1) = 1 by omega, Int.mul_one] at h2
  omega
theorem flow_none (hN : N.ok) (s t : Nat) : FlowP N s t (fun _ => 0) 0 := by
  have h : ∀ i, outP N (fun _ => 0) i = 0 := fun i => sumI_zero _ fun k _ => by simp
  exact ⟨fun k hk => ⟨Int.le_refl _, (hN k hk).2.2.2⟩, fun i _ _ _ => h i, h s⟩
theorem cost_nonneg (hf : MayP N f) (hfee : ∀ k, k < N.K → 0 ≤ fee k) : 0 ≤ costP N fee f := by
  rw [← sumI_zero (f := fun _ => 0) N.K fun _ _ => rfl]
  exact sumI_le _ fun k hk => Int.mul_nonneg (hf k hk).1 (hfee k hk)
/-- And more costs no less. -/
theorem rises_one {s t : Nat} {v : Int} (hN : N.ok) (hs : s < N.n) (ht : t < N.n) (hst : s ≠ t) (hv : 0 ≤ v) (hfee : ∀ k, k < N.K → 0 ≤ fee k) (hP : PotP N fee f π) (F : FlowP N s t f v) (G : FlowP N s t g (v + 1)) : costP N fee f ≤ costP N fee g := by
  have h1 := klein_any hN hs ht hst hP F (flow_none hN s t)
  have h2 := klein_any hN hs ht hst hP F G
  have h0 : costP N fee (fun _ => 0) = 0 := sumI_zero _ fun k _ => Int.zero_mul _
  rw [h0, show 0 - v = -v by omega, Int.mul_neg] at h1
  rw [show v + 1 - v = 1 by omega, Int.mul_one] at h2
  have h3 := cost_nonneg F.may hfee
  -- (t - s) * v >= cost f >= 0
  rcases Int.lt_or_le (π t - π s) 0 with h4 | h4
  · have h5 : (π t - π s) * v ≤ 0 := by
      have := Int.mul_nonneg (show 0 ≤ -(π t - π s) by omega) hv
      rw [Int.neg_mul] at this
      omega
    have h6 := cost_nonneg G.may hfee
    omega
  · omega
end
end Go.Proofs.Yticickicfigpbaa
