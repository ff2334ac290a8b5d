/- FORD, FULKERSON: flows and cuts: no flow has more than any cut lets go; where no step leads out of a set it is a smallest cut, and lies in all smallest cuts. Plain facts, of no program. -/
import Derived.Test.YticickicfigpbaaPairW
namespace Go.Proofs.Yticickicfigpbaa

def sumI (f : Nat → Int) : Nat → Int
  | 0 => 0
  | n + 1 => sumI f n + f n
section
variable {f g : Nat → Int}
theorem sumI_congr : ∀ n, (∀ j, j < n → f j = g j) → sumI f n = sumI g n
  | 0, _ => rfl
  | n + 1, h => by simp only [sumI]; rw [sumI_congr n fun j hj => h j (by omega), h n (by omega)]
theorem sumI_le : ∀ n, (∀ j, j < n → f j ≤ g j) → sumI f n ≤ sumI g n
  | 0, _ => Int.le_refl _
  | n + 1, h => by
    have h1 := sumI_le n fun j hj => h j (by omega)
    have h2 := h n (by omega)
    simp only [sumI]; omega
theorem sumI_add (f g : Nat → Int) : ∀ n, sumI (fun j => f j + g j) n = sumI f n + sumI g n
  | 0 => rfl
  | n + 1 => by simp only [sumI]; rw [sumI_add f g n]; omega
theorem sumI_sub (f g : Nat → Int) : ∀ n, sumI (fun j => f j - g j) n = sumI f n - sumI g n
  | 0 => rfl
  | n + 1 => by simp only [sumI]; rw [sumI_sub f g n]; omega
theorem sumI_zero : ∀ n, (∀ j, j < n → f j = 0) → sumI f n = 0
  | 0, _ => rfl
  | n + 1, h => by simp only [sumI]; rw [sumI_zero n fun j hj => h j (by omega), h n (by omega)]; omega
theorem sumI_one {i : Nat} : ∀ n, i < n → (∀ j, j < n → j ≠ i → f j = 0) → sumI f n = f i
  | n + 1, h, hz => by
    simp only [sumI]
    by_cases e : i = n
    · subst e
      rw [sumI_zero i fun j hj => hz j (by omega) (by omega)]; omega
    · rw [sumI_one n (by omega) fun j hj hji => hz j (by omega) hji, hz n (by omega) (fun e' => e e'.symm)]; omega
theorem sumI_comm (F : Nat → Nat → Int) (m : Nat) : ∀ n, sumI (fun i => sumI (fun k => F i k) m) n = sumI (fun k => sumI (fun i => F i k) n) m
  | 0 => (sumI_zero m fun _ _ => rfl).symm
  | n + 1 => by
    simp only [sumI]
    rw [sumI_comm F m n, ← sumI_add]
theorem sumI_eq_le (h : ∀ j, f j ≤ g j) : ∀ n, sumI f n = sumI g n → ∀ j, j < n → f j = g j
  | n + 1, he, j, hj => by
    simp only [sumI] at he
    have h1 := sumI_le n fun j _ => h j
    have h2 := h n
    rcases Nat.lt_or_ge j n with h3 | h3
    · exact sumI_eq_le h n (by omega) j h3
    · obtain rfl : j = n := by omega
      omega
end
/-- A net: K arcs, each from one node to another one, with how much may go. -/
structure NetP where
  n : Nat
  K : Nat
  fr : Nat → Nat
  to : Nat → Nat
  mo : Nat → Int
def NetP.ok (N : NetP) : Prop := ∀ k, k < N.K → N.fr k < N.n ∧ N.to k < N.n ∧ N.fr k ≠ N.to k ∧ 0 ≤ N.mo k
/-- What goes out of a node, less what comes in. -/
def outP (N : NetP) (f : Nat → Int) (i : Nat) : Int := sumI (fun k => (if N.fr k = i then f k else 0) - (if N.to k = i then f k else 0)) N.K
/-- May it go? -/
def MayP (N : NetP) (f : Nat → Int) : Prop := ∀ k, k < N.K → 0 ≤ f k ∧ f k ≤ N.mo k
structure FlowP (N : NetP) (s t : Nat) (f : Nat → Int) (v : Int) : Prop where
  may : MayP N f
  bal : ∀ i, i < N.n → i ≠ s → i ≠ t → outP N f i = 0
  val : outP N f s = v
/-- How much a set lets go. -/
def cutP (N : NetP) (W : Nat → Bool) : Int := sumI (fun k => if W (N.fr k) = true ∧ W (N.to k) = false then N.mo k else 0) N.K
section
variable {N : NetP} {s t : Nat} {f : Nat → Int} {v : Int} {W : Nat → Bool}
theorem out_set (hN : N.ok) (f : Nat → Int) (W : Nat → Bool) : sumI (fun i => if W i = true then outP N f i else 0) N.n = sumI (fun k => (if W (N.fr k) = true then f k else 0) - (if W (N.to k) = true then f k else 0)) N.K := by
  have h1 : sumI (fun i => if W i = true then outP N f i else 0) N.n = sumI (fun i => sumI (fun k => if W i = true then (if N.fr k = i then f k else 0) - (if N.to k = i then f k else 0) else 0) N.K) N.n := sumI_congr _ fun i _ => by
    by_cases h : W i = true
    · rw [if_pos h]
      exact sumI_congr _ fun k _ => by rw [if_pos h]
    · rw [if_neg h]
      exact (sumI_zero _ fun k _ => by rw [if_neg h]).symm
  rw [h1, sumI_comm]
  refine sumI_congr _ fun k hk => ?_
  obtain ⟨a1, a2, a3, _⟩ := hN k hk
  have e : sumI (fun i => if W i = true then (if N.fr k = i then f k else 0) - (if N.to k = i then f k else 0) else 0) N.n = sumI (fun i => if W i = true then (if N.fr k = i then f k else 0) else 0) N.n - sumI (fun i => if W i = true then (if N.to k = i then f k else 0) else 0) N.n := by
    rw [← sumI_sub]
    exact sumI_congr _ fun i _ => by split <;> omega
  rw [e, sumI_one (i := N.fr k) N.n a1 (fun i _ hi => by
    split
    · exact if_neg fun e => hi e.symm
    · rfl), sumI_one (i := N.to k) N.n a2 (fun i _ hi => by
    split
    · exact if_neg fun e => hi e.symm
    · rfl), if_pos rfl, if_pos rfl]
theorem val_set (hN : N.ok) (hs : s < N.n) (F : FlowP N s t f v) (h1 : W s = true) (h2 : W t = false) : v = sumI (fun k => (if W (N.fr k) = true then f k else 0) - (if W (N.to k) = true then f k else 0)) N.K := by
  rw [← out_set hN, sumI_one (i := s) N.n hs fun i hi his => ?_, if_pos h1, F.val]
  by_cases hw : W i = true
  · rw [if_pos hw]
    exact F.bal i hi his fun e => by rw [e, h2] at hw; cases hw
  · rw [if_neg hw]
theorem term_le {k : Nat} (hf : 0 ≤ f k ∧ f k ≤ N.mo k) : (if W (N.fr k) = true then f k else 0) - (if W (N.to k) = true then f k else 0) ≤ (if W (N.fr k) = true ∧ W (N.to k) = false then N.mo k else 0) := by
  cases h1 : W (N.fr k) <;> cases h2 : W (N.to k) <;> simp <;> omega
/-- No flow has more than a cut lets go. -/
theorem flow_le (hN : N.ok) (hs : s < N.n) (F : FlowP N s t f v) (h1 : W s = true) (h2 : W t = false) : v ≤ cutP N W := by
  rw [val_set hN hs F h1 h2]
  exact sumI_le _ fun k hk => term_le (F.may k hk)
/-- One step more: along an arc that has room, or back along one on which some goes. -/
def stepP (N : NetP) (f : Nat → Int) (i j : Nat) : Prop := ∃ k, k < N.K ∧ ((N.fr k = i ∧ N.to k = j ∧ f k < N.mo k) ∨ (N.to k = i ∧ N.fr k = j ∧ 0 < f k))
/-- Where no step leads out of a set, it lets go just what the flow has. -/
theorem flow_eq (hN : N.ok) (hs : s < N.n) (F : FlowP N s t f v) (h1 : W s = true) (h2 : W t = false) (hc : ∀ i j, W i = true → stepP N f i j → W j = true) : v = cutP N W := by
  rw [val_set hN hs F h1 h2]
  refine sumI_congr _ fun k hk => ?_
  obtain ⟨a1, a2⟩ := F.may k hk
  cases h3 : W (N.fr k) <;> cases h4 : W (N.to k) <;> simp
  · -- into it
    rcases Int.lt_or_le 0 (f k) with h5 | h5
    · have := hc _ _ h4 ⟨k, hk, .inr ⟨rfl, rfl, h5⟩⟩
      rw [h3] at this; cases this
    · omega
  · -- out of it
    rcases Int.lt_or_le (f k) (N.mo k) with h5 | h5
    · have := hc _ _ h3 ⟨k, hk, .inl ⟨rfl, rfl, h5⟩⟩
      rw [h4] at this; cases this
    · omega
/-- And out of a set that lets go no more than the flow has no step leads. -/
theorem tight_shut (hN : N.ok) (hs : s < N.n) (F : FlowP N s t f v) (h1 : W s = true) (h2 : W t = false) (he : cutP N W = v) {i j : Nat} (hi : W i = true) (hst : stepP N f i j) : W j = true := by
  have hv := val_set hN hs F h1 h2
  rw [← he] at hv
  obtain ⟨k, hk, h⟩ := hst
  have hall : ∀ k, k < N.K → (if W (N.fr k) = true then f k else 0) - (if W (N.to k) = true then f k else 0) = (if W (N.fr k) = true ∧ W (N.to k) = false then N.mo k else 0) := by
    have hg : ∀ k, (if k < N.K then (if W (N.fr k) = true then f k else 0) - (if W (N.to k) = true then f k else 0) else 0) ≤ (if k < N.K then (if W (N.fr k) = true ∧ W (N.to k) = false then N.mo k else 0) else 0) := fun k => by
      by_cases hk : k < N.K
      · rw [if_pos hk, if_pos hk]; exact term_le (F.may k hk)
      · rw [if_neg hk, if_neg hk]; exact Int.le_refl _
    intro k hk
    have := sumI_eq_le hg N.K (by
      rw [sumI_congr N.K (g := fun k => (if W (N.fr k) = true then f k else 0) - (if W (N.to k) = true then f k else 0)) fun j hj => if_pos hj, ← hv]
      exact (sumI_congr N.K fun j hj => if_pos hj).symm) k hk
    rw [if_pos hk, if_pos hk] at this
    exact this
  have ht := hall k hk
  cases hj : W j with
  | true => rfl
  | false =>
    exfalso
    rcases h with ⟨e1, e2, e3⟩ | ⟨e1, e2, e3⟩
    · rw [e1, e2, hi, hj] at ht
      simp at ht
      omega
    · rw [e1, e2, hi, hj] at ht
      simp at ht
      omega
def updI (f : Nat → Int) (k : Nat) (x : Int) : Nat → Int := fun j => if j = k then x else f j
/-- More on one arc. -/
theorem out_upd {k : Nat} (hk : k < N.K) (d : Int) (i : Nat) : outP N (updI f k (f k + d)) i = outP N f i + ((if N.fr k = i then d else 0) - (if N.to k = i then d else 0)) := by
  have h : outP N (updI f k (f k + d)) i - outP N f i = (if N.fr k = i then d else 0) - (if N.to k = i then d else 0) := by
    unfold outP
    rw [← sumI_sub, sumI_one (i := k) N.K hk fun j _ hj => ?_]
    · simp only [updI, if_true]
      split <;> split <;> omega
    · simp only [updI, if_neg hj]; omega
  omega
theorem cut_congr {W' : Nat → Bool} (hN : N.ok) (h : ∀ i, i < N.n → W i = W' i) : cutP N W = cutP N W' := sumI_congr _ fun k hk => by
  obtain ⟨a1, a2, _⟩ := hN k hk
  rw [h _ a1, h _ a2]
theorem cut_nonneg (hN : N.ok) (W : Nat → Bool) : 0 ≤ cutP N W := by
  rw [← sumI_zero (f := fun _ => 0) N.K fun _ _ => rfl]
  refine sumI_le _ fun k hk => ?_
  have := (hN k hk).2.2.2
  split <;> omega
/-- The smallest cut with the least word. -/
structure MinCutP (N : NetP) (s t a : Nat) : Prop where
  lt : a < 2 ^ N.n
  src : a.testBit s = true
  dst : a.testBit t = false
  least : ∀ w, w < 2 ^ N.n → w.testBit s = true → w.testBit t = false → cutP N (fun i => a.testBit i) ≤ cutP N (fun i => w.testBit i) ∧ (cutP N (fun i => w.testBit i) = cutP N (fun i => a.testBit i) → a ≤ w)
theorem MinCutP.eq {a b : Nat} (ha : MinCutP N s t a) (hb : MinCutP N s t b) : a = b := by
  have h1 := ha.least b hb.lt hb.src hb.dst
  have h2 := hb.least a ha.lt ha.src ha.dst
  have h3 := h1.2 (by omega)
  have h4 := h2.2 (by omega)
  omega
theorem sub_le {a b : Nat} (h : ∀ i, a.testBit i = true → b.testBit i = true) : a ≤ b := by
  have : a ||| b = b := by
    apply Nat.eq_of_testBit_eq
    intro i
    rw [Nat.testBit_or]
    cases ha : a.testBit i with
    | false => simp
    | true => simp [h i ha]
  have h2 : a ≤ a ||| b := Nat.left_le_or
  omega
/-- To where one comes by steps. -/
inductive ComeP (N : NetP) (f : Nat → Int) (s : Nat) : Nat → Prop
  | here : ComeP N f s s
  | step {i j : Nat} : ComeP N f s i → stepP N f i j → ComeP N f s j
/-- FORD, FULKERSON: where one comes to by steps is the smallest cut with the least word, if t is not of it. -/
theorem come_min (hN : N.ok) (hs : s < N.n) (F : FlowP N s t f v) {a : Nat} (ha : a < 2 ^ N.n) (hbit : ∀ i, i < N.n → (a.testBit i = true ↔ ComeP N f s i)) (ht : a.testBit t = false) : MinCutP N s t a ∧ cutP N (fun i => a.testBit i) = v := by
  have hlt : ∀ i j, stepP N f i j → j < N.n := fun i j ⟨k, hk, h⟩ => by
    obtain ⟨a1, a2, _⟩ := hN k hk
    omega
  have hsrc : a.testBit s = true := (hbit s hs).2 .here
  have hin : ∀ i, a.testBit i = true → i < N.n := fun i hi => by
    apply Nat.lt_of_not_le
    intro h
    rw [bit_pow ha h] at hi; cases hi
  have hv := flow_eq (W := fun i => a.testBit i) hN hs F hsrc ht fun i j hi hst => (hbit j (hlt i j hst)).2 (.step ((hbit i (hin i hi)).1 hi) hst)
  refine ⟨⟨ha, hsrc, ht, fun w _ w1 w2 => ⟨?_, fun he => ?_⟩⟩, hv.symm⟩
  · rw [← hv]; exact flow_le (W := fun i => w.testBit i) hN hs F w1 w2
  · refine sub_le fun i hi => ?_
    have hc := (hbit i (hin i hi)).1 hi
    clear hi
    induction hc with
    | here => exact w1
    | step _ hst ih => exact tight_shut (W := fun i => w.testBit i) hN hs F w1 w2 (he.trans hv.symm) ih hst
/-- With more room on one arc no smallest cut is smaller, and none greater by more than that. -/
theorem cut_more {k : Nat} (hk : k < N.K) {d : Int} (hd : 0 ≤ d) (W : Nat → Bool) : cutP N W ≤ cutP { N with mo := updI N.mo k (N.mo k + d) } W ∧ cutP { N with mo := updI N.mo k (N.mo k + d) } W ≤ cutP N W + d := by
  have h : cutP { N with mo := updI N.mo k (N.mo k + d) } W - cutP N W = if W (N.fr k) = true ∧ W (N.to k) = false then d else 0 := by
    unfold cutP
    rw [← sumI_sub, sumI_one (i := k) N.K hk fun j _ hj => ?_]
    · simp only [updI, if_true]
      split <;> omega
    · simp only [updI, if_neg hj]; split <;> omega
  split at h <;> omega
end
end Go.Proofs.Yticickicfigpbaa
