/- BELLMAN, FORD: steps take down what it costs to come to nodes, round by round; where none does any more these are heights. Plain facts, of no program. -/
import Derived.Test.YtmlmnmphmghdlaaCheaperP
namespace Go.Proofs.Ytmlmnmphmghdlaa

/-- The steps of a net that have room, with their fees. -/
def AvailP (N : NetP) (fee : Nat → Int) (i j : Nat) (c : Int) : Prop := ∃ k, k < N.K ∧ N.fr k = i ∧ N.to k = j ∧ 0 < N.mo k ∧ fee k = c
def lowC (N : NetP) (fee d : Nat → Int) (k : Nat) : Prop := 0 < N.mo k ∧ d (N.fr k) + fee k - d (N.to k) < 0
instance (N : NetP) (fee d : Nat → Int) (k : Nat) : Decidable (lowC N fee d k) := by unfold lowC; infer_instance
/-- One step taken. -/
def lowS (N : NetP) (fee d : Nat → Int) (k : Nat) : Nat → Int := if lowC N fee d k then updI d (N.to k) (d (N.fr k) + fee k) else d
def lowK (N : NetP) (fee d : Nat → Int) : Nat → Nat → Int
  | 0 => d
  | k + 1 => lowS N fee (lowK N fee d k) k
/-- Was any taken down? -/
def lowB (N : NetP) (fee d : Nat → Int) : Nat → Bool
  | 0 => false
  | k + 1 => lowB N fee d k || decide (lowC N fee (lowK N fee d k) k)
/-- So many rounds. -/
def rndD (N : NetP) (fee d : Nat → Int) : Nat → Nat → Int
  | 0 => d
  | r + 1 => lowK N fee (rndD N fee d r) N.K
def FeasP (A : Nat → Nat → Int → Prop) (d : Nat → Int) : Prop := ∀ i j c, A i j c → d j ≤ d i + c
/-- Each number comes of a walk. -/
def FromP (A : Nat → Nat → Int → Prop) (n : Nat) (d0 d : Nat → Int) : Prop := ∀ i, i < n → ∃ u c, u < n ∧ WalkI A u i c ∧ d i = d0 u + c
section
variable {N : NetP} {fee d d0 : Nat → Int} {k m n r : Nat}
theorem lowS_le (i : Nat) : lowS N fee d k i ≤ d i := by
  unfold lowS
  split
  · rename_i h
    unfold updI
    split
    · rename_i e; subst e; have := h.2; omega
    · exact Int.le_refl _
  · exact Int.le_refl _
theorem lowS_at (hm : 0 < N.mo k) : lowS N fee d k (N.to k) ≤ d (N.fr k) + fee k := by
  unfold lowS
  split
  · unfold updI; rw [if_pos rfl]; exact Int.le_refl _
  · rename_i h
    have : ¬ d (N.fr k) + fee k - d (N.to k) < 0 := fun h2 => h ⟨hm, h2⟩
    omega
theorem lowK_le (i : Nat) : ∀ m, lowK N fee d m i ≤ d i
  | 0 => Int.le_refl _
  | m + 1 => Int.le_trans (lowS_le i) (lowK_le i m)
theorem lowK_step (hm : 0 < N.mo k) : ∀ m, k < m → lowK N fee d m (N.to k) ≤ d (N.fr k) + fee k
  | m + 1, h => by
    by_cases e : k = m
    · subst e
      have h1 := lowS_at (fee := fee) (d := lowK N fee d k) hm
      have h2 := lowK_le (N := N) (fee := fee) (d := d) (N.fr k) k
      show lowS N fee (lowK N fee d k) k (N.to k) ≤ _
      omega
    · have h1 := lowK_step hm m (by omega)
      have h2 := lowS_le (N := N) (fee := fee) (d := lowK N fee d m) (k := m) (N.to k)
      show lowS N fee (lowK N fee d m) m (N.to k) ≤ _
      omega
theorem lowB_false : ∀ m, lowB N fee d m = false → lowK N fee d m = d ∧ ∀ k, k < m → 0 < N.mo k → d (N.to k) ≤ d (N.fr k) + fee k
  | 0, _ => ⟨rfl, fun k hk => absurd hk (by omega)⟩
  | m + 1, h => by
    have h' : (lowB N fee d m || decide (lowC N fee (lowK N fee d m) m)) = false := h
    rw [Bool.or_eq_false_iff] at h'
    obtain ⟨h1, h2⟩ := lowB_false m h'.1
    have h3 : ¬ lowC N fee d m := by have := of_decide_eq_false h'.2; rwa [h1] at this
    refine ⟨?_, fun k hk hmo => ?_⟩
    · show lowS N fee (lowK N fee d m) m = d
      rw [h1]; unfold lowS; rw [if_neg h3]
    · by_cases e : k = m
      · subst e
        have : ¬ d (N.fr k) + fee k - d (N.to k) < 0 := fun h4 => h3 ⟨hmo, h4⟩
        omega
      · exact h2 k (by omega) hmo
theorem lowB_true : ∀ m, lowB N fee d m = true → ∃ k, k < m ∧ 0 < N.mo k ∧ d (N.fr k) + fee k < d (N.to k)
  | m + 1, h => by
    cases hb : lowB N fee d m with
    | true =>
      obtain ⟨k, h1, h2⟩ := lowB_true m hb
      exact ⟨k, by omega, h2⟩
    | false =>
      have h' : (lowB N fee d m || decide (lowC N fee (lowK N fee d m) m)) = true := h
      rw [hb, Bool.false_or, (lowB_false m hb).1] at h'
      have h3 := of_decide_eq_true h'
      exact ⟨m, by omega, h3.1, by have := h3.2; omega⟩
theorem sumI_lt {f g : Nat → Int} (h : ∀ i, f i ≤ g i) {j : Nat} : ∀ n, j < n → f j < g j → sumI f n < sumI g n
  | n + 1, hj, hl => by
    simp only [sumI]
    by_cases e : j = n
    · subst e
      have := sumI_le j fun i _ => h i
      omega
    · have := sumI_lt h n (by omega) hl
      have := h n
      omega
theorem low_sum (hN : N.ok) (h : lowB N fee d N.K = true) : sumI (lowK N fee d N.K) N.n < sumI d N.n := by
  obtain ⟨k, h1, h2, h3⟩ := lowB_true _ h
  have h4 := lowK_step (fee := fee) (d := d) h2 N.K h1
  exact sumI_lt (fun i => lowK_le i _) N.n (hN k h1).2.1 (by omega)
theorem low_feas (h : lowB N fee d N.K = false) : FeasP (AvailP N fee) d := by
  rintro i j c ⟨k, hk, rfl, rfl, hm, rfl⟩
  exact (lowB_false _ h).2 k hk hm
theorem low_from (hN : N.ok) (h : FromP (AvailP N fee) N.n d0 d) : ∀ m, m ≤ N.K → FromP (AvailP N fee) N.n d0 (lowK N fee d m)
  | 0, _ => h
  | m + 1, hm => by
    have ih := low_from hN h m (by omega)
    intro i hi
    show ∃ u c, u < N.n ∧ WalkI (AvailP N fee) u i c ∧ lowS N fee (lowK N fee d m) m i = d0 u + c
    unfold lowS
    split
    · rename_i hc
      unfold updI
      split
      · rename_i e
        obtain ⟨u, c, h1, h2, h3⟩ := ih (N.fr m) (hN m (by omega)).1
        refine ⟨u, c + (fee m + 0), h1, h2.trans (.step ⟨m, by omega, rfl, e.symm, hc.1, rfl⟩ (.nil _)), ?_⟩
        rw [h3]; omega
      · exact ih i hi
    · exact ih i hi
theorem from_start : FromP (AvailP N fee) N.n d d := fun i hi => ⟨i, 0, hi, .nil i, by omega⟩
theorem rnd_from (hN : N.ok) : ∀ r, FromP (AvailP N fee) N.n d (rndD N fee d r)
  | 0 => from_start
  | r + 1 => low_from hN (rnd_from hN r) N.K (Nat.le_refl _)
theorem rnd_down (i : Nat) : ∀ r, rndD N fee d r i ≤ d i
  | 0 => Int.le_refl _
  | r + 1 => Int.le_trans (lowK_le i _) (rnd_down i r)
theorem rnd_le {p : Nat → Nat} {c : Nat → Int} : ∀ r q, q ≤ r → WalkC (AvailP N fee) q p c → rndD N fee d r (p q) ≤ d (p 0) + sumI c q
  | r, 0, _, _ => by have := rnd_down (N := N) (fee := fee) (d := d) (p 0) r; simp only [sumI]; omega
  | r + 1, q + 1, hq, hw => by
    have ih := rnd_le r q (by omega) (fun t ht => hw t (by omega))
    obtain ⟨k, hk, h1, h2, h3, h4⟩ := hw q (by omega)
    have h5 := lowK_step (fee := fee) (d := rndD N fee d r) h3 N.K hk
    rw [h1, h2, h4] at h5
    show lowK N fee (rndD N fee d r) N.K (p (q + 1)) ≤ d (p 0) + (sumI c q + c q)
    omega
theorem avail_lt (hN : N.ok) {i j : Nat} {c : Int} (h : AvailP N fee i j c) : i < N.n ∧ j < N.n := by
  obtain ⟨k, hk, rfl, rfl, _⟩ := h
  exact ⟨(hN k hk).1, (hN k hk).2.1⟩
theorem noNeg_feas {A : Nat → Nat → Int → Prop} (h : FeasP A d) : NoNeg A := noNeg_of h
/-- Behind as many rounds as there are nodes only a ring that costs less than nothing takes anything down. -/
theorem spare_iff (hN : N.ok) (h0 : ∀ i, d i = 0) : lowB N fee (rndD N fee d N.n) N.K = true ↔ ¬ NoNeg (AvailP N fee) := by
  constructor
  · intro h hNN
    obtain ⟨k, hk, hm, hlt⟩ := lowB_true _ h
    obtain ⟨a1, a2, _⟩ := hN k hk
    obtain ⟨u, c, hu, hw, he⟩ := rnd_from (fee := fee) (d := d) hN N.n (N.fr k) a1
    obtain ⟨l, p, cs, h1, h2, h3, h4⟩ := (hw.trans (.step ⟨k, hk, rfl, rfl, hm, rfl⟩ (.nil (N.to k)))).walkC
    obtain ⟨l', p', c', g1, g2, g3, g4, g5⟩ := short_walk (fun i j c h => avail_lt hN h) hNN l p cs h1 (by omega)
    have h5 := rnd_le (d := d) N.n l' (by omega) g2
    rw [g4, h3, h0] at h5
    rw [h0] at he
    omega
  · intro h
    cases hb : lowB N fee (rndD N fee d N.n) N.K with
    | true => rfl
    | false => exact absurd (noNeg_feas (low_feas hb)) h
/-- Numbers that begin at nothing don't get far below it. -/
theorem low_abs {M : Int} (hM : ∀ k, k < N.K → -M ≤ fee k) (hM0 : 0 ≤ M) (hN : N.ok) {B : Int} (hB : ∀ i, i < N.n → -B ≤ d i) : ∀ m, m ≤ N.K → ∀ i, i < N.n → -(B + m * M) ≤ lowK N fee d m i
  | 0, _, i, hi => by have := hB i hi; show -(B + ((0 : Nat) : Int) * M) ≤ d i; simp; omega
  | m + 1, hm, i, hi => by
    have ih := low_abs hM hM0 hN hB m (by omega)
    have e : ((m + 1 : Nat) : Int) * M = m * M + M := by rw [Int.natCast_add, Int.add_mul]; simp
    rw [e]
    show _ ≤ lowS N fee (lowK N fee d m) m i
    unfold lowS
    split
    · unfold updI
      split
      · have h1 := ih (N.fr m) (hN m (by omega)).1
        have h2 := hM m (by omega)
        omega
      · have := ih i hi; omega
    · have := ih i hi; omega
theorem rnd_abs {M : Int} (hM : ∀ k, k < N.K → -M ≤ fee k) (hM0 : 0 ≤ M) (hN : N.ok) (h0 : ∀ i, d i = 0) : ∀ r i, i < N.n → -(r * (N.K * M)) ≤ rndD N fee d r i
  | 0, i, _ => by show _ ≤ d i; rw [h0]; simp
  | r + 1, i, hi => by
    have h := low_abs hM hM0 hN (fun i hi => rnd_abs hM hM0 hN h0 r i hi) N.K (Nat.le_refl _) i hi
    have e : ((r + 1 : Nat) : Int) * (N.K * M) = r * (N.K * M) + N.K * M := by rw [Int.natCast_add, Int.add_mul]; simp
    rw [e]; exact h
/-! Walks and heights. -/
variable {A : Nat → Nat → Int → Prop}
theorem walk_feas (h : FeasP A d) {i j : Nat} {c : Int} (hw : WalkI A i j c) : d j ≤ d i + c := by
  induction hw with
  | nil => omega
  | step ha _ ih => have := h _ _ _ ha; omega
theorem walkI_of {p : Nat → Nat} {c : Nat → Int} : ∀ k, WalkC A k p c → WalkI A (p 0) (p k) (sumI c k)
  | 0, _ => .nil _
  | k + 1, h => by
    have h1 := (walkI_of k fun t ht => h t (by omega)).trans (.step (h k (by omega)) (.nil _))
    rwa [Int.add_zero] at h1
theorem sum_ge {M : Int} {c : Nat → Int} : ∀ k, (∀ t, t < k → -M ≤ c t ∧ c t ≤ M) → -(k * M) ≤ sumI c k ∧ sumI c k ≤ k * M
  | 0, _ => by simp [sumI]
  | k + 1, h => by
    have ih := sum_ge k fun t ht => h t (by omega)
    have := h k (by omega)
    have e : ((k + 1 : Nat) : Int) * M = k * M + M := by rw [Int.natCast_add, Int.add_mul]; simp
    rw [e]; simp only [sumI]; omega
/-- Some walk that is no longer has few steps. -/
theorem walk_few {M : Int} (hA : ∀ i j c, A i j c → i < n ∧ j < n) (hM : ∀ i j c, A i j c → -M ≤ c ∧ c ≤ M) (hM0 : 0 ≤ M) (hNN : NoNeg A) (hn : 1 ≤ n) {i j : Nat} {c : Int} (hw : WalkI A i j c) :
    ∃ c', WalkI A i j c' ∧ c' ≤ c ∧ -(n * M) ≤ c' ∧ c' ≤ n * M := by
  obtain ⟨l, p, cs, h1, h2, h3, h4⟩ := hw.walkC
  obtain ⟨l', p', c', g1, g2, g3, g4, g5⟩ := short_walk hA hNN l p cs h1 hn
  have hs := sum_ge (M := M) (c := c') l' fun t ht => hM _ _ _ (g2 t ht)
  have hl : (l' : Int) * M ≤ n * M := Int.mul_le_mul_of_nonneg_right (by omega) hM0
  have hw2 := walkI_of l' g2
  rw [g3, g4, h2, h3] at hw2
  exact ⟨_, hw2, by omega, by omega, by omega⟩
theorem walk_tight (h : FeasP A d) {W : Nat → Prop} (hW : ∀ i j c, A i j c → W i → d j = d i + c → W j) {i j : Nat} {c : Int} (hw : WalkI A i j c) : d j = d i + c → W i → W j := by
  induction hw with
  | nil => exact fun _ h => h
  | step ha hr ih =>
    intro he hi
    have h1 := h _ _ _ ha
    have h2 := walk_feas h hr
    exact ih (by omega) (hW _ _ _ ha hi (by omega))
/-- Numbers that come of walks lie between. -/
theorem from_abs {M L : Int} (hA : ∀ i j c, A i j c → i < n ∧ j < n) (hM : ∀ i j c, A i j c → -M ≤ c ∧ c ≤ M) (hM0 : 0 ≤ M) (hNN : NoNeg A) (h0 : ∀ i, 0 ≤ d0 i ∧ d0 i ≤ L) (hF : FromP A n d0 d) (hd : ∀ i, d i ≤ d0 i) {i : Nat} (hi : i < n) : -(n * M) ≤ d i ∧ d i ≤ L := by
  obtain ⟨u, c, h1, h2, h3⟩ := hF i hi
  obtain ⟨c', _, h5, h6, _⟩ := walk_few hA hM hM0 hNN (by omega) h2
  have := h0 u
  have := h0 i
  have := hd i
  omega
/-- What heights that begin at s tell: to where a walk leads one comes by steps that are tight. -/
theorem come_tight {M L : Int} {s t : Nat} (hA : ∀ i j c, A i j c → i < n ∧ j < n) (hM : ∀ i j c, A i j c → -M ≤ c ∧ c ≤ M) (hM0 : 0 ≤ M) (hNN : NoNeg A) (hL : 2 * (n * M) < L)
    (h0 : ∀ i, i ≠ s → d0 i = L) (hs0 : d0 s = 0) (hF : FromP A n d0 d) (hd : ∀ i, d i ≤ d0 i) (hf : FeasP A d) {W : Nat → Prop} (hs : W s) (hW : ∀ i j c, A i j c → W i → d j = d i + c → W j) {c : Int} (ht : t < n) (hw : WalkI A s t c) : W t := by
  obtain ⟨u, a, h1, h2, h3⟩ := hF t ht
  obtain ⟨a', _, h5, h6, _⟩ := walk_few hA hM hM0 hNN (by omega) h2
  obtain ⟨c', g1, _, _, g4⟩ := walk_few hA hM hM0 hNN (by omega) hw
  have g5 := walk_feas hf g1
  have g6 := walk_feas hf h2
  have g7 := hd s
  have g8 := hd u
  by_cases e : u = s
  · subst e
    exact walk_tight hf hW h2 (by omega) hs
  · rw [h0 u e] at h3
    omega
end
end Go.Proofs.Ytmlmnmphmghdlaa
