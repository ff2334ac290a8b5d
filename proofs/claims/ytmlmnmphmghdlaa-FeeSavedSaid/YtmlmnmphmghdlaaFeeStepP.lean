/- KLEIN, step by step: what is sent along the steps that are tight by heights is a flow that fits them, and some is sent while more can go. Plain facts, of no program. -/
import Derived.Test.YtmlmnmphmghdlaaLowerP
namespace Go.Proofs.Ytmlmnmphmghdlaa

/-! The steps of a net, laid one after the other. -/
def alongA (a : A4) (x : Int) : A4 := (a.1, a.2.1, a.2.2.1 - x, a.2.2.2)
def backA (a : A4) (x : Int) : A4 := (a.2.1, a.1, x, -a.2.2.2)
def stepT (es : List A4) (f : Nat → Int) : Nat → List A4
  | 0 => []
  | k + 1 => stepT es f k ++ [alongA (es.getD k default) (f k), backA (es.getD k default) (f k)]
section
variable {es : List A4} {f : Nat → Int} {n : Int} {k m : Nat}
theorem stepT_len : ∀ k, (stepT es f k).length = 2 * k
  | 0 => rfl
  | k + 1 => by simp only [stepT, List.length_append, List.length_cons, List.length_nil]; rw [stepT_len k]; omega
theorem stepT_at : ∀ m, k < m → (stepT es f m)[2 * k]? = some (alongA (es.getD k default) (f k)) ∧ (stepT es f m)[2 * k + 1]? = some (backA (es.getD k default) (f k))
  | m + 1, h => by
    have hl := stepT_len (es := es) (f := f) m
    simp only [stepT]
    by_cases e : k = m
    · subst e
      constructor
      · rw [List.getElem?_append_right (by omega), hl, Nat.sub_self]; rfl
      · rw [List.getElem?_append_right (by omega), hl, show 2 * k + 1 - 2 * k = 1 by omega]; rfl
    · obtain ⟨h1, h2⟩ := stepT_at m (show k < m by omega)
      exact ⟨by rw [List.getElem?_append_left (by omega)]; exact h1, by rw [List.getElem?_append_left (by omega)]; exact h2⟩
theorem stepT_mem {a : A4} (h : a ∈ stepT es f m) : ∃ k, k < m ∧ (a = alongA (es.getD k default) (f k) ∨ a = backA (es.getD k default) (f k)) := by
  induction m with
  | zero => cases h
  | succ m ih =>
    simp only [stepT] at h
    rcases List.mem_append.1 h with h | h
    · obtain ⟨k, h1, h2⟩ := ih h; exact ⟨k, by omega, h2⟩
    · simp only [List.mem_cons, List.not_mem_nil, or_false] at h
      exact ⟨m, by omega, h⟩
theorem getD_mem (hk : k < es.length) : es.getD k default ∈ es := by
  rw [List.getD_eq_getElem?_getD, List.getElem?_eq_getElem hk]; exact List.getElem_mem hk
theorem stepT_big (hG : GoodN n es) (hM : MayP (netP n es) f) : BigN n (stepT es f es.length) := by
  refine ⟨hG.n0, by have := hG.n1; omega, by rw [stepT_len]; have := hG.len; omega, fun a ha => ?_⟩
  obtain ⟨k, hk, h⟩ := stepT_mem ha
  have hg := hG.arc _ (getD_mem hk)
  have hf := hM k hk
  have e : (netP n es).mo k = (es.getD k default).2.2.1 := rfl
  rw [e] at hf
  rcases h with rfl | rfl
  · simp only [alongA]; omega
  · simp only [backA]; omega
theorem netP_stepT (hk : k < m) : (netP n (stepT es f m)).fr (2 * k) = (netP n es).fr k ∧ (netP n (stepT es f m)).to (2 * k) = (netP n es).to k ∧ (netP n (stepT es f m)).mo (2 * k) = (netP n es).mo k - f k ∧ feeP (stepT es f m) (2 * k) = feeP es k ∧
    (netP n (stepT es f m)).fr (2 * k + 1) = (netP n es).to k ∧ (netP n (stepT es f m)).to (2 * k + 1) = (netP n es).fr k ∧ (netP n (stepT es f m)).mo (2 * k + 1) = f k ∧ feeP (stepT es f m) (2 * k + 1) = -feeP es k := by
  obtain ⟨h1, h2⟩ := stepT_at (es := es) (f := f) m hk
  have e1 : (stepT es f m).getD (2 * k) default = alongA (es.getD k default) (f k) := by rw [List.getD_eq_getElem?_getD, h1]; rfl
  have e2 : (stepT es f m).getD (2 * k + 1) default = backA (es.getD k default) (f k) := by rw [List.getD_eq_getElem?_getD, h2]; rfl
  simp only [netP, feeP]
  rw [e1, e2]
  exact ⟨rfl, rfl, rfl, rfl, rfl, rfl, rfl, rfl⟩
theorem stepT_fee (hM : ∀ k, -1048576 ≤ feeP es k ∧ feeP es k ≤ 1048576) (j : Nat) : -1048576 ≤ feeP (stepT es f m) j ∧ feeP (stepT es f m) j ≤ 1048576 := by
  by_cases hj : j < 2 * m
  · obtain ⟨q, hq⟩ : ∃ q, j = 2 * q ∨ j = 2 * q + 1 := ⟨j / 2, by omega⟩
    have h := hM q
    rcases hq with rfl | rfl
    · obtain ⟨_, _, _, h4, _⟩ := netP_stepT (n := 0) (es := es) (f := f) (m := m) (k := q) (by omega)
      rw [h4]; exact h
    · obtain ⟨_, _, _, _, _, _, _, h4⟩ := netP_stepT (n := 0) (es := es) (f := f) (m := m) (k := q) (by omega)
      rw [h4]; omega
  · have e : (stepT es f m).getD j default = default := by rw [List.getD_eq_getElem?_getD, List.getElem?_eq_none (by rw [stepT_len]; omega)]; rfl
    unfold feeP
    rw [e]; exact ⟨by decide, by decide⟩
theorem avail_iff {i j : Nat} {c : Int} : AvailP (netP n (stepT es f es.length)) (feeP (stepT es f es.length)) i j c ↔ StepC (netP n es) (feeP es) f i j c := by
  have hK : (netP n (stepT es f es.length)).K = 2 * es.length := stepT_len _
  constructor
  · rintro ⟨q, hq, h1, h2, h3, h4⟩
    rw [hK] at hq
    obtain ⟨k, hk⟩ : ∃ k, q = 2 * k ∨ q = 2 * k + 1 := ⟨q / 2, by omega⟩
    obtain ⟨a1, a2, a3, a4, a5, a6, a7, a8⟩ := netP_stepT (n := n) (es := es) (f := f) (m := es.length) (k := k) (by omega)
    refine ⟨k, show k < es.length by omega, ?_⟩
    rcases hk with rfl | rfl
    · rw [a1] at h1; rw [a2] at h2; rw [a3] at h3; rw [a4] at h4
      exact .inl ⟨h1, h2, by omega, h4.symm⟩
    · rw [a5] at h1; rw [a6] at h2; rw [a7] at h3; rw [a8] at h4
      exact .inr ⟨h1, h2, h3, h4.symm⟩
  · rintro ⟨k, hk, h⟩
    have hk' : k < es.length := hk
    obtain ⟨a1, a2, a3, a4, a5, a6, a7, a8⟩ := netP_stepT (n := n) (es := es) (f := f) (m := es.length) (k := k) hk'
    rcases h with ⟨h1, h2, h3, h4⟩ | ⟨h1, h2, h3, h4⟩
    · exact ⟨2 * k, by rw [hK]; omega, a1.trans h1, a2.trans h2, by rw [a3]; omega, a4.trans h4.symm⟩
    · exact ⟨2 * k + 1, by rw [hK]; omega, a5.trans h1, a6.trans h2, by rw [a7]; exact h3, a8.trans h4.symm⟩
theorem avail_eq : AvailP (netP n (stepT es f es.length)) (feeP (stepT es f es.length)) = StepC (netP n es) (feeP es) f := by
  funext i j c
  exact propext avail_iff
end
/-! What is sent. -/
structure SendN (N : NetP) (fee f d : Nat → Int) (s : Nat) (left : Int) (M : NetP) : Prop where
  n : M.n = N.n + 1
  K : M.K = 2 * N.K + 1
  a0 : ∀ k, k < N.K → M.fr (2 * k) = N.fr k ∧ M.to (2 * k) = N.to k ∧ M.mo (2 * k) = if 0 < d (N.fr k) + fee k - d (N.to k) then 0 else N.mo k - f k
  a1 : ∀ k, k < N.K → M.fr (2 * k + 1) = N.to k ∧ M.to (2 * k + 1) = N.fr k ∧ M.mo (2 * k + 1) = if 0 < d (N.to k) + -fee k - d (N.fr k) then 0 else f k
  gate : M.fr (2 * N.K) = N.n ∧ M.to (2 * N.K) = s ∧ M.mo (2 * N.K) = left
theorem sum_pairs (F : Nat → Int) : ∀ K, sumI F (2 * K) = sumI (fun k => F (2 * k) + F (2 * k + 1)) K
  | 0 => rfl
  | K + 1 => by
    have ih := sum_pairs F K
    show sumI F (2 * K) + F (2 * K) + F (2 * K + 1) = sumI (fun k => F (2 * k) + F (2 * k + 1)) K + (F (2 * K) + F (2 * K + 1))
    rw [ih]; omega
theorem out_add (N : NetP) (f h : Nat → Int) (i : Nat) : outP N (fun k => f k + h k) i = outP N f i + outP N h i := by
  unfold outP
  rw [← sumI_add]
  exact sumI_congr _ fun k _ => by dsimp only; split <;> split <;> omega
section
variable {N M : NetP} {fee f d g : Nat → Int} {s t : Nat} {left v r : Int}
def sentF (f g : Nat → Int) : Nat → Int := fun k => f k + (g (2 * k) - g (2 * k + 1))
theorem SendN.out (S : SendN N fee f d s left M) (g : Nat → Int) (i : Nat) : outP M g i = outP N (fun k => g (2 * k) - g (2 * k + 1)) i + ((if N.n = i then g (2 * N.K) else 0) - (if s = i then g (2 * N.K) else 0)) := by
  obtain ⟨g1, g2, _⟩ := S.gate
  unfold outP
  rw [S.K]
  show sumI _ (2 * N.K) + ((if M.fr (2 * N.K) = i then g (2 * N.K) else 0) - (if M.to (2 * N.K) = i then g (2 * N.K) else 0)) = _
  rw [sum_pairs, g1, g2]
  congr 1
  refine sumI_congr _ fun k hk => ?_
  obtain ⟨h1, h2, _⟩ := S.a0 k hk
  obtain ⟨h3, h4, _⟩ := S.a1 k hk
  dsimp only
  rw [h1, h2, h3, h4]
  split <;> split <;> omega
theorem send_ok (hN : N.ok) (F : FlowP N s t f v) (hs : s < N.n) (_ht : t < N.n) (hst : s ≠ t) (hf : FeasP (StepC N fee f) d) (S : SendN N fee f d s left M) (G : FlowP M N.n t g r) :
    FlowP N s t (sentF f g) (v + r) ∧ PotP N fee (sentF f g) d ∧ g (2 * N.K) = r ∧ 0 ≤ r ∧ r ≤ left := by
  obtain ⟨h, hh⟩ : ∃ h : Nat → Int, h = fun k => g (2 * k) - g (2 * k + 1) := ⟨_, rfl⟩
  have hout := fun i => S.out g i
  rw [← hh] at hout
  have hz : outP N h N.n = 0 := sumI_zero _ fun k hk => by
    obtain ⟨a1, a2, _⟩ := hN k hk
    rw [if_neg (by omega), if_neg (by omega)]; rfl
  have hgate : g (2 * N.K) = r := by
    have h1 := G.val
    rw [hout, hz, if_pos rfl, if_neg (by omega)] at h1
    omega
  obtain ⟨_, _, g3⟩ := S.gate
  have hmg := G.may (2 * N.K) (by rw [S.K]; omega)
  rw [g3, hgate] at hmg
  have hm0 : ∀ k, k < N.K → 0 ≤ g (2 * k) ∧ g (2 * k) ≤ (if 0 < d (N.fr k) + fee k - d (N.to k) then 0 else N.mo k - f k) := fun k hk => by
    have := G.may (2 * k) (by rw [S.K]; omega)
    rwa [(S.a0 k hk).2.2] at this
  have hm1 : ∀ k, k < N.K → 0 ≤ g (2 * k + 1) ∧ g (2 * k + 1) ≤ (if 0 < d (N.to k) + -fee k - d (N.fr k) then 0 else f k) := fun k hk => by
    have := G.may (2 * k + 1) (by rw [S.K]; omega)
    rwa [(S.a1 k hk).2.2] at this
  have hsf : sentF f g = fun k => f k + h k := by rw [hh]; rfl
  refine ⟨⟨fun k hk => ?_, fun i hi his hit => ?_, ?_⟩, fun k hk => ?_, hgate, hmg.1, hmg.2⟩
  · have h0 := hm0 k hk
    have h1 := hm1 k hk
    have h2 := F.may k hk
    show 0 ≤ f k + (g (2 * k) - g (2 * k + 1)) ∧ f k + (g (2 * k) - g (2 * k + 1)) ≤ N.mo k
    split at h0 <;> split at h1 <;> omega
  · rw [hsf, out_add, F.bal i hi his hit]
    have h1 := G.bal i (by rw [S.n]; omega) (by omega) hit
    rw [hout, if_neg (by omega), if_neg (fun e => his e.symm)] at h1
    omega
  · rw [hsf, out_add, F.val]
    have h1 := G.bal s (by rw [S.n]; omega) (by omega) hst
    rw [hout, if_neg (by omega), if_pos rfl, hgate] at h1
    omega
  · have h0 := hm0 k hk
    have h1 := hm1 k hk
    have h2 := F.may k hk
    constructor
    · intro hlt
      have hlt' : f k + (g (2 * k) - g (2 * k + 1)) < N.mo k := hlt
      by_cases hr : f k < N.mo k
      · exact hf _ _ _ ⟨k, hk, .inl ⟨rfl, rfl, hr, rfl⟩⟩
      · split at h0 <;> split at h1 <;> omega
    · intro hlt
      have hlt' : 0 < f k + (g (2 * k) - g (2 * k + 1)) := hlt
      by_cases hr : 0 < f k
      · have := hf _ _ _ ⟨k, hk, .inr ⟨rfl, rfl, hr, rfl⟩⟩
        omega
      · split at h0 <;> split at h1 <;> omega
theorem come_walk {i : Nat} (h : ComeP N f s i) : ∃ c, WalkI (StepC N fee f) s i c := by
  induction h with
  | here => exact ⟨0, .nil s⟩
  | @step i j _ hst ih =>
    obtain ⟨c, hw⟩ := ih
    obtain ⟨k, hk, ⟨h1, h2, h3⟩ | ⟨h1, h2, h3⟩⟩ := hst
    · exact ⟨_, hw.trans (.step ⟨k, hk, .inl ⟨h1, h2, h3, rfl⟩⟩ (.nil _))⟩
    · exact ⟨_, hw.trans (.step ⟨k, hk, .inr ⟨h1, h2, h3, rfl⟩⟩ (.nil _))⟩
/-- While more can go, there is a way on. -/
theorem more_come (hN : N.ok) (hs : s < N.n) (F : FlowP N s t f v) {f2 : Nat → Int} {v2 : Int} (F2 : FlowP N s t f2 v2) (hv : v < v2) : ComeP N f s t := by
  classical
  apply Classical.byContradiction
  intro hno
  have h1 : decide (ComeP N f s s) = true := decide_eq_true .here
  have h2 : decide (ComeP N f s t) = false := decide_eq_false hno
  have e := flow_eq (W := fun i => decide (ComeP N f s i)) hN hs F h1 h2 fun i j hi hst => decide_eq_true (.step (of_decide_eq_true hi) hst)
  have l := flow_le (W := fun i => decide (ComeP N f s i)) hN hs F2 h1 h2
  omega
theorem send_more {d0 : Nat → Int} {L : Int} (hN : N.ok) (F : FlowP N s t f v) (hs : s < N.n) (ht : t < N.n) (hf : FeasP (StepC N fee f) d) (S : SendN N fee f d s left M) (hM : M.ok) (G : FlowP M N.n t g r) (hl : 0 < left) (hno : ¬ ComeP M g N.n t)
    (hfee : ∀ k, k < N.K → -1048576 ≤ fee k ∧ fee k ≤ 1048576) (hL : 2 * ((N.n : Int) * 1048576) < L) (h0 : ∀ i, i ≠ s → d0 i = L) (hs0 : d0 s = 0) (hF : FromP (StepC N fee f) N.n d0 d) (hd : ∀ i, d i ≤ d0 i)
    {f2 : Nat → Int} {v2 : Int} (F2 : FlowP N s t f2 v2) (hv : v < v2) : 1 ≤ r := by
  classical
  apply Classical.byContradiction
  intro hr
  obtain ⟨q1, q2, q3⟩ := S.gate
  have hgn : outP N (fun k => g (2 * k) - g (2 * k + 1)) N.n = 0 := sumI_zero _ fun k hk => by
    obtain ⟨a1, a2, _⟩ := hN k hk
    rw [if_neg (by omega), if_neg (by omega)]; rfl
  have hgate : g (2 * N.K) = r := by
    have h1 := G.val
    rw [S.out, hgn, if_pos rfl, if_neg (by omega)] at h1
    omega
  have hmg := G.may (2 * N.K) (by rw [S.K]; omega)
  -- the gate has room: s is come to
  have hWs : ComeP M g N.n s := .step .here ⟨2 * N.K, by rw [S.K]; omega, .inl ⟨q1, q2, by rw [q3, hgate]; omega⟩⟩
  -- nothing goes out of what is come to
  have e := flow_eq (W := fun i => decide (ComeP M g N.n i)) hM (by rw [S.n]; omega) G (decide_eq_true .here) (decide_eq_false hno) fun i j hi hst => decide_eq_true (.step (of_decide_eq_true hi) hst)
  have hcut : ∀ j, j < M.K → ComeP M g N.n (M.fr j) → 0 < M.mo j → ComeP M g N.n (M.to j) := fun j hj h1 h2 => by
    apply Classical.byContradiction
    intro h3
    have hpos : ∀ k, k < M.K → 0 ≤ (if decide (ComeP M g N.n (M.fr k)) = true ∧ decide (ComeP M g N.n (M.to k)) = false then M.mo k else 0) := fun k hk => by
      have := (hM k hk).2.2.2
      split <;> omega
    have hle : ∀ K, K ≤ M.K → j < K → M.mo j ≤ sumI (fun k => if decide (ComeP M g N.n (M.fr k)) = true ∧ decide (ComeP M g N.n (M.to k)) = false then M.mo k else 0) K := fun K => by
      induction K with
      | zero => intro _ h; omega
      | succ K ih =>
        intro hK hj2
        simp only [sumI]
        by_cases e2 : j = K
        · subst e2
          have h4 : 0 ≤ sumI (fun k => if decide (ComeP M g N.n (M.fr k)) = true ∧ decide (ComeP M g N.n (M.to k)) = false then M.mo k else 0) j := by
            have h7 := sumI_le (f := fun _ => 0) j fun k hk => hpos k (by omega)
            rwa [sumI_zero (f := fun _ => 0) j fun _ _ => rfl] at h7
          rw [if_pos ⟨decide_eq_true h1, decide_eq_false h3⟩]; omega
        · have := ih (by omega) (by omega)
          have := hpos K (by omega)
          omega
    have h5 := hle M.K (Nat.le_refl _) hj
    have h6 : sumI (fun k => if decide (ComeP M g N.n (M.fr k)) = true ∧ decide (ComeP M g N.n (M.to k)) = false then M.mo k else 0) M.K = r := e.symm
    omega
  obtain ⟨c, hw⟩ := come_walk (fee := fee) (more_come hN hs F F2 hv)
  refine hno (come_tight (A := StepC N fee f) (M := 1048576) (L := L) (n := N.n) (fun i j c ⟨k, hk, hh⟩ => by
    obtain ⟨a1, a2, _⟩ := hN k hk
    omega) (fun i j c ⟨k, hk, hh⟩ => by
    have := hfee k hk
    rcases hh with ⟨_, _, _, rfl⟩ | ⟨_, _, _, rfl⟩ <;> omega) (by decide) (noNeg_feas hf) hL h0 hs0 hF hd hf (W := ComeP M g N.n) hWs (fun i j c hst hi he => ?_) ht hw)
  obtain ⟨k, hk, ⟨h1, h2, h3, h4⟩ | ⟨h1, h2, h3, h4⟩⟩ := hst
  · obtain ⟨b1, b2, b3⟩ := S.a0 k hk
    rw [if_neg (by rw [h1, h2]; omega)] at b3
    have := hcut (2 * k) (by rw [S.K]; omega) (by rw [b1, h1]; exact hi) (by rw [b3]; omega)
    rwa [b2, h2] at this
  · obtain ⟨b1, b2, b3⟩ := S.a1 k hk
    rw [if_neg (by rw [h1, h2]; omega)] at b3
    have := hcut (2 * k + 1) (by rw [S.K]; omega) (by rw [b1, h1]; exact hi) (by rw [b3]; omega)
    rwa [b2, h2] at this
end
end Go.Proofs.Ytmlmnmphmghdlaa
