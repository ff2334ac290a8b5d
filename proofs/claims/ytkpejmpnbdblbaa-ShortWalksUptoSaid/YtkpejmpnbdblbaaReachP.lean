/- Steps by which something can be sent; where they lead to from a node, layer by layer; what one way has room for. Plain facts, of no program. -/
import Derived.Test.YtkpejmpnbdblbaaFlowP
namespace Go.Proofs.Ytkpejmpnbdblbaa

/-- A step: from, to, along which arc, how much can be sent, which way. -/
structure St where
  fr : Nat
  to : Nat
  arc : Nat
  room : Int
  sign : Int
def fwS (N : NetP) (f : Nat → Int) (k : Nat) : St := ⟨N.fr k, N.to k, k, N.mo k - f k, 1⟩
def bkS (N : NetP) (f : Nat → Int) (k : Nat) : St := ⟨N.to k, N.fr k, k, f k, -1⟩
def OkSt (N : NetP) (f : Nat → Int) (x : St) : Prop := ∃ k, k < N.K ∧ ((x = fwS N f k ∧ f k < N.mo k) ∨ (x = bkS N f k ∧ 0 < f k))
def stF (N : NetP) (f : Nat → Int) (k : Nat) : List St := if f k < N.mo k then [fwS N f k] else []
def stB (N : NetP) (f : Nat → Int) (k : Nat) : List St := if 0 < f k then [bkS N f k] else []
def stepsTo (N : NetP) (f : Nat → Int) : Nat → List St
  | 0 => []
  | k + 1 => (stepsTo N f k ++ stF N f k) ++ stB N f k
section
variable {N : NetP} {f : Nat → Int} {s t : Nat} {x : St}
theorem stepsTo_mem {k : Nat} (hx : x ∈ stF N f k ∨ x ∈ stB N f k) : ∀ n, k < n → x ∈ stepsTo N f n
  | n + 1, h => by
    rcases Nat.lt_or_ge k n with h1 | h1
    · exact List.mem_append_left _ (List.mem_append_left _ (stepsTo_mem hx n h1))
    · obtain rfl : k = n := by omega
      rcases hx with hx | hx
      · exact List.mem_append_left _ (List.mem_append_right _ hx)
      · exact List.mem_append_right _ hx
theorem OkSt.mem (h : OkSt N f x) : x ∈ stepsTo N f N.K := by
  obtain ⟨k, hk, ⟨rfl, h⟩ | ⟨rfl, h⟩⟩ := h
  · exact stepsTo_mem (.inl (by unfold stF; rw [if_pos h]; exact List.mem_singleton.2 rfl)) _ hk
  · exact stepsTo_mem (.inr (by unfold stB; rw [if_pos h]; exact List.mem_singleton.2 rfl)) _ hk
theorem OkSt.fw {k : Nat} (hk : k < N.K) (h : f k < N.mo k) : OkSt N f (fwS N f k) := ⟨k, hk, .inl ⟨rfl, h⟩⟩
theorem OkSt.bk {k : Nat} (hk : k < N.K) (h : 0 < f k) : OkSt N f (bkS N f k) := ⟨k, hk, .inr ⟨rfl, h⟩⟩
theorem OkSt.step (h : OkSt N f x) : stepP N f x.fr x.to := by
  obtain ⟨k, hk, ⟨rfl, h⟩ | ⟨rfl, h⟩⟩ := h
  · exact ⟨k, hk, .inl ⟨rfl, rfl, h⟩⟩
  · exact ⟨k, hk, .inr ⟨rfl, rfl, h⟩⟩
theorem step_ok {i j : Nat} (h : stepP N f i j) : ∃ x, OkSt N f x ∧ x.fr = i ∧ x.to = j := by
  obtain ⟨k, hk, ⟨rfl, rfl, h⟩ | ⟨rfl, rfl, h⟩⟩ := h
  · exact ⟨_, .fw hk h, rfl, rfl⟩
  · exact ⟨_, .bk hk h, rfl, rfl⟩
theorem OkSt.lt (hN : N.ok) (h : OkSt N f x) : x.fr < N.n ∧ x.to < N.n ∧ x.arc < N.K := by
  obtain ⟨k, hk, ⟨rfl, _⟩ | ⟨rfl, _⟩⟩ := h
  · obtain ⟨a, b, _⟩ := hN k hk; exact ⟨a, b, hk⟩
  · obtain ⟨a, b, _⟩ := hN k hk; exact ⟨b, a, hk⟩
theorem OkSt.room (h : OkSt N f x) (hf : MayP N f) : 0 < x.room ∧ x.room ≤ N.mo x.arc ∧ (x.sign = 1 ∨ x.sign = -1) := by
  obtain ⟨k, hk, ⟨rfl, h⟩ | ⟨rfl, h⟩⟩ := h
  · obtain ⟨a, b⟩ := hf k hk
    exact ⟨by simp only [fwS]; omega, by simp only [fwS]; omega, .inl rfl⟩
  · obtain ⟨a, b⟩ := hf k hk
    exact ⟨by simp only [bkS]; omega, by simp only [bkS]; omega, .inr rfl⟩

/-! Layer by layer. -/
structure ReachI (N : NetP) (f : Nat → Int) (s met : Nat) (T : Nat → St) (d : Nat → Nat) (k : Nat) : Prop where
  lt : met < 2 ^ N.n
  src : met.testBit s = true
  top : ∀ v, met.testBit v = true → d v ≤ k
  come : ∀ v, met.testBit v = true → ComeP N f s v
  last : ∀ v, met.testBit v = true → v ≠ s → OkSt N f (T v) ∧ (T v).to = v ∧ met.testBit (T v).fr = true ∧ d (T v).fr < d v
structure LoopR (N : NetP) (f : Nat → Int) (s met layer : Nat) (T : Nat → St) : Prop where
  here : ∃ d k, ReachI N f s met T d k
  sub : ∀ v, layer.testBit v = true → met.testBit v = true
  shut : ∀ x, OkSt N f x → met.testBit x.fr = true → layer.testBit x.fr = false → met.testBit x.to = true
structure RoundR (N : NetP) (f : Nat → Int) (s met layer : Nat) (pre : List St) (nx : Nat) (T : Nat → St) : Prop where
  base : LoopR N f s met layer T
  lt : nx < 2 ^ N.n
  new : ∀ v, nx.testBit v = true → met.testBit v = false
  led : ∀ v, nx.testBit v = true → OkSt N f (T v) ∧ (T v).to = v ∧ layer.testBit (T v).fr = true
  all : ∀ x ∈ pre, layer.testBit x.fr = true → met.testBit x.to = true ∨ nx.testBit x.to = true
def updT (T : Nat → St) (v : Nat) (x : St) : Nat → St := fun j => if j = v then x else T j
theorem LoopR.start (T : Nat → St) (hs : s < N.n) : LoopR N f s (2 ^ s) (2 ^ s) T := by
  have hb : ∀ v, (2 ^ s).testBit v = true → v = s := fun v h => by
    rw [Nat.testBit_two_pow] at h; exact (of_decide_eq_true h).symm
  have hs1 : (2 ^ s).testBit s = true := by rw [Nat.testBit_two_pow]; simp
  refine ⟨⟨fun _ => 0, 0, Nat.pow_lt_pow_right (by decide) hs, hs1, fun _ _ => Nat.le_refl _, fun v h => ?_, fun v h hv => absurd (hb v h) hv⟩, fun _ h => h, fun x _ h1 h2 => by rw [h1] at h2; cases h2⟩
  rw [hb v h]; exact .here
theorem RoundR.start {met layer : Nat} {T : Nat → St} (h : LoopR N f s met layer T) : RoundR N f s met layer [] 0 T :=
  ⟨h, Nat.two_pow_pos _, fun v hv => by simp at hv, fun v hv => by simp at hv, fun x hx => by cases hx⟩
theorem RoundR.skip {met layer nx : Nat} {T : Nat → St} {pre : List St} (h : RoundR N f s met layer pre nx T) (hx : layer.testBit x.fr = false ∨ met.testBit x.to = true) : RoundR N f s met layer (pre ++ [x]) nx T :=
  ⟨h.base, h.lt, h.new, h.led, fun y hy hl => by
    rcases List.mem_append.1 hy with hy | hy
    · exact h.all y hy hl
    · rw [List.mem_singleton.1 hy] at hl ⊢
      rcases hx with hx | hx
      · rw [hl] at hx; cases hx
      · exact .inl hx⟩
theorem RoundR.take {met layer nx : Nat} {T : Nat → St} {pre : List St} (hN : N.ok) (h : RoundR N f s met layer pre nx T) (hok : OkSt N f x) (h1 : layer.testBit x.fr = true) (h2 : met.testBit x.to = false) :
    RoundR N f s met layer (pre ++ [x]) (nx ||| 2 ^ x.to) (updT T x.to x) := by
  have hto := (hok.lt hN).2.1
  have hor : ∀ v, (nx ||| 2 ^ x.to).testBit v = true ↔ nx.testBit v = true ∨ v = x.to := fun v => by
    rw [Nat.testBit_or, Nat.testBit_two_pow, Bool.or_eq_true, decide_eq_true_iff]
    exact or_congr Iff.rfl eq_comm
  have hT : ∀ v, met.testBit v = true → updT T x.to x v = T v := fun v hv => if_neg fun e => by rw [e, h2] at hv; cases hv
  obtain ⟨⟨d, k, hR⟩, hsub, hshut⟩ := h.base
  refine ⟨⟨⟨d, k, hR.lt, hR.src, hR.top, hR.come, fun v hv hvs => by rw [hT v hv]; exact hR.last v hv hvs⟩, hsub, hshut⟩, Nat.or_lt_two_pow h.lt (Nat.pow_lt_pow_right (by decide) hto), fun v hv => ?_, fun v hv => ?_, fun y hy hl => ?_⟩
  · rcases (hor v).1 hv with hv | rfl
    · exact h.new v hv
    · exact h2
  · by_cases hvx : v = x.to
    · subst hvx
      have e : updT T x.to x x.to = x := if_pos rfl
      rw [e]; exact ⟨hok, rfl, h1⟩
    · have e : updT T x.to x v = T v := if_neg hvx
      rw [e]
      rcases (hor v).1 hv with hv | hv
      · exact h.led v hv
      · exact absurd hv hvx
  · rcases List.mem_append.1 hy with hy | hy
    · exact (h.all y hy hl).imp id fun h => (hor _).2 (.inl h)
    · rw [List.mem_singleton.1 hy]
      exact .inr ((hor _).2 (.inr rfl))
theorem RoundR.done {met layer nx : Nat} {T : Nat → St} (h : RoundR N f s met layer (stepsTo N f N.K) nx T) : LoopR N f s (met ||| nx) nx T := by
  have hor : ∀ v, (met ||| nx).testBit v = true ↔ met.testBit v = true ∨ nx.testBit v = true := fun v => by rw [Nat.testBit_or, Bool.or_eq_true]
  obtain ⟨⟨d, k, hR⟩, hsub, hshut⟩ := h.base
  refine ⟨⟨fun v => if met.testBit v = true then d v else k + 1, k + 1, Nat.or_lt_two_pow hR.lt h.lt, (hor s).2 (.inl hR.src), fun v _ => ?_, fun v hv => ?_, fun v hv hvs => ?_⟩, fun v hv => (hor v).2 (.inr hv), fun x hx hm hn => ?_⟩
  · by_cases hm : met.testBit v = true
    · simp only [hm, if_true]; have := hR.top v hm; omega
    · simp only [if_neg hm]; omega
  · rcases (hor v).1 hv with hv | hv
    · exact hR.come v hv
    · obtain ⟨h1, h2, h3⟩ := h.led v hv
      have hs := h1.step
      rw [h2] at hs
      exact .step (hR.come _ (hsub _ h3)) hs
  · rcases (hor v).1 hv with hm | hm
    · obtain ⟨h1, h2, h3, h4⟩ := hR.last v hm hvs
      refine ⟨h1, h2, (hor _).2 (.inl h3), ?_⟩
      simp only [hm, h3, if_true]; exact h4
    · obtain ⟨h1, h2, h3⟩ := h.led v hm
      have h4 := hsub _ h3
      refine ⟨h1, h2, (hor _).2 (.inl h4), ?_⟩
      simp only [h4, h.new v hm, if_true]
      have := hR.top _ h4
      simp; omega
  · rcases (hor _).1 hm with hm | hm
    · by_cases hl : layer.testBit x.fr = true
      · exact (hor _).2 (h.all x hx.mem hl)
      · exact (hor _).2 (.inl (hshut x hx hm (by simpa using hl)))
    · rw [hm] at hn; cases hn
/-- Where steps lead to; and by which one comes there. -/
structure ReachE (N : NetP) (f : Nat → Int) (s met : Nat) (T : Nat → St) : Prop where
  lt : met < 2 ^ N.n
  iff : ∀ v, met.testBit v = true ↔ ComeP N f s v
  last : ∃ d : Nat → Nat, ∀ v, met.testBit v = true → v ≠ s → OkSt N f (T v) ∧ (T v).to = v ∧ met.testBit (T v).fr = true ∧ d (T v).fr < d v
theorem LoopR.end_ {met : Nat} {T : Nat → St} (h : LoopR N f s met 0 T) : ReachE N f s met T := by
  obtain ⟨⟨d, k, hR⟩, _, hshut⟩ := h
  refine ⟨hR.lt, fun v => ⟨hR.come v, fun hc => ?_⟩, d, hR.last⟩
  induction hc with
  | here => exact hR.src
  | step _ hst ih =>
    obtain ⟨x, hx, rfl, rfl⟩ := step_ok hst
    exact hshut x hx ih (by simp)
theorem ReachE.src {met : Nat} {T : Nat → St} (h : ReachE N f s met T) : met.testBit s = true := (h.iff s).2 .here

/-! One way. -/
def Way (T : Nat → St) (s : Nat) : Nat → List Nat → Prop
  | v, [] => v = s
  | v, u :: us => u = v ∧ v ≠ s ∧ Way T s (T v).fr us
theorem way_ex {met : Nat} {T : Nat → St} {d : Nat → Nat} (h : ∀ v, met.testBit v = true → v ≠ s → OkSt N f (T v) ∧ (T v).to = v ∧ met.testBit (T v).fr = true ∧ d (T v).fr < d v) :
    ∀ m v, d v < m → met.testBit v = true → ∃ us, Way T s v us ∧ ∀ u ∈ us, met.testBit u = true ∧ u ≠ s
  | 0, _, hm, _ => absurd hm (by omega)
  | m + 1, v, hm, hv => by
    by_cases hvs : v = s
    · exact ⟨[], hvs, fun u hu => by cases hu⟩
    · obtain ⟨_, _, h3, h4⟩ := h v hv hvs
      obtain ⟨us, hw, hu⟩ := way_ex h m _ (by omega) h3
      exact ⟨v :: us, ⟨rfl, hvs, hw⟩, fun u hu' => by
        rcases List.mem_cons.1 hu' with rfl | hu'
        · exact ⟨hv, hvs⟩
        · exact hu u hu'⟩
theorem Way.cons {T : Nat → St} {v : Nat} {us : List Nat} (h : Way T s v us) (hv : v ≠ s) : ∃ us', us = v :: us' ∧ Way T s (T v).fr us' := by
  cases us with
  | nil => exact absurd h hv
  | cons u us => obtain ⟨rfl, _, h⟩ := h; exact ⟨us, rfl, h⟩
theorem Way.nil {T : Nat → St} {us : List Nat} (h : Way T s s us) : us = [] := by
  cases us with
  | nil => rfl
  | cons u us => exact absurd rfl h.2.1

/-- What is so once as much has been sent by the first steps of a way, taken from its end: t, on to v. -/
structure PushI (N : NetP) (f : Nat → Int) (T : Nat → St) (d : Nat → Nat) (r : Int) (t v : Nat) (us : List Nat) (g : Nat → Int) : Prop where
  may : MayP N g
  out : ∀ i, outP N g i = outP N f i + ((if i = v then r else 0) - (if i = t then r else 0))
  same : ∀ k, (∀ u ∈ us, (T u).arc ≠ k) → g k = f k
  up : ∀ u ∈ us, d v < d u ∧ OkSt N f (T u) ∧ (T u).to = u
theorem PushI.start {T : Nat → St} {d : Nat → Nat} {r : Int} (hf : MayP N f) : PushI N f T d r t t [] f :=
  ⟨hf, fun i => by split <;> omega, fun _ _ => rfl, fun u hu => by cases hu⟩
theorem same_arc {y : St} (hx : OkSt N f x) (hy : OkSt N f y) (h : x.arc = y.arc) (ht : x.to ≠ y.to) : x.fr = y.to ∧ y.fr = x.to := by
  obtain ⟨k, _, hx⟩ := hx
  obtain ⟨l, _, hy⟩ := hy
  rcases hx with ⟨rfl, _⟩ | ⟨rfl, _⟩ <;> rcases hy with ⟨rfl, _⟩ | ⟨rfl, _⟩ <;> simp only [fwS, bkS] at h ht ⊢ <;> subst h <;> simp_all
theorem PushI.fresh {T : Nat → St} {d : Nat → Nat} {r : Int} {v : Nat} {us : List Nat} {g : Nat → Int} (h : PushI N f T d r t v us g) (hok : OkSt N f (T v)) (hto : (T v).to = v) (hd : d (T v).fr < d v) : g (T v).arc = f (T v).arc := by
  refine h.same _ fun u hu he => ?_
  obtain ⟨h1, h2, h3⟩ := h.up u hu
  have hne : (T u).to ≠ (T v).to := fun e => by
    rw [h3, hto] at e
    rw [e] at h1; omega
  obtain ⟨_, h5⟩ := same_arc h2 hok he hne
  rw [h5, h3] at hd
  omega
theorem updI_same (g : Nat → Int) (k : Nat) (x : Int) : updI g k x k = x := if_pos rfl
theorem updI_ne (g : Nat → Int) {k j : Nat} (h : j ≠ k) (x : Int) : updI g k x j = g j := if_neg h
theorem PushI.next {T : Nat → St} {d : Nat → Nat} {r : Int} {v : Nat} {us : List Nat} {g : Nat → Int} (hN : N.ok) (h : PushI N f T d r t v us g) (hok : OkSt N f (T v)) (hto : (T v).to = v) (hd : d (T v).fr < d v) (h0 : 0 ≤ r) (hr : r ≤ (T v).room) :
    PushI N f T d r t (T v).fr (us ++ [v]) (updI g (T v).arc (g (T v).arc + (T v).sign * r)) := by
  have hfr := h.fresh hok hto hd
  have hk := (hok.lt hN).2.2
  refine ⟨fun k hk' => ?_, fun i => ?_, fun k hk' => ?_, fun u hu => ?_⟩
  · by_cases e : k = (T v).arc
    · subst e
      rw [updI_same, hfr]
      have h1 := h.may _ hk
      rw [hfr] at h1
      obtain ⟨l, _, ⟨e, _⟩ | ⟨e, _⟩⟩ := hok
      · rw [e] at hr h1 ⊢; simp only [fwS] at hr h1 ⊢; omega
      · rw [e] at hr h1 ⊢; simp only [bkS] at hr h1 ⊢; omega
    · rw [updI_ne _ e]; exact h.may k hk'
  · rw [out_upd hk, h.out i]
    obtain ⟨l, hl, ⟨e, _⟩ | ⟨e, _⟩⟩ := hok
    · rw [e] at hto ⊢
      simp only [fwS] at hto ⊢
      subst hto
      by_cases h1 : N.fr l = i <;> by_cases h2 : N.to l = i <;> by_cases h3 : i = t <;> simp [h1, h2, h3, eq_comm] <;> (try simp_all) <;> omega
    · rw [e] at hto ⊢
      simp only [bkS] at hto ⊢
      subst hto
      by_cases h1 : N.fr l = i <;> by_cases h2 : N.to l = i <;> by_cases h3 : i = t <;> simp [h1, h2, h3, eq_comm] <;> (try simp_all) <;> omega
  · have h1 : k ≠ (T v).arc := fun e => hk' v (List.mem_append_right _ (List.mem_singleton.2 rfl)) e.symm
    rw [updI_ne _ h1]
    exact h.same k fun u hu => hk' u (List.mem_append_left _ hu)
  · rcases List.mem_append.1 hu with hu | hu
    · obtain ⟨h1, h2⟩ := h.up u hu
      exact ⟨by omega, h2⟩
    · rw [List.mem_singleton.1 hu]
      exact ⟨hd, hok, hto⟩
theorem PushI.flow {T : Nat → St} {d : Nat → Nat} {r v : Int} {us : List Nat} {g : Nat → Int} (h : PushI N f T d r t s us g) (hst : s ≠ t) (F : FlowP N s t f v) : FlowP N s t g (v + r) :=
  ⟨h.may, fun i hi h1 h2 => by rw [h.out i, F.bal i hi h1 h2, if_neg h1, if_neg h2]; rfl, by rw [h.out s, F.val, if_pos rfl, if_neg hst]; omega⟩
end
end Go.Proofs.Ytkpejmpnbdblbaa
