/- BELLMAN, FORD: the least lengths of walks of so many arcs at most; of just so many; where it gets shorter for ever. Plain facts, of no program. -/
import Derived.Test.YtkpejmpnbdblbaaPotP
namespace Go.Proofs.Ytkpejmpnbdblbaa

/-- Arcs, each with a fee. -/
structure ArcsF where
  n : Nat
  K : Nat
  fr : Nat → Nat
  to : Nat → Nat
  fee : Nat → Int
def ArcsF.ok (N : ArcsF) : Prop := ∀ k, k < N.K → N.fr k < N.n ∧ N.to k < N.n
/-- An arc from i to j costs c. -/
def ArcC (N : ArcsF) (i j : Nat) (c : Int) : Prop := ∃ k, k < N.K ∧ N.fr k = i ∧ N.to k = j ∧ N.fee k = c
/-- A walk of l arcs from i to j, of length c. -/
def WalkN (N : ArcsF) (l i j : Nat) (c : Int) : Prop := ∃ p cs, WalkC (ArcC N) l p cs ∧ p 0 = i ∧ p l = j ∧ sumI cs l = c
def lessO (x : Option Int) (v : Int) : Option Int := match x with
  | some c => if v < c then some v else some c
  | none => some v
theorem lessO_le {x : Option Int} {v : Int} : ∃ c, lessO x v = some c ∧ c ≤ v := by
  unfold lessO
  cases x with
  | none => exact ⟨v, rfl, Int.le_refl _⟩
  | some c =>
    simp only
    split
    · exact ⟨v, rfl, Int.le_refl _⟩
    · exact ⟨c, rfl, by omega⟩
theorem lessO_old {x : Option Int} {v c : Int} (h : x = some c) : ∃ c', lessO x v = some c' ∧ c' ≤ c := by
  subst h
  unfold lessO
  simp only
  split
  · exact ⟨v, rfl, by omega⟩
  · exact ⟨c, rfl, Int.le_refl _⟩
theorem lessO_from {x : Option Int} {v c : Int} (h : lessO x v = some c) : x = some c ∨ c = v := by
  unfold lessO at h
  cases x with
  | none => simp only [Option.some.injEq] at h; exact .inr h.symm
  | some d =>
    simp only at h
    split at h
    · simp only [Option.some.injEq] at h; exact .inr h.symm
    · exact .inl h
/-- Behind the first k arcs. -/
def bfTo (N : ArcsF) (D : Nat → Option Int) (t : Nat) : Nat → Option Int
  | 0 => D t
  | k + 1 => match D (N.fr k) with
    | some a => if N.to k = t then lessO (bfTo N D t k) (a + N.fee k) else bfTo N D t k
    | none => bfTo N D t k
def bfR (N : ArcsF) (s : Nat) : Nat → Nat → Option Int
  | 0 => fun t => if t = s then some 0 else none
  | k + 1 => fun t => bfTo N (bfR N s k) t N.K
section
variable {N : ArcsF} {D : Nat → Option Int} {s t l k : Nat} {a c : Int}
theorem bfTo_le (h : D t = some c) : ∀ k, ∃ c', bfTo N D t k = some c' ∧ c' ≤ c
  | 0 => ⟨c, h, Int.le_refl _⟩
  | k + 1 => by
    obtain ⟨d, h1, h2⟩ := bfTo_le h k
    unfold bfTo
    cases D (N.fr k) with
    | none => exact ⟨d, h1, h2⟩
    | some a =>
      simp only
      split
      · obtain ⟨e, h3, h4⟩ := lessO_old (v := a + N.fee k) h1
        exact ⟨e, h3, by omega⟩
      · exact ⟨d, h1, h2⟩
theorem bfTo_via (h : D (N.fr l) = some a) : ∀ k, l < k → ∃ c, bfTo N D (N.to l) k = some c ∧ c ≤ a + N.fee l
  | k + 1, hl => by
    unfold bfTo
    rcases Nat.lt_or_ge l k with h1 | h1
    · obtain ⟨d, h2, h3⟩ := bfTo_via h k h1
      cases D (N.fr k) with
      | none => exact ⟨d, h2, h3⟩
      | some b =>
        simp only
        split
        · obtain ⟨e, h4, h5⟩ := lessO_old (v := b + N.fee k) h2
          exact ⟨e, h4, by omega⟩
        · exact ⟨d, h2, h3⟩
    · obtain rfl : l = k := by omega
      rw [h]
      simp only [if_true]
      exact lessO_le
theorem bfTo_from : ∀ k, bfTo N D t k = some c → D t = some c ∨ ∃ l a, l < k ∧ N.to l = t ∧ D (N.fr l) = some a ∧ c = a + N.fee l
  | 0, h => .inl h
  | k + 1, h => by
    unfold bfTo at h
    have up : (D t = some c ∨ ∃ l a, l < k ∧ N.to l = t ∧ D (N.fr l) = some a ∧ c = a + N.fee l) → (D t = some c ∨ ∃ l a, l < k + 1 ∧ N.to l = t ∧ D (N.fr l) = some a ∧ c = a + N.fee l) := by
      rintro (h | ⟨l, a, h1, h2⟩)
      · exact .inl h
      · exact .inr ⟨l, a, by omega, h2⟩
    cases h1 : D (N.fr k) with
    | none => rw [h1] at h; exact up (bfTo_from k h)
    | some a =>
      rw [h1] at h
      simp only at h
      split at h
      · rename_i ht
        rcases lessO_from h with h2 | h2
        · exact up (bfTo_from k h2)
        · exact .inr ⟨k, a, by omega, ht, h1, h2⟩
      · exact up (bfTo_from k h)
theorem WalkN.nil (N : ArcsF) (i : Nat) : WalkN N 0 i i 0 := ⟨fun _ => i, fun _ => 0, fun t ht => absurd ht (by omega), rfl, rfl, rfl⟩
theorem WalkN.snoc {i j : Nat} {d : Int} (h : WalkN N l i j c) {m : Nat} (ha : ArcC N j m d) : WalkN N (l + 1) i m (c + d) := by
  obtain ⟨p, cs, h1, h2, h3, h4⟩ := h
  refine ⟨fun t => if t ≤ l then p t else m, fun t => if t < l then cs t else d, fun t ht => ?_, by simp [h2], if_neg (by omega), ?_⟩
  · rcases Nat.lt_or_ge t l with h5 | h5
    · simp only [if_pos (Nat.le_of_lt h5), if_pos (Nat.succ_le_of_lt h5), if_pos h5]; exact h1 t h5
    · obtain rfl : t = l := by omega
      simp only [Nat.le_refl, if_true, if_neg (show ¬ t + 1 ≤ t by omega), if_neg (Nat.lt_irrefl t)]
      rw [h3]; exact ha
  · simp only [sumI, if_neg (Nat.lt_irrefl l)]
    rw [sumI_congr l (g := cs) fun t ht => if_pos ht, h4]
theorem WalkN.unsnoc {i j : Nat} (h : WalkN N (l + 1) i j c) : ∃ m a d, WalkN N l i m a ∧ ArcC N m j d ∧ c = a + d := by
  obtain ⟨p, cs, h1, h2, h3, h4⟩ := h
  exact ⟨p l, sumI cs l, cs l, ⟨p, cs, fun t ht => h1 t (by omega), h2, rfl, rfl⟩, by rw [← h3]; exact h1 l (by omega), h4.symm⟩
theorem bf_sound : ∀ k t c, bfR N s k t = some c → ∃ l, l ≤ k ∧ WalkN N l s t c
  | 0, t, c, h => by
    unfold bfR at h
    split at h
    · rename_i ht
      injection h with h
      subst ht h
      exact ⟨0, Nat.le_refl _, .nil N t⟩
    · cases h
  | k + 1, t, c, h => by
    rcases bfTo_from _ (show bfTo N (bfR N s k) t N.K = some c from h) with h1 | ⟨l, a, h1, h2, h3, rfl⟩
    · obtain ⟨m, hm, hw⟩ := bf_sound k t c h1
      exact ⟨m, by omega, hw⟩
    · obtain ⟨m, hm, hw⟩ := bf_sound k _ a h3
      exact ⟨m + 1, by omega, hw.snoc ⟨l, h1, rfl, h2, rfl⟩⟩
theorem bf_mono {k : Nat} (h : bfR N s k t = some c) : ∃ c', bfR N s (k + 1) t = some c' ∧ c' ≤ c := bfTo_le h _
theorem bf_least : ∀ l k t c, WalkN N l s t c → l ≤ k → ∃ c', bfR N s k t = some c' ∧ c' ≤ c
  | 0, 0, t, c, ⟨p, cs, _, h2, h3, h4⟩, _ => by
    have e : t = s := h3.symm.trans h2
    subst e
    refine ⟨0, if_pos rfl, ?_⟩
    rw [← h4]; exact Int.le_refl _
  | 0, k + 1, t, c, h, _ => by
    obtain ⟨d, h1, h2⟩ := bf_least 0 k t c h (Nat.zero_le _)
    obtain ⟨e, h3, h4⟩ := bf_mono h1
    exact ⟨e, h3, by omega⟩
  | l + 1, 0, _, _, _, hl => absurd hl (by omega)
  | l + 1, k + 1, t, c, h, hl => by
    obtain ⟨m, a, d, h1, ⟨x, h2, h3, h4, h5⟩, rfl⟩ := h.unsnoc
    obtain ⟨b, h6, h7⟩ := bf_least l k m a h1 (by omega)
    subst h3 h4 h5
    obtain ⟨e, h8, h9⟩ := bfTo_via (D := bfR N s k) h6 N.K h2
    exact ⟨e, h8, by omega⟩
/-- Is there a walk to it? -/
def There (N : ArcsF) (s t : Nat) : Prop := ∃ l c, WalkN N l s t c
/-- It gets shorter for ever: from s a node can be come to from which a walk to itself has a length below nothing. -/
def SinksP (N : ArcsF) (s : Nat) : Prop := ∃ u l c, There N s u ∧ WalkN N l u u c ∧ c < 0
theorem There.arc (h : There N s t) {m : Nat} {d : Int} (ha : ArcC N t m d) : There N s m := by
  obtain ⟨l, c, h⟩ := h
  exact ⟨l + 1, c + d, h.snoc ha⟩
theorem There.lt (hN : N.ok) (hs : s < N.n) (h : There N s t) : t < N.n := by
  obtain ⟨l, c, h⟩ := h
  cases l with
  | zero =>
    obtain ⟨p, cs, _, h2, h3, _⟩ := h
    rw [← h3, h2]; exact hs
  | succ l =>
    obtain ⟨m, a, d, _, ⟨x, h1, _, rfl, _⟩, _⟩ := h.unsnoc
    exact (hN x h1).2
/-- Without that, each walk has one of fewer arcs than there are nodes that is no longer. -/
theorem short_enough (hN : N.ok) (hs : s < N.n) (hS : ¬ SinksP N s) (h : WalkN N l s t c) : ∃ l' c', l' < N.n ∧ WalkN N l' s t c' ∧ c' ≤ c := by
  obtain ⟨p, cs, h1, h2, h3, h4⟩ := h
  have hthere : ∀ i, i ≤ l → There N s (p i) := fun i => by
    induction i with
    | zero => intro _; rw [h2]; exact ⟨0, 0, .nil N s⟩
    | succ i ih => intro hi; exact (ih (by omega)).arc (h1 i (by omega))
  obtain ⟨l', p', c', h5, h6, h7, h8, h9⟩ := short_walk (A := fun i j c => ArcC N i j c ∧ There N s i) (n := N.n) (fun i j c ⟨⟨x, hx, e1, e2, _⟩, _⟩ => by
    obtain ⟨a, b⟩ := hN x hx
    exact ⟨by omega, by omega⟩) (fun k p c hw he => by
    apply Classical.byContradiction
    intro hneg
    cases k with
    | zero => simp [sumI] at hneg
    | succ k =>
      refine hS ⟨p 0, k + 1, sumI c (k + 1), (hw 0 (by omega)).2, ⟨p, c, fun t ht => (hw t ht).1, rfl, he.symm, rfl⟩, by omega⟩) l p cs (fun t ht => ⟨h1 t ht, hthere t (by omega)⟩) (by omega)
  exact ⟨l', sumI c' l', h5, ⟨p', c', fun t ht => (h6 t ht).1, h7.trans h2, h8.trans h3, rfl⟩, by rw [← h4]; exact h9⟩
/-- So as many rounds as there are nodes are enough: what is told behind them is the least length of all. -/
theorem bf_all (hN : N.ok) (hs : s < N.n) (hS : ¬ SinksP N s) {k : Nat} (hk : N.n ≤ k + 1) (h : WalkN N l s t c) : ∃ c', bfR N s k t = some c' ∧ c' ≤ c := by
  obtain ⟨l', c', h1, h2, h3⟩ := short_enough hN hs hS h
  obtain ⟨d, h4, h5⟩ := bf_least l' k t c' h2 (by omega)
  exact ⟨d, h4, by omega⟩
/-- One round more tells whether it gets shorter for ever. -/
theorem sinks_iff (hN : N.ok) (hs : s < N.n) : SinksP N s ↔ ∃ t, t < N.n ∧ bfR N s N.n t ≠ bfR N s (N.n + 1) t := by
  constructor
  · rintro ⟨u, l, c, hu, hw, hc⟩
    apply Classical.byContradiction
    intro hno
    have heq : ∀ t, t < N.n → bfR N s N.n t = bfR N s (N.n + 1) t := fun t ht => Classical.byContradiction fun h => hno ⟨t, ht, h⟩
    have arc : ∀ i j d a, ArcC N i j d → bfR N s N.n i = some a → ∃ b, bfR N s N.n j = some b ∧ b ≤ a + d := fun i j d a ⟨x, h1, h2, h3, h4⟩ ha => by
      subst h2 h3 h4
      obtain ⟨b, h5, h6⟩ := bfTo_via (D := bfR N s N.n) ha N.K h1
      exact ⟨b, by rw [heq _ (hN x h1).2]; exact h5, h6⟩
    have walk : ∀ l i j c a, WalkN N l i j c → bfR N s N.n i = some a → ∃ b, bfR N s N.n j = some b ∧ b ≤ a + c := fun l => by
      induction l with
      | zero =>
        rintro i j c a ⟨p, cs, _, h2, h3, h4⟩ ha
        have e : j = i := h3.symm.trans h2
        subst e
        exact ⟨a, ha, by rw [← h4]; simp [sumI]⟩
      | succ l ih =>
        intro i j c a h ha
        obtain ⟨m, x, d, h1, h2, rfl⟩ := h.unsnoc
        obtain ⟨b, h3, h4⟩ := ih i m x a h1 ha
        obtain ⟨e, h5, h6⟩ := arc m j d b h2 h3
        exact ⟨e, h5, by omega⟩
    obtain ⟨l0, c0, hw0⟩ := hu
    obtain ⟨z, hz, _⟩ := bf_least 0 N.n s 0 (.nil N s) (Nat.zero_le _)
    obtain ⟨a, ha, _⟩ := walk l0 s u c0 z hw0 hz
    obtain ⟨b, hb, hle⟩ := walk l u u c a hw ha
    rw [ha] at hb
    injection hb with hb
    omega
  · rintro ⟨t, ht, hne⟩
    apply Classical.byContradiction
    intro hS
    apply hne
    cases h : bfR N s (N.n + 1) t with
    | none =>
      cases h2 : bfR N s N.n t with
      | none => rfl
      | some c =>
        obtain ⟨d, h3, _⟩ := bf_mono h2
        rw [h] at h3; cases h3
    | some c =>
      obtain ⟨l, _, hw⟩ := bf_sound _ _ _ h
      obtain ⟨d, h2, h3⟩ := bf_all hN hs hS (k := N.n) (by omega) hw
      obtain ⟨e, h4, h5⟩ := bf_mono h2
      rw [h] at h4
      injection h4 with h4
      rw [h2]; congr 1; omega
end
/-- Of just so many arcs: backwards from the end. -/
def exTo (N : ArcsF) (D : Nat → Option Int) (i : Nat) : Nat → Option Int
  | 0 => none
  | k + 1 => match D (N.to k) with
    | some a => if N.fr k = i then lessO (exTo N D i k) (a + N.fee k) else exTo N D i k
    | none => exTo N D i k
def exR (N : ArcsF) (t : Nat) : Nat → Nat → Option Int
  | 0 => fun i => if i = t then some 0 else none
  | k + 1 => fun i => exTo N (exR N t k) i N.K
section
variable {N : ArcsF} {D : Nat → Option Int} {s t i l k : Nat} {a c : Int}
theorem exTo_via (h : D (N.to l) = some a) : ∀ k, l < k → ∃ c, exTo N D (N.fr l) k = some c ∧ c ≤ a + N.fee l
  | k + 1, hl => by
    unfold exTo
    rcases Nat.lt_or_ge l k with h1 | h1
    · obtain ⟨d, h2, h3⟩ := exTo_via h k h1
      cases D (N.to k) with
      | none => exact ⟨d, h2, h3⟩
      | some b =>
        simp only
        split
        · obtain ⟨e, h4, h5⟩ := lessO_old (v := b + N.fee k) h2
          exact ⟨e, h4, by omega⟩
        · exact ⟨d, h2, h3⟩
    · obtain rfl : l = k := by omega
      rw [h]
      simp only [if_true]
      exact lessO_le
theorem exTo_from : ∀ k, exTo N D i k = some c → ∃ l a, l < k ∧ N.fr l = i ∧ D (N.to l) = some a ∧ c = a + N.fee l
  | 0, h => by cases h
  | k + 1, h => by
    unfold exTo at h
    have up : (∃ l a, l < k ∧ N.fr l = i ∧ D (N.to l) = some a ∧ c = a + N.fee l) → ∃ l a, l < k + 1 ∧ N.fr l = i ∧ D (N.to l) = some a ∧ c = a + N.fee l := by
      rintro ⟨l, a, h1, h2⟩
      exact ⟨l, a, by omega, h2⟩
    cases h1 : D (N.to k) with
    | none => rw [h1] at h; exact up (exTo_from k h)
    | some a =>
      rw [h1] at h
      simp only at h
      split at h
      · rename_i ht
        rcases lessO_from h with h2 | h2
        · exact up (exTo_from k h2)
        · exact ⟨k, a, by omega, ht, h1, h2⟩
      · exact up (exTo_from k h)
theorem WalkN.cons {j : Nat} {d : Int} (ha : ArcC N i j d) (h : WalkN N l j t c) : WalkN N (l + 1) i t (d + c) := by
  obtain ⟨p, cs, h1, h2, h3, h4⟩ := h
  refine ⟨fun t => match t with | 0 => i | t + 1 => p t, fun t => match t with | 0 => d | t + 1 => cs t, fun t ht => ?_, rfl, h3, ?_⟩
  · cases t with
    | zero => show ArcC N i (p 0) d; rw [h2]; exact ha
    | succ t => exact h1 t (by omega)
  · have hf : ∀ (f : Nat → Int) n, sumI f (n + 1) = f 0 + sumI (fun t => f (t + 1)) n := fun f n => by
      induction n with
      | zero => simp [sumI]
      | succ n ih => simp only [sumI] at ih ⊢; omega
    rw [hf]; show d + sumI cs l = _; rw [h4]
theorem WalkN.uncons (h : WalkN N (l + 1) i t c) : ∃ j d a, ArcC N i j d ∧ WalkN N l j t a ∧ c = d + a := by
  obtain ⟨p, cs, h1, h2, h3, h4⟩ := h
  have hf : ∀ (f : Nat → Int) n, sumI f (n + 1) = f 0 + sumI (fun t => f (t + 1)) n := fun f n => by
    induction n with
    | zero => simp [sumI]
    | succ n ih => simp only [sumI] at ih ⊢; omega
  exact ⟨p 1, cs 0, sumI (fun t => cs (t + 1)) l, by rw [← h2]; exact h1 0 (by omega), ⟨fun t => p (t + 1), fun t => cs (t + 1), fun t ht => h1 (t + 1) (by omega), rfl, h3, rfl⟩, by rw [← h4, hf]⟩
theorem ex_sound : ∀ k i c, exR N t k i = some c → WalkN N k i t c
  | 0, i, c, h => by
    unfold exR at h
    split at h
    · rename_i ht
      injection h with h
      subst ht h
      exact .nil N i
    · cases h
  | k + 1, i, c, h => by
    obtain ⟨l, a, h1, h2, h3, rfl⟩ := exTo_from _ (show exTo N (exR N t k) i N.K = some c from h)
    have := (ex_sound k _ a h3).cons ⟨l, h1, h2, rfl, rfl⟩
    rwa [Int.add_comm] at this
theorem ex_least : ∀ k i c, WalkN N k i t c → ∃ c', exR N t k i = some c' ∧ c' ≤ c
  | 0, i, c, ⟨p, cs, _, h2, h3, h4⟩ => by
    have e : i = t := h2.symm.trans h3
    exact ⟨0, if_pos e, by rw [← h4]; exact Int.le_refl _⟩
  | k + 1, i, c, h => by
    obtain ⟨j, d, a, ⟨x, h1, h2, h3, h4⟩, h5, rfl⟩ := h.uncons
    subst h2 h3 h4
    obtain ⟨b, h6, h7⟩ := ex_least k _ a h5
    obtain ⟨e, h8, h9⟩ := exTo_via (D := exR N t k) h6 N.K h1
    exact ⟨e, h8, by omega⟩
end
end Go.Proofs.Ytkpejmpnbdblbaa
