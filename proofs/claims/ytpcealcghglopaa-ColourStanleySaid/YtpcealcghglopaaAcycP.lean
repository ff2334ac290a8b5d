/- Taking away what nothing leads to, turn by turn: all go just if nothing comes round. Plain facts, of no program. -/
import Derived.Test.YtpcealcghglopaaStanleyP
import Derived.Test.YtpcealcghglopaaTutteP
namespace Go.Proofs.Ytpcealcghglopaa

/-- Does one of the first k edges lead to i from a node that is still there? -/
def comesTo (G : EdgP) (o : Nat) (gone : Nat → Bool) (i : Nat) : Nat → Bool
  | 0 => false
  | k + 1 => comesTo G o gone i k || (decide (G.to o k = i) && !gone (G.fr o k))
theorem comes_iff {G : EdgP} {o : Nat} {gone : Nat → Bool} {i : Nat} : ∀ {k : Nat}, comesTo G o gone i k = true ↔ ∃ e, e < k ∧ G.to o e = i ∧ gone (G.fr o e) = false
  | 0 => ⟨fun h => (by cases h), fun ⟨_, h, _⟩ => absurd h (by omega)⟩
  | k + 1 => by
    rw [comesTo, Bool.or_eq_true, comes_iff, Bool.and_eq_true, decide_eq_true_iff, Bool.not_eq_true']
    constructor
    · rintro (⟨e, h1, h2⟩ | h)
      · exact ⟨e, by omega, h2⟩
      · exact ⟨k, by omega, h⟩
    · rintro ⟨e, h1, h2⟩
      rcases Nat.lt_or_eq_of_le (Nat.le_of_lt_succ h1) with h3 | rfl
      · exact .inl ⟨e, h3, h2⟩
      · exact .inr h2
def setG (gone : Nat → Bool) (i : Nat) (b : Bool) : Nat → Bool := fun x => if x = i then b else gone x
/-- In turn t, behind i nodes. -/
structure PassI (G : EdgP) (o n t i : Nat) (gone : Nat → Bool) : Prop where
  safe : ∀ s : Nat, (∀ x, s.testBit x = true → ∃ e, e < G.m ∧ G.to o e = x ∧ s.testBit (G.fr o e) = true) → ∀ x, s.testBit x = true → gone x = false
  many : AcycW G o (2 ^ n - 1) → ∃ g0 : Nat → Bool, (∀ x, g0 x = true → gone x = true) ∧ (t ≤ sizeP g0 n ∨ ∀ x, x < n → g0 x = true) ∧ ∀ x, x < i → (∀ e, e < G.m → G.to o e = x → g0 (G.fr o e) = true) → gone x = true
section
variable {G : EdgP} {o n t i : Nat} {gone : Nat → Bool}
theorem PassI.start (G : EdgP) (o n : Nat) : PassI G o n 0 0 (fun _ => false) :=
  ⟨fun _ _ _ _ => rfl, fun _ => ⟨fun _ => false, fun _ h => h, .inl (Nat.zero_le _), fun _ h => absurd h (by omega)⟩⟩
theorem PassI.step (h : PassI G o n t i gone) : PassI G o n t (i + 1) (setG gone i (gone i || !comesTo G o gone i G.m)) := by
  refine ⟨fun s hs x hx => ?_, fun ha => ?_⟩
  · unfold setG
    split
    · rename_i hxi
      subst hxi
      rw [h.safe s hs x hx, Bool.false_or, Bool.not_eq_false']
      obtain ⟨e, h1, h2, h3⟩ := hs x hx
      exact comes_iff.2 ⟨e, h1, h2, h.safe s hs _ h3⟩
    · exact h.safe s hs x hx
  · obtain ⟨g0, h1, h2, h3⟩ := h.many ha
    have hup : ∀ x, gone x = true → setG gone i (gone i || !comesTo G o gone i G.m) x = true := fun x hx => by
      unfold setG
      split
      · rename_i hxi
        subst hxi
        rw [hx]; rfl
      · exact hx
    refine ⟨g0, fun x hx => hup x (h1 x hx), h2, fun x hx hp => ?_⟩
    rcases Nat.lt_or_eq_of_le (Nat.le_of_lt_succ hx) with h4 | h4
    · exact hup x (h3 x h4 hp)
    · subst h4
      unfold setG
      rw [if_pos rfl, Bool.or_eq_true, Bool.not_eq_true']
      refine .inr ?_
      rw [← Bool.not_eq_true, comes_iff]
      rintro ⟨e, h5, h6, h7⟩
      rw [h1 _ (hp e h5 h6)] at h7
      cases h7
theorem PassI.turn (h : PassI G o n t n gone) (hfr : ∀ k, k < G.m → G.fr o k < n) : PassI G o n (t + 1) 0 gone := by
  refine ⟨h.safe, fun ha => ⟨gone, fun _ h => h, ?_, fun _ h => absurd h (by omega)⟩⟩
  obtain ⟨g0, h1, h2, h3⟩ := h.many ha
  by_cases hall : ∀ x, x < n → gone x = true
  · exact .inr hall
  · refine .inl ?_
    obtain ⟨x0, hx0⟩ := Classical.not_forall.1 hall
    obtain ⟨hx1, hx2⟩ := Classical.not_imp.1 hx0
    have hg0 : g0 x0 = false := by
      rw [← Bool.not_eq_true]
      exact fun hh => hx2 (h1 x0 hh)
    obtain ⟨S, hS1, hS2⟩ := word_ex (fun x => !g0 x) n
    have hSn : S ≠ 0 := fun e => by
      have := hS2 x0 hx1
      rw [e, hg0] at this
      simp at this
    obtain ⟨j, hj, hf⟩ := ha S hSn (subQ_iff.2 fun x hx => by
      rw [Nat.testBit_two_pow_sub_one, decide_eq_true_iff]
      apply Nat.lt_of_not_le
      intro hh
      rw [bit_pow hS1 hh] at hx; cases hx)
    have hjn : j < n := by
      apply Nat.lt_of_not_le
      intro hh
      rw [bit_pow hS1 hh] at hj; cases hj
    have hg : gone j = true := h3 j hjn fun e he ht => by
      have h4 := hf e he ht
      have h5 := hS2 _ (hfr e he)
      rw [← Bool.not_eq_false]
      intro h6
      rw [h6] at h5
      exact h4 h5
    have hgj : g0 j = false := by
      have := hS2 j hjn
      rw [hj] at this
      simpa using this.symm
    have := sizeP_lt h1 hjn hgj hg
    rcases h2 with h6 | h6
    · omega
    · rw [h6 j hjn] at hgj; cases hgj
/-- All have gone just if nothing comes round. -/
theorem PassI.fin (h : PassI G o n n 0 gone) (_hto : ∀ k, k < G.m → G.to o k < n) : (∀ x, x < n → gone x = true) ↔ AcycW G o (2 ^ n - 1) := by
  constructor
  · intro hall
    intro s hs0 hsub
    apply Classical.byContradiction
    intro hno
    have hbad : ∀ x, s.testBit x = true → ∃ e, e < G.m ∧ G.to o e = x ∧ s.testBit (G.fr o e) = true := fun x hx => by
      apply Classical.byContradiction
      intro h1
      exact hno ⟨x, hx, fun k hk ht hf => h1 ⟨k, hk, ht, hf⟩⟩
    obtain ⟨x, hx⟩ := Nat.exists_testBit_of_ne_zero hs0
    have h1 := h.safe s hbad x hx
    have h2 := subQ_iff.1 hsub x hx
    rw [Nat.testBit_two_pow_sub_one, decide_eq_true_iff] at h2
    rw [hall x h2] at h1
    cases h1
  · intro ha x hx
    obtain ⟨g0, h1, h2, _⟩ := h.many ha
    rcases h2 with h3 | h3
    · apply h1
      rw [← Bool.not_eq_false]
      intro hg
      have h4 := sizeP_del (A := fun y => !g0 y) (i := x) (by rw [hg]; rfl) hx
      have h5 := sizeP_not g0 n
      omega
    · exact h1 x (h3 x hx)
end
end Go.Proofs.Ytpcealcghglopaa
