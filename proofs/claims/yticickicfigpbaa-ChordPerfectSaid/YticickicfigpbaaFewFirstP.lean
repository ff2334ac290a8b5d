/- Who tries the colours that are there, and one new one, and leaves what can't be better, finds the first colouring with the fewest. Plain facts, of no program. -/
import Derived.Test.YticickicfigpbaaPaintP
import Derived.Test.YticickicfigpbaaCountP
namespace Go.Proofs.Yticickicfigpbaa

/-- What comes of all colourings that begin so, none of which is taken but for fewer colours than K. -/
def FewS (adj : Nat → Nat → Bool) (r : Nat) (l : List Nat) (u K : Nat) (B : List Nat) (K' : Nat) (B' : List Nat) : Prop :=
  ((∀ k, u ≤ k → k < K → paintF adj k r l = none) ∧ K' = K ∧ B' = B) ∨ (u ≤ K' ∧ K' < K ∧ paintF adj K' r l = some B' ∧ ∀ k, u ≤ k → k < K' → paintF adj k r l = none)
def partT (adj : Nat → Nat → Bool) (r : Nat) (l : List Nat) (c k : Nat) : Option (List Nat) := paintTo (fun c' => paintF adj k r (l ++ [c'])) (fun c' => okTo adj l c' l.length) (min c k)
/-- And of those whose next colour is lesser than c. -/
def LoopS (adj : Nat → Nat → Bool) (r : Nat) (l : List Nat) (u K : Nat) (B : List Nat) (c K' : Nat) (B' : List Nat) : Prop :=
  ((∀ k, u ≤ k → k < K → partT adj r l c k = none) ∧ K' = K ∧ B' = B) ∨ (u ≤ K' ∧ K' < K ∧ partT adj r l c K' = some B' ∧ ∀ k, u ≤ k → k < K' → partT adj r l c k = none)
section
variable {adj : Nat → Nat → Bool} {r u K K' K'' c k : Nat} {l B B' B'' : List Nat}
theorem FewS.prune (h : K ≤ u) : FewS adj r l u K B K B := .inl ⟨fun k _ _ => by omega, rfl, rfl⟩
theorem FewS.full (h : u < K) : FewS adj 0 l u K B u l := .inr ⟨Nat.le_refl _, h, rfl, fun k _ _ => by omega⟩
theorem LoopS.start : LoopS adj r l u K B 0 K B := .inl ⟨fun k _ _ => by unfold partT; rw [Nat.zero_min]; rfl, rfl, rfl⟩
theorem LoopS.none_ (h : LoopS adj r l u K B c K' B') (h1 : u ≤ k) (h2 : k < K') : partT adj r l c k = none := by
  rcases h with ⟨h3, h4, _⟩ | ⟨_, _, _, h3⟩
  · exact h3 k h1 (by omega)
  · exact h3 k h1 h2
theorem LoopS.le (h : LoopS adj r l u K B c K' B') : K' ≤ K := by
  rcases h with ⟨_, h4, _⟩ | ⟨_, h4, _, _⟩ <;> omega
theorem part_more {x : List Nat} (h : partT adj r l c k = some x) : partT adj r l (c + 1) k = some x := by
  unfold partT at h ⊢
  exact paintTo_some (by omega) h
theorem part_same (h : k ≤ c) : partT adj r l (c + 1) k = partT adj r l c k := by
  unfold partT
  rw [Nat.min_eq_right h, Nat.min_eq_right (by omega)]
theorem part_next (h : c < k) (h0 : partT adj r l c k = none) : partT adj r l (c + 1) k = if okTo adj l c l.length = true then paintF adj k r (l ++ [c]) else none := by
  unfold partT at h0 ⊢
  rw [Nat.min_eq_left (by omega)] at h0
  rw [Nat.min_eq_left (by omega)]
  exact paintTo_step h0
theorem LoopS.skip (h : LoopS adj r l u K B c K' B') (hok : okTo adj l c l.length = false) : LoopS adj r l u K B (c + 1) K' B' := by
  have hn : ∀ k, partT adj r l c k = none → partT adj r l (c + 1) k = none := fun k hk => by
    rcases Nat.lt_or_ge c k with h1 | h1
    · rw [part_next h1 hk, if_neg (by rw [hok]; decide)]
    · rw [part_same h1, hk]
  rcases h with ⟨h1, h2, h3⟩ | ⟨h1, h2, h3, h4⟩
  · exact .inl ⟨fun k a b => hn k (h1 k a b), h2, h3⟩
  · exact .inr ⟨h1, h2, part_more h3, fun k a b => hn k (h4 k a b)⟩
theorem LoopS.take (h : LoopS adj r l u K B c K' B') (hok : okTo adj l c l.length = true) (hcu : c ≤ u) (hf : FewS adj r (l ++ [c]) (max u (c + 1)) K' B' K'' B'') : LoopS adj r l u K B (c + 1) K'' B'' := by
  rcases hf with ⟨g1, rfl, rfl⟩ | ⟨g1, g2, g3, g4⟩
  · have hn : ∀ k, u ≤ k → k < K'' → partT adj r l (c + 1) k = none := fun k a b => by
      have h0 := h.none_ a b
      rcases Nat.lt_or_ge c k with h1 | h1
      · rw [part_next h1 h0, if_pos hok]
        exact g1 k (by omega) b
      · rw [part_same h1, h0]
    rcases h with ⟨h1, h2, h3⟩ | ⟨h1, h2, h3, h4⟩
    · exact .inl ⟨fun k a b => hn k a (by omega), h2, h3⟩
    · exact .inr ⟨h1, h2, part_more h3, hn⟩
  · have hle := h.le
    refine .inr ⟨by omega, by omega, ?_, fun k a b => ?_⟩
    · rw [part_next (by omega) (h.none_ (by omega) g2), if_pos hok]
      exact g3
    · have h0 := h.none_ a (by omega)
      rcases Nat.lt_or_ge c k with h1 | h1
      · rw [part_next h1 h0, if_pos hok]
        exact g4 k (by omega) b
      · rw [part_same h1, h0]
theorem paint_pre : ∀ (r : Nat) (l m : List Nat), paintF adj k r l = some m → ∀ i, i < l.length → m.getD i 0 = l.getD i 0
  | 0, l, m, h, i, _ => by
    have h' : some l = some m := h
    injection h' with h'
    rw [h']
  | r + 1, l, m, h, i, hi => by
    obtain ⟨c, _, _, h3⟩ := paintTo_inv (show paintTo _ _ k = some m from h)
    have h4 := paint_pre r (l ++ [c]) m h3 i (by rw [List.length_append]; omega)
    rw [h4, getD_snoc, if_pos hi]
theorem paint_at {m : List Nat} (h : paintF adj k r (l ++ [c]) = some m) : m.getD l.length 0 = c := by
  rw [paint_pre r (l ++ [c]) m h l.length (by simp), getD_snoc, if_neg (Nat.lt_irrefl _), if_pos rfl]
theorem part_mono {k' : Nat} (h : PartL adj k l) (hk : k ≤ k') : PartL adj k' l := ⟨fun i hi => Nat.lt_of_lt_of_le (h.lt i hi) hk, h.ne⟩
theorem new_ok (h : PartL adj u l) (hc : u ≤ c) : okTo adj l c l.length = true := by
  rw [okTo_iff]
  intro i hi e
  have := h.lt i hi
  omega
/-- One new colour is as good as another one. -/
theorem new_same (h : PartL adj u l) (hc : u ≤ c) (hck : c < k) (hn : paintF adj k r (l ++ [u]) = none) : paintF adj k r (l ++ [c]) = none := by
  cases hq : paintF adj k r (l ++ [c]) with
  | none => rfl
  | some m =>
    exfalso
    obtain ⟨hp, hlen⟩ := paint_ok r (l ++ [c]) m ((part_mono h (by omega)).snoc hck (new_ok h hc)) hq
    rw [List.length_append, List.length_singleton] at hlen
    obtain ⟨sw, hsw⟩ : ∃ sw : Nat → Nat, sw = fun x => if x = c then u else if x = u then c else x := ⟨_, rfl⟩
    have inj : ∀ x y, sw x = sw y → x = y := fun x y e => by
      rw [hsw] at e
      dsimp only at e
      split at e <;> split at e <;> (try split at e) <;> (try split at e) <;> omega
    refine paint_none (col := fun i => sw (m.getD i 0)) r (l ++ [u]) (fun i hi => ?_) (fun i hi => ?_) (fun i j hi hj ha e => ?_) hn
    · rw [List.length_append, List.length_singleton] at hi
      rw [getD_snoc]
      rcases Nat.lt_or_ge i l.length with h1 | h1
      · have h2 := h.lt i h1
        have h3 := paint_pre r (l ++ [c]) m hq i (by rw [List.length_append]; omega)
        rw [getD_snoc, if_pos h1] at h3
        rw [if_pos h1, h3, hsw]
        dsimp only
        rw [if_neg (by omega), if_neg (by omega)]
      · have e : i = l.length := by omega
        rw [if_neg (by omega), if_pos e, e, paint_at hq, hsw]
        simp
    · rw [List.length_append, List.length_singleton] at hi
      have h1 := hp.lt i (by omega)
      show sw (m.getD i 0) < k
      rw [hsw]
      dsimp only
      split
      · omega
      · split <;> omega
    · rw [List.length_append, List.length_singleton] at hi
      exact hp.ne i j (by omega) hj ha (inj _ _ e)
theorem paintTo_nil {rec_ : Nat → Option (List Nat)} {ok : Nat → Bool} : ∀ {k : Nat}, (∀ c, c < k → ok c = true → rec_ c = none) → paintTo rec_ ok k = none
  | 0, _ => rfl
  | k + 1, h => by
    rw [paintTo_step (paintTo_nil fun c hc => h c (by omega))]
    split
    · rename_i h1; exact h k (by omega) h1
    · rfl
theorem part_end (h : PartL adj u l) (_hk : u ≤ k) : partT adj r l (u + 1) k = paintF adj k (r + 1) l := by
  show paintTo _ _ (min (u + 1) k) = paintTo _ _ k
  rcases Nat.lt_or_ge (u + 1) k with h1 | h1
  · rw [Nat.min_eq_left (by omega)]
    cases hq : paintTo (fun c' => paintF adj k r (l ++ [c'])) (fun c' => okTo adj l c' l.length) (u + 1) with
    | some x => exact (paintTo_some (by omega) hq).symm
    | none =>
      have hu := paintTo_none hq u (by omega) (new_ok h (Nat.le_refl _))
      refine (paintTo_nil fun c hc hok => ?_).symm
      rcases Nat.lt_or_ge c u with h2 | h2
      · exact paintTo_none hq c (by omega) hok
      · exact new_same h h2 hc hu
  · rw [Nat.min_eq_right h1]
theorem LoopS.done (h : LoopS adj r l u K B (u + 1) K' B') (hp : PartL adj u l) : FewS adj (r + 1) l u K B K' B' := by
  rcases h with ⟨h1, h2, h3⟩ | ⟨h1, h2, h3, h4⟩
  · exact .inl ⟨fun k a b => by rw [← part_end hp a]; exact h1 k a b, h2, h3⟩
  · exact .inr ⟨h1, h2, by rw [← part_end hp h1]; exact h3, fun k a b => by rw [← part_end hp a]; exact h4 k a b⟩
theorem FewS.least {n : Nat} (h : FewS adj n [] 0 (n + 1) B K' B') : LeastC adj n K' B' := by
  rcases h with ⟨h1, _, _⟩ | ⟨_, _, h3, h4⟩
  · obtain ⟨k, l, hl⟩ := leastC_ex adj n
    have := h1 k (by omega) (by have := hl.le_n; omega)
    rw [hl.1] at this
    cases this
  · exact ⟨h3, fun k' hk => h4 k' (Nat.zero_le _) hk⟩
/-- The set of each colour. -/
def ClsP (l : List Nat) (S : Nat → Nat) : Prop := ∀ c i, (S c).testBit i = decide (i < l.length ∧ l.getD i 0 = c)
def updS (S : Nat → Nat) (c x : Nat) : Nat → Nat := fun j => if j = c then x else S j
theorem ClsP.nil : ClsP [] (fun _ => 0) := fun c i => by simp
theorem ClsP.snoc {S : Nat → Nat} (h : ClsP l S) (c : Nat) : ClsP (l ++ [c]) (updS S c (S c ||| 2 ^ l.length)) := fun j i => by
  rw [getD_snoc, List.length_append, List.length_singleton]
  unfold updS
  by_cases hj : j = c
  · subst hj
    rw [if_pos rfl, Nat.testBit_or, h, Nat.testBit_two_pow]
    rcases Nat.lt_trichotomy i l.length with h1 | h1 | h1
    · have h2 : ¬ l.length = i := by omega
      have h3 : i < l.length + 1 := by omega
      simp [h1, h2, h3]
    · subst h1; simp
    · have h2 : ¬ l.length = i := by omega
      have h3 : ¬ i < l.length + 1 := by omega
      have h4 : ¬ i < l.length := by omega
      simp [h2, h3, h4]
  · rw [if_neg hj, h]
    rcases Nat.lt_trichotomy i l.length with h1 | h1 | h1
    · have h3 : i < l.length + 1 := by omega
      simp [h1, h3]
    · subst h1
      have : ¬ c = j := fun e => hj e.symm
      simp [this]
    · have h3 : ¬ i < l.length + 1 := by omega
      have h4 : ¬ i < l.length := by omega
      simp [h3, h4]
theorem updS_back (S : Nat → Nat) (c x : Nat) : updS (updS S c x) c (S c) = S := funext fun j => by
  unfold updS
  by_cases h : j = c
  · rw [if_pos h, h]
  · rw [if_neg h, if_neg h]
theorem ClsP.lt {S : Nat → Nat} (h : ClsP l S) (c : Nat) : S c < 2 ^ l.length := by
  apply Nat.lt_pow_two_of_testBit
  intro i hi
  rw [h]
  have : ¬ i < l.length := by omega
  simp [this]
theorem ClsP.ok {S nb : Nat → Nat} (h : ClsP l S) (hnb : ∀ i, (nb l.length).testBit i = adj l.length i) (hs : ∀ i j, adj i j = adj j i) (c : Nat) : okTo adj l c l.length = true ↔ S c &&& nb l.length = 0 := by
  rw [okTo_iff]
  constructor
  · intro h1
    apply Nat.eq_of_testBit_eq
    intro i
    rw [Nat.testBit_and, h, hnb, Nat.zero_testBit, hs]
    by_cases h2 : i < l.length ∧ l.getD i 0 = c
    · rw [h1 i h2.1 h2.2, Bool.and_false]
    · rw [decide_eq_false h2]; rfl
  · intro h1 i hi he
    have h2 : (S c &&& nb l.length).testBit i = false := by rw [h1]; simp
    rw [Nat.testBit_and, h, hnb, hs, decide_eq_true (show i < l.length ∧ l.getD i 0 = c from ⟨hi, he⟩)] at h2
    simpa using h2
theorem PartL.next (h : PartL adj u l) (hok : okTo adj l c l.length = true) : PartL adj (max u (c + 1)) (l ++ [c]) := (part_mono h (by omega)).snoc (by omega) hok
end
end Go.Proofs.Yticickicfigpbaa
