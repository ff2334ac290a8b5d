/- Plain facts and small walks that the others lean on, in one text: PaintP, ClassP, FewFirstP. No conditions. -/
import Derived.Test.YtpcealcghglopaaZRefColours
import Derived.Test.YtpcealcghglopaaZb2
namespace Go.Proofs.Ytpcealcghglopaa

/-- The nodes of a list have colours below k, no edge two alike. -/
structure PartL (adj : Nat → Nat → Bool) (k : Nat) (l : List Nat) : Prop where
  lt : ∀ i, i < l.length → l.getD i 0 < k
  ne : ∀ i j, i < l.length → j < i → adj j i = true → l.getD j 0 ≠ l.getD i 0
section
variable {adj : Nat → Nat → Bool} {k c : Nat} {l : List Nat}
theorem PartL.nil : PartL adj k [] := ⟨fun i hi => absurd hi (by simp), fun i j hi => absurd hi (by simp)⟩
theorem okTo_iff : ∀ j, okTo adj l c j = true ↔ ∀ i, i < j → l.getD i 0 = c → adj i l.length = false
  | 0 => ⟨fun _ i hi => absurd hi (by omega), fun _ => rfl⟩
  | j + 1 => by
    show (okTo adj l c j && (((l.getD j 0 : Nat) != c) || !adj j l.length)) = true ↔ _
    rw [Bool.and_eq_true, okTo_iff j, Bool.or_eq_true, bne_iff_ne, Bool.not_eq_true']
    constructor
    · rintro ⟨h1, h2⟩ i hi hc
      by_cases e : i = j
      · subst e; exact h2.resolve_left fun h => h hc
      · exact h1 i (by omega) hc
    · intro h
      refine ⟨fun i hi hc => h i (by omega) hc, ?_⟩
      by_cases e : l.getD j 0 = c
      · exact .inr (h j (by omega) e)
      · exact .inl e
theorem getD_snoc (l : List Nat) (c i : Nat) : (l ++ [c]).getD i 0 = if i < l.length then l.getD i 0 else if i = l.length then c else 0 := by
  rw [List.getD_eq_getElem?_getD, List.getD_eq_getElem?_getD]
  split
  · rename_i h; rw [List.getElem?_append_left h]
  · rename_i h
    rw [List.getElem?_append_right (by omega)]
    split
    · rename_i e; subst e; simp
    · rename_i e
      rw [List.getElem?_eq_none (by simp; omega)]; rfl
theorem PartL.snoc (h : PartL adj k l) (hc : c < k) (hok : okTo adj l c l.length = true) : PartL adj k (l ++ [c]) := by
  rw [okTo_iff] at hok
  refine ⟨fun i hi => ?_, fun i j hi hj ha => ?_⟩
  · rw [List.length_append, List.length_singleton] at hi
    rw [getD_snoc]
    split
    · rename_i h1; exact h.lt i h1
    · rw [if_pos (by omega)]; exact hc
  · rw [List.length_append, List.length_singleton] at hi
    rw [getD_snoc, getD_snoc, if_pos (show j < l.length by omega)]
    split
    · rename_i h1; exact h.ne i j h1 hj ha
    · rename_i h1
      have e : i = l.length := by omega
      rw [if_pos e]
      intro e2
      have := hok j (by omega) e2
      rw [← e, ha] at this; cases this
theorem paintTo_inv {rec_ : Nat → Option (List Nat)} {ok : Nat → Bool} {m : List Nat} : ∀ {k : Nat}, paintTo rec_ ok k = some m → ∃ c, c < k ∧ ok c = true ∧ rec_ c = some m
  | 0, h => by cases h
  | k + 1, h => by
    cases hq : paintTo rec_ ok k with
    | some m' =>
      have h1 := paintTo_some (Nat.le_succ k) hq
      rw [h] at h1
      injection h1 with h1
      obtain ⟨c, a, b, d⟩ := paintTo_inv hq
      exact ⟨c, by omega, b, by rw [h1]; exact d⟩
    | none =>
      rw [paintTo_step hq] at h
      split at h
      · rename_i h1; exact ⟨k, by omega, h1, h⟩
      · cases h
theorem paintTo_none {rec_ : Nat → Option (List Nat)} {ok : Nat → Bool} : ∀ {k : Nat}, paintTo rec_ ok k = none → ∀ c, c < k → ok c = true → rec_ c = none
  | 0, _, _, hc, _ => absurd hc (by omega)
  | k + 1, h, c, hc, hok => by
    cases hq : paintTo rec_ ok k with
    | some m' =>
      have h1 := paintTo_some (Nat.le_succ k) hq
      rw [h] at h1; cases h1
    | none =>
      by_cases e : c = k
      · subst e
        rw [paintTo_step hq, if_pos hok] at h
        exact h
      · exact paintTo_none hq c (by omega) hok
theorem paint_ok : ∀ (r : Nat) (l m : List Nat), PartL adj k l → paintF adj k r l = some m → PartL adj k m ∧ m.length = l.length + r
  | 0, l, m, h, e => by
    have e' : some l = some m := e
    injection e' with e'
    subst e'
    exact ⟨h, rfl⟩
  | r + 1, l, m, h, e => by
    obtain ⟨c, h1, h2, h3⟩ := paintTo_inv (show paintTo _ _ k = some m from e)
    obtain ⟨h4, h5⟩ := paint_ok r (l ++ [c]) m (h.snoc h1 h2) h3
    exact ⟨h4, by rw [h5]; simp; omega⟩
theorem paint_none {col : Nat → Nat} : ∀ (r : Nat) (l : List Nat), (∀ i, i < l.length → l.getD i 0 = col i) → (∀ i, i < l.length + r → col i < k) → (∀ i j, i < l.length + r → j < i → adj j i = true → col j ≠ col i) → paintF adj k r l ≠ none
  | 0, l, _, _, _ => fun h => by cases h
  | r + 1, l, h1, h2, h3 => fun h => by
    have hok : okTo adj l (col l.length) l.length = true := by
      rw [okTo_iff]
      intro i hi e
      cases ha : adj i l.length with
      | false => rfl
      | true => exact absurd (by rw [← h1 i hi]; exact e) (h3 l.length i (by omega) hi ha)
    have h4 := paintTo_none (show paintTo _ _ k = none from h) (col l.length) (h2 _ (by omega)) hok
    refine paint_none (col := col) r (l ++ [col l.length]) (fun i hi => ?_) (fun i hi => h2 i (by simp at hi; omega)) (fun i j hi hj ha => h3 i j (by simp at hi; omega) hj ha) h4
    rw [List.length_append, List.length_singleton] at hi
    rw [getD_snoc]
    split
    · rename_i h; exact h1 i h
    · rw [if_pos (by omega)]
      have : i = l.length := by omega
      rw [this]
/-- The least number of colours, and a colouring by so many. -/
theorem LeastC.part {n : Nat} (h : LeastC adj n k l) : PartL adj k l ∧ l.length = n := by
  obtain ⟨h1, h2⟩ := paint_ok n [] l PartL.nil h.1
  exact ⟨h1, by simpa using h2⟩
theorem LeastC.le {n k' : Nat} (h : LeastC adj n k l) {col : Nat → Nat} (h1 : ∀ i, i < n → col i < k') (h2 : ∀ i j, i < n → j < i → adj j i = true → col j ≠ col i) : k ≤ k' := by
  apply Nat.le_of_not_lt
  intro hlt
  exact paint_none (col := col) (k := k') n [] (fun i hi => absurd hi (by simp)) (fun i hi => h1 i (by simpa using hi)) (fun i j hi hj ha => h2 i j (by simpa using hi) hj ha) (h.2 k' hlt)
theorem LeastC.le_n {n : Nat} (h : LeastC adj n k l) : k ≤ n := h.le (col := fun i => i) (fun _ hi => hi) fun i j _ hj _ => by omega
theorem leastC_ex (adj : Nat → Nat → Bool) (n : Nat) : ∃ k l, LeastC adj n k l := by
  have hex : ∃ k, ∃ l, paintF adj k n [] = some l := ⟨n, paintF_some n [] (by simp)⟩
  obtain ⟨k, ⟨l, hl⟩, hmin⟩ : ∃ k, (∃ l, paintF adj k n [] = some l) ∧ ∀ k', k' < k → ¬ ∃ l, paintF adj k' n [] = some l := by
    obtain ⟨k0, hk0⟩ := hex
    induction k0 using Nat.strongRecOn with
    | _ k0 ih =>
      by_cases hc : ∃ k', k' < k0 ∧ ∃ l, paintF adj k' n [] = some l
      · obtain ⟨k', h1, h2⟩ := hc
        exact ih k' h1 h2
      · exact ⟨k0, hk0, fun k' h1 h2 => hc ⟨k', h1, h2⟩⟩
  refine ⟨k, l, hl, fun k' hk' => ?_⟩
  cases hq : paintF adj k' n [] with
  | none => rfl
  | some m => exact absurd ⟨m, hq⟩ (hmin k' hk')
theorem LeastC.one {n k' : Nat} {l' : List Nat} (h : LeastC adj n k l) (h' : LeastC adj n k' l') : k = k' ∧ l = l' := by
  have e : k = k' := by
    rcases Nat.lt_trichotomy k k' with hlt | he | hlt
    · have := h'.2 k hlt; rw [h.1] at this; cases this
    · exact he
    · have := h.2 k' hlt; rw [h'.1] at this; cases this
  subst e
  have := h.1
  rw [h'.1] at this
  injection this with this
  exact ⟨rfl, this.symm⟩
end
end Go.Proofs.Ytpcealcghglopaa

namespace Go.Proofs.Ytpcealcghglopaa

/-- All nodes of the first c colours, and of the next one those among the first i nodes. -/
def ordTo (l : List Nat) (n : Nat) : Nat → Nat → List Nat
  | 0, i => (List.range i).filter fun x => l.getD x 0 == 0
  | c + 1, i => ordTo l n c n ++ (List.range i).filter fun x => l.getD x 0 == c + 1
section
variable {l : List Nat} {n c i : Nat}
theorem ordTo_step (l : List Nat) (n c i : Nat) : ordTo l n c (i + 1) = if l.getD i 0 = c then ordTo l n c i ++ [i] else ordTo l n c i := by
  have hf : ∀ c, (List.range (i + 1)).filter (fun x => l.getD x 0 == c) = if l.getD i 0 = c then (List.range i).filter (fun x => l.getD x 0 == c) ++ [i] else (List.range i).filter (fun x => l.getD x 0 == c) := fun c => by
    rw [List.range_succ, List.filter_append]
    by_cases h : l.getD i 0 = c
    · rw [if_pos h, List.filter_cons, if_pos (by simpa using h)]; rfl
    · rw [if_neg h, List.filter_cons, if_neg (by simpa using h)]; simp
  cases c with
  | zero => exact hf 0
  | succ c =>
    show ordTo l n c n ++ _ = _
    rw [hf (c + 1)]
    by_cases h : l.getD i 0 = c + 1
    · rw [if_pos h, if_pos h, ← List.append_assoc]; rfl
    · rw [if_neg h, if_neg h]; rfl
theorem ordTo_next (l : List Nat) (n c : Nat) : ordTo l n (c + 1) 0 = ordTo l n c n := by
  show ordTo l n c n ++ _ = _
  simp
theorem ordTo_zero (l : List Nat) (n : Nat) : ordTo l n 0 0 = [] := rfl
theorem ordTo_mem : ∀ c i, i ≤ n → ∀ x, x ∈ ordTo l n c i ↔ (x < n ∧ l.getD x 0 < c) ∨ (x < i ∧ l.getD x 0 = c)
  | 0, i, _, x => by
    show x ∈ (List.range i).filter _ ↔ _
    rw [List.mem_filter, List.mem_range, beq_iff_eq]
    omega
  | c + 1, i, hi, x => by
    show x ∈ ordTo l n c n ++ _ ↔ _
    rw [List.mem_append, ordTo_mem c n (Nat.le_refl _) x, List.mem_filter, List.mem_range, beq_iff_eq]
    omega
theorem ordTo_pair : ∀ c i, i ≤ n → (ordTo l n c i).Pairwise fun a b => a ≠ b ∧ l.getD a 0 ≤ l.getD b 0
  | 0, 0, _ => List.Pairwise.nil
  | c + 1, 0, _ => by rw [ordTo_next]; exact ordTo_pair c n (Nat.le_refl _)
  | c, i + 1, hi => by
    have ih := ordTo_pair c i (by omega)
    rw [ordTo_step]
    split
    · rename_i hc
      rw [List.pairwise_append]
      refine ⟨ih, by simp, fun a ha b hb => ?_⟩
      rw [List.mem_singleton.1 hb]
      rcases (ordTo_mem c i (by omega) a).1 ha with h | h
      · exact ⟨fun e => by rw [e, hc] at h; omega, by omega⟩
      · exact ⟨by omega, by omega⟩
    · exact ih
termination_by c i => (c, i)
theorem ordTo_lt (hi : i ≤ n) : ∀ x ∈ ordTo l n c i, x < n := fun x hx => by
  rcases (ordTo_mem c i hi x).1 hx with h | h <;> omega
theorem nodup_le {o : List Nat} (hnd : o.Nodup) (hlt : ∀ i ∈ o, i < n) : o.length ≤ n := by
  apply Nat.le_of_not_lt
  intro h
  have := all_of_nodup (n + 1) o hnd (fun i hi => Nat.lt_succ_of_lt (hlt i hi)) (by omega) n (Nat.lt_succ_self n)
  exact absurd (hlt n this) (Nat.lt_irrefl n)
/-- The order of a colouring. -/
structure OwnO (l : List Nat) (n : Nat) (o : List Nat) : Prop where
  nd : o.Nodup
  lt : ∀ i ∈ o, i < n
  len : o.length = n
  up : o.Pairwise fun a b => l.getD a 0 ≤ l.getD b 0
theorem own_ok {k : Nat} (h : ∀ i, i < n → l.getD i 0 < k) : OwnO l n (ordTo l n k 0) := by
  have hp := ordTo_pair (l := l) (n := n) k 0 (Nat.zero_le _)
  have hnd : (ordTo l n k 0).Nodup := hp.imp fun h => h.1
  have hlt := ordTo_lt (l := l) (n := n) (c := k) (i := 0) (Nat.zero_le _)
  refine ⟨hnd, hlt, ?_, hp.imp fun h => h.2⟩
  have h1 := nodup_le hnd hlt
  apply Nat.le_antisymm h1
  apply Nat.le_of_not_lt
  intro h2
  obtain ⟨i, hi, hm⟩ := left_some n _ h2
  exact hm ((ordTo_mem k 0 (Nat.zero_le _) i).2 (.inl ⟨hi, h i hi⟩))
end
/-- Where each node stands in an order. -/
structure PlaceP (o : List Nat) (n : Nat) (pos : Nat → Nat) : Prop where
  at_ : ∀ i, i < n → o[pos i]? = some i
  lt : ∀ i, i < n → pos i < n
  take : ∀ t j, j ∈ o.take t → pos j < t
  inj : ∀ i j, i < n → j < n → pos i = pos j → i = j
section
variable {o : List Nat} {n : Nat} {adj : Nat → Nat → Bool} {col pos : Nat → Nat}
theorem place_of (hnd : o.Nodup) (hlt : ∀ i ∈ o, i < n) (hl : o.length = n) : ∃ pos, PlaceP o n pos := by
  have h : ∀ i, ∃ t, i < n → (t < n ∧ o[t]? = some i) := fun i => by
    by_cases hi : i < n
    · obtain ⟨t, h⟩ := place_ex hnd hlt hl hi
      exact ⟨t, fun _ => h⟩
    · exact ⟨0, fun h => absurd h hi⟩
  obtain ⟨pos, hp⟩ := Classical.axiomOfChoice h
  refine ⟨pos, fun i hi => (hp i hi).2, fun i hi => (hp i hi).1, fun t j hj => ?_, fun i j hi hj e => ?_⟩
  · obtain ⟨s, hs⟩ := List.getElem?_of_mem hj
    have hst : s < t := by
      have := (List.getElem?_eq_some_iff.1 hs).1
      rw [List.length_take] at this
      omega
    rw [List.getElem?_take, if_pos hst] at hs
    have hjn := hlt j (List.mem_of_getElem? hs)
    have e : s = pos j := (List.getElem?_inj (List.getElem?_eq_some_iff.1 hs).1 hnd).1 (hs.trans (hp j hjn).2.symm)
    omega
  · have h1 := (hp i hi).2
    rw [e, (hp j hj).2] at h1
    injection h1 with h1
    exact h1.symm
theorem greed_c (P : PlaceP o n pos) (hlt : ∀ i ∈ o, i < n) (h : GreedL adj o n col) : GreedyC n adj pos col := by
  refine ⟨fun i j hi hj hp ha e => ?_, fun i x hi hx => ?_⟩
  · have h2 := (h.mex (pos i) i (P.lt i hi) (P.at_ i hi)).2
    have hm : j ∈ o.take (pos i) := List.mem_of_getElem? (i := pos j) (by rw [List.getElem?_take, if_pos hp]; exact P.at_ j hj)
    unfold usedB at h2
    rw [List.any_eq_false] at h2
    exact h2 j hm (by rw [Bool.and_eq_true, beq_iff_eq]; exact ⟨ha, e.symm⟩)
  · obtain ⟨j, h1, h2, h3⟩ := used_ex ((h.mex (pos i) i (P.lt i hi) (P.at_ i hi)).1 x hx)
    exact ⟨j, hlt j (List.mem_of_mem_take h1), P.take _ _ h1, h2, h3⟩
theorem own_up {l : List Nat} (O : OwnO l n o) (P : PlaceP o n pos) {i j : Nat} (hi : i < n) (hj : j < n) (hp : pos j < pos i) : l.getD j 0 ≤ l.getD i 0 := by
  obtain ⟨a1, a2⟩ := List.getElem?_eq_some_iff.1 (P.at_ i hi)
  obtain ⟨b1, b2⟩ := List.getElem?_eq_some_iff.1 (P.at_ j hj)
  have h := List.pairwise_iff_getElem.1 O.up (pos j) (pos i) b1 a1 hp
  rw [a2, b2] at h
  exact h
theorem part_ne {k : Nat} {l : List Nat} (hp : PartL adj k l) (hl : l.length = n) (hsym : ∀ i j, adj i j = adj j i) (hirr : ∀ i, adj i i = false) {i j : Nat} (hi : i < n) (hj : j < n) (ha : adj i j = true) : l.getD i 0 ≠ l.getD j 0 := by
  rcases Nat.lt_trichotomy i j with h | h | h
  · exact hp.ne j i (by omega) h ha
  · subst h; rw [hirr] at ha; cases ha
  · exact (hp.ne i j (by omega) h (by rw [hsym]; exact ha)).symm
/-- In the order of a colouring nobody gets a greater one. -/
theorem own_greed {k : Nat} {l : List Nat} (hp : PartL adj k l) (hl : l.length = n) (hsym : ∀ i j, adj i j = adj j i) (hirr : ∀ i, adj i i = false) (O : OwnO l n o) (h : GreedL adj o n col) {i : Nat} (hi : i < n) : col i < k := by
  obtain ⟨pos, P⟩ := place_of O.nd O.lt O.len
  have h1 := order_col (greed_c P O.lt h) (c := fun i => l.getD i 0) (fun i j hi hj ha => part_ne hp hl hsym hirr hi hj ha) (fun i j hi hj hp => own_up O P hi hj hp) (pos i + 1) i (by omega) hi
  have h2 := hp.lt i (by omega)
  have h3 : col i ≤ l.getD i 0 := h1
  omega
end
end Go.Proofs.Ytpcealcghglopaa

namespace Go.Proofs.Ytpcealcghglopaa

/-- What comes of all colourings that begin so, none of which is taken but for fewer colours than K. -/
def FewS (adj : Nat → Nat → Bool) (r : Nat) (l : List Nat) (u K : Nat) (B : List Nat) (K' : Nat) (B' : List Nat) : Prop :=
  ((∀ k, u ≤ k → k < K → paintF adj k r l = none) ∧ K' = K ∧ B' = B) ∨ (u ≤ K' ∧ K' < K ∧ paintF adj K' r l = some B' ∧ ∀ k, u ≤ k → k < K' → paintF adj k r l = none)
def partT (adj : Nat → Nat → Bool) (r : Nat) (l : List Nat) (c k : Nat) : Option (List Nat) := paintTo (fun c' => paintF adj k r (l ++ [c'])) (fun c' => okTo adj l c' l.length) (min c k)
/-- And of those whose next colour is lesser than c. -/
def LoopS (adj : Nat → Nat → Bool) (r : Nat) (l : List Nat) (u K : Nat) (B : List Nat) (c K' : Nat) (B' : List Nat) : Prop :=
  ((∀ k, u ≤ k → k < K → partT adj r l c k = none) ∧ K' = K ∧ B' = B) ∨ (u ≤ K' ∧ K' < K ∧ partT adj r l c K' = some B' ∧ ∀ k, u ≤ k → k < K' → partT adj r l c k = none)
section
variable {adj : Nat → Nat → Bool} {r u K K' K'' c k : Nat} {l B B' B'' : List Nat}
theorem FewS.prune (h : K ≤ u) : FewS adj r l u K B K B := .inl ⟨fun k _ _ => by omega, rfl, rfl⟩
theorem FewS.full (h : u < K) : FewS adj 0 l u K B u l := .inr ⟨Nat.le_refl _, h, rfl, fun k _ _ => by omega⟩
theorem LoopS.start : LoopS adj r l u K B 0 K B := .inl ⟨fun k _ _ => by unfold partT; rw [Nat.zero_min]; rfl, rfl, rfl⟩
theorem LoopS.none_ (h : LoopS adj r l u K B c K' B') (h1 : u ≤ k) (h2 : k < K') : partT adj r l c k = none := by
  rcases h with ⟨h3, h4, _⟩ | ⟨_, _, _, h3⟩
  · exact h3 k h1 (by omega)
  · exact h3 k h1 h2
theorem LoopS.le (h : LoopS adj r l u K B c K' B') : K' ≤ K := by
  rcases h with ⟨_, h4, _⟩ | ⟨_, h4, _, _⟩ <;> omega
theorem part_more {x : List Nat} (h : partT adj r l c k = some x) : partT adj r l (c + 1) k = some x := by
  unfold partT at h ⊢
  exact paintTo_some (by omega) h
theorem part_same (h : k ≤ c) : partT adj r l (c + 1) k = partT adj r l c k := by
  unfold partT
  rw [Nat.min_eq_right h, Nat.min_eq_right (by omega)]
theorem part_next (h : c < k) (h0 : partT adj r l c k = none) : partT adj r l (c + 1) k = if okTo adj l c l.length = true then paintF adj k r (l ++ [c]) else none := by
  unfold partT at h0 ⊢
  rw [Nat.min_eq_left (by omega)] at h0
  rw [Nat.min_eq_left (by omega)]
  exact paintTo_step h0
theorem LoopS.skip (h : LoopS adj r l u K B c K' B') (hok : okTo adj l c l.length = false) : LoopS adj r l u K B (c + 1) K' B' := by
  have hn : ∀ k, partT adj r l c k = none → partT adj r l (c + 1) k = none := fun k hk => by
    rcases Nat.lt_or_ge c k with h1 | h1
    · rw [part_next h1 hk, if_neg (by rw [hok]; decide)]
    · rw [part_same h1, hk]
  rcases h with ⟨h1, h2, h3⟩ | ⟨h1, h2, h3, h4⟩
  · exact .inl ⟨fun k a b => hn k (h1 k a b), h2, h3⟩
  · exact .inr ⟨h1, h2, part_more h3, fun k a b => hn k (h4 k a b)⟩
theorem LoopS.take (h : LoopS adj r l u K B c K' B') (hok : okTo adj l c l.length = true) (hcu : c ≤ u) (hf : FewS adj r (l ++ [c]) (max u (c + 1)) K' B' K'' B'') : LoopS adj r l u K B (c + 1) K'' B'' := by
  rcases hf with ⟨g1, rfl, rfl⟩ | ⟨g1, g2, g3, g4⟩
  · have hn : ∀ k, u ≤ k → k < K'' → partT adj r l (c + 1) k = none := fun k a b => by
      have h0 := h.none_ a b
      rcases Nat.lt_or_ge c k with h1 | h1
      · rw [part_next h1 h0, if_pos hok]
        exact g1 k (by omega) b
      · rw [part_same h1, h0]
    rcases h with ⟨h1, h2, h3⟩ | ⟨h1, h2, h3, h4⟩
    · exact .inl ⟨fun k a b => hn k a (by omega), h2, h3⟩
    · exact .inr ⟨h1, h2, part_more h3, hn⟩
  · have hle := h.le
    refine .inr ⟨by omega, by omega, ?_, fun k a b => ?_⟩
    · rw [part_next (by omega) (h.none_ (by omega) g2), if_pos hok]
      exact g3
    · have h0 := h.none_ a (by omega)
      rcases Nat.lt_or_ge c k with h1 | h1
      · rw [part_next h1 h0, if_pos hok]
        exact g4 k (by omega) b
      · rw [part_same h1, h0]
theorem paint_pre : ∀ (r : Nat) (l m : List Nat), paintF adj k r l = some m → ∀ i, i < l.length → m.getD i 0 = l.getD i 0
  | 0, l, m, h, i, _ => by
    have h' : some l = some m := h
    injection h' with h'
    rw [h']
  | r + 1, l, m, h, i, hi => by
    obtain ⟨c, _, _, h3⟩ := paintTo_inv (show paintTo _ _ k = some m from h)
    have h4 := paint_pre r (l ++ [c]) m h3 i (by rw [List.length_append]; omega)
    rw [h4, getD_snoc, if_pos hi]
theorem paint_at {m : List Nat} (h : paintF adj k r (l ++ [c]) = some m) : m.getD l.length 0 = c := by
  rw [paint_pre r (l ++ [c]) m h l.length (by simp), getD_snoc, if_neg (Nat.lt_irrefl _), if_pos rfl]
theorem part_mono {k' : Nat} (h : PartL adj k l) (hk : k ≤ k') : PartL adj k' l := ⟨fun i hi => Nat.lt_of_lt_of_le (h.lt i hi) hk, h.ne⟩
theorem new_ok (h : PartL adj u l) (hc : u ≤ c) : okTo adj l c l.length = true := by
  rw [okTo_iff]
  intro i hi e
  have := h.lt i hi
  omega
/-- One new colour is as good as another one. -/
theorem new_same (h : PartL adj u l) (hc : u ≤ c) (hck : c < k) (hn : paintF adj k r (l ++ [u]) = none) : paintF adj k r (l ++ [c]) = none := by
  cases hq : paintF adj k r (l ++ [c]) with
  | none => rfl
  | some m =>
    exfalso
    obtain ⟨hp, hlen⟩ := paint_ok r (l ++ [c]) m ((part_mono h (by omega)).snoc hck (new_ok h hc)) hq
    rw [List.length_append, List.length_singleton] at hlen
    obtain ⟨sw, hsw⟩ : ∃ sw : Nat → Nat, sw = fun x => if x = c then u else if x = u then c else x := ⟨_, rfl⟩
    have inj : ∀ x y, sw x = sw y → x = y := fun x y e => by
      rw [hsw] at e
      dsimp only at e
      split at e <;> split at e <;> (try split at e) <;> (try split at e) <;> omega
    refine paint_none (col := fun i => sw (m.getD i 0)) r (l ++ [u]) (fun i hi => ?_) (fun i hi => ?_) (fun i j hi hj ha e => ?_) hn
    · rw [List.length_append, List.length_singleton] at hi
      rw [getD_snoc]
      rcases Nat.lt_or_ge i l.length with h1 | h1
      · have h2 := h.lt i h1
        have h3 := paint_pre r (l ++ [c]) m hq i (by rw [List.length_append]; omega)
        rw [getD_snoc, if_pos h1] at h3
        rw [if_pos h1, h3, hsw]
        dsimp only
        rw [if_neg (by omega), if_neg (by omega)]
      · have e : i = l.length := by omega
        rw [if_neg (by omega), if_pos e, e, paint_at hq, hsw]
        simp
    · rw [List.length_append, List.length_singleton] at hi
      have h1 := hp.lt i (by omega)
      show sw (m.getD i 0) < k
      rw [hsw]
      dsimp only
      split
      · omega
      · split <;> omega
    · rw [List.length_append, List.length_singleton] at hi
      exact hp.ne i j (by omega) hj ha (inj _ _ e)
theorem paintTo_nil {rec_ : Nat → Option (List Nat)} {ok : Nat → Bool} : ∀ {k : Nat}, (∀ c, c < k → ok c = true → rec_ c = none) → paintTo rec_ ok k = none
  | 0, _ => rfl
  | k + 1, h => by
    rw [paintTo_step (paintTo_nil fun c hc => h c (by omega))]
    split
    · rename_i h1; exact h k (by omega) h1
    · rfl
theorem part_end (h : PartL adj u l) (_hk : u ≤ k) : partT adj r l (u + 1) k = paintF adj k (r + 1) l := by
  show paintTo _ _ (min (u + 1) k) = paintTo _ _ k
  rcases Nat.lt_or_ge (u + 1) k with h1 | h1
  · rw [Nat.min_eq_left (by omega)]
    cases hq : paintTo (fun c' => paintF adj k r (l ++ [c'])) (fun c' => okTo adj l c' l.length) (u + 1) with
    | some x => exact (paintTo_some (by omega) hq).symm
    | none =>
      have hu := paintTo_none hq u (by omega) (new_ok h (Nat.le_refl _))
      refine (paintTo_nil fun c hc hok => ?_).symm
      rcases Nat.lt_or_ge c u with h2 | h2
      · exact paintTo_none hq c (by omega) hok
      · exact new_same h h2 hc hu
  · rw [Nat.min_eq_right h1]
theorem LoopS.done (h : LoopS adj r l u K B (u + 1) K' B') (hp : PartL adj u l) : FewS adj (r + 1) l u K B K' B' := by
  rcases h with ⟨h1, h2, h3⟩ | ⟨h1, h2, h3, h4⟩
  · exact .inl ⟨fun k a b => by rw [← part_end hp a]; exact h1 k a b, h2, h3⟩
  · exact .inr ⟨h1, h2, by rw [← part_end hp h1]; exact h3, fun k a b => by rw [← part_end hp a]; exact h4 k a b⟩
theorem FewS.least {n : Nat} (h : FewS adj n [] 0 (n + 1) B K' B') : LeastC adj n K' B' := by
  rcases h with ⟨h1, _, _⟩ | ⟨_, _, h3, h4⟩
  · obtain ⟨k, l, hl⟩ := leastC_ex adj n
    have := h1 k (by omega) (by have := hl.le_n; omega)
    rw [hl.1] at this
    cases this
  · exact ⟨h3, fun k' hk => h4 k' (Nat.zero_le _) hk⟩
/-- The set of each colour. -/
def ClsP (l : List Nat) (S : Nat → Nat) : Prop := ∀ c i, (S c).testBit i = decide (i < l.length ∧ l.getD i 0 = c)
def updS (S : Nat → Nat) (c x : Nat) : Nat → Nat := fun j => if j = c then x else S j
theorem ClsP.nil : ClsP [] (fun _ => 0) := fun c i => by simp
theorem ClsP.snoc {S : Nat → Nat} (h : ClsP l S) (c : Nat) : ClsP (l ++ [c]) (updS S c (S c ||| 2 ^ l.length)) := fun j i => by
  rw [getD_snoc, List.length_append, List.length_singleton]
  unfold updS
  by_cases hj : j = c
  · subst hj
    rw [if_pos rfl, Nat.testBit_or, h, Nat.testBit_two_pow]
    rcases Nat.lt_trichotomy i l.length with h1 | h1 | h1
    · have h2 : ¬ l.length = i := by omega
      have h3 : i < l.length + 1 := by omega
      simp [h1, h2, h3]
    · subst h1; simp
    · have h2 : ¬ l.length = i := by omega
      have h3 : ¬ i < l.length + 1 := by omega
      have h4 : ¬ i < l.length := by omega
      simp [h2, h3, h4]
  · rw [if_neg hj, h]
    rcases Nat.lt_trichotomy i l.length with h1 | h1 | h1
    · have h3 : i < l.length + 1 := by omega
      simp [h1, h3]
    · subst h1
      have : ¬ c = j := fun e => hj e.symm
      simp [this]
    · have h3 : ¬ i < l.length + 1 := by omega
      have h4 : ¬ i < l.length := by omega
      simp [h3, h4]
theorem updS_back (S : Nat → Nat) (c x : Nat) : updS (updS S c x) c (S c) = S := funext fun j => by
  unfold updS
  by_cases h : j = c
  · rw [if_pos h, h]
  · rw [if_neg h, if_neg h]
theorem ClsP.lt {S : Nat → Nat} (h : ClsP l S) (c : Nat) : S c < 2 ^ l.length := by
  apply Nat.lt_pow_two_of_testBit
  intro i hi
  rw [h]
  have : ¬ i < l.length := by omega
  simp [this]
theorem ClsP.ok {S nb : Nat → Nat} (h : ClsP l S) (hnb : ∀ i, (nb l.length).testBit i = adj l.length i) (hs : ∀ i j, adj i j = adj j i) (c : Nat) : okTo adj l c l.length = true ↔ S c &&& nb l.length = 0 := by
  rw [okTo_iff]
  constructor
  · intro h1
    apply Nat.eq_of_testBit_eq
    intro i
    rw [Nat.testBit_and, h, hnb, Nat.zero_testBit, hs]
    by_cases h2 : i < l.length ∧ l.getD i 0 = c
    · rw [h1 i h2.1 h2.2, Bool.and_false]
    · rw [decide_eq_false h2]; rfl
  · intro h1 i hi he
    have h2 : (S c &&& nb l.length).testBit i = false := by rw [h1]; simp
    rw [Nat.testBit_and, h, hnb, hs, decide_eq_true (show i < l.length ∧ l.getD i 0 = c from ⟨hi, he⟩)] at h2
    simpa using h2
theorem PartL.next (h : PartL adj u l) (hok : okTo adj l c l.length = true) : PartL adj (max u (c + 1)) (l ++ [c]) := (part_mono h (by omega)).snoc (by omega) hok
end
end Go.Proofs.Ytpcealcghglopaa
