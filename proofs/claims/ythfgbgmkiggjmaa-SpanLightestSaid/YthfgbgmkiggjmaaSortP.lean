/- A sort by swaps that keeps what is alike in its order: plain facts on functions. No conditions. -/
import Derived.Test.YthfgbgmkiggjmaaMat
namespace Go.Proofs.Ythfgbgmkiggjmaa

/-- Of two places the one that has less weight, of the same the lesser one. -/
def ltP (W : Int → Int) (x y : Int) : Prop := W x < W y ∨ (W x = W y ∧ x < y)
theorem ltP.trans {W : Int → Int} {x y z : Int} (h : ltP W x y) (h2 : ltP W y z) : ltP W x z := by unfold ltP at *; omega
theorem ltP.irr {W : Int → Int} {x : Int} (h : ltP W x x) : False := by unfold ltP at h; omega
theorem ltP.cross {W : Int → Int} {x y : Int} (h : x < y) : W y < W x ↔ ltP W y x := by unfold ltP; omega
theorem ltP.cross' {W : Int → Int} {x y : Int} (h : x < y) (h2 : ¬ W y < W x) : ltP W x y := by unfold ltP; omega
theorem ltP.not {W : Int → Int} {x y : Int} (h : x < y) (h2 : ¬ ltP W y x) : ltP W x y := by unfold ltP at *; omega
def SortedF (W : Int → Int) (f : Nat → Int) (a b : Nat) : Prop := ∀ i j, a ≤ i → i < j → j < b → ltP W (f i) (f j)
theorem SortedF.sub {W : Int → Int} {f : Nat → Int} {a b c d : Nat} (h : SortedF W f a b) (h1 : a ≤ c) (h2 : d ≤ b) : SortedF W f c d := fun i j hi hij hj => h i j (by omega) hij (by omega)
/-- What is within is of what was within; what is outside is as it was. -/
structure Shuf (a b : Nat) (f f' : Nat → Int) : Prop where
  out : ∀ i, (i < a ∨ b ≤ i) → f' i = f i
  inn : ∀ i, a ≤ i → i < b → ∃ j, a ≤ j ∧ j < b ∧ f' i = f j
theorem Shuf.refl (a b : Nat) (f : Nat → Int) : Shuf a b f f := ⟨fun _ _ => rfl, fun i h1 h2 => ⟨i, h1, h2, rfl⟩⟩
theorem Shuf.trans {a b : Nat} {f g h : Nat → Int} (h1 : Shuf a b f g) (h2 : Shuf a b g h) : Shuf a b f h :=
  ⟨fun i hi => by rw [h2.out i hi, h1.out i hi], fun i ha hb => by
    obtain ⟨j, k1, k2, k3⟩ := h2.inn i ha hb
    obtain ⟨l, l1, l2, l3⟩ := h1.inn j k1 k2
    exact ⟨l, l1, l2, by rw [k3, l3]⟩⟩
theorem Shuf.mono {a b c d : Nat} {f g : Nat → Int} (h : Shuf a b f g) (h1 : c ≤ a) (h2 : b ≤ d) : Shuf c d f g :=
  ⟨fun i hi => h.out i (by omega), fun i hc hd => by
    by_cases hin : a ≤ i ∧ i < b
    · obtain ⟨j, k1, k2, k3⟩ := h.inn i hin.1 hin.2
      exact ⟨j, by omega, by omega, k3⟩
    · exact ⟨i, hc, hd, h.out i (by omega)⟩⟩
theorem Shuf.congr {a b : Nat} {f g h : Nat → Int} (h1 : Shuf a b f g) (h2 : ∀ i, h i = g i) : Shuf a b f h := by
  have : h = g := funext h2
  rw [this]; exact h1
theorem Shuf.all {a b : Nat} {f g : Nat → Int} (h : Shuf a b f g) {P : Int → Prop} (hp : ∀ i, a ≤ i → i < b → P (f i)) : ∀ i, a ≤ i → i < b → P (g i) := fun i h1 h2 => by
  obtain ⟨j, k1, k2, k3⟩ := h.inn i h1 h2
  rw [k3]; exact hp j k1 k2
theorem SortedF.out {W : Int → Int} {f g : Nat → Int} {a b c d : Nat} (h : SortedF W f c d) (hs : Shuf a b f g) (hd : d ≤ a ∨ b ≤ c) : SortedF W g c d := fun i j hi hij hj => by
  rw [hs.out i (by omega), hs.out j (by omega)]; exact h i j hi hij hj

/-! One that moves to the left. -/
def insAt (f : Nat → Int) (i j : Nat) : Nat → Int := fun k => if k < j then f k else if k = j then f i else if k ≤ i then f (k - 1) else f k
theorem insAt_start (f : Nat → Int) (i k : Nat) : insAt f i i k = f k := by
  unfold insAt
  split
  · rfl
  · split
    · rename_i h; rw [h]
    · rw [if_neg (by omega)]
theorem insAt_at (f : Nat → Int) (i j : Nat) : insAt f i j j = f i := by unfold insAt; rw [if_neg (by omega), if_pos rfl]
theorem insAt_left {f : Nat → Int} {i j k : Nat} (h : k < j) : insAt f i j k = f k := by unfold insAt; rw [if_pos h]
theorem insAt_step {f : Nat → Int} {i j : Nat} (hj : j + 1 ≤ i) (k : Nat) : updF (updF (insAt f i (j + 1)) (j + 1) (f j)) j (f i) k = insAt f i j k := by
  unfold updF insAt
  by_cases h1 : k = j
  · subst h1; simp
  · by_cases h2 : k = j + 1
    · subst h2
      rw [if_neg h1, if_pos rfl, if_neg (by omega), if_neg h1, if_pos hj]
      rfl
    · by_cases h3 : k < j
      · simp [h1, h2, h3, show k < j + 1 by omega]
      · simp only [h1, h2, h3, if_false, show ¬ k < j + 1 by omega]
theorem insAt_shuf {f : Nat → Int} {a i j b : Nat} (h1 : a ≤ j) (h2 : j ≤ i) (h3 : i < b) : Shuf a b f (insAt f i j) := by
  refine ⟨fun k hk => ?_, fun k ha hb => ?_⟩
  · unfold insAt
    split
    · rfl
    · rw [if_neg (by omega), if_neg (by omega)]
  · unfold insAt
    split
    · exact ⟨k, ha, hb, rfl⟩
    · split
      · exact ⟨i, by omega, h3, rfl⟩
      · split
        · exact ⟨k - 1, by omega, by omega, rfl⟩
        · exact ⟨k, ha, hb, rfl⟩
theorem insAt_sorted {W : Int → Int} {f : Nat → Int} {a i j : Nat} (h1 : a ≤ j) (h2 : j ≤ i) (hs : SortedF W f a i) (hx : ∀ k, j ≤ k → k < i → ltP W (f i) (f k)) (hy : ∀ k, a ≤ k → k < j → ltP W (f k) (f i)) : SortedF W (insAt f i j) a (i + 1) := fun p q hp hpq hq => by
  have e1 : ∀ k, k < j → insAt f i j k = f k := fun k hk => insAt_left hk
  have e2 : ∀ k, j < k → k ≤ i → insAt f i j k = f (k - 1) := fun k hk hk2 => by unfold insAt; rw [if_neg (by omega), if_neg (by omega), if_pos hk2]
  rcases Nat.lt_trichotomy p j with hpj | hpj | hpj
  · rw [e1 p hpj]
    rcases Nat.lt_trichotomy q j with hqj | hqj | hqj
    · rw [e1 q hqj]; exact hs p q hp hpq (by omega)
    · subst hqj; rw [insAt_at]; exact hy p hp hpj
    · rw [e2 q hqj (by omega)]; exact hs p (q - 1) hp (by omega) (by omega)
  · subst hpj
    rw [insAt_at, e2 q hpq (by omega)]
    exact hx (q - 1) (by omega) (by omega)
  · rw [e2 p hpj (by omega), e2 q (by omega) (by omega)]
    exact hs (p - 1) (q - 1) (by omega) (by omega) (by omega)

/-! One that moves to the right. -/
def movR (f : Nat → Int) (a k : Nat) : Nat → Int := fun t => if t < a then f t else if t < k then f (t + 1) else if t = k then f a else f t
theorem movR_start (f : Nat → Int) (a t : Nat) : movR f a a t = f t := by
  unfold movR
  repeat' split
  all_goals first | rfl | exact congrArg f (by omega) | (exfalso; omega)
theorem movR_at {f : Nat → Int} {a k : Nat} (h : a ≤ k) : movR f a k k = f a := by unfold movR; rw [if_neg (by omega), if_neg (by omega), if_pos rfl]
theorem movR_right {f : Nat → Int} {a k t : Nat} (h : a ≤ k) (ht : k < t) : movR f a k t = f t := by unfold movR; rw [if_neg (by omega), if_neg (by omega), if_neg (by omega)]
theorem movR_step {f : Nat → Int} {a k : Nat} (h : a ≤ k) (t : Nat) : updF (updF (movR f a k) k (f (k + 1))) (k + 1) (f a) t = movR f a (k + 1) t := by
  unfold updF movR
  by_cases h1 : t = k + 1
  · subst h1; simp; intro h2; omega
  · by_cases h2 : t = k
    · subst h2; simp [show ¬ t < a by omega]
    · by_cases h3 : t < a
      · simp [h1, h2, h3]
      · by_cases h4 : t < k
        · simp [h1, h2, h3, h4, show t < k + 1 by omega]
        · simp [h1, h2, h3, h4, show ¬ t < k + 1 by omega]
theorem movR_shuf {f : Nat → Int} {a k b : Nat} (h1 : a ≤ k) (h2 : k < b) : Shuf a b f (movR f a k) := by
  refine ⟨fun t ht => ?_, fun t ha hb => ?_⟩
  · unfold movR
    split
    · rfl
    · rw [if_neg (by omega), if_neg (by omega)]
  · unfold movR
    rw [if_neg (by omega)]
    split
    · exact ⟨t + 1, by omega, by omega, rfl⟩
    · split
      · exact ⟨a, Nat.le_refl _, by omega, rfl⟩
      · exact ⟨t, ha, hb, rfl⟩
theorem movR_sorted {W : Int → Int} {f : Nat → Int} {a k b : Nat} (h1 : a ≤ k) (h2 : k < b) (hs : SortedF W f (a + 1) b) (hx : ∀ t, a < t → t ≤ k → ltP W (f t) (f a)) (hy : ∀ t, k < t → t < b → ltP W (f a) (f t)) : SortedF W (movR f a k) a b := fun p q hp hpq hq => by
  have e1 : ∀ t, a ≤ t → t < k → movR f a k t = f (t + 1) := fun t ht ht2 => by unfold movR; rw [if_neg (by omega), if_pos ht2]
  rcases Nat.lt_trichotomy p k with hpk | hpk | hpk
  · rw [e1 p hp hpk]
    rcases Nat.lt_trichotomy q k with hqk | hqk | hqk
    · rw [e1 q (by omega) hqk]; exact hs _ _ (by omega) (by omega) (by omega)
    · subst hqk; rw [movR_at h1]; exact hx _ (by omega) (by omega)
    · rw [movR_right h1 hqk]; exact hs _ _ (by omega) (by omega) hq
  · subst hpk; rw [movR_at h1, movR_right h1 hpq]; exact hy q hpq hq
  · rw [movR_right h1 hpk, movR_right h1 (by omega)]; exact hs p q (by omega) hpq hq

/-! Two blocks that change places. -/
def swpF (f : Nat → Int) (a b n : Nat) : Nat → Int := fun t => if a ≤ t ∧ t < a + n then f (t - a + b) else if b ≤ t ∧ t < b + n then f (t - b + a) else f t
theorem swpF_zero (f : Nat → Int) (a b t : Nat) : swpF f a b 0 t = f t := by unfold swpF; rw [if_neg (by omega), if_neg (by omega)]
theorem swpF_at1 {f : Nat → Int} {a b n i : Nat} (h : a + n ≤ b) (hi : i < n) : swpF f a b i (a + i) = f (a + i) := by unfold swpF; rw [if_neg (by omega), if_neg (by omega)]
theorem swpF_at2 {f : Nat → Int} {a b n i : Nat} (h : a + n ≤ b) (hi : i < n) : swpF f a b i (b + i) = f (b + i) := by unfold swpF; rw [if_neg (by omega), if_neg (by omega)]
theorem swpF_step {f : Nat → Int} {a b n i : Nat} (h : a + n ≤ b) (hi : i < n) (t : Nat) : updF (updF (swpF f a b i) (a + i) (f (b + i))) (b + i) (f (a + i)) t = swpF f a b (i + 1) t := by
  unfold updF swpF
  by_cases h1 : t = b + i
  · subst h1
    rw [if_pos rfl, if_neg (by omega), if_pos (by omega)]
    congr 1; omega
  · rw [if_neg h1]
    by_cases h2 : t = a + i
    · subst h2
      rw [if_pos rfl, if_pos (by omega)]
      congr 1; omega
    · rw [if_neg h2]
      by_cases h3 : a ≤ t ∧ t < a + i
      · rw [if_pos h3, if_pos (by omega)]
      · rw [if_neg h3]
        by_cases h4 : b ≤ t ∧ t < b + i
        · rw [if_pos h4, if_neg (by omega), if_pos (by omega)]
        · rw [if_neg h4, if_neg (by omega), if_neg (by omega)]
def rotF (f : Nat → Int) (a m b : Nat) : Nat → Int := fun t => if a ≤ t ∧ t < a + (b - m) then f (t - a + m) else if a + (b - m) ≤ t ∧ t < b then f (t - (b - m)) else f t
theorem rot_more {f : Nat → Int} {l m u j : Nat} (hj : m + j = u) (hl : l + j < m) (t : Nat) : rotF (swpF f l m j) (l + j) m u t = rotF f l m u t := by
  unfold rotF swpF
  repeat' split
  all_goals first | rfl | exact congrArg f (by omega) | (exfalso; omega)
theorem rot_less {f : Nat → Int} {l m u i : Nat} (hi : l + i = m) (hu : m + i < u) (t : Nat) : rotF (swpF f l (u - i) i) l m (u - i) t = rotF f l m u t := by
  unfold rotF swpF
  repeat' split
  all_goals first | rfl | exact congrArg f (by omega) | (exfalso; omega)
theorem rot_same {f : Nat → Int} {l m u i : Nat} (hi : l + i = m) (hu : m + i = u) (t : Nat) : swpF f l m i t = rotF f l m u t := by
  unfold rotF swpF
  repeat' split
  all_goals first | rfl | exact congrArg f (by omega) | (exfalso; omega)
theorem rotF_shuf {f : Nat → Int} {a m b : Nat} (h1 : a ≤ m) (h2 : m ≤ b) : Shuf a b f (rotF f a m b) := by
  refine ⟨fun t ht => ?_, fun t ha hb => ?_⟩
  · unfold rotF; rw [if_neg (by omega), if_neg (by omega)]
  · unfold rotF
    split
    · exact ⟨_, by omega, by omega, rfl⟩
    · rw [if_pos (by omega)]; exact ⟨_, by omega, by omega, rfl⟩
theorem rotF_left {f : Nat → Int} {m b t : Nat} (h : m ≤ b) : rotF f m m b t = f t := by
  unfold rotF
  split
  · congr 1; omega
  · rw [if_neg (by omega)]
theorem rotF_right (f : Nat → Int) (a m t : Nat) : rotF f a m m t = f t := by
  unfold rotF
  rw [if_neg (by omega)]
  split
  · congr 1; omega
  · rfl

/-! The merge. -/
/-- Where the middle is, and where the left part ends: what lies left of the middle is ahead of what lies right of it. -/
theorem merge_mid {W : Int → Int} {f : Nat → Int} {a m b d s e lo hi : Nat} (ham : a ≤ s) (hsm : s ≤ m) (hme : m ≤ e) (heb : e ≤ b) (hd : s + e = d + m) (hsd : s ≤ d) (hL : SortedF W f a m) (hR : SortedF W f m b)
    (h1 : a < s → e < b → ltP W (f (s - 1)) (f e)) (h2 : s < m → m < e → ltP W (f (e - 1)) (f s)) (_ : lo = hi) :
    (∀ x y, a ≤ x → x < d → d ≤ y → y < b → ltP W (rotF f s m e x) (rotF f s m e y)) ∧ SortedF W (rotF f s m e) a s ∧ SortedF W (rotF f s m e) s d ∧ SortedF W (rotF f s m e) d e ∧ SortedF W (rotF f s m e) e b := by
  have ed : s + (e - m) = d := by omega
  have g1 : ∀ t, t < s → rotF f s m e t = f t := fun t ht => by unfold rotF; rw [if_neg (by omega), if_neg (by omega)]
  have g2 : ∀ t, s ≤ t → t < d → rotF f s m e t = f (t - s + m) := fun t ht ht2 => by unfold rotF; rw [if_pos (by omega)]
  have g3 : ∀ t, d ≤ t → t < e → rotF f s m e t = f (t - (e - m)) := fun t ht ht2 => by unfold rotF; rw [if_neg (by omega), if_pos (by omega)]
  have g4 : ∀ t, e ≤ t → rotF f s m e t = f t := fun t ht => by unfold rotF; rw [if_neg (by omega), if_neg (by omega)]
  -- the left part's beginning is ahead of the right part's end
  have k1 : ∀ p q, a ≤ p → p < s → e ≤ q → q < b → ltP W (f p) (f q) := fun p q hp hps hq hqb => by
    have h := h1 (by omega) (by omega)
    have hp2 : p = s - 1 ∨ p < s - 1 := by omega
    have hq2 : q = e ∨ e < q := by omega
    have l1 : ltP W (f p) (f e) := by
      rcases hp2 with rfl | hp2
      · exact h
      · exact (hL p (s - 1) hp hp2 (by omega)).trans h
    rcases hq2 with rfl | hq2
    · exact l1
    · exact l1.trans (hR e q hme hq2 hqb)
  have k2 : ∀ p q, m ≤ p → p < e → s ≤ q → q < m → ltP W (f p) (f q) := fun p q hp hpe hq hqm => by
    have h := h2 (by omega) (by omega)
    have hp2 : p = e - 1 ∨ p < e - 1 := by omega
    have hq2 : q = s ∨ s < q := by omega
    have l1 : ltP W (f p) (f s) := by
      rcases hp2 with rfl | hp2
      · exact h
      · exact (hR p (e - 1) hp hp2 (by omega)).trans h
    rcases hq2 with rfl | hq2
    · exact l1
    · exact l1.trans (hL s q (by omega) hq2 hqm)
  refine ⟨fun x y hx hxd hy hyb => ?_, fun i j hi hij hj => ?_, fun i j hi hij hj => ?_, fun i j hi hij hj => ?_, fun i j hi hij hj => ?_⟩
  · by_cases hxs : x < s
    · rw [g1 x hxs]
      by_cases hye : y < e
      · rw [g3 y hy hye]; exact hL _ _ hx (by omega) (by omega)
      · rw [g4 y (by omega)]; exact k1 x y hx hxs (by omega) hyb
    · rw [g2 x (by omega) hxd]
      by_cases hye : y < e
      · rw [g3 y hy hye]; exact k2 _ _ (by omega) (by omega) (by omega) (by omega)
      · rw [g4 y (by omega)]; exact hR _ _ (by omega) (by omega) hyb
  · rw [g1 i (by omega), g1 j hj]; exact hL i j hi hij (by omega)
  · rw [g2 i hi (by omega), g2 j (by omega) hj]; exact hR _ _ (by omega) (by omega) (by omega)
  · rw [g3 i hi (by omega), g3 j (by omega) hj]; exact hL _ _ (by omega) (by omega) (by omega)
  · rw [g4 i hi, g4 j (by omega)]; exact hR i j (by omega) hij hj
/-- Both halves sorted, and the left one ahead of the right one. -/
theorem merge_end {W : Int → Int} {f f1 f2 : Nat → Int} {a d b : Nat} (_had : a ≤ d) (_hdb : d ≤ b) (hx : ∀ x y, a ≤ x → x < d → d ≤ y → y < b → ltP W (f x) (f y)) (h1 : Shuf a d f f1) (s1 : SortedF W f1 a d) (h2 : Shuf d b f1 f2) (s2 : SortedF W f2 d b) : SortedF W f2 a b := fun i j hi hij hj => by
  by_cases hid : i < d
  · rw [h2.out i (.inl hid)]
    by_cases hjd : j < d
    · rw [h2.out j (.inl hjd)]; exact s1 i j hi hij hjd
    · obtain ⟨i', q1, q2, q3⟩ := h1.inn i hi hid
      obtain ⟨j', r1, r2, r3⟩ := h2.inn j (by omega) hj
      rw [q3, r3, h1.out j' (.inr r1)]
      exact hx i' j' q1 q2 r1 r2
  · exact s2 i j (by omega) hij hj
end Go.Proofs.Ythfgbgmkiggjmaa
