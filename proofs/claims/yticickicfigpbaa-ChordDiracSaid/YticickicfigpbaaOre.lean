/- HALL, ORE, KONIG: how many on the left can have a place on the right, each place with its room: as many as there are, less what the set that lacks the most lacks. Plain facts, of no program. -/
import Derived.NoCompiler
namespace Go.Proofs.Yticickicfigpbaa

/-- The greatest of some numbers, and a first one. -/
def maxTo (f : Nat → Nat) : Nat → Nat → Nat
  | 0, a => a
  | n + 1, a => max (maxTo f n a) (f n)
theorem maxTo_ge (f : Nat → Nat) (a : Nat) : ∀ n, a ≤ maxTo f n a
  | 0 => Nat.le_refl _
  | n + 1 => Nat.le_trans (maxTo_ge f a n) (Nat.le_max_left _ _)
theorem maxTo_mem (f : Nat → Nat) (a : Nat) {j : Nat} : ∀ n, j < n → f j ≤ maxTo f n a
  | n + 1, h => by
    rcases Nat.lt_or_ge j n with h1 | h1
    · exact Nat.le_trans (maxTo_mem f a n h1) (Nat.le_max_left _ _)
    · obtain rfl : j = n := by omega
      exact Nat.le_max_right _ _
theorem maxTo_le {f : Nat → Nat} {a b : Nat} (ha : a ≤ b) : ∀ n, (∀ j, j < n → f j ≤ b) → maxTo f n a ≤ b
  | 0, _ => ha
  | n + 1, h => Nat.max_le.2 ⟨maxTo_le ha n fun j hj => h j (by omega), h n (by omega)⟩
theorem maxTo_congr {f g : Nat → Nat} {a : Nat} : ∀ n, (∀ j, j < n → f j = g j) → maxTo f n a = maxTo g n a
  | 0, _ => rfl
  | n + 1, h => by simp only [maxTo]; rw [maxTo_congr n fun j hj => h j (by omega), h n (by omega)]
def sumTo (f : Nat → Nat) : Nat → Nat
  | 0 => 0
  | n + 1 => sumTo f n + f n
theorem sumTo_le {f g : Nat → Nat} : ∀ n, (∀ j, j < n → f j ≤ g j) → sumTo f n ≤ sumTo g n
  | 0, _ => Nat.le_refl _
  | n + 1, h => Nat.add_le_add (sumTo_le n fun j hj => h j (by omega)) (h n (by omega))
theorem sumTo_congr {f g : Nat → Nat} : ∀ n, (∀ j, j < n → f j = g j) → sumTo f n = sumTo g n
  | 0, _ => rfl
  | n + 1, h => by simp only [sumTo]; rw [sumTo_congr n fun j hj => h j (by omega), h n (by omega)]
theorem sumTo_add (f g : Nat → Nat) : ∀ n, sumTo (fun j => f j + g j) n = sumTo f n + sumTo g n
  | 0 => rfl
  | n + 1 => by simp only [sumTo]; rw [sumTo_add f g n]; omega
theorem sumTo_zero {f : Nat → Nat} : ∀ n, (∀ j, j < n → f j = 0) → sumTo f n = 0
  | 0, _ => rfl
  | n + 1, h => by simp only [sumTo]; rw [sumTo_zero n fun j hj => h j (by omega), h n (by omega)]
theorem sumTo_one {f g : Nat → Nat} {i : Nat} (hfg : ∀ j, j ≠ i → f j ≤ g j) (hi : f i + 1 ≤ g i) : ∀ n, i < n → sumTo f n + 1 ≤ sumTo g n
  | n + 1, h => by
    simp only [sumTo]
    rcases Nat.lt_or_ge i n with h1 | h1
    · have := sumTo_one hfg hi n h1
      have := hfg n (by omega)
      omega
    · obtain rfl : i = n := by omega
      have := sumTo_le (f := f) (g := g) i fun j hj => hfg j (by omega)
      omega

/-- One place less. -/
def decC (c : Nat → Nat) (j : Nat) : Nat → Nat := fun x => if x = j then c x - 1 else c x
section
variable (near : Nat → Nat → Bool) (n : Nat)
/-- How many of r, from i on, can have a place. -/
def mxR : Nat → Nat → (Nat → Nat) → Nat
  | 0, _, _ => 0
  | r + 1, i, c => maxTo (fun j => if near i j = true ∧ 0 < c j then 1 + mxR r (i + 1) (decC c j) else 0) n (mxR r (i + 1) c)
/-- How many of r, from i on, are in a set. -/
def cntS (S : Nat → Bool) (i r : Nat) : Nat := sumTo (fun t => if S (i + t) = true then 1 else 0) r
/-- Is one on the right a friend of somebody in a set? -/
def nbS (S : Nat → Bool) (i r j : Nat) : Prop := ∃ t, t < r ∧ S (i + t) = true ∧ near (i + t) j = true
/-- The room of all friends of a set. -/
noncomputable def roomS (S : Nat → Bool) (i r : Nat) (c : Nat → Nat) : Nat := sumTo (fun j => @ite _ (nbS near S i r j) (Classical.propDecidable _) (c j) 0) n
end
section
variable {near : Nat → Nat → Bool} {n : Nat}
theorem sumTo_front (f : Nat → Nat) : ∀ r, sumTo f (r + 1) = f 0 + sumTo (fun t => f (t + 1)) r
  | 0 => by simp [sumTo]
  | r + 1 => by
    have := sumTo_front f r
    simp only [sumTo] at this ⊢
    omega
theorem cntS_succ (S : Nat → Bool) (i r : Nat) : cntS S i (r + 1) = (if S i = true then 1 else 0) + cntS S (i + 1) r := by
  unfold cntS
  rw [sumTo_front]
  congr 1
  exact sumTo_congr r fun t _ => by rw [show i + (t + 1) = i + 1 + t by omega]
theorem nbS_succ {S : Nat → Bool} {i r j : Nat} : nbS near S i (r + 1) j ↔ (S i = true ∧ near i j = true) ∨ nbS near S (i + 1) r j := by
  constructor
  · rintro ⟨t, ht, h1, h2⟩
    rcases Nat.eq_zero_or_pos t with rfl | h0
    · exact .inl ⟨h1, h2⟩
    · exact .inr ⟨t - 1, by omega, by rw [show i + 1 + (t - 1) = i + t by omega]; exact h1, by rw [show i + 1 + (t - 1) = i + t by omega]; exact h2⟩
  · rintro (⟨h1, h2⟩ | ⟨t, ht, h1, h2⟩)
    · exact ⟨0, by omega, h1, h2⟩
    · exact ⟨t + 1, by omega, by rw [show i + (t + 1) = i + 1 + t by omega]; exact h1, by rw [show i + (t + 1) = i + 1 + t by omega]; exact h2⟩
theorem cntS_le (S : Nat → Bool) (i : Nat) : ∀ r, cntS S i r ≤ r
  | 0 => Nat.le_refl _
  | r + 1 => by
    have := cntS_le S i r
    unfold cntS at this ⊢
    simp only [sumTo]
    split <;> omega
theorem roomS_mono {S T : Nat → Bool} {i r i' r' : Nat} {c d : Nat → Nat} (h : ∀ j, j < n → nbS near S i r j → nbS near T i' r' j) (hc : ∀ j, j < n → c j ≤ d j) : roomS near n S i r c ≤ roomS near n T i' r' d := by
  refine sumTo_le n fun j hj => ?_
  by_cases h1 : nbS near S i r j
  · rw [if_pos h1, if_pos (h j hj h1)]; exact hc j hj
  · rw [if_neg h1]; exact Nat.zero_le _
theorem decC_le (c : Nat → Nat) (j x : Nat) : decC c j x ≤ c x := by unfold decC; split <;> omega
theorem roomS_dec {S : Nat → Bool} {i r j : Nat} {c : Nat → Nat} (hj : j < n) (hn : nbS near S i r j) (hc : 0 < c j) : roomS near n S i r (decC c j) + 1 ≤ roomS near n S i r c := by
  refine sumTo_one (i := j) (fun x _ => ?_) ?_ n hj
  · by_cases h1 : nbS near S i r x
    · rw [if_pos h1, if_pos h1]; exact decC_le c j x
    · rw [if_neg h1, if_neg h1]; exact Nat.le_refl _
  · rw [if_pos hn, if_pos hn]
    unfold decC
    rw [if_pos rfl]
    omega
theorem roomS_dec_not {S : Nat → Bool} {i r j : Nat} {c : Nat → Nat} (hn : ¬ nbS near S i r j) : roomS near n S i r (decC c j) = roomS near n S i r c := by
  refine sumTo_congr n fun x _ => ?_
  by_cases h1 : nbS near S i r x
  · rw [if_pos h1, if_pos h1]
    unfold decC
    rw [if_neg fun e : x = j => hn (e ▸ h1)]
  · rw [if_neg h1, if_neg h1]

/-- Whoever lacks room: as many are left over, at least. -/
theorem mxR_le (S : Nat → Bool) : ∀ (r i : Nat) (c : Nat → Nat), mxR near n r i c + cntS S i r ≤ r + roomS near n S i r c
  | 0, i, c => by simp [mxR, cntS, sumTo]
  | r + 1, i, c => by
    rw [cntS_succ]
    have h0 := mxR_le S r (i + 1) c
    have hm : roomS near n S (i + 1) r c ≤ roomS near n S i (r + 1) c := roomS_mono (fun j _ h => nbS_succ.2 (.inr h)) fun j _ => Nat.le_refl _
    suffices hs : mxR near n (r + 1) i c ≤ (r + 1 + roomS near n S i (r + 1) c) - ((if S i = true then 1 else 0) + cntS S (i + 1) r) by
      have hcl := cntS_le S (i + 1) r
      have : (if S i = true then 1 else 0) ≤ 1 := by split <;> omega
      omega
    have hcl := cntS_le S (i + 1) r
    have hif : (if S i = true then 1 else 0) ≤ 1 := by split <;> omega
    refine maxTo_le (by omega) n fun j hj => ?_
    by_cases h : near i j = true ∧ 0 < c j
    · rw [if_pos h]
      have h1 := mxR_le S r (i + 1) (decC c j)
      by_cases hs : S i = true
      · rw [if_pos hs]
        have hd := roomS_dec (n := n) (S := S) (c := c) hj (nbS_succ.2 (.inl ⟨hs, h.1⟩) : nbS near S i (r + 1) j) h.2
        have hm2 : roomS near n S (i + 1) r (decC c j) ≤ roomS near n S i (r + 1) (decC c j) := roomS_mono (fun j _ h => nbS_succ.2 (.inr h)) fun j _ => Nat.le_refl _
        omega
      · rw [if_neg hs]
        have hm2 : roomS near n S (i + 1) r (decC c j) ≤ roomS near n S (i + 1) r c := roomS_mono (fun j _ h => h) fun x _ => decC_le c j x
        omega
    · rw [if_neg h]; omega
/-- A set that lacks just as much as are left over. -/
def Tight (near : Nat → Nat → Bool) (n : Nat) (S : Nat → Bool) (r i : Nat) (c : Nat → Nat) : Prop := mxR near n r i c + cntS S i r = r + roomS near n S i r c
theorem Tight.or {S T : Nat → Bool} {r i : Nat} {c : Nat → Nat} (h1 : Tight near n S r i c) (h2 : Tight near n T r i c) : Tight near n (fun x => S x || T x) r i c := by
  have a := mxR_le (near := near) (n := n) (fun x => S x || T x) r i c
  have b := mxR_le (near := near) (n := n) (fun x => S x && T x) r i c
  have hc : cntS (fun x => S x || T x) i r + cntS (fun x => S x && T x) i r = cntS S i r + cntS T i r := by
    unfold cntS
    rw [← sumTo_add, ← sumTo_add]
    refine sumTo_congr r fun t _ => ?_
    show (if (S (i + t) || T (i + t)) = true then 1 else 0) + (if (S (i + t) && T (i + t)) = true then 1 else 0) = _
    cases S (i + t) <;> cases T (i + t) <;> rfl
  have hr : roomS near n (fun x => S x || T x) i r c + roomS near n (fun x => S x && T x) i r c ≤ roomS near n S i r c + roomS near n T i r c := by
    unfold roomS
    rw [← sumTo_add, ← sumTo_add]
    refine sumTo_le n fun j _ => ?_
    have ho : nbS near (fun x => S x || T x) i r j → nbS near S i r j ∨ nbS near T i r j := by
      rintro ⟨t, ht, h1, h2⟩
      simp only [Bool.or_eq_true] at h1
      rcases h1 with h1 | h1
      · exact .inl ⟨t, ht, h1, h2⟩
      · exact .inr ⟨t, ht, h1, h2⟩
    have ha : nbS near (fun x => S x && T x) i r j → nbS near S i r j ∧ nbS near T i r j := by
      rintro ⟨t, ht, h1, h2⟩
      simp only [Bool.and_eq_true] at h1
      exact ⟨⟨t, ht, h1.1, h2⟩, ⟨t, ht, h1.2, h2⟩⟩
    by_cases p : nbS near S i r j <;> by_cases q : nbS near T i r j
    · rw [if_pos p, if_pos q]
      split <;> split <;> omega
    · rw [if_pos p, if_neg q, if_neg (fun h => q (ha h).2)]
      split <;> omega
    · rw [if_neg p, if_pos q, if_neg (fun h => p (ha h).1)]
      split <;> omega
    · rw [if_neg p, if_neg q, if_neg (fun h => p (ha h).1), if_neg (fun h => (ho h).elim p q)]; exact Nat.le_refl _
  unfold Tight at *
  omega
/-- Over all places of one at once. -/
theorem tight_all {r i : Nat} {c : Nat → Nat} {S0 : Nat → Bool} (h0 : Tight near n S0 r i c) {want : Nat → Prop} : ∀ m, (∀ j, j < m → want j → ∃ S, Tight near n S r i c ∧ nbS near S i r j) → ∃ S, Tight near n S r i c ∧ ∀ j, j < m → want j → nbS near S i r j
  | 0, _ => ⟨S0, h0, fun j hj => by omega⟩
  | m + 1, h => by
    obtain ⟨S, h1, h2⟩ := tight_all h0 m fun j hj => h j (by omega)
    by_cases hw : want m
    · obtain ⟨T, h3, t, ht, h4, h5⟩ := h m (by omega) hw
      refine ⟨_, h1.or h3, fun j hj hwj => ?_⟩
      rcases Nat.lt_or_ge j m with hjm | hjm
      · obtain ⟨u, hu, h6, h7⟩ := h2 j hjm hwj
        exact ⟨u, hu, by simp [h6], h7⟩
      · obtain rfl : j = m := by omega
        exact ⟨t, ht, by simp [h4], h5⟩
    · exact ⟨S, h1, fun j hj hwj => h2 j (by
        rcases Nat.lt_or_ge j m with hjm | hjm
        · exact hjm
        · obtain rfl : j = m := by omega
          exact absurd hwj hw) hwj⟩
theorem mxR_tail (r i : Nat) (c : Nat → Nat) : mxR near n r (i + 1) c ≤ mxR near n (r + 1) i c := maxTo_ge _ _ _
theorem mxR_take {r i j : Nat} {c : Nat → Nat} (hj : j < n) (h : near i j = true) (hc : 0 < c j) : 1 + mxR near n r (i + 1) (decC c j) ≤ mxR near n (r + 1) i c := by
  have := maxTo_mem (fun j => if near i j = true ∧ 0 < c j then 1 + mxR near n r (i + 1) (decC c j) else 0) (mxR near n r (i + 1) c) n hj
  rw [if_pos ⟨h, hc⟩] at this
  exact this
theorem cntS_congr {S T : Nat → Bool} {i r : Nat} (h : ∀ x, i ≤ x → S x = T x) : cntS S i r = cntS T i r := sumTo_congr r fun t _ => by rw [h (i + t) (by omega)]
theorem nbS_congr {S T : Nat → Bool} {i r j : Nat} (h : ∀ x, i ≤ x → S x = T x) : nbS near S i r j ↔ nbS near T i r j := by
  constructor
  · rintro ⟨t, ht, h1, h2⟩; exact ⟨t, ht, by rw [← h (i + t) (by omega)]; exact h1, h2⟩
  · rintro ⟨t, ht, h1, h2⟩; exact ⟨t, ht, by rw [h (i + t) (by omega)]; exact h1, h2⟩
theorem roomS_iff {S T : Nat → Bool} {i r i' r' : Nat} {c : Nat → Nat} (h : ∀ j, j < n → 0 < c j → (nbS near S i r j ↔ nbS near T i' r' j)) : roomS near n S i r c = roomS near n T i' r' c := by
  refine sumTo_congr n fun j hj => ?_
  rcases Nat.eq_zero_or_pos (c j) with h0 | h0
  · rw [h0]; split <;> split <;> rfl
  · by_cases p : nbS near S i r j
    · rw [if_pos p, if_pos ((h j hj h0).1 p)]
    · rw [if_neg p, if_neg fun q => p ((h j hj h0).2 q)]
/-- HALL, ORE: there is a set that lacks just as much as are left over. -/
theorem tight_ex : ∀ (r i : Nat) (c : Nat → Nat), ∃ S, Tight near n S r i c
  | 0, i, c => ⟨fun _ => false, by
    unfold Tight roomS
    rw [sumTo_zero n fun j _ => if_neg fun ⟨t, ht, _⟩ => by omega]
    rfl⟩
  | r + 1, i, c => by
    obtain ⟨S0, h0⟩ := tight_ex r (i + 1) c
    by_cases hmore : mxR near n (r + 1) i c = mxR near n r (i + 1) c
    · have hall : ∀ j, j < n → (near i j = true ∧ 0 < c j) → ∃ S, Tight near n S r (i + 1) c ∧ nbS near S (i + 1) r j := fun j hj hw => by
        obtain ⟨S, hS⟩ := tight_ex r (i + 1) (decC c j)
        have h1 := mxR_take (r := r) (c := c) hj hw.1 hw.2
        have h2 := mxR_le (near := near) (n := n) S r (i + 1) c
        unfold Tight at hS
        by_cases hn : nbS near S (i + 1) r j
        · have h3 := roomS_dec (n := n) hj hn hw.2
          refine ⟨S, ?_, hn⟩
          unfold Tight
          have h4 : roomS near n S (i + 1) r c ≤ roomS near n S (i + 1) r (decC c j) + 1 := by
            unfold roomS
            have : ∀ m, sumTo (fun x => @ite _ (nbS near S (i + 1) r x) (Classical.propDecidable _) (c x) 0) m ≤ sumTo (fun x => @ite _ (nbS near S (i + 1) r x) (Classical.propDecidable _) (decC c j x) 0) m + (if j < m then 1 else 0) := fun m => by
              induction m with
              | zero => simp [sumTo]
              | succ m ih =>
                simp only [sumTo]
                by_cases hx : nbS near S (i + 1) r m
                · rw [if_pos hx, if_pos hx]
                  unfold decC
                  by_cases hm : m = j
                  · subst hm
                    rw [if_pos rfl, if_pos (by omega)]
                    rw [if_neg (by omega)] at ih
                    unfold decC at ih
                    omega
                  · rw [if_neg hm]
                    unfold decC at ih
                    by_cases hlt : j < m
                    · rw [if_pos hlt] at ih; rw [if_pos (by omega)]; omega
                    · rw [if_neg hlt] at ih; rw [if_neg (by omega)]; omega
                · rw [if_neg hx, if_neg hx]
                  by_cases hlt : j < m
                  · rw [if_pos hlt] at ih; rw [if_pos (by omega)]; omega
                  · rw [if_neg hlt] at ih; split <;> omega
            have := this n
            rw [if_pos hj] at this
            exact this
          omega
        · rw [roomS_dec_not hn] at hS
          omega
      obtain ⟨T, hT, hTn⟩ := tight_all h0 n hall
      refine ⟨fun x => if x = i then true else T x, ?_⟩
      unfold Tight at *
      rw [cntS_succ, if_pos (by simp), hmore]
      have e1 : cntS (fun x => if x = i then true else T x) (i + 1) r = cntS T (i + 1) r := cntS_congr fun x hx => if_neg (by omega)
      have e2 : roomS near n (fun x => if x = i then true else T x) i (r + 1) c = roomS near n T (i + 1) r c := roomS_iff fun j hj hc => by
        rw [nbS_succ, nbS_congr (S := fun x => if x = i then true else T x) (T := T) (i := i + 1) fun x hx => if_neg (by omega)]
        constructor
        · rintro (⟨_, h⟩ | h)
          · exact hTn j hj ⟨h, hc⟩
          · exact h
        · exact .inr
      rw [e1, e2]
      omega
    · have h1 := mxR_tail (near := near) (n := n) r i c
      have h2 : mxR near n (r + 1) i c ≤ mxR near n r (i + 1) c + 1 := by
        have h3 := mxR_le (near := near) (n := n) (fun x => if x = i then false else S0 x) (r + 1) i c
        rw [cntS_succ, if_neg (by simp)] at h3
        have e1 : cntS (fun x => if x = i then false else S0 x) (i + 1) r = cntS S0 (i + 1) r := cntS_congr fun x hx => if_neg (by omega)
        have e2 : roomS near n (fun x => if x = i then false else S0 x) i (r + 1) c = roomS near n S0 (i + 1) r c := roomS_iff fun j hj hc => by
          rw [nbS_succ, nbS_congr (S := fun x => if x = i then false else S0 x) (T := S0) (i := i + 1) fun x hx => if_neg (by omega)]
          simp
        rw [e1, e2] at h3
        unfold Tight at h0
        omega
      refine ⟨fun x => if x = i then false else S0 x, ?_⟩
      unfold Tight at *
      rw [cntS_succ, if_neg (by simp)]
      have e1 : cntS (fun x => if x = i then false else S0 x) (i + 1) r = cntS S0 (i + 1) r := cntS_congr fun x hx => if_neg (by omega)
      have e2 : roomS near n (fun x => if x = i then false else S0 x) i (r + 1) c = roomS near n S0 (i + 1) r c := roomS_iff fun j hj hc => by
        rw [nbS_succ, nbS_congr (S := fun x => if x = i then false else S0 x) (T := S0) (i := i + 1) fun x hx => if_neg (by omega)]
        simp
      rw [e1, e2]
      omega
end
end Go.Proofs.Yticickicfigpbaa
