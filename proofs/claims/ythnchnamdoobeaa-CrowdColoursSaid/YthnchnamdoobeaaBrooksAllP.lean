/- BROOKS, whole: where all are linked the greatest degree of colours is enough, but where each two have an edge, or where it is a ring of odd length; there one more is wanted. Plain facts, of no program. -/
import Derived.Test.YthnchnamdoobeaaBrooksP
namespace Go.Proofs.Ythnchnamdoobeaa

section
variable {adj : Nat → Nat → Bool} {n d : Nat} {S : Nat → Bool}
theorem free_low (hdn : d ≤ n) {P : Nat → Bool} {c : Nat → Nat} {x : Nat} (hlt : sizeP (fun u => P u && adj x u) n < d) : ∃ k, k < d ∧ ∀ j, j < n → P j = true → adj x j = true → c j ≠ k := by
  apply Classical.byContradiction
  intro hno
  have hall : ∀ k, ∃ j, k < d → j < n ∧ P j = true ∧ adj x j = true ∧ c j = k := fun k => by
    by_cases hk : k < d
    · apply Classical.byContradiction
      intro h2
      exact hno ⟨k, hk, fun j hj hP ha e => h2 ⟨j, fun _ => ⟨hj, hP, ha, e⟩⟩⟩
    · exact ⟨0, fun h => absurd h hk⟩
  obtain ⟨f, hf⟩ := Classical.axiomOfChoice hall
  have h1 := sizeP_inj (n := n) _ (A := fun k => decide (k < d)) (B := fun u => P u && adj x u) (m := f) rfl (fun k _ hk => by
    obtain ⟨a1, a2, a3, _⟩ := hf k (by simpa using hk)
    exact ⟨a1, by simp [a2, a3]⟩) fun i j _ _ h1 h2 e => by
      have a := (hf i (by simpa using h1)).2.2.2
      have b := (hf j (by simpa using h2)).2.2.2
      rw [← a, ← b, e]
  rw [sizeP_below n hdn] at h1
  omega
theorem col_last (hdn : d ≤ n) (hsym : ∀ a b, adj a b = adj b a) (hirr : ∀ a, adj a a = false) {x : Nat} {c : Nat → Nat} (hc : ColP adj n d (delB S x) c) (hlt : sizeP (fun u => delB S x u && adj x u) n < d) : ∃ c, ColP adj n d S c := by
  obtain ⟨k, g1, g2⟩ := free_low (adj := adj) (x := x) (c := c) hdn hlt
  have h3 := col_add hsym hirr hc g1 g2 (by simp [delB])
  have hS : ∀ i, S i = true → addB (delB S x) x i = true := fun i hi => by
    rw [addB_iff, delB_iff]
    by_cases e : i = x
    · exact .inr e
    · exact .inl ⟨hi, e⟩
  exact ⟨_, ⟨fun i hi h => h3.lt i hi (hS i h), fun i j hi hj p1 p2 => h3.ne i j hi hj (hS i p1) (hS j p2)⟩⟩
theorem nbr_le (x : Nat) : sizeP (fun u => delB S x u && adj x u) n ≤ degS adj n S x := sizeP_sub fun i _ h => by
  simp only [Bool.and_eq_true] at h ⊢
  exact ⟨(delB_iff.1 h.1).1, h.2⟩
/-- One colour more than neighbours is enough. -/
theorem col_more (hdn : d + 1 ≤ n) (hsym : ∀ a b, adj a b = adj b a) (hirr : ∀ a, adj a a = false) : ∀ (m : Nat) (S : Nat → Bool), sizeP S n = m → (∀ x, x < n → S x = true → degS adj n S x ≤ d) → ∃ c, ColP adj n (d + 1) S c
  | 0, S, hm, _ => by
    have hno : ∀ i, i < n → S i = true → False := fun i hi h => by have := sizeP_del h hi; omega
    exact ⟨fun _ => 0, ⟨fun i hi h => (hno i hi h).elim, fun i _ hi _ h => (hno i hi h).elim⟩⟩
  | m + 1, S, hm, hdeg => by
    obtain ⟨x, hx, hSx⟩ := sizeP_pos (show 0 < sizeP S n by omega)
    have hdel := sizeP_del hSx hx
    obtain ⟨c, hc⟩ := col_more hdn hsym hirr m (delB S x) (by omega) fun y hy hS => Nat.le_trans (sizeP_sub fun i _ h => by
      simp only [Bool.and_eq_true] at h ⊢
      exact ⟨(delB_iff.1 h.1).1, h.2⟩) (hdeg y hy (delB_iff.1 hS).1)
    have := hdeg x hx hSx
    have := nbr_le (adj := adj) (n := n) (S := S) x
    exact col_last hdn hsym hirr hc (by omega)
theorem lnk_del {x v : Nat} (hvx : v ≠ x) (hv : v < n) (hSv : S v = true) : ∀ {k u : Nat}, u < n → S u = true → lnkS adj n S k v u → (u ≠ x ∧ lnkS adj n (delB S x) k v u) ∨ ∃ k' y, y < n ∧ S y = true ∧ y ≠ x ∧ lnkS adj n (delB S x) k' v y ∧ adj y x = true
  | 0, u, _, _, h => .inl ⟨fun e => hvx (h.trans e), h⟩
  | k + 1, u, hu, hSu, ⟨t, ht, hSt, h1, h2⟩ => by
    rcases lnk_del hvx hv hSv ht hSt h1 with ⟨h3, h4⟩ | h3
    · by_cases hux : u = x
      · exact .inr ⟨k, t, ht, hSt, h3, h4, by rw [← hux]; exact h2⟩
      · exact .inl ⟨hux, t, ht, delB_iff.2 ⟨hSt, h3⟩, h4, h2⟩
    · exact .inr h3
/-- Where each is linked with one that has fewer neighbours. -/
theorem low_col (hdn : d ≤ n) (hsym : ∀ a b, adj a b = adj b a) (hirr : ∀ a, adj a a = false) : ∀ (m : Nat) (S : Nat → Bool), sizeP S n = m → (∀ x, x < n → S x = true → degS adj n S x ≤ d) → (∀ v, v < n → S v = true → ∃ k u, u < n ∧ S u = true ∧ degS adj n S u < d ∧ lnkS adj n S k v u) → ∃ c, ColP adj n d S c
  | 0, S, hm, _, _ => by
    have hno : ∀ i, i < n → S i = true → False := fun i hi h => by have := sizeP_del h hi; omega
    exact ⟨fun _ => 0, ⟨fun i hi h => (hno i hi h).elim, fun i _ hi _ h => (hno i hi h).elim⟩⟩
  | m + 1, S, hm, hdeg, hlow => by
    obtain ⟨v, hv, hSv⟩ := sizeP_pos (show 0 < sizeP S n by omega)
    obtain ⟨_, x, hx, hSx, hdx, _⟩ := hlow v hv hSv
    have hdel := sizeP_del hSx hx
    have hle : ∀ y, degS adj n (delB S x) y ≤ degS adj n S y := fun y => sizeP_sub fun i _ h => by
      simp only [Bool.and_eq_true] at h ⊢
      exact ⟨(delB_iff.1 h.1).1, h.2⟩
    obtain ⟨c, hc⟩ := low_col hdn hsym hirr m (delB S x) (by omega) (fun y hy hS => Nat.le_trans (hle y) (hdeg y hy (delB_iff.1 hS).1)) fun z hz hSz => by
      obtain ⟨h1, h2⟩ := delB_iff.1 hSz
      obtain ⟨k, u, g1, g2, g3, g4⟩ := hlow z hz h1
      rcases lnk_del h2 hz h1 g1 g2 g4 with ⟨h3, h4⟩ | ⟨k', y, q1, q2, q3, q4, q5⟩
      · exact ⟨k, u, g1, delB_iff.2 ⟨g2, h3⟩, Nat.lt_of_le_of_lt (hle u) g3, h4⟩
      · refine ⟨k', y, q1, delB_iff.2 ⟨q2, q3⟩, ?_, q4⟩
        have h5 := sizeP_del (A := fun u => S u && adj y u) (i := x) (by simp [hSx, q5]) hx
        have h6 : degS adj n (delB S x) y ≤ sizeP (delB (fun u => S u && adj y u) x) n := sizeP_sub fun i _ h => by
          simp only [Bool.and_eq_true] at h
          obtain ⟨h7, h8⟩ := delB_iff.1 h.1
          exact delB_iff.2 ⟨by simp [h7, h.2], h8⟩
        have := hdeg y q1 q2
        unfold degS at *
        omega
    have := nbr_le (adj := adj) (n := n) (S := S) x
    exact col_last hdn hsym hirr hc (by omega)
/-- All of all. -/
def allB : Nat → Bool := fun _ => true
/-- What is shut under edges has all, where all are linked. -/
theorem shut_all (hcon : ∀ a b, a < n → b < n → ∃ k, lnkS adj n allB k a b) {T : Nat → Bool} {x : Nat} (hx : x < n) (hTx : T x = true) (hsh : ∀ a b, a < n → b < n → T a = true → adj a b = true → T b = true) : ∀ b, b < n → T b = true := fun b hb => by
  obtain ⟨k, hk⟩ := hcon x b hx hb
  have : ∀ k b, b < n → lnkS adj n allB k x b → T b = true := fun k => by
    induction k with
    | zero => exact fun b _ h => h ▸ hTx
    | succ k ih =>
      rintro b hb ⟨t, h1, _, h2, h3⟩
      exact hsh t b h1 hb (ih t h1 h2) h3
  exact this k b hb hk
theorem sizeP_ltN {A B : Nat → Bool} (h : ∀ i, i < n → A i = true → B i = true) {u : Nat} (hu : u < n) (h1 : A u = false) (h2 : B u = true) : sizeP A n < sizeP B n := by
  have e := sizeP_del h2 hu
  have : sizeP A n ≤ sizeP (delB B u) n := sizeP_sub fun i hi hA => delB_iff.2 ⟨h i hi hA, fun e => by rw [e, h1] at hA; cases hA⟩
  omega
theorem deg_three {x a b c : Nat} (ha : a < n) (hb : b < n) (hc : c < n) (xa : adj x a = true) (xb : adj x b = true) (xc : adj x c = true) (hab : a ≠ b) (hac : a ≠ c) (hbc : b ≠ c) : 3 ≤ degS adj n allB x := by
  have e1 := sizeP_del (A := fun u => allB u && adj x u) (i := a) (by simp [allB, xa]) ha
  have e2 := sizeP_del (A := delB (fun u => allB u && adj x u) a) (i := b) (delB_iff.2 ⟨by simp [allB, xb], Ne.symm hab⟩) hb
  have e3 := sizeP_del (A := delB (delB (fun u => allB u && adj x u) a) b) (i := c) (delB_iff.2 ⟨delB_iff.2 ⟨by simp [allB, xc], Ne.symm hac⟩, Ne.symm hbc⟩) hc
  unfold degS
  omega
/-- BROOKS. -/
theorem brooks_all (hsym : ∀ a b, adj a b = adj b a) (hirr : ∀ a, adj a a = false) (_hn : 0 < n) (hcon : ∀ a b, a < n → b < n → ∃ k, lnkS adj n allB k a b) (hdeg : ∀ x, x < n → degS adj n allB x ≤ d) (hmax : ∃ x, x < n ∧ degS adj n allB x = d)
    (hnc : ∃ a b, a < n ∧ b < n ∧ a ≠ b ∧ adj a b = false) (hnr : ¬ ((∀ x, x < n → degS adj n allB x = 2) ∧ n % 2 = 1)) : ∃ c, ColP adj n d allB c := by
  have hdn : d ≤ n := by
    obtain ⟨x, _, h⟩ := hmax
    rw [← h]; exact sizeP_le _ n
  by_cases hlow : ∃ u, u < n ∧ degS adj n allB u < d
  · obtain ⟨u, hu, hdu⟩ := hlow
    exact low_col hdn hsym hirr _ allB rfl (fun x hx _ => hdeg x hx) fun v hv _ => by
      obtain ⟨k, hk⟩ := hcon v u hv hu
      exact ⟨k, u, hu, rfl, hdu, hk⟩
  have hreg : ∀ x, x < n → degS adj n allB x = d := fun x hx => by
    have h1 := hdeg x hx
    have h2 : ¬ degS adj n allB x < d := fun h => hlow ⟨x, hx, h⟩
    omega
  obtain ⟨a0, b0, ha0, hb0, hab0, hna0⟩ := hnc
  -- where so many nodes have all edges, they are all
  have hclique : ∀ K : Nat → Bool, (∀ i j, i < n → j < n → K i = true → K j = true → i ≠ j → adj i j = true) → sizeP K n ≠ d + 1 := fun K hK hs => by
    obtain ⟨x, hx, hKx⟩ := sizeP_pos (show 0 < sizeP K n by omega)
    have hsh := shut_all hcon hx hKx fun a b ha hb hKa hab => by
      cases hKb : K b with
      | true => rfl
      | false =>
        exfalso
        have h1 := sizeP_del hKa ha
        have h2 : sizeP (delB K a) n < degS adj n allB a := sizeP_ltN (u := b) (fun i hin hi => by
          obtain ⟨h3, h4⟩ := delB_iff.1 hi
          simp [allB, hK a i ha hin hKa h3 (Ne.symm h4)]) hb (by simp [delB, hKb]) (by simp [allB, hab])
        have := hreg a ha
        omega
    rw [hK a0 b0 ha0 hb0 (hsh a0 ha0) (hsh b0 hb0) hab0] at hna0
    cases hna0
  rcases Nat.lt_or_ge 2 d with hd3 | hd3
  · exact brooks hdn hd3 hsym hirr _ allB rfl (fun x hx _ => hdeg x hx) fun K _ h2 => hclique K h2
  have hno : ∀ x y, x < n → y < n → adj x y = true → 0 < d := fun x y hx hy h => by
    have := sizeP_del (A := fun u => allB u && adj x u) (i := y) (by simp [allB, h]) hy
    have h2 := hreg x hx
    unfold degS at h2
    omega
  rcases (show d = 0 ∨ d = 1 ∨ d = 2 by omega) with h0 | h1 | h2
  · exfalso
    have := shut_all hcon (T := fun i => decide (i = a0)) ha0 (by simp) (fun a b ha hb _ h => by have := hno a b ha hb h; omega) b0 hb0
    simp at this
    exact hab0 this.symm
  · exfalso
    have hone : ∀ x y z, x < n → y < n → z < n → adj x y = true → adj x z = true → y = z := fun x y z hx hy hz h3 h4 => by
      apply Classical.byContradiction
      intro hne
      have e1 := sizeP_del (A := fun u => allB u && adj x u) (i := y) (by simp [allB, h3]) hy
      have e2 := sizeP_del (A := delB (fun u => allB u && adj x u) y) (i := z) (delB_iff.2 ⟨by simp [allB, h4], Ne.symm hne⟩) hz
      have h5 := hreg x hx
      unfold degS at h5
      omega
    obtain ⟨y, hy, hyb⟩ := sizeP_pos (show 0 < sizeP (fun u => allB u && adj a0 u) n by have := hreg a0 ha0; unfold degS at this; omega)
    have hya : adj a0 y = true := by simp only [Bool.and_eq_true] at hyb; exact hyb.2
    have := shut_all hcon (T := fun i => decide (i = a0) || decide (i = y)) ha0 (by simp) (fun a b ha hb hT h => by
      simp only [Bool.or_eq_true, decide_eq_true_eq] at hT ⊢
      rcases hT with hT | hT
      · rw [hT] at h; exact .inr (hone a0 b y ha0 hb hy h hya)
      · rw [hT] at h; exact .inl (hone y b a0 hy hb ha0 h (by rw [hsym]; exact hya))) b0 hb0
    simp only [Bool.or_eq_true, decide_eq_true_eq] at this
    rcases this with h | h
    · exact hab0 h.symm
    · rw [h, hya] at hna0; cases hna0
  · subst h2
    -- a ring
    have hn2 : n % 2 = 0 := by
      have : ¬ n % 2 = 1 := fun h => hnr ⟨hreg, h⟩
      omega
    have hthree : ∀ x a b c, x < n → a < n → b < n → c < n → adj x a = true → adj x b = true → adj x c = true → a ≠ b → a ≠ c → b ≠ c → False := fun x a b c hx ha hb hc xa xb xc h1 h2 h3 => by
      have := deg_three ha hb hc xa xb xc h1 h2 h3
      have := hreg x hx
      omega
    have H1 : RowP adj n allB 1 (fun _ => a0) := ⟨fun _ _ => ⟨ha0, rfl⟩, fun t ht => by omega, fun a b ha hb _ => by omega⟩
    obtain ⟨r, p, hr1, HR, _, hmax⟩ := row_max n 1 _ (by omega) (by omega) H1
    have hpn : ∀ t, t < r → p t < n := fun t ht => (HR.in_ t ht).1
    have hpne : ∀ a b, a < r → b < r → a ≠ b → p a ≠ p b := fun a b ha hb hab e => hab (HR.one a b ha hb e)
    -- the last one's neighbours
    have hlastdeg := hreg (p (r - 1)) (hpn _ (by omega))
    obtain ⟨j, hj, hja⟩ : ∃ j, j + 2 < r ∧ adj (p (r - 1)) (p j) = true := by
      obtain ⟨z, hz, hzb, hzne⟩ := sizeP_two (A := fun u => allB u && adj (p (r - 1)) u) (n := n) (t := p (r - 2)) (by unfold degS at hlastdeg; omega)
      have hza : adj (p (r - 1)) z = true := by simp only [Bool.and_eq_true] at hzb; exact hzb.2
      obtain ⟨t, ht, e⟩ := hmax z hz rfl hza
      refine ⟨t, ?_, by rw [e]; exact hza⟩
      apply Nat.lt_of_not_le
      intro hge
      rcases (show t = r - 1 ∨ t = r - 2 by omega) with h | h
      · rw [← e, h, hirr] at hza; cases hza
      · exact hzne (by rw [← e, h])
    have hj0 : j = 0 := by
      apply Classical.byContradiction
      intro hne
      have e1 := HR.adj_ (j - 1) (by omega)
      rw [show j - 1 + 1 = j by omega, hsym] at e1
      exact hthree (p j) (p (j - 1)) (p (j + 1)) (p (r - 1)) (hpn _ (by omega)) (hpn _ (by omega)) (hpn _ (by omega)) (hpn _ (by omega)) e1 (HR.adj_ j (by omega)) (by rw [hsym]; exact hja) (hpne _ _ (by omega) (by omega) (by omega)) (hpne _ _ (by omega) (by omega) (by omega)) (hpne _ _ (by omega) (by omega) (by omega))
    subst hj0
    -- the one ahead and the one behind
    have hprev : ∀ t, t < r → adj (p t) (p (if t = 0 then r - 1 else t - 1)) = true := fun t ht => by
      by_cases h : t = 0
      · rw [if_pos h, h, hsym]; exact hja
      · rw [if_neg h, hsym]
        have := HR.adj_ (t - 1) (by omega)
        rwa [show t - 1 + 1 = t by omega] at this
    have hnext : ∀ t, t < r → adj (p t) (p (if t = r - 1 then 0 else t + 1)) = true := fun t ht => by
      by_cases h : t = r - 1
      · rw [if_pos h, h]; exact hja
      · rw [if_neg h]; exact HR.adj_ t (by omega)
    have honly : ∀ t z, t < r → z < n → adj (p t) z = true → z = p (if t = 0 then r - 1 else t - 1) ∨ z = p (if t = r - 1 then 0 else t + 1) := fun t z ht hz ha => by
      apply Classical.byContradiction
      intro hne
      have i1 : (if t = 0 then r - 1 else t - 1) < r := by split <;> omega
      have i2 : (if t = r - 1 then 0 else t + 1) < r := by split <;> omega
      exact hthree (p t) _ _ z (hpn _ ht) (hpn _ i1) (hpn _ i2) hz (hprev t ht) (hnext t ht) ha (hpne _ _ i1 i2 (by split <;> split <;> omega)) (fun e => hne (.inl e.symm)) fun e => hne (.inr e.symm)
    have hshut := shut_all hcon (T := fun i => (List.range r).any fun t => decide (i = p t)) (hpn 0 (by omega)) (List.any_eq_true.2 ⟨0, List.mem_range.2 (by omega), by simp⟩) fun a b ha hb hT hab => by
      rw [List.any_eq_true] at hT ⊢
      obtain ⟨t, ht, e⟩ := hT
      have ht := List.mem_range.1 ht
      have e : a = p t := by simpa using e
      rw [e] at hab
      rcases honly t b ht hb hab with h | h
      · have i1 : (if t = 0 then r - 1 else t - 1) < r := by split <;> omega
        exact ⟨_, List.mem_range.2 i1, by simpa using h⟩
      · have i2 : (if t = r - 1 then 0 else t + 1) < r := by split <;> omega
        exact ⟨_, List.mem_range.2 i2, by simpa using h⟩
    have hidx : ∀ i, ∃ t, i < n → t < r ∧ i = p t := fun i => by
      by_cases hi : i < n
      · obtain ⟨t, ht, e⟩ := List.any_eq_true.1 (hshut i hi)
        exact ⟨t, fun _ => ⟨List.mem_range.1 ht, by simpa using e⟩⟩
      · exact ⟨0, fun h => absurd h hi⟩
    obtain ⟨ix, hix⟩ := Classical.axiomOfChoice hidx
    have hrn : r = n := by
      have h1 := HR.le
      have h2 := sizeP_inj (n := n) _ (A := allB) (B := fun t => decide (t < r)) (m := ix) rfl (fun i hi _ => ⟨by have := (hix i hi).1; omega, by simpa using (hix i hi).1⟩) fun i k hi hk _ _ e => by rw [(hix i hi).2, (hix k hk).2, e]
      rw [sizeP_below n h1] at h2
      have h3 : sizeP (fun _ : Nat => false) n + sizeP (fun _ : Nat => true) n = n := sizeP_not (fun _ : Nat => true) n
      have h4 : sizeP (fun _ : Nat => false) n = 0 := sizeP_none fun _ _ => rfl
      have h5 : sizeP allB n = sizeP (fun _ : Nat => true) n := rfl
      omega
    refine ⟨fun i => ix i % 2, ⟨fun i _ _ => Nat.mod_lt _ (by omega), fun i k hi hk _ _ ha => ?_⟩⟩
    obtain ⟨a1, a2⟩ := hix i hi
    obtain ⟨b1, b2⟩ := hix k hk
    rw [a2] at ha
    have := honly (ix i) k a1 hk ha
    rw [b2] at this
    rcases this with h | h
    · have := HR.one _ _ b1 (by split <;> omega) h
      show ix i % 2 ≠ ix k % 2
      split at this <;> omega
    · have := HR.one _ _ b1 (by split <;> omega) h
      show ix i % 2 ≠ ix k % 2
      split at this <;> omega
/-- Where each two have an edge as many colours are wanted as there are nodes. -/
theorem clique_col (hall : ∀ a b, a < n → b < n → a ≠ b → adj a b = true) {c : Nat → Nat} (H : ColP adj n d allB c) : n ≤ d := by
  rcases Nat.lt_or_ge d n with h | h
  · have h1 := sizeP_inj (n := n) _ (A := allB) (B := fun t => decide (t < d)) (m := c) rfl (fun i hi _ => ⟨by have := H.lt i hi rfl; omega, by simpa using H.lt i hi rfl⟩) fun i j hi hj _ _ e => Classical.byContradiction fun hne => H.ne i j hi hj rfl rfl (hall i j hi hj hne) e
    rw [sizeP_below n (by omega)] at h1
    have h3 : sizeP (fun _ : Nat => false) n + sizeP (fun _ : Nat => true) n = n := sizeP_not (fun _ : Nat => true) n
    have h4 : sizeP (fun _ : Nat => false) n = 0 := sizeP_none fun _ _ => rfl
    have h5 : sizeP allB n = sizeP (fun _ : Nat => true) n := rfl
    omega
  · exact h
/-- Where each has two neighbours, and they are odd in number, two colours are not enough. -/
theorem odd_ring (hsym : ∀ a b, adj a b = adj b a) (hreg : ∀ x, x < n → degS adj n allB x = 2) (hodd : n % 2 = 1) {c : Nat → Nat} (H : ColP adj n 2 allB c) : False := by
  have hdeg : ∀ x, x < n → sizeP (fun u => adj x u) n = 2 := fun x hx => by
    have h1 : degS adj n allB x = sizeP (fun u => adj x u) n := sizeP_congr n fun i _ => by simp [allB]
    have := hreg x hx
    omega
  -- the edges, counted from either colour
  have hcnt : ∀ k, k < 2 → sumTo (fun x => if c x = k then sizeP (fun u => adj x u) n else 0) n = 2 * sizeP (fun x => decide (c x = k)) n := fun k _ => by
    have : ∀ m, m ≤ n → sumTo (fun x => if c x = k then sizeP (fun u => adj x u) n else 0) m = 2 * sizeP (fun x => decide (c x = k)) m := fun m => by
      induction m with
      | zero => intro _; rfl
      | succ m ih =>
        intro hm
        simp only [sumTo]
        rw [ih (by omega), sizeP_succ]
        by_cases h : c m = k
        · rw [if_pos h, if_pos (by simpa using h), hdeg m (by omega)]; omega
        · rw [if_neg h, if_neg (by simpa using h)]; omega
    exact this n (Nat.le_refl n)
  have hswap : ∀ (F : Nat → Nat → Nat) (a b : Nat), sumTo (fun x => sumTo (fun y => F x y) b) a = sumTo (fun y => sumTo (fun x => F x y) a) b := fun F a b => by
    induction a with
    | zero => exact (sumTo_zero b fun _ _ => rfl).symm
    | succ a ih =>
      simp only [sumTo]
      rw [ih, ← sumTo_add]
  have e0 : sumTo (fun x => if c x = 0 then sizeP (fun u => adj x u) n else 0) n = sumTo (fun x => sumTo (fun y => if c x = 0 ∧ adj x y = true then 1 else 0) n) n := sumTo_congr n fun x _ => by
    by_cases h : c x = 0
    · rw [if_pos h]
      exact sumTo_congr n fun y _ => by simp [h]
    · rw [if_neg h]
      exact (sumTo_zero n fun y _ => if_neg fun h2 => h h2.1).symm
  have e1 : sumTo (fun x => if c x = 1 then sizeP (fun u => adj x u) n else 0) n = sumTo (fun x => sumTo (fun y => if c x = 1 ∧ adj x y = true then 1 else 0) n) n := sumTo_congr n fun x _ => by
    by_cases h : c x = 1
    · rw [if_pos h]
      exact sumTo_congr n fun y _ => by simp [h]
    · rw [if_neg h]
      exact (sumTo_zero n fun y _ => if_neg fun h2 => h h2.1).symm
  have e2 : sumTo (fun x => sumTo (fun y => if c x = 0 ∧ adj x y = true then 1 else 0) n) n = sumTo (fun x => sumTo (fun y => if c x = 1 ∧ adj x y = true then 1 else 0) n) n := by
    rw [hswap (fun x y => if c x = 0 ∧ adj x y = true then 1 else 0) n n]
    refine sumTo_congr n fun y hy => sumTo_congr n fun x hx => ?_
    by_cases ha : adj x y = true
    · have hne := H.ne x y hx hy rfl rfl ha
      have h1 := H.lt x hx rfl
      have h2 := H.lt y hy rfl
      have ha' : adj y x = true := by rw [hsym]; exact ha
      by_cases h3 : c x = 0
      · rw [if_pos ⟨h3, ha⟩, if_pos ⟨by omega, ha'⟩]
      · rw [if_neg (fun h => h3 h.1), if_neg (fun h => by omega)]
    · rw [if_neg (fun h => ha h.2), if_neg (fun h => ha (by rw [hsym]; exact h.2))]
  have h0 := hcnt 0 (by omega)
  have h1 := hcnt 1 (by omega)
  have hp : sizeP (fun t => !decide (c t = 0)) n + sizeP (fun x => decide (c x = 0)) n = n := sizeP_not (fun x => decide (c x = 0)) n
  have e3 : sizeP (fun t => !decide (c t = 0)) n = sizeP (fun x => decide (c x = 1)) n := sizeP_congr n fun x hx => by
    have := H.lt x hx rfl
    show (!decide (c x = 0)) = decide (c x = 1)
    rcases (show c x = 0 ∨ c x = 1 by omega) with h | h <;> simp [h]
  omega
end
end Go.Proofs.Ythnchnamdoobeaa
