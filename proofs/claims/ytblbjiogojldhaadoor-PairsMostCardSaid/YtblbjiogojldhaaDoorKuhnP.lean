/- KUHN, BERGE: a pairing that grows one by one; where one can't be paired, whoever was asked shows why. Plain facts, of no program. -/
import Derived.Test.YtblbjiogojldhaaDoorPairW
namespace Go.Proofs.YtblbjiogojldhaaDoor

/-- The room of those on the right that are not taken. -/
def cT (t : Nat) : Nat → Nat := fun j => if t.testBit j = true then 0 else 1
theorem cT_zero : cT 0 = fun _ => 1 := by funext j; simp [cT]
theorem cT_dec {t j : Nat} (h : t.testBit j = false) : decC (cT t) j = cT (t ||| 2 ^ j) := by
  funext x
  unfold decC cT
  rw [Nat.testBit_or, Nat.testBit_two_pow]
  by_cases hx : x = j
  · subst hx
    rw [if_pos rfl, if_neg (by simp [h])]
    simp
  · rw [if_neg hx]
    simp [show ¬ j = x from fun e => hx e.symm]
/-- Sums over whom each has, and over those who are had. -/
theorem sum_count (f : Nat → Nat) : ∀ (l : List Int) (r : Nat), (∀ x ∈ l, x = -1 ∨ (0 ≤ x ∧ x < (r : Int))) → (l.map fun x => if 0 ≤ x then f x.toNat else 0).sum = sumTo (fun t => f t * l.count (t : Int)) r
  | [], r, _ => by rw [sumTo_zero r fun t _ => by simp]; rfl
  | x :: l, r, h => by
    rw [List.map_cons, List.sum_cons, sum_count f l r fun y hy => h y (List.mem_cons_of_mem _ hy)]
    rcases h x (List.mem_cons_self ..) with rfl | ⟨h0, h1⟩
    · rw [if_neg (by omega), Nat.zero_add]
      exact sumTo_congr r fun t _ => by rw [List.count_cons_of_ne (by omega)]
    · rw [if_pos h0]
      obtain ⟨v, rfl⟩ := Int.eq_ofNat_of_zero_le h0
      rw [Int.toNat_natCast]
      have : ∀ k, sumTo (fun t => f t * ((v : Int) :: l).count (t : Int)) k = sumTo (fun t => f t * l.count (t : Int)) k + (if v < k then f v else 0) := fun k => by
        induction k with
        | zero => simp [sumTo]
        | succ k ih =>
          simp only [sumTo]
          rw [ih]
          by_cases hv : v = k
          · subst hv
            rw [List.count_cons_self, Nat.mul_add, if_neg (by omega), if_pos (by omega)]; omega
          · rw [List.count_cons_of_ne (by omega)]
            have e : (if v < k + 1 then f v else 0) = (if v < k then f v else 0) := by split <;> split <;> first | rfl | omega
            rw [e]; omega
      rw [this r, if_pos (by omega)]; omega
/-- Whom each on the right has, as far as those below r on the left were asked; nobody of the word t has any. -/
structure PairH (xs : List Nat) (t r : Nat) (h : List Int) : Prop where
  len : h.length = 8
  rng : ∀ x ∈ h, x = -1 ∨ (0 ≤ x ∧ x < (r : Int))
  one : ∀ v : Nat, h.count (v : Int) ≤ 1
  near : ∀ j, j < 8 → 0 ≤ h.getD j (-1) → nearF xs (h.getD j (-1)).toNat j = true ∧ t.testBit j = false
def pairsH (h : List Int) : Nat := (h.map fun x => if 0 ≤ x then 1 else 0).sum
theorem sum_getD (g : Int → Nat) : ∀ (h : List Int) (n : Nat), h.length = n → (h.map g).sum = sumTo (fun j => g (h.getD j (-1))) n
  | [], _, rfl => rfl
  | x :: l, n, hn => by
    subst hn
    rw [List.length_cons, sumTo_front, List.map_cons, List.sum_cons, sum_getD g l l.length rfl]
    rfl
section
variable {xs : List Nat} {t r : Nat} {h : List Int}
theorem PairH.mem (H : PairH xs t r h) {j : Nat} (hj : j < 8) : h.getD j (-1) ∈ h := by
  have := H.len
  rw [List.getD_eq_getElem?_getD, List.getElem?_eq_getElem (by omega), Option.getD_some]
  exact List.getElem_mem _
/-- No set lacks so much that fewer could be paired. -/
theorem PairH.le (H : PairH xs t r h) (S : Nat → Bool) : pairsH h + cntS S 0 r ≤ r + roomS (nearF xs) 8 S 0 r (cT t) := by
  have e1 : pairsH h = sumTo (fun j => if 0 ≤ h.getD j (-1) then 1 else 0) 8 := by
    unfold pairsH
    exact sum_getD (fun x => if 0 ≤ x then 1 else 0) h 8 H.len
  have e2 : sumTo (fun j => if 0 ≤ h.getD j (-1) ∧ S (h.getD j (-1)).toNat = true then 1 else 0) 8 ≤ roomS (nearF xs) 8 S 0 r (cT t) := by
    refine sumTo_le 8 fun j hj => ?_
    split
    · rename_i hc
      have hn := H.near j hj hc.1
      have hr := H.rng _ (H.mem hj)
      have hnb : nbS (nearF xs) S 0 r j := ⟨(h.getD j (-1)).toNat, by omega, by rw [Nat.zero_add]; exact hc.2, by rw [Nat.zero_add]; exact hn.1⟩
      rw [if_pos hnb]
      unfold cT
      rw [if_neg (by simp [hn.2])]
      exact Nat.le_refl _
    · exact Nat.zero_le _
  have e3 : sumTo (fun j => if 0 ≤ h.getD j (-1) then (if S (h.getD j (-1)).toNat = true then 0 else 1) else 0) 8 ≤ sumTo (fun t => if S t = true then 0 else 1) r := by
    have := sum_count (fun t => if S t = true then 0 else 1) h r H.rng
    rw [sum_getD _ h 8 H.len] at this
    rw [this]
    refine sumTo_le r fun t _ => ?_
    have := H.one t
    split
    · simp
    · omega
  have e4 : sumTo (fun t => if S t = true then 0 else 1) r + cntS S 0 r = r := by
    unfold cntS
    rw [← sumTo_add]
    have : ∀ k, sumTo (fun j => (if S j = true then 0 else 1) + (if S (0 + j) = true then 1 else 0)) k = k := fun k => by
      induction k with
      | zero => rfl
      | succ k ih => simp only [sumTo]; rw [ih, Nat.zero_add]; split <;> omega
    exact this r
  have e5 : sumTo (fun j => if 0 ≤ h.getD j (-1) then 1 else 0) 8 = sumTo (fun j => if 0 ≤ h.getD j (-1) ∧ S (h.getD j (-1)).toNat = true then 1 else 0) 8 + sumTo (fun j => if 0 ≤ h.getD j (-1) then (if S (h.getD j (-1)).toNat = true then 0 else 1) else 0) 8 := by
    rw [← sumTo_add]
    refine sumTo_congr 8 fun j _ => ?_
    by_cases h0 : 0 ≤ h.getD j (-1)
    · by_cases h1 : S (h.getD j (-1)).toNat = true
      · rw [if_pos h0, if_pos ⟨h0, h1⟩, if_pos h0, if_pos h1]
      · rw [if_pos h0, if_neg fun c => h1 c.2, if_pos h0, if_neg h1]
    · rw [if_neg h0, if_neg fun c => h0 c.1, if_neg h0]
  omega
theorem PairH.le_mx (H : PairH xs t r h) : pairsH h ≤ mxR (nearF xs) 8 r 0 (cT t) := by
  obtain ⟨S, hS⟩ := tight_ex (near := nearF xs) (n := 8) r 0 (cT t)
  have := H.le S
  unfold Tight at hS
  omega
end
theorem cntS_snoc (S : Nat → Bool) (r : Nat) : cntS S 0 (r + 1) = cntS S 0 r + (if S r = true then 1 else 0) := by
  show cntS S 0 r + (if S (0 + r) = true then 1 else 0) = _
  rw [Nat.zero_add]
theorem mxR_snoc_le {near : Nat → Nat → Bool} {n r : Nat} {c : Nat → Nat} : mxR near n (r + 1) 0 c ≤ mxR near n r 0 c + 1 := by
  obtain ⟨T, hT⟩ := tight_ex (near := near) (n := n) r 0 c
  have h1 := mxR_le (near := near) (n := n) (fun x => if x = r then false else T x) (r + 1) 0 c
  rw [cntS_snoc, if_neg (by simp)] at h1
  have e1 : cntS (fun x => if x = r then false else T x) 0 r = cntS T 0 r := sumTo_congr r fun t ht => by
    rw [Nat.zero_add]
    simp only [if_neg (show ¬ t = r by omega)]
  have e2 : roomS near n (fun x => if x = r then false else T x) 0 (r + 1) c ≤ roomS near n T 0 r c := roomS_mono (fun j _ h => by
    obtain ⟨t, ht, g1, g2⟩ := h
    rw [Nat.zero_add] at g1 g2
    by_cases htr : t = r
    · have e : (fun x => if x = r then false else T x) t = false := if_pos htr
      rw [e] at g1; cases g1
    · have e : (fun x => if x = r then false else T x) t = T t := if_neg htr
      rw [e] at g1
      exact ⟨t, by omega, by rw [Nat.zero_add]; exact g1, by rw [Nat.zero_add]; exact g2⟩) fun j _ => Nat.le_refl _
  unfold Tight at hT
  omega
theorem mxR_snoc_ge {near : Nat → Nat → Bool} {n r : Nat} {c : Nat → Nat} : mxR near n r 0 c ≤ mxR near n (r + 1) 0 c := by
  obtain ⟨S, hS⟩ := tight_ex (near := near) (n := n) (r + 1) 0 c
  have h1 := mxR_le (near := near) (n := n) S r 0 c
  have e1 := cntS_snoc S r
  have e2 : roomS near n S 0 r c ≤ roomS near n S 0 (r + 1) c := roomS_mono (fun j _ ⟨t, ht, g⟩ => ⟨t, by omega, g⟩) fun j _ => Nat.le_refl _
  have : (if S r = true then 1 else 0) ≤ 1 := by split <;> omega
  unfold Tight at hS
  omega
/-- Where one of the left can't be paired: of all who were asked (the word a) each has one whose friends were asked as well. -/
theorem stuck {xs : List Nat} {t r a : Nat} {h : List Int} (H : PairH xs t r h) (hr : ∀ j, j < 8 → nearF xs r j = true → a.testBit j = true)
    (ha : ∀ j, j < 8 → a.testBit j = true → t.testBit j = false → 0 ≤ h.getD j (-1) ∧ ∀ j', j' < 8 → nearF xs (h.getD j (-1)).toNat j' = true → a.testBit j' = true)
    (hp : pairsH h = mxR (nearF xs) 8 r 0 (cT t)) : mxR (nearF xs) 8 (r + 1) 0 (cT t) = pairsH h := by
  apply Nat.le_antisymm ?_ (by rw [hp]; exact mxR_snoc_ge)
  rw [hp]
  obtain ⟨T0, hT0⟩ := tight_ex (near := nearF xs) (n := 8) r 0 (cT t)
  -- a tight set that does not have r
  obtain ⟨T, hTr, hT⟩ : ∃ T : Nat → Bool, T r = false ∧ Tight (nearF xs) 8 T r 0 (cT t) := by
    refine ⟨fun x => if x = r then false else T0 x, if_pos rfl, ?_⟩
    unfold Tight at hT0 ⊢
    have e1 : cntS (fun x => if x = r then false else T0 x) 0 r = cntS T0 0 r := sumTo_congr r fun t ht => by
      rw [Nat.zero_add]
      simp only [if_neg (show ¬ t = r by omega)]
    have e2 : roomS (nearF xs) 8 (fun x => if x = r then false else T0 x) 0 r (cT t) = roomS (nearF xs) 8 T0 0 r (cT t) := roomS_iff fun j hj _ => by
      unfold nbS
      constructor
      · rintro ⟨u, hu, g1, g2⟩
        rw [Nat.zero_add] at g1
        have e : (fun x => if x = r then false else T0 x) u = T0 u := if_neg (by omega)
        rw [e] at g1
        exact ⟨u, hu, by rw [Nat.zero_add]; exact g1, g2⟩
      · rintro ⟨u, hu, g1, g2⟩
        rw [Nat.zero_add] at g1
        have e : (fun x => if x = r then false else T0 x) u = T0 u := if_neg (by omega)
        exact ⟨u, hu, by rw [Nat.zero_add]; exact e.trans g1, g2⟩
    omega
  -- whoever was asked
  obtain ⟨S, hS⟩ : ∃ S : Nat → Bool, ∀ x, S x = true ↔ x = r ∨ ∃ j, j < 8 ∧ a.testBit j = true ∧ t.testBit j = false ∧ h.getD j (-1) = (x : Int) := by
    refine ⟨fun x => decide (x = r) || (List.range 8).any fun j => a.testBit j && !t.testBit j && decide (h.getD j (-1) = (x : Int)), fun x => ?_⟩
    rw [Bool.or_eq_true, decide_eq_true_eq, List.any_eq_true]
    constructor
    · rintro (h1 | ⟨j, h1, h2⟩)
      · exact .inl h1
      · simp only [Bool.and_eq_true, Bool.not_eq_true', decide_eq_true_eq] at h2
        exact .inr ⟨j, List.mem_range.1 h1, h2.1.1, h2.1.2, h2.2⟩
    · rintro (h1 | ⟨j, h1, h2, h3, h4⟩)
      · exact .inl h1
      · exact .inr ⟨j, List.mem_range.2 h1, by simp only [Bool.and_eq_true, Bool.not_eq_true', decide_eq_true_eq]; exact ⟨⟨h2, h3⟩, h4⟩⟩
  have hSr : S r = true := (hS r).2 (.inl rfl)
  have hcl : ∀ j, j < 8 → nbS (nearF xs) S 0 (r + 1) j → a.testBit j = true := by
    rintro j hj ⟨u, hu, g1, g2⟩
    rw [Nat.zero_add] at g1 g2
    rcases (hS u).1 g1 with rfl | ⟨i, hi, b1, b2, b3⟩
    · exact hr j hj g2
    · refine (ha i hi b1 b2).2 j hj ?_
      rw [b3, Int.toNat_natCast]; exact g2
  have h1 := mxR_le (near := nearF xs) (n := 8) (fun x => S x || T x) (r + 1) 0 (cT t)
  unfold Tight at hT
  -- how many more there are in the one than in the other
  have hc : cntS (fun x => S x || T x) 0 (r + 1) = cntS T 0 r + sumTo (fun x => if S x = true ∧ T x = false then 1 else 0) (r + 1) := by
    have : cntS T 0 (r + 1) = cntS T 0 r := by rw [cntS_snoc, if_neg (by simp [hTr])]; rfl
    rw [← this]
    unfold cntS
    rw [← sumTo_add]
    refine sumTo_congr (r + 1) fun x _ => ?_
    rw [Nat.zero_add]
    show (if (S x || T x) = true then 1 else 0) = _
    cases hs : S x <;> cases ht : T x <;> rfl
  have hroom : roomS (nearF xs) 8 (fun x => S x || T x) 0 (r + 1) (cT t) ≤ roomS (nearF xs) 8 T 0 r (cT t) + sumTo (fun j => if 0 ≤ h.getD j (-1) then (if S (h.getD j (-1)).toNat = true ∧ T (h.getD j (-1)).toNat = false ∧ (h.getD j (-1)).toNat ≠ r then 1 else 0) else 0) 8 := by
    unfold roomS
    rw [← sumTo_add]
    refine sumTo_le 8 fun j hj => ?_
    by_cases hn : nbS (nearF xs) (fun x => S x || T x) 0 (r + 1) j
    · rw [if_pos hn]
      by_cases hT' : nbS (nearF xs) T 0 r j
      · rw [if_pos hT']; omega
      · rw [if_neg hT']
        by_cases ht : t.testBit j = true
        · unfold cT; rw [if_pos ht]; omega
        · have ht' : t.testBit j = false := by simpa using ht
          have hSn : nbS (nearF xs) S 0 (r + 1) j := by
            obtain ⟨u, hu, g1, g2⟩ := hn
            rw [Nat.zero_add] at g1 g2
            simp only [Bool.or_eq_true] at g1
            rcases g1 with g1 | g1
            · exact ⟨u, hu, by rw [Nat.zero_add]; exact g1, by rw [Nat.zero_add]; exact g2⟩
            · exfalso
              have hur : u ≠ r := fun e => by rw [e, hTr] at g1; cases g1
              exact hT' ⟨u, by omega, by rw [Nat.zero_add]; exact g1, by rw [Nat.zero_add]; exact g2⟩
          have haj := hcl j hj hSn
          obtain ⟨h0, _⟩ := ha j hj haj ht'
          have hrg := H.rng _ (H.mem hj)
          have hSj : S (h.getD j (-1)).toNat = true := (hS _).2 (.inr ⟨j, hj, haj, ht', by omega⟩)
          have hTj : T (h.getD j (-1)).toNat = false := by
            cases e : T (h.getD j (-1)).toNat with
            | false => rfl
            | true => exact absurd ⟨(h.getD j (-1)).toNat, by omega, by rw [Nat.zero_add]; exact e, by rw [Nat.zero_add]; exact (H.near j hj h0).1⟩ hT'
          rw [if_pos h0, if_pos ⟨hSj, hTj, by omega⟩]
          unfold cT
          rw [if_neg ht]
          omega
    · rw [if_neg hn]; exact Nat.zero_le _
  have hcnt : sumTo (fun j => if 0 ≤ h.getD j (-1) then (if S (h.getD j (-1)).toNat = true ∧ T (h.getD j (-1)).toNat = false ∧ (h.getD j (-1)).toNat ≠ r then 1 else 0) else 0) 8 ≤ sumTo (fun x => if S x = true ∧ T x = false ∧ x ≠ r then 1 else 0) r := by
    have := sum_count (fun x => if S x = true ∧ T x = false ∧ x ≠ r then 1 else 0) h r H.rng
    rw [sum_getD _ h 8 H.len] at this
    rw [this]
    refine sumTo_le r fun x _ => ?_
    have := H.one x
    split
    · omega
    · simp
  have hlast : sumTo (fun x => if S x = true ∧ T x = false then 1 else 0) (r + 1) = sumTo (fun x => if S x = true ∧ T x = false ∧ x ≠ r then 1 else 0) r + 1 := by
    simp only [sumTo]
    rw [if_pos ⟨hSr, hTr⟩]
    congr 1
    refine sumTo_congr r fun x hx => ?_
    by_cases hc : S x = true ∧ T x = false
    · rw [if_pos hc, if_pos ⟨hc.1, hc.2, by omega⟩]
    · rw [if_neg hc, if_neg fun c => hc ⟨c.1, c.2.1⟩]
  omega
end Go.Proofs.YtblbjiogojldhaaDoor
