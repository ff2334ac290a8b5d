/- Whom each on the left may have: plain facts. -/
import Derived.Test.YtlndghclkcfedaaHoldsP
import Derived.Test.YtlndghclkcfedaaWishAllP
namespace Go.Proofs.Ytlndghclkcfedaa
open Go.RowKit

/-- Whether one may have another, beside the best pairing (f, h: whom both sides have). -/
def condB (F G f h : Nat → Int) (i j : Nat) : Bool := (h j != -1) && (mutF F G i j && (decide (F (i * 8 + j) ≤ F (i * 8 + (f i).toNat)) && decide (G (j * 8 + i) ≥ G (j * 8 + (h j).toNat))))
/-- Of the first k on the right. -/
def chTo (F G f h : Nat → Int) (i : Nat) : Nat → List Int
  | 0 => []
  | k + 1 => if condB F G f h i k = true then chTo F G f h i k ++ [(k : Int)] else chTo F G f h i k
def chF (F G f h : Nat → Int) (n i : Nat) : List Int := if f i = -1 then [-1] else chTo F G f h i n
section
variable {F G f h : Nat → Int} {n i : Nat}
theorem chTo_len : ∀ k, (chTo F G f h i k).length ≤ k
  | 0 => Nat.le_refl _
  | k + 1 => by
    have hk := chTo_len k
    rw [show chTo F G f h i (k + 1) = if condB F G f h i k = true then chTo F G f h i k ++ [(k : Int)] else chTo F G f h i k from rfl]
    split
    · simp; omega
    · omega
theorem chF_len (hn : n ≤ 8) : (chF F G f h n i).length ≤ 8 := by
  unfold chF
  split
  · simp
  · exact Nat.le_trans (chTo_len n) hn
theorem mem_chTo {x : Int} : ∀ k, x ∈ chTo F G f h i k ↔ ∃ j : Nat, j < k ∧ x = (j : Int) ∧ condB F G f h i j = true
  | 0 => by simp [chTo]
  | k + 1 => by
    rw [show chTo F G f h i (k + 1) = if condB F G f h i k = true then chTo F G f h i k ++ [(k : Int)] else chTo F G f h i k from rfl]
    split
    · rename_i hc
      rw [List.mem_append, mem_chTo k]
      constructor
      · rintro (⟨j, h1, h2, h3⟩ | h)
        · exact ⟨j, by omega, h2, h3⟩
        · exact ⟨k, by omega, by simpa using h, hc⟩
      · rintro ⟨j, h1, h2, h3⟩
        rcases Nat.lt_or_ge j k with h4 | h4
        · exact .inl ⟨j, h4, h2, h3⟩
        · obtain rfl : j = k := by omega
          exact .inr (by simp [h2])
    · rename_i hc
      rw [mem_chTo k]
      constructor
      · rintro ⟨j, h1, h2, h3⟩; exact ⟨j, by omega, h2, h3⟩
      · rintro ⟨j, h1, h2, h3⟩
        rcases Nat.lt_or_ge j k with h4 | h4
        · exact ⟨j, h4, h2, h3⟩
        · obtain rfl : j = k := by omega
          exact absurd h3 hc
theorem chF_rng {x : Int} (hx : x ∈ chF F G f h n i) : -1 ≤ x ∧ x < (n : Int) ∨ x = -1 := by
  unfold chF at hx
  split at hx
  · exact .inr (by simpa using hx)
  · obtain ⟨j, h1, rfl, _⟩ := (mem_chTo n).1 hx
    exact .inl ⟨by omega, by omega⟩
/-- What may be is among what is tried, in its order. -/
theorem flat_chTo {α : Type} (q : Int → List α) : ∀ k, (∀ j : Nat, j < k → condB F G f h i j = false → q (j : Int) = []) → (((List.range k).map fun j : Nat => (j : Int)).flatMap q) = (chTo F G f h i k).flatMap q
  | 0, _ => rfl
  | k + 1, hq => by
    rw [List.range_succ, List.map_append, List.flatMap_append, flat_chTo q k (fun j hj => hq j (by omega)), show chTo F G f h i (k + 1) = if condB F G f h i k = true then chTo F G f h i k ++ [(k : Int)] else chTo F G f h i k from rfl]
    split
    · rw [List.flatMap_append]; rfl
    · rename_i hc
      have := hq k (Nat.lt_succ_self _) (by simpa using hc)
      simp [this]
theorem rngJ_cons (n : Nat) : rngJ n = (-1) :: (List.range n).map fun j : Nat => (j : Int) := by
  unfold rngJ
  rw [List.range_succ_eq_map, List.map_cons, List.map_map]
  congr 1
  apply List.map_congr_left
  intro j _
  simp
end
section
variable {n : Nat} {Ls Rs : List (List Int)} {l : List Int}
/-- ROTH, KNUTH: whoever one has in a pairing that holds is among them. -/
theorem choice_ok (hn : n ≤ 8) (W : WishOK n (sd Ls) (sd Rs)) (HB : BestL n (sd Ls) (sd Rs) l) {m : List Int} (HM : HoldP n (sd Ls) (sd Rs) m) {i : Nat} (hi : i < n) :
    m.getD i (-1) ∈ chF (dgF Ls) (dgF Rs) (fun i => l.getD i (-1)) (fun j => owP l (j : Int)) n i := by
  have hl : ∀ i, i < n → (sd Ls i).length ≤ 8 := fun i hi => Nat.le_trans (len_le (W.left i hi).1 (W.left i hi).2) hn
  have hr : ∀ i, i < n → (sd Rs i).length ≤ 8 := fun i hi => Nat.le_trans (len_le (W.right i hi).1 (W.right i hi).2) hn
  obtain ⟨r1, r2⟩ := rural_best W HB HM
  have h1 := r1 i hi
  unfold chF
  rcases HM.pair.rng i hi with hm | ⟨hm0, hm1⟩
  · have hli : l.getD i (-1) = -1 := by
      rcases HB.1.pair.rng i hi with h | ⟨h, _⟩
      · exact h
      · unfold hasL at h1; rw [hm, decide_eq_true h] at h1; simp at h1
    rw [if_pos hli, hm]; simp
  · have hli : 0 ≤ l.getD i (-1) := by
      unfold hasL at h1
      rw [decide_eq_true hm0] at h1
      exact of_decide_eq_true h1.symm
    have hlr := (HB.1.pair.rng i hi).resolve_left (by omega)
    rw [if_neg (show ¬ (l.getD i (-1) = -1) by omega)]
    obtain ⟨j, hj⟩ := Int.eq_ofNat_of_zero_le hm0
    obtain ⟨k, hk⟩ := Int.eq_ofNat_of_zero_le hli
    have hjn : j < n := by omega
    have hkn : k < n := by omega
    refine (mem_chTo n).2 ⟨j, hjn, hj, ?_⟩
    have hmay := HM.may i hi hm0
    rw [hj, Int.toNat_natCast] at hmay
    have hmo := ow_at HM.pair hi hj
    have h2 := r2 j hjn
    unfold hasR at h2
    rw [hmo] at h2
    have h3 : 0 ≤ owP l (j : Int) := by
      have : decide (0 ≤ owP l (j : Int)) = true := by rw [h2]; simp
      exact of_decide_eq_true this
    have how := (ow_rng HB.1.pair.len (j : Int)).resolve_left (by omega)
    obtain ⟨o, ho⟩ := Int.eq_ofNat_of_zero_le h3
    have hon : o < n := by omega
    have hw := worst_right W HB HM hjn
    rw [hmo, ho] at hw
    have hb := HB.2 m HM i hi
    rw [hj, hk] at hb
    unfold condB
    show ((owP l (j : Int) != -1) && (mutF (dgF Ls) (dgF Rs) i j && (decide (dgF Ls (i * 8 + j) ≤ dgF Ls (i * 8 + (l.getD i (-1)).toNat)) && decide (dgF Rs (j * 8 + i) ≥ dgF Rs (j * 8 + (owP l (j : Int)).toNat))))) = true
    rw [ho, hk, Int.toNat_natCast, Int.toNat_natCast, Bool.and_eq_true, Bool.and_eq_true, Bool.and_eq_true, decide_eq_true_iff, decide_eq_true_iff, dgF_at i (by omega), dgF_at i (by omega), dgF_at j (by omega), dgF_at j (by omega)]
    refine ⟨by simp, (mut_iff (by omega) (by omega) (hl i hi) (hr j hjn)).2 hmay, ?_, ?_⟩
    · have h5 : ¬ dg (sd Ls i) k < dg (sd Ls i) j := fun q => by have := (dg_lt (hl i hi)).1 q; omega
      omega
    · have h5 : ¬ dg (sd Rs j) i < dg (sd Rs j) o := fun q => by have := (dg_lt (hr j hjn)).1 q; omega
      omega
end
end Go.Proofs.Ytlndghclkcfedaa
