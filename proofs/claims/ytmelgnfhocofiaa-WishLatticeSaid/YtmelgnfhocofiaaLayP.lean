/- Whom each on the left may have: plain facts. A pairing that is laid one by one: plain facts. -/
import Derived.Test.YtmelgnfhocofiaaHoldsP
import Derived.Test.YtmelgnfhocofiaaWishAllP
namespace Go.Proofs.Ytmelgnfhocofiaa
open Go.RowKit

/-- Whether one may have another, beside the best pairing (f, h: whom both sides have). -/
def condB (F G f h : Nat → Int) (i j : Nat) : Bool := (h j != -1) && (mutF F G i j && (decide (F (i * 8 + j) ≤ F (i * 8 + (f i).toNat)) && decide (G (j * 8 + i) ≥ G (j * 8 + (h j).toNat))))
/-- Of the first k on the right. -/
def chTo (F G f h : Nat → Int) (i : Nat) : Nat → List Int
  | 0 => []
  | k + 1 => if condB F G f h i k = true then chTo F G f h i k ++ [(k : Int)] else chTo F G f h i k
def chF (F G f h : Nat → Int) (n i : Nat) : List Int := if f i = -1 then [-1] else chTo F G f h i n
section
variable {F G f h : Nat → Int} {n i : Nat}
theorem chTo_len : ∀ k, (chTo F G f h i k).length ≤ k
  | 0 => Nat.le_refl _
  | k + 1 => by
    have hk := chTo_len k
    rw [show chTo F G f h i (k + 1) = if condB F G f h i k = true then chTo F G f h i k ++ [(k : Int)] else chTo F G f h i k from rfl]
    split
    · simp; omega
    · omega
theorem chF_len (hn : n ≤ 8) : (chF F G f h n i).length ≤ 8 := by
  unfold chF
  split
  · simp
  · exact Nat.le_trans (chTo_len n) hn
theorem mem_chTo {x : Int} : ∀ k, x ∈ chTo F G f h i k ↔ ∃ j : Nat, j < k ∧ x = (j : Int) ∧ condB F G f h i j = true
  | 0 => by simp [chTo]
  | k + 1 => by
    rw [show chTo F G f h i (k + 1) = if condB F G f h i k = true then chTo F G f h i k ++ [(k : Int)] else chTo F G f h i k from rfl]
    split
    · rename_i hc
      rw [List.mem_append, mem_chTo k]
      constructor
      · rintro (⟨j, h1, h2, h3⟩ | h)
        · exact ⟨j, by omega, h2, h3⟩
        · exact ⟨k, by omega, by simpa using h, hc⟩
      · rintro ⟨j, h1, h2, h3⟩
        rcases Nat.lt_or_ge j k with h4 | h4
        · exact .inl ⟨j, h4, h2, h3⟩
        · obtain rfl : j = k := by omega
          exact .inr (by simp [h2])
    · rename_i hc
      rw [mem_chTo k]
      constructor
      · rintro ⟨j, h1, h2, h3⟩; exact ⟨j, by omega, h2, h3⟩
      · rintro ⟨j, h1, h2, h3⟩
        rcases Nat.lt_or_ge j k with h4 | h4
        · exact ⟨j, h4, h2, h3⟩
        · obtain rfl : j = k := by omega
          exact absurd h3 hc
theorem chF_rng {x : Int} (hx : x ∈ chF F G f h n i) : -1 ≤ x ∧ x < (n : Int) ∨ x = -1 := by
  unfold chF at hx
  split at hx
  · exact .inr (by simpa using hx)
  · obtain ⟨j, h1, rfl, _⟩ := (mem_chTo n).1 hx
    exact .inl ⟨by omega, by omega⟩
/-- What may be is among what is tried, in its order. -/
theorem flat_chTo {α : Type} (q : Int → List α) : ∀ k, (∀ j : Nat, j < k → condB F G f h i j = false → q (j : Int) = []) → (((List.range k).map fun j : Nat => (j : Int)).flatMap q) = (chTo F G f h i k).flatMap q
  | 0, _ => rfl
  | k + 1, hq => by
    rw [List.range_succ, List.map_append, List.flatMap_append, flat_chTo q k (fun j hj => hq j (by omega)), show chTo F G f h i (k + 1) = if condB F G f h i k = true then chTo F G f h i k ++ [(k : Int)] else chTo F G f h i k from rfl]
    split
    · rw [List.flatMap_append]; rfl
    · rename_i hc
      have := hq k (Nat.lt_succ_self _) (by simpa using hc)
      simp [this]
theorem rngJ_cons (n : Nat) : rngJ n = (-1) :: (List.range n).map fun j : Nat => (j : Int) := by
  unfold rngJ
  rw [List.range_succ_eq_map, List.map_cons, List.map_map]
  congr 1
  apply List.map_congr_left
  intro j _
  simp
end
section
variable {n : Nat} {Ls Rs : List (List Int)} {l : List Int}
/-- ROTH, KNUTH: whoever one has in a pairing that holds is among them. -/
theorem choice_ok (hn : n ≤ 8) (W : WishOK n (sd Ls) (sd Rs)) (HB : BestL n (sd Ls) (sd Rs) l) {m : List Int} (HM : HoldP n (sd Ls) (sd Rs) m) {i : Nat} (hi : i < n) :
    m.getD i (-1) ∈ chF (dgF Ls) (dgF Rs) (fun i => l.getD i (-1)) (fun j => owP l (j : Int)) n i := by
  have hl : ∀ i, i < n → (sd Ls i).length ≤ 8 := fun i hi => Nat.le_trans (len_le (W.left i hi).1 (W.left i hi).2) hn
  have hr : ∀ i, i < n → (sd Rs i).length ≤ 8 := fun i hi => Nat.le_trans (len_le (W.right i hi).1 (W.right i hi).2) hn
  obtain ⟨r1, r2⟩ := rural_best W HB HM
  have h1 := r1 i hi
  unfold chF
  rcases HM.pair.rng i hi with hm | ⟨hm0, hm1⟩
  · have hli : l.getD i (-1) = -1 := by
      rcases HB.1.pair.rng i hi with h | ⟨h, _⟩
      · exact h
      · unfold hasL at h1; rw [hm, decide_eq_true h] at h1; simp at h1
    rw [if_pos hli, hm]; simp
  · have hli : 0 ≤ l.getD i (-1) := by
      unfold hasL at h1
      rw [decide_eq_true hm0] at h1
      exact of_decide_eq_true h1.symm
    have hlr := (HB.1.pair.rng i hi).resolve_left (by omega)
    rw [if_neg (show ¬ (l.getD i (-1) = -1) by omega)]
    obtain ⟨j, hj⟩ := Int.eq_ofNat_of_zero_le hm0
    obtain ⟨k, hk⟩ := Int.eq_ofNat_of_zero_le hli
    have hjn : j < n := by omega
    have hkn : k < n := by omega
    refine (mem_chTo n).2 ⟨j, hjn, hj, ?_⟩
    have hmay := HM.may i hi hm0
    rw [hj, Int.toNat_natCast] at hmay
    have hmo := ow_at HM.pair hi hj
    have h2 := r2 j hjn
    unfold hasR at h2
    rw [hmo] at h2
    have h3 : 0 ≤ owP l (j : Int) := by
      have : decide (0 ≤ owP l (j : Int)) = true := by rw [h2]; simp
      exact of_decide_eq_true this
    have how := (ow_rng HB.1.pair.len (j : Int)).resolve_left (by omega)
    obtain ⟨o, ho⟩ := Int.eq_ofNat_of_zero_le h3
    have hon : o < n := by omega
    have hw := worst_right W HB HM hjn
    rw [hmo, ho] at hw
    have hb := HB.2 m HM i hi
    rw [hj, hk] at hb
    unfold condB
    show ((owP l (j : Int) != -1) && (mutF (dgF Ls) (dgF Rs) i j && (decide (dgF Ls (i * 8 + j) ≤ dgF Ls (i * 8 + (l.getD i (-1)).toNat)) && decide (dgF Rs (j * 8 + i) ≥ dgF Rs (j * 8 + (owP l (j : Int)).toNat))))) = true
    rw [ho, hk, Int.toNat_natCast, Int.toNat_natCast, Bool.and_eq_true, Bool.and_eq_true, Bool.and_eq_true, decide_eq_true_iff, decide_eq_true_iff, dgF_at i (by omega), dgF_at i (by omega), dgF_at j (by omega), dgF_at j (by omega)]
    refine ⟨by simp, (mut_iff (by omega) (by omega) (hl i hi) (hr j hjn)).2 hmay, ?_, ?_⟩
    · have h5 : ¬ dg (sd Ls i) k < dg (sd Ls i) j := fun q => by have := (dg_lt (hl i hi)).1 q; omega
      omega
    · have h5 : ¬ dg (sd Rs j) i < dg (sd Rs j) o := fun q => by have := (dg_lt (hr j hjn)).1 q; omega
      omega
end
end Go.Proofs.Ytmelgnfhocofiaa
namespace Go.Proofs.Ytmelgnfhocofiaa
open Go.RowKit

/-- A pairing of some of the left. -/
structure PreOK (n : Nat) (pre : List Int) : Prop where
  le : pre.length ≤ n
  rng : ∀ i, i < pre.length → pre.getD i (-1) = -1 ∨ (0 ≤ pre.getD i (-1) ∧ pre.getD i (-1) < (n : Int))
  one : ∀ i k, i < pre.length → k < pre.length → 0 ≤ pre.getD i (-1) → pre.getD i (-1) = pre.getD k (-1) → i = k
section
variable {n : Nat} {pre : List Int} {x : Int} {S : List Int → Bool}
theorem PreOK.nil (n : Nat) : PreOK n [] := ⟨Nat.zero_le _, fun i h => absurd h (by simp), fun i k h => absurd h (by simp)⟩
theorem pre_lt {i : Nat} (hi : i < pre.length) : (pre ++ [x]).getD i (-1) = pre.getD i (-1) := by
  rw [List.getD_eq_getElem?_getD, List.getElem?_append_left hi, ← List.getD_eq_getElem?_getD]
theorem pre_at : (pre ++ [x]).getD pre.length (-1) = x := by
  rw [List.getD_eq_getElem?_getD, List.getElem?_append_right (Nat.le_refl _), Nat.sub_self]; rfl
theorem pre_gt {i : Nat} (hi : pre.length ≤ i) : pre.getD i (-1) = -1 := by
  rw [List.getD_eq_getElem?_getD, List.getElem?_eq_none hi]; rfl
theorem pre_mem {i : Nat} (hi : i < pre.length) : pre.getD i (-1) ∈ pre := by
  rw [List.getD_eq_getElem?_getD, List.getElem?_eq_getElem hi]; exact List.getElem_mem _
theorem PreOK.next (H : PreOK n pre) (hl : pre.length < n) (hx : x = -1 ∨ (0 ≤ x ∧ x < (n : Int))) (hf : x = -1 ∨ x ∉ pre) : PreOK n (pre ++ [x]) := by
  have hlen : (pre ++ [x]).length = pre.length + 1 := by simp
  refine ⟨by omega, fun i hi => ?_, fun i k hi hk h0 he => ?_⟩
  · rcases Nat.lt_or_ge i pre.length with h | h
    · rw [pre_lt h]; exact H.rng i h
    · obtain rfl : i = pre.length := by omega
      rw [pre_at]; exact hx
  · rcases Nat.lt_or_ge i pre.length with h | h <;> rcases Nat.lt_or_ge k pre.length with h' | h'
    · rw [pre_lt h] at h0 he; rw [pre_lt h'] at he; exact H.one i k h h' h0 he
    · obtain rfl : k = pre.length := by omega
      rw [pre_lt h] at h0 he; rw [pre_at] at he
      rcases hf with hf | hf
      · omega
      · exact absurd (he ▸ pre_mem h) hf
    · obtain rfl : i = pre.length := by omega
      rw [pre_at] at h0 he; rw [pre_lt h'] at he
      rcases hf with hf | hf
      · omega
      · exact absurd (he ▸ pre_mem h') hf
    · omega
theorem PreOK.full (H : PreOK n pre) (hl : pre.length = n) : PairOK n pre := ⟨hl, fun i hi => H.rng i (by omega), fun i k hi hk => H.one i k (by omega) (by omega)⟩
theorem ahd_app (j : Int) : ahd (pre ++ [x]) j = if j ∈ pre then ahd pre j else if j = x then pre.length else pre.length + 1 := by
  induction pre with
  | nil =>
    show (if x = j then 0 else 0 + 1) = _
    by_cases h : j = x
    · subst h; simp
    · have : ¬ x = j := fun e => h e.symm
      simp [h, this]
  | cons y l ih =>
    by_cases hy : y = j
    · subst hy
      show (if y = y then 0 else ahd (l ++ [x]) y + 1) = if y ∈ y :: l then (if y = y then 0 else ahd l y + 1) else _
      simp
    · have hj : ¬ j = y := fun e => hy e.symm
      show (if y = j then 0 else ahd (l ++ [x]) j + 1) = _
      rw [if_neg hy, ih]
      by_cases hm : j ∈ l
      · rw [if_pos hm, if_pos (List.mem_cons_of_mem _ hm)]
        show _ = if y = j then 0 else ahd l j + 1
        rw [if_neg hy]
      · rw [if_neg hm, if_neg fun h => (List.mem_cons.1 h).elim hj hm]
        split <;> rfl
theorem ow_app (j : Int) : owP (pre ++ [x]) j = if j ∈ pre then (ahd pre j : Int) else if j = x then (pre.length : Int) else -1 := by
  unfold owP
  rw [ahd_app]
  by_cases hm : j ∈ pre
  · rw [if_pos (List.mem_append_left _ hm), if_pos hm, if_pos hm]
  · by_cases hx : j = x
    · rw [if_pos (by simp [hx]), if_neg hm, if_pos hx, if_neg hm, if_pos hx]
    · rw [if_neg (by simp [hm, hx]), if_neg hm, if_neg hx]
theorem join_f : updF (fun k => pre.getD k (-1)) pre.length x = fun k => (pre ++ [x]).getD k (-1) := by
  funext k
  show (if k = pre.length then x else pre.getD k (-1)) = (pre ++ [x]).getD k (-1)
  rcases Nat.lt_trichotomy k pre.length with h | h | h
  · rw [if_neg (by omega), pre_lt h]
  · subst h; rw [if_pos rfl, pre_at]
  · rw [if_neg (by omega), pre_gt (by omega), pre_gt (by simp; omega)]
theorem join_h (hf : x = -1 ∨ x ∉ pre) (j : Nat) : updJ (fun j => owP pre (j : Int)) x (pre.length : Int) j = owP (pre ++ [x]) (j : Int) := by
  rw [ow_app]
  show (if (j : Int) = x then (pre.length : Int) else owP pre (j : Int)) = _
  unfold owP
  by_cases hx : (j : Int) = x
  · rcases hf with hf | hf
    · omega
    · rw [if_pos hx, if_neg (by rw [hx]; exact hf), if_pos hx]
  · rw [if_neg hx]
    by_cases hm : (j : Int) ∈ pre
    · rw [if_pos hm, if_pos hm]
    · rw [if_neg hm, if_neg hm, if_neg hx]
theorem part_f (k : Nat) : updF (fun k => (pre ++ [x]).getD k (-1)) pre.length (-1) k = pre.getD k (-1) := by
  show (if k = pre.length then (-1 : Int) else (pre ++ [x]).getD k (-1)) = _
  rcases Nat.lt_trichotomy k pre.length with h | h | h
  · rw [if_neg (by omega), pre_lt h]
  · subst h; rw [if_pos rfl, pre_gt (Nat.le_refl _)]
  · rw [if_neg (by omega), pre_gt (pre := pre ++ [x]) (by simp; omega), pre_gt (pre := pre) (by omega)]
theorem part_h (hf : x = -1 ∨ x ∉ pre) (j : Nat) : updJ (fun j => owP (pre ++ [x]) (j : Int)) x (-1) j = owP pre (j : Int) := by
  show (if (j : Int) = x then (-1 : Int) else owP (pre ++ [x]) (j : Int)) = _
  rw [ow_app]
  unfold owP
  by_cases hx : (j : Int) = x
  · rcases hf with hf | hf
    · omega
    · rw [if_pos hx, if_neg (by rw [hx]; exact hf)]
  · rw [if_neg hx]
    by_cases hm : (j : Int) ∈ pre
    · rw [if_pos hm, if_pos hm]
    · rw [if_neg hm, if_neg hm, if_neg hx]
theorem free_iff (j : Nat) : owP pre (j : Int) = -1 ↔ (j : Int) ∉ pre := by
  unfold owP
  by_cases h : (j : Int) ∈ pre
  · rw [if_pos h]; exact ⟨fun e => by omega, fun e => absurd h e⟩
  · rw [if_neg h]; exact ⟨fun _ => h, fun _ => rfl⟩
theorem rngJ_len (n : Nat) : (rngJ n).length = n + 1 := by simp [rngJ]
theorem flat_len {α β : Type} (q : α → List β) (c : Nat) : ∀ xs : List α, (∀ x ∈ xs, (q x).length ≤ c) → (xs.flatMap q).length ≤ xs.length * c
  | [], _ => by simp
  | y :: xs, h => by
    have h1 := flat_len q c xs fun x hx => h x (List.mem_cons_of_mem _ hx)
    have h2 := h y (List.mem_cons_self ..)
    rw [List.flatMap_cons, List.length_append, List.length_cons, Nat.succ_mul]; omega
theorem allP_len (hn : n ≤ 8) : ∀ (r : Nat) (pre : List Int), (allP S n r pre).length ≤ 9 ^ r
  | 0, pre => by unfold allP; split <;> simp
  | r + 1, pre => by
    have h := flat_len (fun j => allP S n r (pre ++ [j])) (9 ^ r) (rngJ n) fun x _ => allP_len hn r _
    rw [rngJ_len] at h
    have : (n + 1) * 9 ^ r ≤ 9 * 9 ^ r := Nat.mul_le_mul_right _ (by omega)
    rw [Nat.pow_succ, Nat.mul_comm]
    show ((rngJ n).flatMap fun j => allP S n r (pre ++ [j])).length ≤ _
    omega
end
section
variable {n : Nat} {Ls Rs : List (List Int)} {l pre : List Int}
/-- The choices of one. -/
noncomputable def chS (Ls Rs : List (List Int)) (l : List Int) (n i : Nat) : List Int := chF (dgF Ls) (dgF Rs) (fun i => l.getD i (-1)) (fun j => owP l (j : Int)) n i
theorem all_taken {r : Nat} {x : Int} (h0 : 0 ≤ x) (hx : x ∈ pre) : allP (holdB n (sd Ls) (sd Rs)) n r (pre ++ [x]) = [] :=
  allP_none fun y hy => by
    cases hh : holdB n (sd Ls) (sd Rs) y with
    | false => rfl
    | true => exact absurd hx (hold_taken (holdB_iff.1 hh) hy h0).1
theorem all_unlike (hn : n ≤ 8) (W : WishOK n (sd Ls) (sd Rs)) (HB : BestL n (sd Ls) (sd Rs) l) {r : Nat} {x : Int} (hl : pre.length < n) (hx : x ∉ chS Ls Rs l n pre.length) : allP (holdB n (sd Ls) (sd Rs)) n r (pre ++ [x]) = [] :=
  allP_none fun y hy => by
    cases hh : holdB n (sd Ls) (sd Rs) y with
    | false => rfl
    | true =>
      have H := holdB_iff.1 hh
      obtain ⟨t, ht⟩ := hy
      have h1 : y.getD pre.length (-1) = x := by
        rw [← ht, List.getD_eq_getElem?_getD, List.getElem?_append_left (by simp), ← List.getD_eq_getElem?_getD, pre_at]
      have := choice_ok hn W HB H hl
      rw [h1] at this
      exact absurd this hx
theorem flat_ch (hn : n ≤ 8) (W : WishOK n (sd Ls) (sd Rs)) (HB : BestL n (sd Ls) (sd Rs) l) (r : Nat) (hl : pre.length < n) :
    allP (holdB n (sd Ls) (sd Rs)) n (r + 1) pre = (chS Ls Rs l n pre.length).flatMap fun x => allP (holdB n (sd Ls) (sd Rs)) n r (pre ++ [x]) := by
  show (rngJ n).flatMap _ = _
  rw [rngJ_cons, List.flatMap_cons]
  by_cases h0 : l.getD pre.length (-1) = -1
  · have e : chS Ls Rs l n pre.length = [-1] := by unfold chS chF; rw [if_pos h0]
    have hz : (((List.range n).map fun j : Nat => (j : Int)).flatMap fun x => allP (holdB n (sd Ls) (sd Rs)) n r (pre ++ [x])) = [] := by
      rw [List.flatMap_eq_nil_iff]
      intro x hx
      obtain ⟨j, _, rfl⟩ := List.mem_map.1 hx
      exact all_unlike hn W HB hl (by rw [e]; simp)
    rw [hz, e]; simp
  · have e : chS Ls Rs l n pre.length = chTo (dgF Ls) (dgF Rs) (fun i => l.getD i (-1)) (fun j => owP l (j : Int)) pre.length n := by unfold chS chF; rw [if_neg h0]
    have h1 : allP (holdB n (sd Ls) (sd Rs)) n r (pre ++ [-1]) = [] := all_unlike hn W HB hl (by
      rw [e]
      intro hm
      obtain ⟨j, _, h, _⟩ := (mem_chTo n).1 hm
      omega)
    rw [h1, List.nil_append, e]
    refine flat_chTo _ n fun j hj hc => all_unlike hn W HB hl ?_
    rw [e]
    intro hm
    obtain ⟨j', _, h, h'⟩ := (mem_chTo n).1 hm
    obtain rfl : j' = j := by omega
    rw [hc] at h'; cases h'
end
end Go.Proofs.Ytmelgnfhocofiaa
