/- A pairing that is laid one by one: plain facts. -/
import Derived.Test.YtlndghclkcfedaaChoiceP
namespace Go.Proofs.Ytlndghclkcfedaa
open Go.RowKit

/-- A pairing of some of the left. -/
structure PreOK (n : Nat) (pre : List Int) : Prop where
  le : pre.length ≤ n
  rng : ∀ i, i < pre.length → pre.getD i (-1) = -1 ∨ (0 ≤ pre.getD i (-1) ∧ pre.getD i (-1) < (n : Int))
  one : ∀ i k, i < pre.length → k < pre.length → 0 ≤ pre.getD i (-1) → pre.getD i (-1) = pre.getD k (-1) → i = k
section
variable {n : Nat} {pre : List Int} {x : Int} {S : List Int → Bool}
theorem PreOK.nil (n : Nat) : PreOK n [] := ⟨Nat.zero_le _, fun i h => absurd h (by simp), fun i k h => absurd h (by simp)⟩
theorem pre_lt {i : Nat} (hi : i < pre.length) : (pre ++ [x]).getD i (-1) = pre.getD i (-1) := by
  rw [List.getD_eq_getElem?_getD, List.getElem?_append_left hi, ← List.getD_eq_getElem?_getD]
theorem pre_at : (pre ++ [x]).getD pre.length (-1) = x := by
  rw [List.getD_eq_getElem?_getD, List.getElem?_append_right (Nat.le_refl _), Nat.sub_self]; rfl
theorem pre_gt {i : Nat} (hi : pre.length ≤ i) : pre.getD i (-1) = -1 := by
  rw [List.getD_eq_getElem?_getD, List.getElem?_eq_none hi]; rfl
theorem pre_mem {i : Nat} (hi : i < pre.length) : pre.getD i (-1) ∈ pre := by
  rw [List.getD_eq_getElem?_getD, List.getElem?_eq_getElem hi]; exact List.getElem_mem _
theorem PreOK.next (H : PreOK n pre) (hl : pre.length < n) (hx : x = -1 ∨ (0 ≤ x ∧ x < (n : Int))) (hf : x = -1 ∨ x ∉ pre) : PreOK n (pre ++ [x]) := by
  have hlen : (pre ++ [x]).length = pre.length + 1 := by simp
  refine ⟨by omega, fun i hi => ?_, fun i k hi hk h0 he => ?_⟩
  · rcases Nat.lt_or_ge i pre.length with h | h
    · rw [pre_lt h]; exact H.rng i h
    · obtain rfl : i = pre.length := by omega
      rw [pre_at]; exact hx
  · rcases Nat.lt_or_ge i pre.length with h | h <;> rcases Nat.lt_or_ge k pre.length with h' | h'
    · rw [pre_lt h] at h0 he; rw [pre_lt h'] at he; exact H.one i k h h' h0 he
    · obtain rfl : k = pre.length := by omega
      rw [pre_lt h] at h0 he; rw [pre_at] at he
      rcases hf with hf | hf
      · omega
      · exact absurd (he ▸ pre_mem h) hf
    · obtain rfl : i = pre.length := by omega
      rw [pre_at] at h0 he; rw [pre_lt h'] at he
      rcases hf with hf | hf
      · omega
      · exact absurd (he ▸ pre_mem h') hf
    · omega
theorem PreOK.full (H : PreOK n pre) (hl : pre.length = n) : PairOK n pre := ⟨hl, fun i hi => H.rng i (by omega), fun i k hi hk => H.one i k (by omega) (by omega)⟩
theorem ahd_app (j : Int) : ahd (pre ++ [x]) j = if j ∈ pre then ahd pre j else if j = x then pre.length else pre.length + 1 := by
  induction pre with
  | nil =>
    show (if x = j then 0 else 0 + 1) = _
    by_cases h : j = x
    · subst h; simp
    · have : ¬ x = j := fun e => h e.symm
      simp [h, this]
  | cons y l ih =>
    by_cases hy : y = j
    · subst hy
      show (if y = y then 0 else ahd (l ++ [x]) y + 1) = if y ∈ y :: l then (if y = y then 0 else ahd l y + 1) else _
      simp
    · have hj : ¬ j = y := fun e => hy e.symm
      show (if y = j then 0 else ahd (l ++ [x]) j + 1) = _
      rw [if_neg hy, ih]
      by_cases hm : j ∈ l
      · rw [if_pos hm, if_pos (List.mem_cons_of_mem _ hm)]
        show _ = if y = j then 0 else ahd l j + 1
        rw [if_neg hy]
      · rw [if_neg hm, if_neg fun h => (List.mem_cons.1 h).elim hj hm]
        split <;> rfl
theorem ow_app (j : Int) : owP (pre ++ [x]) j = if j ∈ pre then (ahd pre j : Int) else if j = x then (pre.length : Int) else -1 := by
  unfold owP
  rw [ahd_app]
  by_cases hm : j ∈ pre
  · rw [if_pos (List.mem_append_left _ hm), if_pos hm, if_pos hm]
  · by_cases hx : j = x
    · rw [if_pos (by simp [hx]), if_neg hm, if_pos hx, if_neg hm, if_pos hx]
    · rw [if_neg (by simp [hm, hx]), if_neg hm, if_neg hx]
theorem join_f : updF (fun k => pre.getD k (-1)) pre.length x = fun k => (pre ++ [x]).getD k (-1) := by
  funext k
  show (if k = pre.length then x else pre.getD k (-1)) = (pre ++ [x]).getD k (-1)
  rcases Nat.lt_trichotomy k pre.length with h | h | h
  · rw [if_neg (by omega), pre_lt h]
  · subst h; rw [if_pos rfl, pre_at]
  · rw [if_neg (by omega), pre_gt (by omega), pre_gt (by simp; omega)]
theorem join_h (hf : x = -1 ∨ x ∉ pre) (j : Nat) : updJ (fun j => owP pre (j : Int)) x (pre.length : Int) j = owP (pre ++ [x]) (j : Int) := by
  rw [ow_app]
  show (if (j : Int) = x then (pre.length : Int) else owP pre (j : Int)) = _
  unfold owP
  by_cases hx : (j : Int) = x
  · rcases hf with hf | hf
    · omega
    · rw [if_pos hx, if_neg (by rw [hx]; exact hf), if_pos hx]
  · rw [if_neg hx]
    by_cases hm : (j : Int) ∈ pre
    · rw [if_pos hm, if_pos hm]
    · rw [if_neg hm, if_neg hm, if_neg hx]
theorem part_f (k : Nat) : updF (fun k => (pre ++ [x]).getD k (-1)) pre.length (-1) k = pre.getD k (-1) := by
  show (if k = pre.length then (-1 : Int) else (pre ++ [x]).getD k (-1)) = _
  rcases Nat.lt_trichotomy k pre.length with h | h | h
  · rw [if_neg (by omega), pre_lt h]
  · subst h; rw [if_pos rfl, pre_gt (Nat.le_refl _)]
  · rw [if_neg (by omega), pre_gt (pre := pre ++ [x]) (by simp; omega), pre_gt (pre := pre) (by omega)]
theorem part_h (hf : x = -1 ∨ x ∉ pre) (j : Nat) : updJ (fun j => owP (pre ++ [x]) (j : Int)) x (-1) j = owP pre (j : Int) := by
  show (if (j : Int) = x then (-1 : Int) else owP (pre ++ [x]) (j : Int)) = _
  rw [ow_app]
  unfold owP
  by_cases hx : (j : Int) = x
  · rcases hf with hf | hf
    · omega
    · rw [if_pos hx, if_neg (by rw [hx]; exact hf)]
  · rw [if_neg hx]
    by_cases hm : (j : Int) ∈ pre
    · rw [if_pos hm, if_pos hm]
    · rw [if_neg hm, if_neg hm, if_neg hx]
theorem free_iff (j : Nat) : owP pre (j : Int) = -1 ↔ (j : Int) ∉ pre := by
  unfold owP
  by_cases h : (j : Int) ∈ pre
  · rw [if_pos h]; exact ⟨fun e => by omega, fun e => absurd h e⟩
  · rw [if_neg h]; exact ⟨fun _ => h, fun _ => rfl⟩
theorem rngJ_len (n : Nat) : (rngJ n).length = n + 1 := by simp [rngJ]
theorem flat_len {α β : Type} (q : α → List β) (c : Nat) : ∀ xs : List α, (∀ x ∈ xs, (q x).length ≤ c) → (xs.flatMap q).length ≤ xs.length * c
  | [], _ => by simp
  | y :: xs, h => by
    have h1 := flat_len q c xs fun x hx => h x (List.mem_cons_of_mem _ hx)
    have h2 := h y (List.mem_cons_self ..)
    rw [List.flatMap_cons, List.length_append, List.length_cons, Nat.succ_mul]; omega
theorem allP_len (hn : n ≤ 8) : ∀ (r : Nat) (pre : List Int), (allP S n r pre).length ≤ 9 ^ r
  | 0, pre => by unfold allP; split <;> simp
  | r + 1, pre => by
    have h := flat_len (fun j => allP S n r (pre ++ [j])) (9 ^ r) (rngJ n) fun x _ => allP_len hn r _
    rw [rngJ_len] at h
    have : (n + 1) * 9 ^ r ≤ 9 * 9 ^ r := Nat.mul_le_mul_right _ (by omega)
    rw [Nat.pow_succ, Nat.mul_comm]
    show ((rngJ n).flatMap fun j => allP S n r (pre ++ [j])).length ≤ _
    omega
end
section
variable {n : Nat} {Ls Rs : List (List Int)} {l pre : List Int}
/-- The choices of one. -/
noncomputable def chS (Ls Rs : List (List Int)) (l : List Int) (n i : Nat) : List Int := chF (dgF Ls) (dgF Rs) (fun i => l.getD i (-1)) (fun j => owP l (j : Int)) n i
theorem all_taken {r : Nat} {x : Int} (h0 : 0 ≤ x) (hx : x ∈ pre) : allP (holdB n (sd Ls) (sd Rs)) n r (pre ++ [x]) = [] :=
  allP_none fun y hy => by
    cases hh : holdB n (sd Ls) (sd Rs) y with
    | false => rfl
    | true => exact absurd hx (hold_taken (holdB_iff.1 hh) hy h0).1
theorem all_unlike (hn : n ≤ 8) (W : WishOK n (sd Ls) (sd Rs)) (HB : BestL n (sd Ls) (sd Rs) l) {r : Nat} {x : Int} (hl : pre.length < n) (hx : x ∉ chS Ls Rs l n pre.length) : allP (holdB n (sd Ls) (sd Rs)) n r (pre ++ [x]) = [] :=
  allP_none fun y hy => by
    cases hh : holdB n (sd Ls) (sd Rs) y with
    | false => rfl
    | true =>
      have H := holdB_iff.1 hh
      obtain ⟨t, ht⟩ := hy
      have h1 : y.getD pre.length (-1) = x := by
        rw [← ht, List.getD_eq_getElem?_getD, List.getElem?_append_left (by simp), ← List.getD_eq_getElem?_getD, pre_at]
      have := choice_ok hn W HB H hl
      rw [h1] at this
      exact absurd this hx
theorem flat_ch (hn : n ≤ 8) (W : WishOK n (sd Ls) (sd Rs)) (HB : BestL n (sd Ls) (sd Rs) l) (r : Nat) (hl : pre.length < n) :
    allP (holdB n (sd Ls) (sd Rs)) n (r + 1) pre = (chS Ls Rs l n pre.length).flatMap fun x => allP (holdB n (sd Ls) (sd Rs)) n r (pre ++ [x]) := by
  show (rngJ n).flatMap _ = _
  rw [rngJ_cons, List.flatMap_cons]
  by_cases h0 : l.getD pre.length (-1) = -1
  · have e : chS Ls Rs l n pre.length = [-1] := by unfold chS chF; rw [if_pos h0]
    have hz : (((List.range n).map fun j : Nat => (j : Int)).flatMap fun x => allP (holdB n (sd Ls) (sd Rs)) n r (pre ++ [x])) = [] := by
      rw [List.flatMap_eq_nil_iff]
      intro x hx
      obtain ⟨j, _, rfl⟩ := List.mem_map.1 hx
      exact all_unlike hn W HB hl (by rw [e]; simp)
    rw [hz, e]; simp
  · have e : chS Ls Rs l n pre.length = chTo (dgF Ls) (dgF Rs) (fun i => l.getD i (-1)) (fun j => owP l (j : Int)) pre.length n := by unfold chS chF; rw [if_neg h0]
    have h1 : allP (holdB n (sd Ls) (sd Rs)) n r (pre ++ [-1]) = [] := all_unlike hn W HB hl (by
      rw [e]
      intro hm
      obtain ⟨j, _, h, _⟩ := (mem_chTo n).1 hm
      omega)
    rw [h1, List.nil_append, e]
    refine flat_chTo _ n fun j hj hc => all_unlike hn W HB hl ?_
    rw [e]
    intro hm
    obtain ⟨j', _, h, h'⟩ := (mem_chTo n).1 hm
    obtain rfl : j' = j := by omega
    rw [hc] at h'; cases h'
end
end Go.Proofs.Ytlndghclkcfedaa
