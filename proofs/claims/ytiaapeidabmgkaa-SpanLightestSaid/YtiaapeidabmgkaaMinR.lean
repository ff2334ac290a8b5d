/- The least node that each is linked with; how many of them are unlike. Plain facts. -/
import Derived.Test.YtiaapeidabmgkaaSpanPlain
namespace Go.Proofs.Ytiaapeidabmgkaa

noncomputable def minR (F : List E3) (a : Nat) : Nat := (least_root F a).choose
section
variable {F G : List E3} {a b : Nat}
theorem minR_le : minR F a ≤ a := (least_root F a).choose_spec.1
theorem minR_rch : Rch F a (minR F a) := (least_root F a).choose_spec.2.1
theorem minR_root : Root F (minR F a) := (least_root F a).choose_spec.2.2
theorem minR_least (h : Rch F a b) : minR F a ≤ b := by
  rcases Nat.lt_or_ge b (minR F a) with h1 | h1
  · exact absurd (minR_rch.symm.trans h) (minR_root b h1)
  · exact h1
theorem minR_eq : minR F a = minR F b ↔ Rch F a b := by
  constructor
  · intro h
    have h1 : Rch F a (minR F a) := minR_rch
    rw [h] at h1
    exact h1.trans minR_rch.symm
  · intro h
    exact Nat.le_antisymm (minR_least (h.trans minR_rch)) (minR_least (h.symm.trans minR_rch))
theorem root_minR : Root F a ↔ minR F a = a := by
  constructor
  · intro h
    rcases Nat.lt_or_ge (minR F a) a with h1 | h1
    · exact absurd minR_rch (h _ h1)
    · exact Nat.le_antisymm minR_le h1
  · intro h
    have h1 : Root F (minR F a) := minR_root
    rwa [h] at h1
theorem minR_congr (h : ∀ i j, Rch F i j ↔ Rch G i j) : minR F a = minR G a :=
  Nat.le_antisymm (minR_least ((h _ _).2 minR_rch)) (minR_least ((h _ _).1 minR_rch))
end
/-- What the reference's Parts tells. -/
noncomputable def partsR (m : Nat) (F : List E3) : List Int := (List.range m).map fun i => (minR F i : Int)
theorem partsR_len (m : Nat) (F : List E3) : (partsR m F).length = m := by simp [partsR]
theorem partsR_get {m : Nat} {F : List E3} {k : Nat} (hk : k < m) : (partsR m F)[k]? = some (minR F k : Int) := by simp [partsR, hk]
theorem partsR_push {m k : Nat} {F : List E3} (hk : k < m) : ((partsR m F).take (k + 1)).map (Value.int .i64) = ((partsR m F).take k).map (Value.int .i64) ++ [.int .i64 (minR F k : Int)] := by
  have h := @partsR_get m F k hk
  obtain ⟨h1, h2⟩ := List.getElem?_eq_some_iff.1 h
  rw [List.take_succ_eq_append_getElem h1, h2, List.map_append]
  rfl
theorem partsR_eq {m : Nat} {F G : List E3} : partsR m F = partsR m G ↔ ∀ i, i < m → minR F i = minR G i := by
  unfold partsR
  rw [List.map_inj_left]
  constructor
  · intro h i hi
    have := h i (List.mem_range.2 hi)
    omega
  · intro h i hi
    rw [h i (List.mem_range.1 hi)]
theorem rootsN_parts {m : Nat} {F G : List E3} (h : partsR m F = partsR m G) : rootsN m F = rootsN m G := by
  have h := partsR_eq.1 h
  unfold rootsN
  apply List.countP_congr
  intro i hi
  have hi := List.mem_range.1 hi
  simp only [decide_eq_true_eq]
  rw [root_minR, root_minR, h i hi]
/-- How many numbers there are, each counted once. -/
def unlikeT (xs : List Int) : Nat → Nat
  | 0 => 0
  | k + 1 => unlikeT xs k + (if xs.getD k 0 ∈ xs.take k then 0 else 1)
theorem unlikeT_le (xs : List Int) : ∀ k, unlikeT xs k ≤ k
  | 0 => Nat.le_refl _
  | k + 1 => by
    have := unlikeT_le xs k
    simp only [unlikeT]
    split <;> omega
theorem unlike_partsR {m : Nat} {F : List E3} : ∀ k, k ≤ m → unlikeT (partsR m F) k = rootsN k F
  | 0, _ => rfl
  | k + 1, hk => by
    have ih := unlike_partsR (m := m) (F := F) k (by omega)
    simp only [unlikeT]
    rw [ih]
    unfold rootsN
    rw [List.range_succ, List.countP_append]
    congr 1
    have hg : (partsR m F).getD k 0 = (minR F k : Int) := by rw [List.getD_eq_getElem?_getD, partsR_get (by omega)]; rfl
    rw [hg]
    have hm : (minR F k : Int) ∈ (partsR m F).take k ↔ ¬ Root F k := by
      unfold partsR
      rw [← List.map_take, List.take_range, Nat.min_eq_left (by omega), List.mem_map]
      constructor
      · rintro ⟨j, hj, he⟩ hr
        have hj := List.mem_range.1 hj
        have e : minR F j = minR F k := by omega
        exact hr j hj (minR_eq.1 e).symm
      · intro hr
        have h1 : minR F k ≠ k := fun h => hr (root_minR.2 h)
        have h2 : minR F k ≤ k := minR_le
        refine ⟨minR F k, List.mem_range.2 (by omega), ?_⟩
        rw [root_minR.1 minR_root]
    by_cases hr : Root F k
    · rw [if_neg fun h => hm.1 h hr]; simp [hr]
    · rw [if_pos (hm.2 hr)]; simp [hr]
theorem rootsN_le (m : Nat) (F : List E3) : rootsN m F ≤ m := by
  have := List.countP_le_length (p := fun i => @decide (Root F i) (Classical.propDecidable _)) (l := List.range m)
  simpa [rootsN] using this
end Go.Proofs.Ytiaapeidabmgkaa
