/- The least node that each is linked with; how many of them are unlike. Plain facts. -/
import Derived.Test.YthfgbgmkiggjmaaSpanPlain
import Derived.Test.YthfgbgmkiggjmaaMinR1
namespace Go.Proofs.Ythfgbgmkiggjmaa

/-- What the reference's Parts tells. -/
theorem partsR_eq {m : Nat} {F G : List E3} : partsR m F = partsR m G ↔ ∀ i, i < m → minR F i = minR G i := by
  unfold partsR
  rw [List.map_inj_left]
  constructor
  · intro h i hi
    have := h i (List.mem_range.2 hi)
    omega
  · intro h i hi
    rw [h i (List.mem_range.1 hi)]
theorem rootsN_parts {m : Nat} {F G : List E3} (h : partsR m F = partsR m G) : rootsN m F = rootsN m G := by
  have h := partsR_eq.1 h
  unfold rootsN
  apply List.countP_congr
  intro i hi
  have hi := List.mem_range.1 hi
  simp only [decide_eq_true_eq]
  rw [root_minR, root_minR, h i hi]
/-- How many numbers there are, each counted once. -/
def unlikeT (xs : List Int) : Nat → Nat
  | 0 => 0
  | k + 1 => unlikeT xs k + (if xs.getD k 0 ∈ xs.take k then 0 else 1)
theorem unlikeT_le (xs : List Int) : ∀ k, unlikeT xs k ≤ k
  | 0 => Nat.le_refl _
  | k + 1 => by
    have := unlikeT_le xs k
    simp only [unlikeT]
    split <;> omega
theorem unlike_partsR {m : Nat} {F : List E3} : ∀ k, k ≤ m → unlikeT (partsR m F) k = rootsN k F
  | 0, _ => rfl
  | k + 1, hk => by
    have ih := unlike_partsR (m := m) (F := F) k (by omega)
    simp only [unlikeT]
    rw [ih]
    unfold rootsN
    rw [List.range_succ, List.countP_append]
    congr 1
    have hg : (partsR m F).getD k 0 = (minR F k : Int) := by rw [List.getD_eq_getElem?_getD, partsR_get (by omega)]; rfl
    rw [hg]
    have hm : (minR F k : Int) ∈ (partsR m F).take k ↔ ¬ Root F k := by
      unfold partsR
      rw [← List.map_take, List.take_range, Nat.min_eq_left (by omega), List.mem_map]
      constructor
      · rintro ⟨j, hj, he⟩ hr
        have hj := List.mem_range.1 hj
        have e : minR F j = minR F k := by omega
        exact hr j hj (minR_eq.1 e).symm
      · intro hr
        have h1 : minR F k ≠ k := fun h => hr (root_minR.2 h)
        have h2 : minR F k ≤ k := minR_le
        refine ⟨minR F k, List.mem_range.2 (by omega), ?_⟩
        rw [root_minR.1 minR_root]
    by_cases hr : Root F k
    · rw [if_neg fun h => hm.1 h hr]; simp [hr]
    · rw [if_pos (hm.2 hr)]; simp [hr]
theorem rootsN_le (m : Nat) (F : List E3) : rootsN m F ≤ m := by
  have := List.countP_le_length (p := fun i => @decide (Root F i) (Classical.propDecidable _)) (l := List.range m)
  simpa [rootsN] using this
end Go.Proofs.Ythfgbgmkiggjmaa
