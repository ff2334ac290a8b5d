/- The least node that each is linked with. Plain facts, of no program. -/
import Derived.Test.YthfgbgmkiggjmabDoorRch
namespace Go.Proofs.YthfgbgmkiggjmabDoor

theorem least_root (F : List E3) (a : Nat) : ∃ r, r ≤ a ∧ Rch F a r ∧ Root F r := by
  obtain ⟨r, h1, h2, h3⟩ := least_of (p := fun r => Rch F a r) a (Rch.refl F a)
  exact ⟨r, h1, h2, fun j hj hr => h3 j hj (h2.trans hr)⟩
noncomputable def minR (F : List E3) (a : Nat) : Nat := (least_root F a).choose
section
variable {F G : List E3} {a b : Nat}
theorem minR_le : minR F a ≤ a := (least_root F a).choose_spec.1
theorem minR_rch : Rch F a (minR F a) := (least_root F a).choose_spec.2.1
theorem minR_root : Root F (minR F a) := (least_root F a).choose_spec.2.2
theorem minR_least (h : Rch F a b) : minR F a ≤ b := by
  rcases Nat.lt_or_ge b (minR F a) with h1 | h1
  · exact absurd (minR_rch.symm.trans h) (minR_root b h1)
  · exact h1
theorem minR_eq : minR F a = minR F b ↔ Rch F a b := by
  constructor
  · intro h
    have h1 : Rch F a (minR F a) := minR_rch
    rw [h] at h1
    exact h1.trans minR_rch.symm
  · intro h
    exact Nat.le_antisymm (minR_least (h.trans minR_rch)) (minR_least (h.symm.trans minR_rch))
theorem root_minR : Root F a ↔ minR F a = a := by
  constructor
  · intro h
    rcases Nat.lt_or_ge (minR F a) a with h1 | h1
    · exact absurd minR_rch (h _ h1)
    · exact Nat.le_antisymm minR_le h1
  · intro h
    have h1 : Root F (minR F a) := minR_root
    rwa [h] at h1
theorem minR_congr (h : ∀ i j, Rch F i j ↔ Rch G i j) : minR F a = minR G a :=
  Nat.le_antisymm (minR_least ((h _ _).2 minR_rch)) (minR_least ((h _ _).1 minR_rch))
end
end Go.Proofs.YthfgbgmkiggjmabDoor
