/- A node has no more neighbours than edges. Plain facts, of no program. -/
import Derived.Test.YthnchnamdoobeaaAdj
import Derived.Test.YthnchnamdoobeaaGood
import Derived.Test.YthnchnamdoobeaaTutteP
namespace Go.Proofs.Ythnchnamdoobeaa

theorem adj_deg (m : Nat) (i : Nat) : ∀ es : List E3, sizeP (adjE es i) m ≤ degN es i
  | [] => by rw [show sizeP (adjE [] i) m = 0 from sizeP_none fun j _ => rfl]; exact Nat.zero_le _
  | e :: r => by
    have ih := adj_deg m i r
    have hcons : ∀ j, adjE (e :: r) i j = true ↔ ((e.1 = (i : Int) ∧ e.2.1 = (j : Int)) ∨ (e.1 = (j : Int) ∧ e.2.1 = (i : Int))) ∨ adjE r i j = true := fun j => by
      unfold adjE
      rw [List.any_cons, Bool.or_eq_true]
      simp
    have hd : degN (e :: r) i = degN r i + (if touchB i e = true then 1 else 0) := by
      unfold degN
      rw [List.filter_cons]
      split <;> simp
    by_cases ht : touchB i e = true
    · rw [hd, if_pos ht]
      obtain ⟨j0, hj0⟩ : ∃ j0 : Int, ∀ j : Nat, ((e.1 = (i : Int) ∧ e.2.1 = (j : Int)) ∨ (e.1 = (j : Int) ∧ e.2.1 = (i : Int))) → (j : Int) = j0 := by
        by_cases h : e.1 = (i : Int)
        · exact ⟨e.2.1, fun j hj => by omega⟩
        · exact ⟨e.1, fun j hj => by omega⟩
      have h1 : sizeP (adjE (e :: r) i) m ≤ sizeP (fun j => decide ((j : Int) = j0)) m + sizeP (adjE r i) m := by
        have hp := sizeP_part (adjE (e :: r) i) (adjE r i) m
        have ha : sizeP (fun j => adjE (e :: r) i j && adjE r i j) m ≤ sizeP (adjE r i) m := sizeP_sub fun j _ h => by
          rw [Bool.and_eq_true] at h; exact h.2
        have hb : sizeP (fun j => adjE (e :: r) i j && !adjE r i j) m ≤ sizeP (fun j => decide ((j : Int) = j0)) m := sizeP_sub fun j _ h => by
          rw [Bool.and_eq_true, Bool.not_eq_true'] at h
          rcases (hcons j).1 h.1 with h2 | h2
          · exact decide_eq_true (hj0 j h2)
          · rw [h2] at h; cases h.2
        omega
      have h2 : sizeP (fun j => decide ((j : Int) = j0)) m ≤ 1 := by
        have h := sizeP_inj (n := m) (A := fun j => decide ((j : Int) = j0)) (B := fun j => decide (j = 0)) (m := fun _ => 0)
        rcases Nat.lt_or_ge 1 (sizeP (fun j => decide ((j : Int) = j0)) m) with h3 | h3
        · obtain ⟨x, hx, hxj, _⟩ := sizeP_two (t := j0.toNat) (show 2 ≤ sizeP (fun j => decide ((j : Int) = j0)) m by omega)
          have := of_decide_eq_true hxj
          omega
        · exact h3
      omega
    · rw [hd, if_neg ht]
      have h1 : sizeP (adjE (e :: r) i) m ≤ sizeP (adjE r i) m := sizeP_sub fun j _ h => by
        rcases (hcons j).1 h with h2 | h2
        · exfalso
          apply ht
          unfold touchB
          rw [Bool.or_eq_true, beq_iff_eq, beq_iff_eq]
          omega
        · exact h2
      omega
end Go.Proofs.Ythnchnamdoobeaa
