/- KONIG, HALL: the smallest cover has as many members as can be paired; the set that lacks the most lacks as many as are left over. Plain facts, of no program. -/
import Derived.Test.YticickicfigpbaaBestP
namespace Go.Proofs.Yticickicfigpbaa

section
variable {near : Nat → Nat → Bool} {n : Nat}
/-- Do some on the left and some on the right cover? -/
def CoverP (near : Nat → Nat → Bool) (n k : Nat) (L R : Nat → Bool) : Prop := ∀ i j, i < k → j < n → near i j = true → L i = true ∨ R j = true
def sizeP (S : Nat → Bool) (k : Nat) : Nat := sumTo (fun t => if S t = true then 1 else 0) k
theorem sizeP_cnt (S : Nat → Bool) (k : Nat) : cntS S 0 k = sizeP S k := sumTo_congr k fun t _ => by rw [Nat.zero_add]
theorem sizeP_le (S : Nat → Bool) (k : Nat) : sizeP S k ≤ k := by rw [← sizeP_cnt]; exact cntS_le S 0 k
theorem sizeP_succ (S : Nat → Bool) (k : Nat) : sizeP S (k + 1) = sizeP S k + (if S k = true then 1 else 0) := rfl
theorem sizeP_not (S : Nat → Bool) : ∀ k, sizeP (fun t => !S t) k + sizeP S k = k
  | 0 => rfl
  | k + 1 => by
    have ih := sizeP_not S k
    rw [sizeP_succ, sizeP_succ]
    by_cases h : S k = true
    · rw [if_pos h, if_neg (by simp [h])]; omega
    · rw [if_neg h, if_pos (by simpa using h)]; omega
theorem sizeP_congr {S T : Nat → Bool} (k : Nat) (h : ∀ i, i < k → S i = T i) : sizeP S k = sizeP T k := sumTo_congr k fun t ht => by rw [h t ht]
/-- No cover has fewer. -/
theorem cover_ge {k : Nat} {L R : Nat → Bool} (h : CoverP near n k L R) : mxR near n k 0 (fun _ => 1) ≤ sizeP L k + sizeP R n := by
  have h1 := mxR_le (near := near) (n := n) (fun t => !L t) k 0 (fun _ => 1)
  rw [sizeP_cnt] at h1
  have h2 := sizeP_not L k
  have h3 : roomS near n (fun t => !L t) 0 k (fun _ => 1) ≤ sizeP R n := sumTo_le n fun j hj => by
    by_cases hn : nbS near (fun t => !L t) 0 k j
    · rw [if_pos hn]
      obtain ⟨t, ht, h4, h5⟩ := hn
      rw [Nat.zero_add] at h4 h5
      rcases h t j ht hj h5 with h6 | h6
      · simp [h6] at h4
      · rw [if_pos h6]; exact Nat.le_refl _
    · rw [if_neg hn]; exact Nat.zero_le _
  omega
/-- And one has no more. -/
theorem cover_ex (k : Nat) : ∃ L R : Nat → Bool, CoverP near n k L R ∧ sizeP L k + sizeP R n = mxR near n k 0 (fun _ => 1) := by
  obtain ⟨S, hS⟩ := tight_ex (near := near) (n := n) k 0 (fun _ => 1)
  refine ⟨fun t => !S t, fun j => @decide (nbS near S 0 k j) (Classical.propDecidable _), fun i j hi hj hn => ?_, ?_⟩
  · cases hs : S i with
    | false => exact .inl (by simp [hs])
    | true => exact .inr (@decide_eq_true _ (Classical.propDecidable _) ⟨i, hi, by rw [Nat.zero_add]; exact hs, by rw [Nat.zero_add]; exact hn⟩)
  · unfold Tight at hS
    rw [sizeP_cnt] at hS
    have h2 := sizeP_not S k
    have h3 : roomS near n S 0 k (fun _ => 1) = sizeP (fun j => @decide (nbS near S 0 k j) (Classical.propDecidable _)) n := sumTo_congr n fun j _ => by
      by_cases hn : nbS near S 0 k j
      · rw [if_pos hn, if_pos (by simp [hn])]
      · rw [if_neg hn, if_neg (by simp [hn])]
    omega
/-- A set lacks no more than are left over. -/
theorem lack_le (S : Nat → Bool) (k : Nat) (c : Nat → Nat) : (sizeP S k : Int) - (roomS near n S 0 k c : Int) ≤ (k : Int) - (mxR near n k 0 c : Int) := by
  have h1 := mxR_le (near := near) (n := n) S k 0 c
  rw [sizeP_cnt] at h1
  omega
/-- And one lacks just as many. -/
theorem lack_ex (k : Nat) (c : Nat → Nat) : ∃ S : Nat → Bool, (sizeP S k : Int) - (roomS near n S 0 k c : Int) = (k : Int) - (mxR near n k 0 c : Int) := by
  obtain ⟨S, hS⟩ := tight_ex (near := near) (n := n) k 0 c
  unfold Tight at hS
  rw [sizeP_cnt] at hS
  exact ⟨S, by omega⟩
theorem mxR_le_len : ∀ (r i : Nat) (c : Nat → Nat), mxR near n r i c ≤ r
  | 0, _, _ => Nat.le_refl _
  | r + 1, i, c => by
    refine maxTo_le (Nat.le_trans (mxR_le_len r (i + 1) c) (by omega)) n fun j _ => ?_
    split
    · have := mxR_le_len r (i + 1) (decC c j); omega
    · omega
/-- With more room no fewer have a place. -/
theorem mxR_mono : ∀ (r i : Nat) (c d : Nat → Nat), (∀ j, c j ≤ d j) → mxR near n r i c ≤ mxR near n r i d
  | 0, _, _, _, _ => Nat.le_refl _
  | r + 1, i, c, d, h => by
    refine maxTo_le (Nat.le_trans (mxR_mono r (i + 1) c d h) (mxR_tail _ _ _)) n fun j hj => ?_
    split
    · rename_i hw
      have h1 := mxR_mono r (i + 1) (decC c j) (decC d j) fun x => by
        unfold decC
        split
        · have := h x; omega
        · exact h x
      have h2 := mxR_take (near := near) (n := n) (r := r) (c := d) hj hw.1 (Nat.lt_of_lt_of_le hw.2 (h j))
      omega
    · exact Nat.zero_le _
theorem mxR_congr : ∀ (r i : Nat) (c d : Nat → Nat), (∀ j, j < n → c j = d j) → mxR near n r i c = mxR near n r i d
  | 0, _, _, _, _ => rfl
  | r + 1, i, c, d, h => by
    simp only [mxR]
    rw [mxR_congr r (i + 1) c d h]
    refine maxTo_congr n fun j hj => ?_
    rw [h j hj, mxR_congr r (i + 1) (decC c j) (decC d j) fun x hx => by unfold decC; rw [h x hx]]
end
end Go.Proofs.Yticickicfigpbaa
