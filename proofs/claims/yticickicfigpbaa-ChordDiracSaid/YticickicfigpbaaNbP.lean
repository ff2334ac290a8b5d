/- The words of those that each node has an edge with. Plain facts. -/
import Derived.Test.YticickicfigpbaaAdj
namespace Go.Proofs.Yticickicfigpbaa

def Words (m : Nat) (ar : List Nat) : Prop := ∀ i, ar.getD i 0 < 2 ^ m
def nbStep (i : Nat) (acc : Nat) (e : E3) : Nat := if e.1 = (i : Int) then acc ||| 2 ^ e.2.1.toNat else if e.2.1 = (i : Int) then acc ||| 2 ^ e.1.toNat else acc
def nbW (es : List E3) (i : Nat) : Nat := es.foldl (nbStep i) 0
def nbL (m : Nat) (es : List E3) : List Nat := (List.range m).map (nbW es)
theorem nbL_length (m : Nat) (es : List E3) : (nbL m es).length = m := by simp [nbL]
theorem nbL_get {m : Nat} (es : List E3) {i : Nat} (h : i < m) : (nbL m es)[i]? = some (nbW es i) := by simp [nbL, h]
theorem nbL_nil (m : Nat) : nbL m [] = List.replicate m 0 := by
  apply List.ext_getElem
  · simp [nbL]
  · intro i h1 h2
    simp [nbL, nbW]
theorem nbW_next (es : List E3) (k i : Nat) (x : E3) (h : es[k]? = some x) : nbW (es.take (k + 1)) i = nbStep i (nbW (es.take k) i) x := by
  obtain ⟨hk, rfl⟩ := List.getElem?_eq_some_iff.1 h
  unfold nbW
  rw [List.take_succ_eq_append_getElem hk, List.foldl_append]
  rfl
theorem nbL_next (m : Nat) (es : List E3) (k i j : Nat) (c : Int) (hij : i ≠ j) (h : es[k]? = some ((i : Int), (j : Int), c)) :
    ((nbL m (es.take k)).set i (nbW (es.take k) i ||| 2 ^ j)).set j (nbW (es.take k) j ||| 2 ^ i) = nbL m (es.take (k + 1)) := by
  apply List.ext_getElem
  · simp [nbL]
  · intro x h1 h2
    simp only [List.length_set, nbL_length] at h1
    rw [List.getElem_set, List.getElem_set]
    simp only [nbL, List.getElem_map, List.getElem_range]
    rw [nbW_next es k x _ h]
    by_cases hx : j = x
    · subst hx
      have : ¬ ((i : Int) = (j : Int)) := by omega
      simp [nbStep, this]
    · by_cases hx2 : i = x
      · subst hx2; simp [nbStep, hx]
      · have e1 : ¬ ((i : Int) = (x : Int)) := by omega
        have e2 : ¬ ((j : Int) = (x : Int)) := by omega
        simp [nbStep, hx, hx2, e1, e2]
theorem nbW_lt {m : Nat} {es : List E3} (hg : goodE m es) (i : Nat) : ∀ k, nbW (es.take k) i < 2 ^ m
  | 0 => by simp [nbW]; exact Nat.two_pow_pos m
  | k + 1 => by
    have ih := nbW_lt hg i k
    rcases Nat.lt_or_ge k es.length with hk | hk
    · have hx : es[k]? = some es[k] := List.getElem?_eq_getElem hk
      obtain ⟨p0, p1, p2, p3, _, _⟩ := edge_ok (hg k _ hx)
      rw [nbW_next es k i _ hx]
      unfold nbStep
      split
      · exact Nat.or_lt_two_pow ih (Nat.pow_lt_pow_right (by decide) (by omega))
      · split
        · exact Nat.or_lt_two_pow ih (Nat.pow_lt_pow_right (by decide) (by omega))
        · exact ih
    · rw [List.take_of_length_le (by omega)]
      rw [List.take_of_length_le (by omega)] at ih
      exact ih
theorem nbL_words {m : Nat} {es : List E3} (hg : goodE m es) : Words m (nbL m es) := fun i => by
  rw [List.getD_eq_getElem?_getD]
  rcases Nat.lt_or_ge i m with hi | hi
  · rw [nbL_get es hi]
    have := nbW_lt hg i es.length
    rw [List.take_length] at this
    exact this
  · rw [List.getElem?_eq_none (by rw [nbL_length]; omega)]
    exact Nat.two_pow_pos m

theorem nbW_bit {m : Nat} {es : List E3} (hg : goodE m es) (i j : Nat) : ∀ k, (nbW (es.take k) i).testBit j = adjE (es.take k) i j
  | 0 => by simp [nbW, adjE]
  | k + 1 => by
    have ih := nbW_bit hg i j k
    rcases Nat.lt_or_ge k es.length with hk | hk
    · have hx : es[k]? = some es[k] := List.getElem?_eq_getElem hk
      obtain ⟨p0, p1, p2, p3, p4, _⟩ := edge_ok (hg k _ hx)
      rw [nbW_next es k i _ hx, List.take_succ_eq_append_getElem hk]
      generalize es[k] = e at hx p0 p1 p2 p3 p4
      obtain ⟨a, b, c⟩ := e
      simp only at p0 p1 p2 p3 p4
      obtain ⟨a, rfl⟩ := Int.eq_ofNat_of_zero_le p0
      obtain ⟨b, rfl⟩ := Int.eq_ofNat_of_zero_le p2
      unfold adjE at ih ⊢
      rw [any_snoc, ← ih]
      unfold nbStep
      simp only [Int.toNat_natCast]
      by_cases h1 : (a : Int) = (i : Int)
      · rw [if_pos h1, Nat.testBit_or, Nat.testBit_two_pow]
        congr 1
        rw [Bool.eq_iff_iff]
        simp
        omega
      · rw [if_neg h1]
        by_cases h2 : (b : Int) = (i : Int)
        · rw [if_pos h2, Nat.testBit_or, Nat.testBit_two_pow]
          congr 1
          rw [Bool.eq_iff_iff]
          simp
          omega
        · rw [if_neg h2]
          have : (((a : Int) == (i : Int) && (b : Int) == (j : Int)) || ((a : Int) == (j : Int) && (b : Int) == (i : Int))) = false := by simp; omega
          simp only [this, Bool.or_false]
    · rw [List.take_of_length_le (by omega)]
      rw [List.take_of_length_le (by omega)] at ih
      exact ih
theorem nbL_bit {m : Nat} {es : List E3} (hg : goodE m es) {i : Nat} (hi : i < m) (j : Nat) : ((nbL m es).getD i 0).testBit j = adjE es i j := by
  rw [List.getD_eq_getElem?_getD, nbL_get es hi]
  have := nbW_bit hg i j es.length
  rw [List.take_length] at this
  exact this
end Go.Proofs.Yticickicfigpbaa
