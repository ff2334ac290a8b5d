/- A graph's words: sets of which no two are neighbours, sets of which each two are. Plain facts, of no program. -/
import Derived.Test.YthnchnamdoobeaaRestW
import Derived.Test.YthnchnamdoobeaaNbP
namespace Go.Proofs.Ythnchnamdoobeaa

/-- Of no member of a set is a neighbour in it. -/
def ApartL (xs : List Nat) (n s : Nat) : Prop := ∀ i, i < n → s.testBit i = true → s &&& xs.getD i 0 = 0
theorem and_none {s x : Nat} : s &&& x = 0 ↔ ∀ j, s.testBit j = true → x.testBit j = false := by
  constructor
  · intro h j hj
    have h1 : (s &&& x).testBit j = false := by rw [h, Nat.zero_testBit]
    rw [Nat.testBit_and, hj, Bool.true_and] at h1
    exact h1
  · intro h
    apply Nat.eq_of_testBit_eq
    intro j
    rw [Nat.testBit_and, Nat.zero_testBit]
    cases hj : s.testBit j with
    | false => rfl
    | true => rw [h j hj]; rfl
/-- Those that a node has no edge with, in a word of 32. -/
def strW (es : List E3) (i : Nat) : Nat := diffW (4294967295 - nbW es i) (2 ^ i)
def strL (m : Nat) (es : List E3) : List Nat := (List.range m).map (strW es)
theorem strL_length (m : Nat) (es : List E3) : (strL m es).length = m := by simp [strL]
theorem strL_get {m : Nat} (es : List E3) {i : Nat} (h : i < m) : (strL m es)[i]? = some (strW es i) := by simp [strL, h]
theorem nbW_all {m : Nat} {es : List E3} (hg : goodE m es) (i : Nat) : nbW es i < 2 ^ m := by
  have := nbW_lt hg i es.length
  rw [List.take_length] at this
  exact this
theorem strW_bit {m : Nat} {es : List E3} (hm : m ≤ 10) (hg : goodE m es) {i j : Nat} (hi : i < m) (hj : j < m) : (strW es i).testBit j = (!adjE es i j && !decide (i = j)) := by
  have h1 : nbW es i < 2 ^ 32 := Nat.lt_of_lt_of_le (nbW_all hg i) (Nat.pow_le_pow_right (by decide) (by omega))
  have h2 : 2 ^ i < 4294967296 := Nat.lt_of_lt_of_le (Nat.pow_lt_pow_right (by decide) hi) (by rw [show (4294967296 : Nat) = 2 ^ 32 from rfl]; exact Nat.pow_le_pow_right (by decide) (by omega))
  unfold strW
  rw [diffW_testBit _ _ _ (by omega) h2, show 4294967295 - nbW es i = 2 ^ 32 - (nbW es i + 1) by omega, Nat.testBit_two_pow_sub_succ h1, Nat.testBit_two_pow, decide_eq_true (show j < 32 by omega), Bool.true_and]
  have h3 := nbW_bit hg i j es.length
  rw [List.take_length] at h3
  rw [h3]
section
variable {m s : Nat} {es : List E3}
theorem apart_nb (hg : goodE m es) (hs : s < 2 ^ m) : ApartL (nbL m es) m s ↔ CrowdW (adjE es) true m s := by
  rw [crowd_lse (adjE_symm es) (adj_irr hg) hs]
  constructor
  · intro h i j hi hj
    have him := bit_lt hs hi
    have h1 := and_none.1 (h i him hi) j hj
    rw [nbL_bit hg him] at h1
    exact h1
  · intro h i him hi
    refine and_none.2 fun j hj => ?_
    rw [nbL_bit hg him]
    exact h i j hi hj
theorem apart_str (hm : m ≤ 10) (hg : goodE m es) (hs : s < 2 ^ m) : ApartL (strL m es) m s ↔ CrowdW (adjE es) false m s := by
  rw [crowd_clq (adjE_symm es) hs]
  have hget : ∀ i, i < m → (strL m es).getD i 0 = strW es i := fun i hi => by rw [List.getD_eq_getElem?_getD, strL_get es hi]; rfl
  constructor
  · intro h i j hi hj hne
    have him := bit_lt hs hi
    have h1 := and_none.1 (h i him hi) j hj
    rw [hget i him, strW_bit hm hg him (bit_lt hs hj), decide_eq_false hne] at h1
    cases ha : adjE es i j with
    | true => rfl
    | false => rw [ha] at h1; cases h1
  · intro h i him hi
    refine and_none.2 fun j hj => ?_
    rw [hget i him, strW_bit hm hg him (bit_lt hs hj)]
    by_cases e : i = j
    · simp [e]
    · rw [h i j hi hj e]; rfl
theorem ones_sizeP (s : Nat) (hs : s < 1024) : ones s = sizeW s := by
  rw [sizeW_bits (n := 10) (by decide) hs, ← sizeTo_bits]
  rfl
end
/-- The strangers' words, of the first k nodes. -/
def strG (xs : List Nat) (n k : Nat) : List Nat := (List.range n).map fun i => if i < k then diffW (4294967295 - xs.getD i 0) (2 ^ i) else 0
theorem strG_length (xs : List Nat) (n k : Nat) : (strG xs n k).length = n := by simp [strG]
theorem strG_zero (xs : List Nat) (n : Nat) : strG xs n 0 = List.replicate n 0 := by
  apply List.ext_getElem
  · simp [strG]
  · intro i h1 h2
    simp [strG]
theorem strG_next (xs : List Nat) (n k : Nat) : (strG xs n k).set k (diffW (4294967295 - xs.getD k 0) (2 ^ k)) = strG xs n (k + 1) := by
  apply List.ext_getElem
  · simp [strG]
  · intro i h1 h2
    rw [List.getElem_set]
    simp only [strG, List.getElem_map, List.getElem_range]
    by_cases e : k = i
    · subst e; rw [if_pos rfl, if_pos (Nat.lt_succ_self k)]
    · rw [if_neg e]
      by_cases h : i < k
      · rw [if_pos h, if_pos (by omega)]
      · rw [if_neg h, if_neg (by omega)]
theorem strG_all (m : Nat) (es : List E3) : strG (nbL m es) m m = strL m es := by
  unfold strG strL strW
  apply List.map_congr_left
  intro i hi
  have him := List.mem_range.1 hi
  rw [if_pos him, List.getD_eq_getElem?_getD, nbL_get es him]
  rfl
theorem strL_lt (m : Nat) (es : List E3) (i : Nat) : (strL m es).getD i 0 < 4294967296 := by
  rw [List.getD_eq_getElem?_getD]
  rcases Nat.lt_or_ge i m with h | h
  · rw [strL_get es h]; exact diffW_lt _ _
  · rw [List.getElem?_eq_none (by rw [strL_length]; exact h)]; decide
theorem xor_all (x : Nat) (hx : x < 4294967296) : 4294967295 ^^^ x = 4294967295 - x := by
  have h : (2 ^ 32 - 1) ^^^ x = 2 ^ 32 - (x + 1) := by
    apply Nat.eq_of_testBit_eq
    intro i
    rw [Nat.testBit_xor, Nat.testBit_two_pow_sub_one, Nat.testBit_two_pow_sub_succ (show x < 2 ^ 32 from hx)]
    by_cases h : i < 32
    · simp [h]
    · rw [Nat.testBit_lt_two_pow (Nat.lt_of_lt_of_le (show x < 2 ^ 32 from hx) (Nat.pow_le_pow_right (by decide) (by omega)))]
      simp [h]
  exact (show 4294967295 ^^^ x = 2 ^ 32 - (x + 1) from h).trans (by omega)
/-- One measure for another one. -/
theorem MostW.congr {P Q : Nat → Prop} {f g : Nat → Nat} {k b : Nat} (h : MostW P f k b) (hk : 0 < k) (hP : ∀ j, j < k → (P j ↔ Q j)) (hf : ∀ j, j < k → f j = g j) : MostW Q g k b := by
  have hb := h.below hk
  exact ⟨(hP b hb).1 h.ok, fun j hj hq => by rw [← hf j hj, ← hf b hb]; exact h.le j hj ((hP j hj).2 hq), fun j hj hq => by rw [← hf j (by omega), ← hf b hb]; exact h.first j hj ((hP j (by omega)).2 hq), h.lt⟩
/-- Left open the last one. -/
theorem FewW.last {P : Nat → Prop} {f : Nat → Nat} {all b : Nat} (h : FewW P f all all b) (hp : P all) (hall : ∀ j, j < all → f j < f all) : FewW P f all (all + 1) b := by
  have hb : f b ≤ f all := by
    rcases h.lt with e | e
    · subst e; exact Nat.le_refl _
    · exact Nat.le_of_lt (hall b e)
  exact h.keep hall hb
/-- What a cover leaves is apart. -/
theorem guard_apart {m k : Nat} {es : List E3} (hg : goodE m es) (hk : k < 2 ^ m) : GuardW es m k ↔ ApartL (nbL m es) m (restW m k) := by
  rw [apart_nb hg (rest_lt hk)]
  exact loose_crowd hg (rest_lt hk)
end Go.Proofs.Ythnchnamdoobeaa
