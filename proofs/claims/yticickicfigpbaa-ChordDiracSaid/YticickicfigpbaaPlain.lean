/- Plain facts on graphs: what is wrong with one, as a function of its number of nodes and its edges. No conditions. -/
import Derived.Test.YticickicfigpbaaChecked
namespace Go.Proofs.Yticickicfigpbaa

/-- An edge: its two nodes and its weight. -/
abbrev E3 := Int × Int × Int

/-- Do two edges join the same two nodes? -/
def sameB (e f : E3) : Bool := (f.1 == e.1 && f.2.1 == e.2.1) || (f.1 == e.2.1 && f.2.1 == e.1)
def isIn (n x : Int) : Bool := decide (0 ≤ x) && decide (x < n)
def metB (pre : List E3) (e : E3) : Bool := pre.any (sameB e)

/-- What is wrong with an edge behind others. -/
def edgeErr (n : Int) (pre : List E3) (e : E3) : Int :=
  if (!isIn n e.1 || !isIn n e.2.1) = true then 2
  else if (e.1 == e.2.1 || metB pre e) = true then 3
  else if (decide (e.2.2 < -1048576) || decide (1048576 < e.2.2)) = true then 4 else 0

def scan (n : Int) : List E3 → List E3 → Int
  | _, [] => 0
  | pre, e :: r => if (edgeErr n pre e == 0) = true then scan n (pre ++ [e]) r else edgeErr n pre e

def largeB (n : Int) (m : Nat) : Bool := decide (n < 0) || decide (10 < n) || decide (45 < m)
def gcheck (n : Int) (es : List E3) : Int := if largeB n es.length = true then 1 else scan n [] es

theorem scan_end (n : Int) (es : List E3) (k : Nat) (h : es.length ≤ k) : scan n (es.take k) (es.drop k) = 0 := by
  rw [List.drop_of_length_le h]; unfold scan; rfl
theorem scan_next (n : Int) (es : List E3) (k : Nat) (e : E3) (he : es[k]? = some e) (h0 : edgeErr n (es.take k) e = 0) :
    scan n (es.take k) (es.drop k) = scan n (es.take (k + 1)) (es.drop (k + 1)) := by
  obtain ⟨hk, rfl⟩ := List.getElem?_eq_some_iff.1 he
  rw [List.drop_eq_getElem_cons hk, List.take_succ_eq_append_getElem hk]
  conv => lhs; unfold scan
  rw [h0]; rfl
theorem scan_stop (n : Int) (es : List E3) (k : Nat) (e : E3) (he : es[k]? = some e) (h0 : edgeErr n (es.take k) e ≠ 0) :
    scan n (es.take k) (es.drop k) = edgeErr n (es.take k) e := by
  obtain ⟨hk, rfl⟩ := List.getElem?_eq_some_iff.1 he
  rw [List.drop_eq_getElem_cons hk]
  unfold scan
  rw [if_neg (by simpa using h0)]

theorem metB_next (es : List E3) (m : Nat) (f e : E3) (h : es[m]? = some f) : metB (es.take (m + 1)) e = (metB (es.take m) e || sameB e f) := by
  obtain ⟨hk, rfl⟩ := List.getElem?_eq_some_iff.1 h
  unfold metB
  rw [List.take_succ_eq_append_getElem hk, List.any_append]
  simp
theorem metB_mem (es : List E3) (m k : Nat) (f e : E3) (hmk : m < k) (h : es[m]? = some f) (hs : sameB e f = true) : metB (es.take k) e = true := by
  unfold metB
  rw [List.any_eq_true]
  exact ⟨f, List.mem_of_getElem? (by rw [List.getElem?_take, if_pos hmk]; exact h), hs⟩
theorem edgeErr_in (n : Int) (pre : List E3) (a b c : Int) (h0 : isIn n a = true) (h1 : isIn n b = true) : edgeErr n pre (a, b, c) =
    if (a == b || metB pre (a, b, c)) = true then 3 else if (decide (c < -1048576) || decide (1048576 < c)) = true then 4 else 0 := by
  unfold edgeErr
  rw [if_neg (by simp [h0, h1])]
theorem edgeErr_out (n : Int) (pre : List E3) (a b c : Int) (h : ¬ (isIn n a = true ∧ isIn n b = true)) : edgeErr n pre (a, b, c) = 2 := by
  unfold edgeErr
  rw [if_pos]
  simp only [Bool.or_eq_true, Bool.not_eq_true']
  by_cases h0 : isIn n a = true
  · right; simpa [h0] using h
  · left; simpa using h0
theorem edgeErr_form (n : Int) (pre : List E3) (a b c : Int) (h0 : isIn n a = true) (h1 : isIn n b = true) (h : (a == b || metB pre (a, b, c)) = true) : edgeErr n pre (a, b, c) = 3 := by
  rw [edgeErr_in n pre a b c h0 h1, if_pos h]
theorem edgeErr_range (n : Int) (pre : List E3) (a b c : Int) (h0 : isIn n a = true) (h1 : isIn n b = true) (h : (a == b || metB pre (a, b, c)) = false) (h2 : c < -1048576 ∨ 1048576 < c) : edgeErr n pre (a, b, c) = 4 := by
  rw [edgeErr_in n pre a b c h0 h1, if_neg (by simp [h]), if_pos (by simpa using h2)]
theorem edgeErr_ok (n : Int) (pre : List E3) (a b c : Int) (h0 : isIn n a = true) (h1 : isIn n b = true) (h : (a == b || metB pre (a, b, c)) = false) (h2 : -1048576 ≤ c) (h3 : c ≤ 1048576) : edgeErr n pre (a, b, c) = 0 := by
  rw [edgeErr_in n pre a b c h0 h1, if_neg (by simp [h]), if_neg (by simp; omega)]
theorem edgeErr_zero {n : Int} {pre : List E3} {e : E3} (h : edgeErr n pre e = 0) : (isIn n e.1 = true ∧ isIn n e.2.1 = true) ∧ metB pre e = false := by
  unfold edgeErr at h
  split at h
  · omega
  · rename_i h1
    split at h
    · omega
    · rename_i h2
      simp only [Bool.or_eq_true, Bool.not_eq_true', not_or, Bool.not_eq_false, Bool.not_eq_true] at h1 h2
      exact ⟨h1, h2.2⟩
theorem scan_err (n : Int) (es : List E3) (k : Nat) (e : E3) (v : Int) (he : es[k]? = some e) (hv : edgeErr n (es.take k) e = v) (h0 : v ≠ 0) : scan n (es.take k) (es.drop k) = v := by
  subst hv; exact scan_stop n es k e he h0

end Go.Proofs.Yticickicfigpbaa
