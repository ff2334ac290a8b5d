/- What a graph without fault is: every edge is without fault behind those ahead of it. No conditions. -/
import Derived.Test.YticickicfigpbaaPlain
namespace Go.Proofs.Yticickicfigpbaa

theorem largeB_false {n : Int} {m : Nat} (h : largeB n m = false) : 0 ≤ n ∧ n ≤ 10 ∧ m ≤ 45 := by
  simp [largeB] at h; omega
/-- What a graph without fault is. -/
def goodE (n : Int) (es : List E3) : Prop := ∀ k e, es[k]? = some e → edgeErr n (es.take k) e = 0
theorem scan_good (n : Int) : ∀ (r pre : List E3), scan n pre r = 0 → ∀ k e, r[k]? = some e → edgeErr n (pre ++ r.take k) e = 0
  | [], _, _, k, e, he => by simp at he
  | x :: r, pre, h, k, e, he => by
    unfold scan at h
    split at h
    · rename_i h0
      cases k with
      | zero =>
        simp only [List.getElem?_cons_zero, Option.some.injEq] at he
        subst he
        simpa using h0
      | succ k =>
        simp only [List.getElem?_cons_succ] at he
        have := scan_good n r (pre ++ [x]) h k e he
        simpa using this
    · rename_i h0
      rw [h] at h0
      simp at h0
theorem good_of_gcheck {n : Int} {es : List E3} (h : gcheck n es = 0) : 0 ≤ n ∧ n ≤ 10 ∧ es.length ≤ 45 ∧ goodE n es := by
  unfold gcheck at h
  split at h
  · omega
  · rename_i hL
    obtain ⟨h0, h1, h2⟩ := largeB_false (by simpa using hL)
    exact ⟨h0, h1, h2, fun k e he => by simpa using scan_good n es [] h k e he⟩
theorem edge_ok {n : Int} {pre : List E3} {e : E3} (h : edgeErr n pre e = 0) : 0 ≤ e.1 ∧ e.1 < n ∧ 0 ≤ e.2.1 ∧ e.2.1 < n ∧ e.1 ≠ e.2.1 ∧ metB pre e = false := by
  obtain ⟨⟨h0, h1⟩, h2⟩ := edgeErr_zero h
  have h3 : e.1 ≠ e.2.1 := fun hq => by
    obtain ⟨a, b, c⟩ := e
    rw [edgeErr_form n pre a b c h0 h1 (by simp at hq; simp [hq])] at h
    omega
  simp only [isIn, Bool.and_eq_true, decide_eq_true_eq] at h0 h1
  exact ⟨h0.1, h0.2, h1.1, h1.2, h3, h2⟩

def touchB (i : Int) (e : E3) : Bool := e.1 == i || e.2.1 == i
def degN (es : List E3) (i : Int) : Nat := (es.filter (touchB i)).length
theorem degN_le (es : List E3) (i : Int) : degN es i ≤ es.length := List.length_filter_le _ _
theorem degN_next (es : List E3) (k : Nat) (x : E3) (i : Int) (h : es[k]? = some x) : degN (es.take (k + 1)) i = degN (es.take k) i + (if touchB i x = true then 1 else 0) := by
  obtain ⟨hk, rfl⟩ := List.getElem?_eq_some_iff.1 h
  unfold degN
  rw [List.take_succ_eq_append_getElem hk, List.filter_append, List.length_append]
  by_cases ht : touchB i es[k] = true <;> simp [ht]
end Go.Proofs.Yticickicfigpbaa
