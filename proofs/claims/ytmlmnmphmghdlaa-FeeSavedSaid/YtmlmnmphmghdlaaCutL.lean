/- The steps, of which those that are not tight have no room any more, and a gate: they are what is sent along. Plain facts, of no program. -/
import Derived.Test.YtmlmnmphmghdlaaFeeStepP
import Derived.Test.YtmlmnmphmghdlaaArcsOwn
namespace Go.Proofs.Ytmlmnmphmghdlaa

def cutA (d : Nat → Int) (a : A4) : A4 := if 0 < d a.1.toNat + a.2.2.2 - d a.2.1.toNat then (a.1, a.2.1, 0, a.2.2.2) else a
def cutT (S : List A4) (d : Nat → Int) : Nat → List A4
  | 0 => S
  | k + 1 => (cutT S d k).set k (cutA d (S.getD k default))
section
variable {S : List A4} {d : Nat → Int} {k m : Nat}
theorem cutT_len : ∀ k, (cutT S d k).length = S.length
  | 0 => rfl
  | k + 1 => by simp only [cutT, List.length_set]; exact cutT_len k
theorem cutT_at {j : Nat} (hj : j < S.length) : ∀ k, (cutT S d k)[j]? = some (if j < k then cutA d (S.getD j default) else S.getD j default)
  | 0 => by
    show S[j]? = _
    rw [if_neg (by omega), List.getD_eq_getElem?_getD, List.getElem?_eq_getElem hj]; rfl
  | k + 1 => by
    show ((cutT S d k).set k _)[j]? = _
    rw [List.getElem?_set]
    by_cases e : k = j
    · subst e
      rw [if_pos rfl, if_pos (by rw [cutT_len]; exact hj), if_pos (by omega)]
    · rw [if_neg e, cutT_at hj k]
      by_cases h : j < k
      · rw [if_pos h, if_pos (by omega)]
      · rw [if_neg h, if_neg (by omega)]
theorem cutT_stay (hk : k < S.length) (h : cutA d (S.getD k default) = S.getD k default) : cutT S d (k + 1) = cutT S d k := by
  apply List.ext_getElem?
  intro j
  by_cases hj : j < S.length
  · rw [cutT_at hj, cutT_at hj]
    by_cases e : j = k
    · subst e; rw [if_pos (by omega), if_neg (by omega), h]
    · by_cases h2 : j < k
      · rw [if_pos h2, if_pos (by omega)]
      · rw [if_neg h2, if_neg (by omega)]
  · rw [List.getElem?_eq_none (by rw [cutT_len]; omega), List.getElem?_eq_none (by rw [cutT_len]; omega)]
/-- As cells. -/
theorem cellsA_set : ∀ (L : List A4) (k : Nat) (x0 x1 x2 x3 y : Int), L[k]? = some (x0, x1, x2, x3) → cellsA (L.set k (x0, x1, y, x3)) = (cellsA L).set (k * 4 + 2) (.int .i64 y)
  | [], k, _, _, _, _, _, h => by simp at h
  | a :: L, 0, x0, x1, x2, x3, y, h => by
    simp only [List.getElem?_cons_zero, Option.some.injEq] at h
    subst h
    rfl
  | a :: L, k + 1, x0, x1, x2, x3, y, h => by
    simp only [List.getElem?_cons_succ] at h
    have ih := cellsA_set L k x0 x1 x2 x3 y h
    show cells4 a ++ cellsA (L.set k (x0, x1, y, x3)) = (cells4 a ++ cellsA L).set ((k + 1) * 4 + 2) _
    rw [ih, List.set_append_right _ _ (by simp [cells4]; omega)]
    congr 2
    simp [cells4]
    omega
end
def sendL (S : List A4) (d : Nat → Int) (m s : Nat) (left : Int) : List A4 := cutT S d S.length ++ [((m : Int), (s : Int), left, 0)]
section
variable {es : List A4} {f d : Nat → Int} {m s : Nat} {left : Int}
theorem sendL_len : (sendL (stepT es f es.length) d m s left).length = 2 * es.length + 1 := by
  unfold sendL
  rw [List.length_append, cutT_len, stepT_len]; rfl
theorem sendL_at {j : Nat} (hj : j < 2 * es.length) : (sendL (stepT es f es.length) d m s left).getD j default = cutA d ((stepT es f es.length).getD j default) := by
  have hl : (stepT es f es.length).length = 2 * es.length := stepT_len _
  unfold sendL
  rw [List.getD_eq_getElem?_getD, List.getElem?_append_left (by rw [cutT_len]; omega), cutT_at (by omega), if_pos (by omega)]
  rfl
theorem sendL_gate : (sendL (stepT es f es.length) d m s left).getD (2 * es.length) default = ((m : Int), (s : Int), left, 0) := by
  have hl : (stepT es f es.length).length = 2 * es.length := stepT_len _
  unfold sendL
  rw [List.getD_eq_getElem?_getD, List.getElem?_append_right (by rw [cutT_len]; omega), cutT_len, hl, Nat.sub_self]; rfl
theorem cutA_fst (a : A4) : (cutA d a).1 = a.1 ∧ (cutA d a).2.1 = a.2.1 ∧ (cutA d a).2.2.1 = if 0 < d a.1.toNat + a.2.2.2 - d a.2.1.toNat then 0 else a.2.2.1 := by
  unfold cutA
  split <;> exact ⟨rfl, rfl, rfl⟩
theorem send_net : SendN (netP (m : Int) es) (feeP es) f d s left (netP ((m + 1 : Nat) : Int) (sendL (stepT es f es.length) d m s left)) := by
  refine ⟨by simp [netP], ?_, fun k hk => ?_, fun k hk => ?_, ?_⟩
  · show (sendL _ _ _ _ _).length = _
    rw [sendL_len]; rfl
  · have hk' : k < es.length := hk
    obtain ⟨h1, _⟩ := stepT_at (es := es) (f := f) es.length hk'
    have e : (stepT es f es.length).getD (2 * k) default = alongA (es.getD k default) (f k) := by rw [List.getD_eq_getElem?_getD, h1]; rfl
    have e2 := sendL_at (es := es) (f := f) (d := d) (m := m) (s := s) (left := left) (j := 2 * k) (by omega)
    rw [e] at e2
    obtain ⟨c1, c2, c3⟩ := cutA_fst (d := d) (alongA (es.getD k default) (f k))
    simp only [netP, feeP]
    rw [e2, c1, c2, c3]
    exact ⟨rfl, rfl, rfl⟩
  · have hk' : k < es.length := hk
    obtain ⟨_, h1⟩ := stepT_at (es := es) (f := f) es.length hk'
    have e : (stepT es f es.length).getD (2 * k + 1) default = backA (es.getD k default) (f k) := by rw [List.getD_eq_getElem?_getD, h1]; rfl
    have e2 := sendL_at (es := es) (f := f) (d := d) (m := m) (s := s) (left := left) (j := 2 * k + 1) (by omega)
    rw [e] at e2
    obtain ⟨c1, c2, c3⟩ := cutA_fst (d := d) (backA (es.getD k default) (f k))
    simp only [netP, feeP]
    rw [e2, c1, c2, c3]
    exact ⟨rfl, rfl, rfl⟩
  · have e2 := sendL_gate (es := es) (f := f) (d := d) (m := m) (s := s) (left := left)
    have hK : (netP (m : Int) es).K = es.length := rfl
    rw [hK]
    simp only [netP]
    rw [e2]
    simp
theorem sendL_big (hG : GoodN (m : Int) es) (hM : MayP (netP (m : Int) es) f) (hs : s < m) (hl : 0 ≤ left ∧ left ≤ 67108864) : BigN ((m + 1 : Nat) : Int) (sendL (stepT es f es.length) d m s left) := by
  have hb := stepT_big hG hM
  refine ⟨by omega, by have := hG.n1; omega, by rw [sendL_len]; have := hG.len; omega, fun a ha => ?_⟩
  unfold sendL at ha
  rcases List.mem_append.1 ha with ha | ha
  · obtain ⟨j, hj⟩ := List.getElem?_of_mem ha
    have hjl : j < (stepT es f es.length).length := by have := (List.getElem?_eq_some_iff.1 hj).1; rw [cutT_len] at this; exact this
    rw [cutT_at hjl, if_pos hjl] at hj
    injection hj with hj
    have h1 := hb.arc _ (getD_mem hjl)
    obtain ⟨c1, c2, c3⟩ := cutA_fst (d := d) ((stepT es f es.length).getD j default)
    rw [← hj, c1, c2, c3]
    split <;> omega
  · rw [List.mem_singleton.1 ha]
    simp only
    omega
end
end Go.Proofs.Ytmlmnmphmghdlaa
