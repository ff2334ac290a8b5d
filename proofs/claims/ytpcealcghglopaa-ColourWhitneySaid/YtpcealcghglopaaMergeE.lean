/- Both nodes of an edge in one: the keepers' list of edges; a graph without an edge. What holds of sets without an edge. Plain facts. -/
import Derived.Test.YtpcealcghglopaaWhitneyP
import Derived.Test.YtpcealcghglopaaLooseP
import Derived.Test.YtpcealcghglopaaNear
namespace Go.Proofs.Ytpcealcghglopaa

/-- b becomes a; and what is above b falls by one. -/
def subZ (a b x : Int) : Int := if x = b then a else x
def dnZ (b x : Int) : Int := if b < x then x - 1 else x
theorem subZ_ne {a b x : Int} (h : a ≠ b) : subZ a b x ≠ b := by
  unfold subZ
  split <;> assumption
theorem dnZ_inj {b u v : Int} (hu : u ≠ b) (hv : v ≠ b) (h : dnZ b u = dnZ b v) : u = v := by
  unfold dnZ at h
  split at h <;> split at h <;> omega
def mgStep (a b : Int) (h : List E3) (e : E3) : List E3 :=
  if subZ a b e.1 = subZ a b e.2.1 then h
  else if nearI h (dnZ b (subZ a b e.1)) (dnZ b (subZ a b e.2.1)) = true then h
  else h ++ [(dnZ b (subZ a b e.1), dnZ b (subZ a b e.2.1), e.2.2)]
def mgE (a b : Int) (es : List E3) : List E3 := es.foldl (mgStep a b) []
theorem mgE_next {a b : Int} {es : List E3} {k : Nat} {e : E3} (h : es[k]? = some e) : mgE a b (es.take (k + 1)) = mgStep a b (mgE a b (es.take k)) e := by
  obtain ⟨h1, h2⟩ := List.getElem?_eq_some_iff.1 h
  unfold mgE
  rw [List.take_succ_eq_append_getElem h1, h2, List.foldl_append]
  rfl
section
variable {a b n : Int} {es h : List E3} {e : E3} {k : Nat}
theorem mgStep_len : (mgStep a b h e).length ≤ h.length + 1 := by
  unfold mgStep
  split
  · omega
  · split
    · omega
    · simp
theorem mgE_len (es : List E3) : ∀ k, (mgE a b (es.take k)).length ≤ k
  | 0 => by simp [mgE]
  | k + 1 => by
    have ih := mgE_len es k
    rcases Nat.lt_or_ge k es.length with hk | hk
    · rw [mgE_next (List.getElem?_eq_getElem hk)]
      have := mgStep_len (a := a) (b := b) (h := mgE a b (es.take k)) (e := es[k])
      omega
    · rw [List.take_of_length_le (by omega)]
      rw [List.take_of_length_le hk] at ih
      omega
theorem good_snoc (hg : goodE n h) (he : edgeErr n h e = 0) : goodE n (h ++ [e]) := fun k x hx => by
  rcases Nat.lt_trichotomy k h.length with hk | hk | hk
  · rw [List.getElem?_append_left hk] at hx
    rw [List.take_append_of_le_length (by omega)]
    exact hg k x hx
  · subst hk
    rw [List.getElem?_append_right (Nat.le_refl _), Nat.sub_self] at hx
    injection hx with hx
    subst hx
    rw [List.take_append_of_le_length (Nat.le_refl _), List.take_length]
    exact he
  · rw [List.getElem?_eq_none (by simp; omega)] at hx
    cases hx
theorem edge_fee {pre : List E3} (he : edgeErr n pre e = 0) : -1048576 ≤ e.2.2 ∧ e.2.2 ≤ 1048576 := by
  obtain ⟨⟨h0, h1⟩, _⟩ := edgeErr_zero he
  obtain ⟨_, _, _, _, h4, h5⟩ := edge_ok he
  obtain ⟨x, y, c⟩ := e
  simp only at h0 h1 h4 h5 ⊢
  apply Classical.byContradiction
  intro hno
  rw [edgeErr_range n pre x y c h0 h1 (by rw [h5, Bool.or_false]; simpa using h4) (by omega)] at he
  cases he
theorem good_zero (hg : goodE n es) : ∀ j k, k + j = es.length → scan n (es.take k) (es.drop k) = 0
  | 0, k, hk => scan_end n es k (by omega)
  | j + 1, k, hk => by
    have he : es[k]? = some es[k] := List.getElem?_eq_getElem (by omega)
    rw [scan_next n es k _ he (hg k _ he)]
    exact good_zero hg j (k + 1) (by omega)
theorem gcheck_good {m : Nat} (hm : m ≤ 10) (hl : es.length ≤ 45) (hg : goodE m es) : gcheck m es = 0 := by
  unfold gcheck
  rw [if_neg (by unfold largeB; simp; omega)]
  have := good_zero hg es.length 0 (by omega)
  simpa using this
/-- The merged list is a graph of one node less. -/
theorem mg_good {m : Nat} {x y : Nat} (hg : goodE ((m + 1 : Nat) : Int) es) (hx : x < m + 1) (hy : y < m + 1) (hxy : x ≠ y) : ∀ k, k ≤ es.length → goodE (m : Int) (mgE (x : Int) (y : Int) (es.take k))
  | 0, _ => fun k e h => by simp [mgE] at h
  | k + 1, hk => by
    have ih := mg_good hg hx hy hxy k (by omega)
    have he : es[k]? = some es[k] := List.getElem?_eq_getElem (by omega)
    rw [mgE_next he]
    generalize es[k] = e at he
    have hz := hg k e he
    obtain ⟨p0, p1, p2, p3, p4, _⟩ := edge_ok hz
    obtain ⟨f0, f1⟩ := edge_fee hz
    unfold mgStep
    split
    · exact ih
    · rename_i hne
      split
      · exact ih
      · rename_i hnear
        refine good_snoc ih (edgeErr_ok _ _ _ _ _ ?_ ?_ ?_ f0 f1)
        · unfold isIn dnZ subZ
          rw [Bool.and_eq_true, decide_eq_true_iff, decide_eq_true_iff]
          split <;> split <;> omega
        · unfold isIn dnZ subZ
          rw [Bool.and_eq_true, decide_eq_true_iff, decide_eq_true_iff]
          split <;> split <;> omega
        · rw [Bool.or_eq_false_iff]
          refine ⟨?_, ?_⟩
          · rw [beq_eq_false_iff_ne]
            intro hh
            exact hne (dnZ_inj (subZ_ne (by omega)) (subZ_ne (by omega)) hh)
          · rw [Bool.not_eq_true] at hnear
            exact hnear
/-- .. and a set of its nodes is free of its edges just if .. -/
theorem mg_loose (t : Nat) {x y : Int} : ∀ (r h : List E3), looseE (r.foldl (mgStep x y) h) t = true ↔ looseE h t = true ∧ ∀ e ∈ r, subZ x y e.1 ≠ subZ x y e.2.1 → ¬ (t.testBit (dnZ y (subZ x y e.1)).toNat = true ∧ t.testBit (dnZ y (subZ x y e.2.1)).toNat = true)
  | [], h => by simp
  | e :: r, h => by
    rw [List.foldl_cons, mg_loose t r]
    have key : looseE (mgStep x y h e) t = true ↔ looseE h t = true ∧ (subZ x y e.1 ≠ subZ x y e.2.1 → ¬ (t.testBit (dnZ y (subZ x y e.1)).toNat = true ∧ t.testBit (dnZ y (subZ x y e.2.1)).toNat = true)) := by
      unfold mgStep
      split
      · rename_i h1
        exact ⟨fun h2 => ⟨h2, fun h3 => absurd h1 h3⟩, fun h2 => h2.1⟩
      · rename_i h1
        split
        · rename_i h2
          refine ⟨fun h3 => ⟨h3, fun _ h4 => ?_⟩, fun h3 => h3.1⟩
          unfold nearI at h2
          obtain ⟨f, hf, hq⟩ := List.any_eq_true.1 h2
          unfold looseE at h3
          have h5 := List.all_eq_true.1 h3 f hf
          unfold bothE at h5
          unfold nearB at hq
          simp only [Bool.or_eq_true, Bool.and_eq_true, beq_iff_eq] at hq
          rcases hq with ⟨q1, q2⟩ | ⟨q1, q2⟩ <;> rw [q1, q2, h4.1, h4.2] at h5 <;> cases h5
        · have hs : looseE (h ++ [(dnZ y (subZ x y e.1), dnZ y (subZ x y e.2.1), e.2.2)]) t = (looseE h t && !(t.testBit (dnZ y (subZ x y e.1)).toNat && t.testBit (dnZ y (subZ x y e.2.1)).toNat)) := by
            unfold looseE bothE
            rw [List.all_append]
            simp
          rw [hs, Bool.and_eq_true, Bool.not_eq_true', Bool.and_eq_false_iff]
          constructor
          · rintro ⟨h2, h3⟩
            refine ⟨h2, fun _ h4 => ?_⟩
            rw [h4.1, h4.2] at h3
            rcases h3 with h3 | h3 <;> cases h3
          · rintro ⟨h2, h3⟩
            refine ⟨h2, ?_⟩
            have h4 := h3 h1
            cases h5 : t.testBit (dnZ y (subZ x y e.1)).toNat with
            | false => exact .inl rfl
            | true =>
              refine .inr ?_
              rw [← Bool.not_eq_true]
              exact fun h6 => h4 ⟨h5, h6⟩
    rw [key]
    simp only [List.mem_cons, forall_eq_or_imp]
    exact and_assoc
end
theorem edgeErr_subE {n : Int} {pre pre' : List E3} {e : E3} (h : edgeErr n pre e = 0) (hs : ∀ x ∈ pre', x ∈ pre) : edgeErr n pre' e = 0 := by
  obtain ⟨_, hm⟩ := edgeErr_zero h
  have hm' : metB pre' e = false := by
    unfold metB at *
    rw [List.any_eq_false] at *
    exact fun x hx => hm x (hs x hx)
  unfold edgeErr at *
  rw [hm] at h
  rw [hm']
  exact h
theorem eraseIdx_getE (es : List E3) (k q : Nat) : (es.eraseIdx k)[q]? = if q < k then es[q]? else es[q + 1]? := by
  rw [List.getElem?_eraseIdx]
theorem good_lessE {n : Int} {es : List E3} (hg : goodE n es) (k : Nat) : goodE n (es.eraseIdx k) := fun q e he => by
  have hsub : ∀ t, (∀ p, p < q → (if p < k then p else p + 1) < t) → ∀ x ∈ (es.eraseIdx k).take q, x ∈ es.take t := fun t ht x hx => by
    obtain ⟨p, hp⟩ := List.getElem?_of_mem hx
    have hpq : p < q := by have := (List.getElem?_eq_some_iff.1 hp).1; rw [List.length_take] at this; omega
    rw [List.getElem?_take, if_pos hpq, eraseIdx_getE] at hp
    have h2 := ht p hpq
    by_cases hpk : p < k
    · rw [if_pos hpk] at hp h2
      exact List.mem_of_getElem? (i := p) (by rw [List.getElem?_take, if_pos h2]; exact hp)
    · rw [if_neg hpk] at hp h2
      exact List.mem_of_getElem? (i := p + 1) (by rw [List.getElem?_take, if_pos h2]; exact hp)
  rw [eraseIdx_getE] at he
  by_cases hqk : q < k
  · rw [if_pos hqk] at he
    exact edgeErr_subE (hg q e he) (hsub q fun p hp => by split <;> omega)
  · rw [if_neg hqk] at he
    exact edgeErr_subE (hg (q + 1) e he) (hsub (q + 1) fun p hp => by split <;> omega)
theorem edge_once {n : Int} {es : List E3} {i j : Nat} {e f : E3} (hg : goodE n es) (hi : es[i]? = some e) (hj : es[j]? = some f) (hij : i ≠ j) : ¬ ((f.1 = e.1 ∧ f.2.1 = e.2.1) ∨ (f.1 = e.2.1 ∧ f.2.1 = e.1)) := by
  have key : ∀ {i j : Nat} {e f : E3}, es[i]? = some e → es[j]? = some f → i < j → ¬ ((f.1 = e.1 ∧ f.2.1 = e.2.1) ∨ (f.1 = e.2.1 ∧ f.2.1 = e.1)) := fun {i j e f} hi hj hij h => by
    obtain ⟨_, _, _, _, _, hm⟩ := edge_ok (hg j f hj)
    have h1 : metB (es.take j) f = true := by
      unfold metB
      rw [List.any_eq_true]
      refine ⟨e, List.mem_of_getElem? (i := i) (by rw [List.getElem?_take, if_pos hij]; exact hi), ?_⟩
      unfold sameB
      simp only [Bool.or_eq_true, Bool.and_eq_true, beq_iff_eq]
      omega
    rw [h1] at hm
    cases hm
  rcases Nat.lt_or_gt_of_ne hij with h | h
  · exact key hi hj h
  · intro hh
    exact key hj hi h (by omega)
/-- WHITNEY's three graphs. -/
theorem merge_p {m i x y : Nat} {c : Int} {es : List E3} (hg : goodE ((m + 1 : Nat) : Int) es) (hi : es[i]? = some ((x : Int), (y : Int), c)) : MergeP m x y (looseE (es.eraseIdx i)) (looseE es) (looseE (mgE x y es)) := by
  obtain ⟨_, p1, _, p3, p4, _⟩ := edge_ok (hg i _ hi)
  simp only at p1 p3 p4
  have hmem : ∀ e, e ∈ es ↔ e = ((x : Int), (y : Int), c) ∨ e ∈ es.eraseIdx i := fun e => by
    rw [List.mem_eraseIdx_iff_getElem?, List.mem_iff_getElem?]
    constructor
    · rintro ⟨k, hk⟩
      by_cases hki : k = i
      · rw [hki, hi] at hk
        injection hk with hk
        exact .inl hk.symm
      · exact .inr ⟨k, hki, hk⟩
    · rintro (rfl | ⟨k, _, hk⟩)
      · exact ⟨i, hi⟩
      · exact ⟨k, hk⟩
  have hnot : ∀ e ∈ es.eraseIdx i, subZ x y e.1 ≠ subZ x y e.2.1 := fun e he hh => by
    obtain ⟨k, hki, hk⟩ := List.mem_eraseIdx_iff_getElem?.1 he
    have h1 := edge_once hg hi hk (Ne.symm hki)
    obtain ⟨_, _, _, _, q4, _⟩ := edge_ok (hg k _ hk)
    simp only at h1
    unfold subZ at hh
    split at hh <;> split at hh <;> omega
  refine ⟨by omega, by omega, by omega, fun s => ?_, fun s t ht hs hb hab => ?_, looseE_zero _⟩
  · rw [loose_iff, loose_iff]
    constructor
    · intro h
      exact ⟨fun e he => h e ((hmem e).2 (.inr he)), by simpa using h _ ((hmem _).2 (.inl rfl))⟩
    · rintro ⟨h1, h2⟩ e he
      rcases (hmem e).1 he with rfl | h3
      · simpa using h2
      · exact h1 e h3
  · have hbit : ∀ v : Nat, v < m + 1 → s.testBit v = t.testBit (dnZ y (subZ x y v)).toNat := fun v hv => by
      by_cases hvy : v = y
      · have e : (dnZ (y : Int) (subZ x y v)).toNat = outN y x := by
          rw [show subZ (x : Int) y v = x from if_pos (by omega)]
          unfold dnZ outN
          split <;> split <;> omega
        rw [e, hvy, hab]
        exact hb x (by omega) (by omega)
      · have e : (dnZ (y : Int) (subZ x y v)).toNat = outN y v := by
          rw [show subZ (x : Int) y v = v from if_neg (by omega)]
          unfold dnZ outN
          split <;> split <;> omega
        rw [e]
        exact hb v hv hvy
    have hbz : ∀ e ∈ es, s.testBit e.1.toNat = t.testBit (dnZ y (subZ x y e.1)).toNat ∧ s.testBit e.2.1.toNat = t.testBit (dnZ y (subZ x y e.2.1)).toNat := fun e he => by
      obtain ⟨q0, q1, q2, q3⟩ := InE.of_good hg e he
      have h1 := hbit e.1.toNat (by omega)
      have h2 := hbit e.2.1.toNat (by omega)
      rw [Int.toNat_of_nonneg q0] at h1
      rw [Int.toNat_of_nonneg q2] at h2
      exact ⟨h1, h2⟩
    refine (mg_loose t es []).trans ?_
    rw [loose_iff (s := s)]
    constructor
    · rintro ⟨_, h⟩ e he
      have he2 := (hmem e).2 (.inr he)
      rw [(hbz e he2).1, (hbz e he2).2]
      exact h e he2 (hnot e he)
    · intro h
      refine ⟨by simp [looseE], fun e he hne => ?_⟩
      rw [← (hbz e he).1, ← (hbz e he).2]
      rcases (hmem e).1 he with rfl | h3
      · exact absurd (by simp [subZ]) hne
      · exact h e h3
end Go.Proofs.Ytpcealcghglopaa
