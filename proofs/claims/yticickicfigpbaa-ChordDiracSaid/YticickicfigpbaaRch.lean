/- Who is linked, and how many parts there are: plain facts that hang on no function of the program. No conditions. -/
import Derived.Test.YticickicfigpbaaAdj
namespace Go.Proofs.Yticickicfigpbaa

/-- Is there a way? -/
def Rch (es : List E3) (i j : Nat) : Prop := ∃ k, wk (adjE es) k i j
theorem Rch.refl (es : List E3) (i : Nat) : Rch es i i := ⟨0, rfl⟩
theorem Rch.symm {es : List E3} {i j : Nat} (h : Rch es i j) : Rch es j i := by obtain ⟨k, hk⟩ := h; exact ⟨k, wk_symm (adjE_symm es) hk⟩
theorem Rch.trans {es : List E3} {i j x : Nat} (h : Rch es i x) (h2 : Rch es x j) : Rch es i j := by
  obtain ⟨k, hk⟩ := h
  obtain ⟨l, hl⟩ := h2
  exact ⟨k + l, wk_trans hk hl⟩
theorem Rch.step {es : List E3} {i j x : Nat} (h : Rch es i x) (h2 : adjE es x j = true) : Rch es i j := h.trans ⟨1, wk_one.2 h2⟩

theorem Rch.lt {m : Nat} {es : List E3} (hg : goodE m es) {i j : Nat} (hi : i < m) (h : Rch es i j) : j < m := by obtain ⟨k, hk⟩ := h; exact wk_lt hg hi hk
def Root (es : List E3) (i : Nat) : Prop := ∀ j, j < i → ¬ Rch es i j
theorem rch_add {es : List E3} {a b : Nat} {c : Int} {i : Nat} : ∀ {n j : Nat}, wk (adjE (es ++ [((a : Int), (b : Int), c)])) n i j → Rch es i j ∨ (Rch es i a ∧ Rch es b j) ∨ (Rch es i b ∧ Rch es a j)
  | 0, _, h => by cases h; exact .inl (Rch.refl es i)
  | n + 1, j, ⟨x, hx, hj⟩ => by
    have hadj : adjE es x j = true ∨ (x = a ∧ j = b) ∨ (x = b ∧ j = a) := by
      unfold adjE at hj ⊢
      rw [any_snoc, Bool.or_eq_true] at hj
      rcases hj with h | h
      · exact .inl h
      · right
        simp only [Bool.or_eq_true, Bool.and_eq_true, beq_iff_eq] at h
        omega
    rcases rch_add hx with h | ⟨h1, h2⟩ | ⟨h1, h2⟩
    · rcases hadj with he | ⟨rfl, rfl⟩ | ⟨rfl, rfl⟩
      · exact .inl (h.step he)
      · exact .inr (.inl ⟨h, Rch.refl es _⟩)
      · exact .inr (.inr ⟨h, Rch.refl es _⟩)
    · rcases hadj with he | ⟨rfl, rfl⟩ | ⟨rfl, rfl⟩
      · exact .inr (.inl ⟨h1, h2.step he⟩)
      · exact .inr (.inl ⟨h1, Rch.refl es _⟩)
      · exact .inl h1
    · rcases hadj with he | ⟨rfl, rfl⟩ | ⟨rfl, rfl⟩
      · exact .inr (.inr ⟨h1, h2.step he⟩)
      · exact .inl h1
      · exact .inr (.inr ⟨h1, Rch.refl es _⟩)

open Classical in
noncomputable def rootsN (m : Nat) (es : List E3) : Nat := (List.range m).countP fun i => decide (Root es i)
theorem countP_one {p q : Nat → Bool} (x : Nat) : ∀ l : List Nat, l.Nodup → (∀ i ∈ l, i ≠ x → p i = true → q i = true) → l.countP p ≤ l.countP q + 1
  | [], _, _ => by simp
  | a :: l, hn, h => by
    rw [List.nodup_cons] at hn
    have hall : ∀ (l : List Nat), (∀ i ∈ l, p i = true → q i = true) → l.countP p ≤ l.countP q := fun l hl => List.countP_mono_left hl
    by_cases hax : a = x
    · have h1 := hall l (fun i hi hp => h i (List.mem_cons_of_mem _ hi) (fun e => hn.1 (by rw [hax, ← e]; exact hi)) hp)
      simp only [List.countP_cons]
      split <;> split <;> omega
    · have ih := countP_one x l hn.2 (fun i hi hne hp => h i (List.mem_cons_of_mem _ hi) hne hp)
      have ha := h a (List.mem_cons_self) hax
      simp only [List.countP_cons]
      by_cases hp : p a = true
      · rw [if_pos hp, if_pos (ha hp)]; omega
      · rw [if_neg hp]; split <;> omega
theorem rootsN_add (m : Nat) (es : List E3) (a b : Nat) (c : Int) : rootsN m es ≤ rootsN m (es ++ [((a : Int), (b : Int), c)]) + 1 := by
  unfold rootsN
  -- the two that may be lost: the roots of a and of b; not both
  by_cases hex : ∃ x, Root es x ∧ ¬ Root (es ++ [((a : Int), (b : Int), c)]) x
  · obtain ⟨x, hx, hnx⟩ := hex
    refine countP_one x _ List.nodup_range (fun i _ hne hp => ?_)
    simp only [decide_eq_true_eq] at hp ⊢
    apply Classical.byContradiction
    intro hni
    have key : ∀ y, Root es y → ¬ Root (es ++ [((a : Int), (b : Int), c)]) y → (Rch es y a ∧ ∃ z, z < y ∧ Rch es b z) ∨ (Rch es y b ∧ ∃ z, z < y ∧ Rch es a z) := fun y hy hny => by
      have : ∃ j, j < y ∧ Rch (es ++ [((a : Int), (b : Int), c)]) y j := by
        apply Classical.byContradiction
        intro hno
        exact hny (fun j hj hr => hno ⟨j, hj, hr⟩)
      obtain ⟨j, hj, k, hk⟩ := this
      rcases rch_add hk with h | ⟨h1, h2⟩ | ⟨h1, h2⟩
      · exact absurd h (hy j hj)
      · exact .inl ⟨h1, j, hj, h2⟩
      · exact .inr ⟨h1, j, hj, h2⟩
    have one : ∀ y y', Root es y → Root es y' → Rch es y y' → y = y' := fun y y' hy hy' hr => by
      rcases Nat.lt_trichotomy y y' with h | h | h
      · exact absurd hr.symm (hy' y h)
      · exact h
      · exact absurd hr (hy y' h)
    rcases key x hx hnx with ⟨xa, z, hz, bz⟩ | ⟨xb, z, hz, az⟩
    · rcases key i hp hni with ⟨ia, _⟩ | ⟨ib, z', hz', az'⟩
      · exact hne (one i x hp hx (ia.trans xa.symm))
      · -- i is the root of b, x that of a: i ≤ z < x ≤ z' < i
        have h1 : ¬ z < i := fun hlt => hp z hlt (ib.trans bz)
        have h2 : ¬ z' < x := fun hlt => hx z' hlt (xa.trans az')
        omega
    · rcases key i hp hni with ⟨ia, z', hz', bz'⟩ | ⟨ib, _⟩
      · have h1 : ¬ z < i := fun hlt => hp z hlt (ia.trans az)
        have h2 : ¬ z' < x := fun hlt => hx z' hlt (xb.trans bz')
        omega
      · exact hne (one i x hp hx (ib.trans xb.symm))
  · refine Nat.le_trans (List.countP_mono_left (fun i _ hp => ?_)) (Nat.le_succ _)
    simp only [decide_eq_true_eq] at hp ⊢
    apply Classical.byContradiction
    intro hni
    exact hex ⟨i, hp, hni⟩
theorem rootsN_nil (m : Nat) : rootsN m [] = m := by
  unfold rootsN
  have : ∀ i ∈ List.range m, (@decide (Root [] i) (Classical.propDecidable _)) = true := fun i _ => by
    simp only [decide_eq_true_eq]
    rintro j hj ⟨k, hk⟩
    cases k with
    | zero => cases hk; omega
    | succ k => obtain ⟨x, _, h⟩ := hk; simp [adjE] at h
  rw [List.countP_eq_length.2 this, List.length_range]
theorem rootsN_take {m : Nat} {es : List E3} (hg : goodE m es) : ∀ k, k ≤ es.length → m ≤ rootsN m (es.take k) + k
  | 0, _ => by rw [List.take_zero, rootsN_nil]; omega
  | k + 1, hk => by
    have ih := rootsN_take hg k (by omega)
    have hx : es[k]? = some es[k] := List.getElem?_eq_getElem (by omega)
    obtain ⟨p0, _, p2, _, _, _⟩ := edge_ok (hg k _ hx)
    rw [List.take_succ_eq_append_getElem (by omega)]
    generalize es[k] = e at p0 p2
    obtain ⟨a, b, c⟩ := e
    simp only at p0 p2
    obtain ⟨a, rfl⟩ := Int.eq_ofNat_of_zero_le p0
    obtain ⟨b, rfl⟩ := Int.eq_ofNat_of_zero_le p2
    have := rootsN_add m (es.take k) a b c
    omega
theorem rootsN_ge {m : Nat} {es : List E3} (hg : goodE m es) : m ≤ rootsN m es + es.length := by
  have := rootsN_take hg es.length (Nat.le_refl _)
  rwa [List.take_length] at this

end Go.Proofs.Yticickicfigpbaa
