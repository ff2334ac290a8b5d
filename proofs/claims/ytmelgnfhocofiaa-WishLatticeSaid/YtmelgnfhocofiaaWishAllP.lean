/- All pairings that hold, in their order; of each one on the left the best of them. Plain facts, of no program. -/
import Derived.Test.YtmelgnfhocofiaaWishP
namespace Go.Proofs.Ytmelgnfhocofiaa

/-- Nobody, and everybody. -/
def rngJ (n : Nat) : List Int := (List.range (n + 1)).map fun k : Nat => (k : Int) - 1
theorem mem_rngJ {n : Nat} {x : Int} : x ∈ rngJ n ↔ -1 ≤ x ∧ x < (n : Int) := by
  unfold rngJ
  rw [List.mem_map]
  constructor
  · rintro ⟨k, hk, rfl⟩
    have := List.mem_range.1 hk
    omega
  · rintro ⟨h1, h2⟩
    exact ⟨(x + 1).toNat, List.mem_range.2 (by omega), by omega⟩
def allP (S : List Int → Bool) (n : Nat) : Nat → List Int → List (List Int)
  | 0, pre => if S pre = true then [pre] else []
  | r + 1, pre => (rngJ n).flatMap fun j => allP S n r (pre ++ [j])
section
variable {S : List Int → Bool} {n : Nat}
theorem mem_allP : ∀ {r : Nat} {pre x : List Int}, x ∈ allP S n r pre ↔ S x = true ∧ ∃ t : List Int, x = pre ++ t ∧ t.length = r ∧ ∀ y ∈ t, y ∈ rngJ n
  | 0, pre, x => by
    unfold allP
    constructor
    · intro h
      by_cases hs : S pre = true
      · rw [if_pos hs, List.mem_singleton] at h
        subst h
        exact ⟨hs, [], by simp, rfl, by simp⟩
      · rw [if_neg hs] at h; cases h
    · rintro ⟨h1, t, h2, h3, _⟩
      obtain rfl : t = [] := List.length_eq_zero_iff.1 h3
      rw [List.append_nil] at h2
      subst h2
      rw [if_pos h1]; exact List.mem_singleton.2 rfl
  | r + 1, pre, x => by
    unfold allP
    rw [List.mem_flatMap]
    constructor
    · rintro ⟨j, hj, h⟩
      obtain ⟨h1, t, h2, h3, h4⟩ := mem_allP.1 h
      refine ⟨h1, j :: t, by rw [h2]; simp, by rw [List.length_cons, h3], fun y hy => ?_⟩
      rcases List.mem_cons.1 hy with rfl | hy
      · exact hj
      · exact h4 y hy
    · rintro ⟨h1, t, h2, h3, h4⟩
      cases t with
      | nil => simp at h3
      | cons j t =>
        refine ⟨j, h4 j (List.mem_cons_self ..), mem_allP.2 ⟨h1, t, by rw [h2]; simp, by simpa using h3, fun y hy => h4 y (List.mem_cons_of_mem _ hy)⟩⟩
/-- What leads to none may be left out. -/
theorem allP_none {r : Nat} {pre : List Int} (h : ∀ x : List Int, pre <+: x → S x = false) : allP S n r pre = [] := by
  apply List.eq_nil_iff_forall_not_mem.2
  intro x hx
  obtain ⟨h1, t, h2, _⟩ := mem_allP.1 hx
  rw [h x ⟨t, h2.symm⟩] at h1
  cases h1
end
open Classical in
noncomputable def holdB (n : Nat) (L R : Nat → List Int) (l : List Int) : Bool := decide (HoldP n L R l)
theorem holdB_iff {n : Nat} {L R : Nat → List Int} {l : List Int} : holdB n L R l = true ↔ HoldP n L R l := by unfold holdB; simp
noncomputable def allW (n : Nat) (L R : Nat → List Int) : List (List Int) := allP (holdB n L R) n n []
section
variable {n : Nat} {L R : Nat → List Int} {l : List Int} {i : Nat}
theorem mem_allW : l ∈ allW n L R ↔ HoldP n L R l := by
  unfold allW
  rw [mem_allP, holdB_iff]
  constructor
  · exact fun h => h.1
  · intro h
    refine ⟨h, l, rfl, h.pair.len, fun y hy => ?_⟩
    obtain ⟨k, hk⟩ := List.getElem?_of_mem hy
    have hl := (List.getElem?_eq_some_iff.1 hk).1
    have hg : l.getD k (-1) = y := by rw [List.getD_eq_getElem?_getD, hk]; rfl
    have := h.pair.rng k (by rw [← h.pair.len]; exact hl)
    rw [hg] at this
    rw [mem_rngJ]
    omega
theorem allW_ne (W : WishOK n L R) : allW n L R ≠ [] := by
  obtain ⟨l, hl⟩ := best_ex W
  intro h
  have := mem_allW.2 hl.1
  rw [h] at this
  cases this
/-- One that takes somebody who is no wish of either, or was had already, leads to none. -/
theorem hold_taken {pre x : List Int} {j : Int} (H : HoldP n L R x) (hp : pre ++ [j] <+: x) (h0 : 0 ≤ j) : j ∉ pre ∧ j ∈ L pre.length ∧ (pre.length : Int) ∈ R j.toNat := by
  obtain ⟨t, rfl⟩ := hp
  have hlen := H.pair.len
  simp only [List.length_append, List.length_cons, List.length_nil] at hlen
  have hg : (pre ++ [j] ++ t).getD pre.length (-1) = j := by
    rw [List.getD_eq_getElem?_getD, List.append_assoc, List.getElem?_append_right (Nat.le_refl _), Nat.sub_self]; rfl
  have hm := H.may pre.length (by omega) (by rw [hg]; exact h0)
  rw [hg] at hm
  refine ⟨fun hj => ?_, hm⟩
  obtain ⟨k, hk⟩ := List.getElem?_of_mem hj
  have hkl := (List.getElem?_eq_some_iff.1 hk).1
  have hgk : (pre ++ [j] ++ t).getD k (-1) = j := by
    rw [List.getD_eq_getElem?_getD, List.append_assoc, List.getElem?_append_left hkl, hk]; rfl
  have := H.pair.one k pre.length (by omega) (by omega) (by rw [hgk]; exact h0) (by rw [hgk, hg])
  omega
/-- Of each one on the left the best of some. -/
def bestF (l : List Int) (xs : List Int) (b : Int) : Int := xs.foldl (fun b x => if ahd l x < ahd l b then x else b) b
theorem bestF_spec (l : List Int) : ∀ (xs : List Int) (b : Int), (bestF l xs b = b ∨ bestF l xs b ∈ xs) ∧ ahd l (bestF l xs b) ≤ ahd l b ∧ ∀ x ∈ xs, ahd l (bestF l xs b) ≤ ahd l x
  | [], b => ⟨.inl rfl, Nat.le_refl _, by simp⟩
  | y :: xs, b => by
    have e : bestF l (y :: xs) b = bestF l xs (if ahd l y < ahd l b then y else b) := rfl
    rw [e]
    obtain ⟨h1, h2, h3⟩ := bestF_spec l xs (if ahd l y < ahd l b then y else b)
    by_cases hb : ahd l y < ahd l b
    · rw [if_pos hb] at h1 h2 h3 ⊢
      refine ⟨.inr ?_, by omega, fun x hx => ?_⟩
      · rcases h1 with h1 | h1
        · rw [h1]; exact List.mem_cons_self ..
        · exact List.mem_cons_of_mem _ h1
      · rcases List.mem_cons.1 hx with rfl | hx
        · exact h2
        · exact h3 x hx
    · rw [if_neg hb] at h1 h2 h3 ⊢
      refine ⟨h1.imp id fun h => List.mem_cons_of_mem _ h, h2, fun x hx => ?_⟩
      rcases List.mem_cons.1 hx with rfl | hx
      · omega
      · exact h3 x hx
/-- It is what the best for the left has. -/
theorem bestF_best (W : WishOK n L R) {l0 : List Int} (HB : BestL n L R l0) (hi : i < n) : bestF (L i) ((allW n L R).map fun l => l.getD i (-1)) (-1) = l0.getD i (-1) := by
  obtain ⟨h1, h2, h3⟩ := bestF_spec (L i) ((allW n L R).map fun l => l.getD i (-1)) (-1)
  have hle := h3 _ (List.mem_map.2 ⟨l0, mem_allW.2 HB.1, rfl⟩)
  generalize bestF (L i) ((allW n L R).map fun l => l.getD i (-1)) (-1) = b at *
  have hge : ahd (L i) (l0.getD i (-1)) ≤ ahd (L i) b := by
    rcases h1 with rfl | h1
    · rw [ahd_none W hi]; exact ahd_le _ _
    · obtain ⟨l, hl, rfl⟩ := List.mem_map.1 h1
      exact HB.2 l (mem_allW.1 hl) i hi
  by_cases h0 : 0 ≤ l0.getD i (-1)
  · exact (ahd_inj (HB.1.may i hi h0).1 (by omega)).symm
  · have e0 : l0.getD i (-1) = -1 := by have := HB.1.pair.rng i hi; omega
    rcases h1 with rfl | h1
    · exact e0.symm
    · obtain ⟨l, hl, rfl⟩ := List.mem_map.1 h1
      have hl := mem_allW.1 hl
      rcases hl.pair.rng i hi with h4 | h4
      · rw [h4, e0]
      · have h5 := ahd_lt.2 (hl.may i hi h4.1).1
        rw [e0, ahd_none W hi] at hge
        omega
end
end Go.Proofs.Ytmelgnfhocofiaa
