/- The sides of a graph, as the program and the reference tell them: plain facts. No conditions. -/
import Derived.Test.YthfgbgmkiggjmabDoorSidesP
import Derived.Test.YthfgbgmkiggjmabDoorUnite
namespace Go.Proofs.YthfgbgmkiggjmabDoor

/-- On which side a node is. -/
noncomputable def sideN (m : Nat) (es : List E3) (k : Nat) : Nat := (distI (adjE es) k (partN m es k)).toNat % 2
noncomputable def sidesL (m : Nat) (es : List E3) : List Int := (List.range m).map fun k => (sideN m es k : Int)
/-- Has an edge both its nodes on one side? -/
noncomputable def clashB (m : Nat) (es : List E3) (e : E3) : Bool := sideN m es e.1.toNat == sideN m es e.2.1.toNat
theorem sideN_lt (m : Nat) (es : List E3) (k : Nat) : sideN m es k < 2 := Nat.mod_lt _ (by decide)
theorem sidesL_length (m : Nat) (es : List E3) : (sidesL m es).length = m := by simp [sidesL]
theorem sidesL_get {m : Nat} {es : List E3} {k : Nat} (h : k < m) : (sidesL m es)[k]? = some (sideN m es k : Int) := by simp [sidesL, h]
theorem edge_adj {es : List E3} {e : E3} {i j : Nat} (h : e ∈ es) (hi : e.1 = (i : Int)) (hj : e.2.1 = (j : Int)) : adjE es i j = true := by
  unfold adjE
  rw [List.any_eq_true]
  exact ⟨e, h, by simp [hi, hj]⟩
theorem part_adj {m : Nat} {es : List E3} (hm : m ≤ 10) (hg : goodE m es) {a b : Nat} (h : adjE es a b = true) : partN m es a = partN m es b := by
  obtain ⟨h1, h2, _⟩ := adjE_lt hg h
  exact (partN_eq hm hg h1 h2).2 ((Rch.refl es a).step h)
theorem side_wk {m : Nat} {es : List E3} (hm : m ≤ 10) (hg : goodE m es) {a : Nat} (h : a < m) : ∃ d, wk (adjE es) d a (partN m es a) ∧ d % 2 = sideN m es a := by
  obtain ⟨k, hk⟩ := partN_rch hm hg h
  rcases distI_cases (adjE es) a (partN m es a) with ⟨d, hd, he⟩ | ⟨hn, _⟩
  · exact ⟨d, hd.1, by unfold sideN; rw [he]; simp⟩
  · obtain ⟨d, _, hd⟩ := dist_of_wk hk
    exact absurd hd (hn d)
/-- An edge within a side: an odd way that comes back. -/
theorem side_clash {m : Nat} {es : List E3} (hm : m ≤ 10) (hg : goodE m es) (h : es.any (clashB m es) = true) : ∃ n v, n % 2 = 1 ∧ wk (adjE es) n v v := by
  rw [List.any_eq_true] at h
  obtain ⟨e, he, hc⟩ := h
  obtain ⟨k, hk⟩ := List.getElem?_of_mem he
  obtain ⟨p0, p1, p2, p3, _, _⟩ := edge_ok (hg k e hk)
  obtain ⟨a, ha⟩ := Int.eq_ofNat_of_zero_le p0
  obtain ⟨b, hb⟩ := Int.eq_ofNat_of_zero_le p2
  have hadj := edge_adj he ha hb
  unfold clashB at hc
  rw [ha, hb] at hc
  simp only [Int.toNat_natCast, beq_iff_eq] at hc
  obtain ⟨h1, h2, _⟩ := adjE_lt hg hadj
  obtain ⟨d1, w1, e1⟩ := side_wk hm hg h1
  obtain ⟨d2, w2, e2⟩ := side_wk hm hg h2
  rw [← part_adj hm hg hadj] at w2
  refine ⟨d1 + (d2 + 1), a, by omega, wk_trans w1 ?_⟩
  refine ⟨b, wk_symm (adjE_symm es) w2, by rw [adjE_symm]; exact hadj⟩
theorem side_fine {m : Nat} {es : List E3} (_hg : goodE m es) (h : es.any (clashB m es) = false) {a b : Nat} (hab : adjE es a b = true) : sideN m es a ≠ sideN m es b := by
  intro he
  have hall : ∀ e ∈ es, clashB m es e = false := fun e hm => by
    cases hc : clashB m es e with
    | false => rfl
    | true => rw [List.any_eq_true.2 ⟨e, hm, hc⟩] at h; cases h
  unfold adjE at hab
  rw [List.any_eq_true] at hab
  obtain ⟨e, hm, h1⟩ := hab
  have h2 := hall e hm
  unfold clashB at h2
  simp only [Bool.or_eq_true, Bool.and_eq_true, beq_iff_eq] at h1
  rcases h1 with ⟨h3, h4⟩ | ⟨h3, h4⟩
  · rw [h3, h4] at h2; simp [he] at h2
  · rw [h3, h4] at h2; simp [he] at h2
/-- Just one of both there is. -/
theorem side_none {m : Nat} {es : List E3} (hg : goodE m es) (h : es.any (clashB m es) = false) {n v : Nat} (ho : n % 2 = 1) : ¬ wk (adjE es) n v v :=
  col_none (c := sideN m es) (fun _ _ hab => side_fine hg h hab) (sideN_lt m es) ho
theorem side_ring {m : Nat} {es : List E3} (hm : m ≤ 10) (hg : goodE m es) (h : es.any (clashB m es) = true) : ∃ n v, 3 ≤ n ∧ n ≤ m ∧ OddLeast (adjE es) n ∧ wk (adjE es) n v v ∧ ∀ y, y < v → ¬ wk (adjE es) n y y := by
  obtain ⟨n, v, h1, h2⟩ := side_clash hm hg h
  obtain ⟨k, u, _, h4, h5, h6⟩ := odd_exists h1 h2
  refine ⟨k, u, odd_ge (fun i => ?_) h4.1 h5, odd_le (fun a b hab => (adjE_lt hg hab).1) h4 h5, h4, h5, h6⟩
  cases hi : adjE es i i with
  | false => rfl
  | true => exact absurd rfl (adjE_lt hg hi).2.2
end Go.Proofs.YthfgbgmkiggjmabDoor
