/- Wishes that came in, opened: two slices of slices of integers. -/
import Derived.Test.YtmelgnfhocofiaaOpenSet
import Derived.Test.YtmelgnfhocofiaaSide
namespace Go.Proofs.Ytmelgnfhocofiaa
open Go.ChangeShapes Go.WideShapes Go.ChangeAt Go.RowKit Go.Joins Go.Deep

set_option maxRecDepth 100000 in
theorem recWish : Try.prog.readableRec 24 = true := by kernel_rfl
set_option maxRecDepth 100000 in
theorem rowWish : (24 : TypeId) < Try.prog.types.size := of_decide_eq_true (by kernel_rfl)
set_option maxRecDepth 100000 in
theorem cellsWish : Try.prog.cellsOf 24 = 2 := by kernel_rfl
set_option maxRecDepth 100000 in
theorem cellsInts : Try.prog.cellsOf 28 = 1 := by kernel_rfl
section
variable {H : Type} {enc : TypeId × Value → H} {W : World} {base : Nat} {spare : Nat → Bool} {held : Bool}
set_option maxRecDepth 100000 in
theorem ints_of {n : Nat} {v : Value} {x : DataW H × List MemPlace} (h : DataW.trod enc Try.prog W base spare held n 28 [v] = some x) :
    ∃ (A : Option Addr) (cap : Nat) (xs : List Int), v = .slice A xs.length cap ∧ IntsAt W W.heap.size A xs.length xs ∧ xs.length ≤ cap ∧ cap ≤ maxLen := by
  rcases open_ints Try.underlying28 Try.underlying3 cellsInt h with ⟨hcs, _⟩ | ⟨a, len, cap, zs, hcs, _, hl, hm, hz, _, hcell, _⟩
  · simp only [List.cons.injEq, and_true] at hcs
    subst hcs
    exact ⟨none, 0, [], rfl, IntsAt.nil_ _ _ _, Nat.le_refl _, Nat.zero_le _⟩
  · simp only [List.cons.injEq, and_true] at hcs
    subst hcs
    have hzl : len ≤ zs.length := by rw [hz]; split <;> omega
    have hlen : (zs.take len).length = len := by rw [List.length_take]; omega
    refine ⟨some a, cap, zs.take len, by rw [hlen], ⟨rfl, fun hn => ?_⟩, by omega, hm⟩
    rw [hlen] at hn
    have hz0 := hcell 0 (by omega)
    obtain ⟨b, off, spot⟩ := a
    have hspot : spot = none := by simpa [Addr.add] using World.cell?_spot hz0
    subst hspot
    have hb : b < W.heap.size := by
      rcases Nat.lt_or_ge b W.heap.size with h | h
      · exact h
      · simp [World.cell?, Addr.add, Array.getElem?_eq_none h] at hz0
    refine ⟨b, off, rfl, hb, fun i x hx => ?_⟩
    obtain ⟨h1, h2⟩ := List.getElem?_eq_some_iff.1 hx
    rw [List.length_take] at h1
    rw [List.getElem_take] at h2
    have := hcell i (by omega)
    rw [add_plain, List.getD_eq_getElem?_getD, List.getElem?_eq_getElem (by omega), Option.getD_some, h2] at this
    exact this
set_option maxRecDepth 100000 in
theorem side_of {n : Nat} {v : Value} {x : DataW H × List MemPlace} (h : DataW.trod enc Try.prog W base spare held n 22 [v] = some x) :
    ∃ (A : Option Addr) (len cap : Nat) (Ls : List (List Int)), v = .slice A len cap ∧ SideAt W W.heap.size A len cap Ls := by
  rcases open_slice Try.underlying22 h with ⟨h0, _⟩ | ⟨a, len, cap, m, k, D, Pl, hcs, _, hl, hcm, hmm, _, hi⟩
  · simp only [List.cons.injEq, and_true] at h0
    subst h0
    exact ⟨none, 0, 0, [], rfl, rfl, fun _ => ⟨rfl, rfl⟩, Nat.le_refl _, Nat.zero_le _, fun h => absurd h (by omega)⟩
  · simp only [List.cons.injEq, and_true] at hcs
    subst hcs
    have hlm : len ≤ m := by rw [hmm]; split <;> omega
    have hall : ∀ i, ∃ xs : List Int, i < len → ∃ A' c', W.cell? (a.add i) = some (.slice A' xs.length c') ∧ IntsAt W W.heap.size A' xs.length xs ∧ xs.length ≤ c' ∧ c' ≤ maxLen := fun i => by
      by_cases hlt : i < len
      · obtain ⟨cs', hc, ht⟩ := hi i (by omega)
        rw [cellsInts, Nat.mul_one] at hc
        obtain ⟨_, hcl, hat⟩ := World.cells?_some hc
        match cs', hcl, hat, ht with
        | [v'], _, hat, ht =>
          obtain ⟨A', c', xs, rfl, g1, g2, g3⟩ := ints_of ht
          refine ⟨xs, fun _ => ⟨A', c', ?_, g1, g2, g3⟩⟩
          have := hat 0 (by omega)
          simpa [Go.Deep.add_add] using this
      · exact ⟨[], fun h => absurd h hlt⟩
    obtain ⟨f, hf⟩ := Classical.axiomOfChoice hall
    refine ⟨some a, len, cap, (List.range len).map f, rfl, by simp, (fun h => by cases h), hl, hcm, fun hn => ?_⟩
    obtain ⟨_, _, hz, _⟩ := hf 0 hn
    obtain ⟨b, off, spot⟩ := a
    have hspot : spot = none := by simpa [Addr.add] using World.cell?_spot hz
    subst hspot
    have hb : b < W.heap.size := by
      rcases Nat.lt_or_ge b W.heap.size with h | h
      · exact h
      · simp [World.cell?, Addr.add, Array.getElem?_eq_none h] at hz
    refine ⟨b, off, rfl, hb, fun i xs hx => ?_⟩
    obtain ⟨hil, hie⟩ := List.getElem?_eq_some_iff.1 hx
    simp only [List.length_map, List.length_range] at hil
    simp only [List.getElem_map, List.getElem_range] at hie
    subst hie
    obtain ⟨A', c', h1, h2⟩ := hf i hil
    rw [Go.WideShapes.add_plain] at h1
    exact ⟨A', c', h1, h2⟩
set_option maxRecDepth 100000 in
theorem open_wishes {r : Reach} {b0 : Nat} {v : Value} {d : DataW H} {p : List MemPlace} (hv : Value.okWide Try.prog W r b0 24 v) (h : DataW.Trod enc Try.prog W base spare held 24 v d p) :
    ∃ (A1 : Option Addr) (n1 c1 : Nat) (A2 : Option Addr) (n2 c2 : Nat) (Ls Rs : List (List Int)), v = .agg #[.slice A1 n1 c1, .slice A2 n2 c2] ∧ SideAt W W.heap.size A1 n1 c1 Ls ∧ SideAt W W.heap.size A2 n2 c2 Rs := by
  obtain ⟨c0, c1, y0, y1, m, rfl, _, _, hy0, hy1⟩ := open_agg2 Try.underlying24 (by kernel_rfl) cellsWish hv h
  obtain ⟨A1, n1, k1, Ls, rfl, hS1⟩ := side_of hy0
  obtain ⟨A2, n2, k2, Rs, rfl, hS2⟩ := side_of hy1
  exact ⟨A1, n1, k1, A2, n2, k2, Ls, Rs, rfl, hS1, hS2⟩
end
end Go.Proofs.Ytmelgnfhocofiaa
