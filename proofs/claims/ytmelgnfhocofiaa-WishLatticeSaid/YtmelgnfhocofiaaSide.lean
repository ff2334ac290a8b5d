/- A slice of slices of integers that came in: how it is read; with room and bounds. -/
import Derived.Test.YtmelgnfhocofiaaRows2
import Derived.Laws.AppendOwnNone
import Derived.Lib.AppendZeros
namespace Go.Proofs.Ytmelgnfhocofiaa
open Go.RowKit

structure SideAt (w : World) (B : Nat) (A : Option Addr) (n c : Nat) (Ls : List (List Int)) : Prop where
  len : Ls.length = n
  nil : A = none → n = 0 ∧ c = 0
  le : n ≤ c
  big : c ≤ maxLen
  at_ : 0 < n → ∃ b off, A = some ⟨b, off, none⟩ ∧ b < B ∧ ∀ (i : Nat) (xs : List Int), Ls[i]? = some xs → ∃ A' c', w.cell? ⟨b, off + i, none⟩ = some (.slice A' xs.length c') ∧ IntsAt w B A' xs.length xs ∧ xs.length ≤ c' ∧ c' ≤ maxLen
section
variable {w w' : World} {B B' n c : Nat} {A : Option Addr} {Ls : List (List Int)}
theorem SideAt.keep (h : SideAt w B A n c Ls) (hk : ∀ p : Addr, p.block < B → w'.cell? p = w.cell? p) : SideAt w' B A n c Ls :=
  ⟨h.len, h.nil, h.le, h.big, fun hn => by
    obtain ⟨b, off, e, hb, hc⟩ := h.at_ hn
    refine ⟨b, off, e, hb, fun i x hx => ?_⟩
    obtain ⟨A', c', h1, h2, h3⟩ := hc i x hx
    exact ⟨A', c', (hk _ hb).trans h1, h2.keep hk, h3⟩⟩
theorem SideAt.more (h : SideAt w B A n c Ls) (hB : B ≤ B') : SideAt w B' A n c Ls :=
  ⟨h.len, h.nil, h.le, h.big, fun hn => by
    obtain ⟨b, off, e, hb, hc⟩ := h.at_ hn
    refine ⟨b, off, e, by omega, fun i x hx => ?_⟩
    obtain ⟨A', c', h1, h2, h3⟩ := hc i x hx
    exact ⟨A', c', h1, h2.more hB, h3⟩⟩
theorem SideAt.below (h : SideAt w B A n c Ls) (hb : Below B w w') : SideAt w' B A n c Ls := h.keep fun _ hp => hb.cell hp
theorem SideAt.go_ (h : SideAt w w.heap.size A n c Ls) (hb : Below w.heap.size w w') : SideAt w' w'.heap.size A n c Ls := (h.below hb).more hb.size
theorem SideAt.drewN (h : SideAt w B A n c Ls) (k : Nat) : SideAt (w.drewN k) B A n c Ls := ⟨h.len, h.nil, h.le, h.big, h.at_⟩
theorem SideAt.drew (h : SideAt w B A n c Ls) : SideAt w.drew B A n c Ls := ⟨h.len, h.nil, h.le, h.big, h.at_⟩
theorem SideAt.get {k : Nat} (h : SideAt w B A n c Ls) (hk : k < n) : ∃ b off xs A' c', A = some ⟨b, off, none⟩ ∧ b < B ∧ Ls[k]? = some xs ∧ w.cell? ⟨b, off + k, none⟩ = some (.slice A' xs.length c') ∧ IntsAt w B A' xs.length xs ∧ xs.length ≤ c' ∧ c' ≤ maxLen := by
  obtain ⟨b, off, e, hb, hc⟩ := h.at_ (by omega)
  have hl : k < Ls.length := by have := h.len; omega
  obtain ⟨A', c', h1, h2, h3, h4⟩ := hc k _ (List.getElem?_eq_getElem hl)
  exact ⟨b, off, _, A', c', e, hb, List.getElem?_eq_getElem hl, h1, h2, h3, h4⟩
/-- The cells as values. -/
theorem SideAt.vals (h : SideAt w B A n c Ls) : ∃ vs : List Value, vs.length = n ∧ (∀ u ∈ vs, u.oneCell' = true) ∧ (∀ ad, A = some ad → ∀ j u, vs[j]? = some u → w.cell? (ad.add j) = some u) ∧
    ∀ (i : Nat) (xs : List Int), Ls[i]? = some xs → ∃ A' c', vs[i]? = some (.slice A' xs.length c') ∧ IntsAt w B A' xs.length xs ∧ xs.length ≤ c' ∧ c' ≤ maxLen := by
  rcases Nat.eq_zero_or_pos n with h0 | h0
  · refine ⟨[], by simp [h0], by simp, fun _ _ j u hu => by simp at hu, fun i xs hi => ?_⟩
    have hl := h.len
    rw [h0, List.length_eq_zero_iff] at hl
    subst hl
    simp at hi
  · obtain ⟨b, off, e, hb, hc⟩ := h.at_ h0
    have hall : ∀ i, ∃ v : Value, i < n → ∃ xs A' c', Ls[i]? = some xs ∧ v = .slice A' xs.length c' ∧ w.cell? ⟨b, off + i, none⟩ = some v ∧ IntsAt w B A' xs.length xs ∧ xs.length ≤ c' ∧ c' ≤ maxLen := fun i => by
      by_cases hi : i < n
      · have hl : i < Ls.length := by have := h.len; omega
        obtain ⟨A', c', h1, h2, h3, h4⟩ := hc i _ (List.getElem?_eq_getElem hl)
        exact ⟨_, fun _ => ⟨_, A', c', List.getElem?_eq_getElem hl, rfl, h1, h2, h3, h4⟩⟩
      · exact ⟨.slice none 0 0, fun h => absurd h hi⟩
    obtain ⟨f, hf⟩ := Classical.axiomOfChoice hall
    have hget : ∀ i, i < n → ((List.range n).map f)[i]? = some (f i) := fun i hi => by rw [List.getElem?_map, List.getElem?_range hi]; rfl
    refine ⟨(List.range n).map f, by simp, fun u hu => ?_, fun ad ha j u hu => ?_, fun i xs hi => ?_⟩
    · obtain ⟨i, hi, rfl⟩ := List.mem_map.1 hu
      obtain ⟨xs, A', c', _, h2, _⟩ := hf i (List.mem_range.1 hi)
      rw [h2]; rfl
    · rw [e] at ha
      injection ha with ha
      subst ha
      have hj : j < n := by have := (List.getElem?_eq_some_iff.1 hu).1; simpa using this
      rw [hget j hj] at hu
      injection hu with hu
      subst hu
      obtain ⟨xs, A', c', _, _, h3, _⟩ := hf j hj
      rw [Go.WideShapes.add_plain]; exact h3
    · have hin : i < n := by have := (List.getElem?_eq_some_iff.1 hi).1; rw [h.len] at this; exact this
      obtain ⟨xs', A', c', h1, h2, _, h4⟩ := hf i hin
      obtain rfl : xs' = xs := by rw [h1] at hi; injection hi
      exact ⟨A', c', by rw [hget i hin, h2], h4⟩
end
end Go.Proofs.Ytmelgnfhocofiaa
