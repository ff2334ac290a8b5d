/- MENGER in words: the first of the smallest walls has as many members as there are ways apart. -/
import Derived.Test.YtmelemjngnadpaaDoorZRefWayWall
import Derived.Test.YtmelemjngnadpaaDoorZb2
namespace Go.Proofs.YtmelemjngnadpaaDoor
theorem sizeTo_bits (s : Nat) : ∀ k, sizeTo s k = sizeP (fun i => s.testBit i) k
  | 0 => rfl
  | k + 1 => by rw [sizeTo_succ, sizeTo_bits s k, sizeP_succ]
theorem sizeTo_far {s n : Nat} (h : s < 2 ^ n) : ∀ d, sizeTo s (n + d) = sizeTo s n
  | 0 => rfl
  | d + 1 => by
    have hb : s.testBit (n + d) = false := Nat.testBit_lt_two_pow (Nat.lt_of_lt_of_le h (Nat.pow_le_pow_right (by decide) (by omega)))
    rw [show n + (d + 1) = (n + d) + 1 by omega, sizeTo_succ, sizeTo_far h d, hb]; rfl
theorem sizeW_bits {s n : Nat} (hn : n ≤ 32) (h : s < 2 ^ n) : sizeW s = sizeP (fun i => s.testBit i) n := by
  have h1 : sizeW s = sizeTo s (n + (32 - n)) := by rw [show n + (32 - n) = 32 by omega]; rfl
  rw [h1, sizeTo_far h, sizeTo_bits]
theorem LeastW.eq {P : Nat → Prop} {f : Nat → Nat} {k x y : Nat} (hx : LeastW P f k x true) (hy : LeastW P f k y true) : x = y := by
  obtain ⟨a1, a2, a3, a4⟩ := hx.some rfl
  obtain ⟨b1, b2, b3, b4⟩ := hy.some rfl
  have h1 := a3 y b1 b2
  have h2 := b3 x a1 a2
  rcases Nat.lt_trichotomy x y with h | h | h
  · have := b4 x h a2; omega
  · exact h
  · have := a4 y h b2; omega
section
variable {n a b : Nat} {es : List E3}
theorem okW_wall (hg : goodE n es) {u : Nat} (hu : u < 2 ^ n) : OkW es a b u ↔ u.testBit a = false ∧ u.testBit b = false ∧ WallP (adjE es) n a b (fun x => u.testBit x) := by
  unfold OkW
  constructor
  · rintro ⟨h1, h2, h3⟩
    exact ⟨h1, h2, (parted_wall hg hu h1 h2).1 (partedB_iff.1 h3)⟩
  · rintro ⟨h1, h2, h3⟩
    exact ⟨h1, h2, partedB_iff.2 ((parted_wall hg hu h1 h2).2 h3)⟩
/-- A wall has a word. -/
theorem wall_okW (hg : goodE n es) {W : Nat → Bool} (hW : WallP (adjE es) n a b W) : ∃ u, u < 2 ^ n ∧ OkW es a b u ∧ sizeP (fun i => u.testBit i) n = sizeP W n := by
  obtain ⟨u, hu, hbit⟩ := word_ex W n
  have hout : ∀ x, n ≤ x → u.testBit x = false := fun x hx => Nat.testBit_lt_two_pow (Nat.lt_of_lt_of_le hu (Nat.pow_le_pow_right (by omega) hx))
  have hall : ∀ x, W x = u.testBit x := fun x => by
    by_cases hx : x < n
    · exact (hbit x hx).symm
    · rw [hout x (by omega)]
      cases g : W x with
      | false => rfl
      | true => exact absurd (hW.mem x g).1 hx
  have hz : ∀ x, (x = a ∨ x = b) → u.testBit x = false := fun x hx => by
    rw [← hall]
    cases g : W x with
    | false => rfl
    | true =>
      obtain ⟨_, g1, g2⟩ := hW.mem x g
      rcases hx with e | e
      · exact absurd e g1
      · exact absurd e g2
  exact ⟨u, hu, (okW_wall hg hu).2 ⟨hz a (.inl rfl), hz b (.inr rfl), hW.congr hall⟩, sizeP_congr n fun i _ => (hall i).symm⟩
theorem adjE_far (hg : goodE n es) : ∀ i j, adjE es i j = true → i < n ∧ j < n ∧ i ≠ j := fun _ _ h => adjE_lt hg h
/-- The first of the smallest walls: it is one, and has as many members as any ways apart that a wall shows to be the most. -/
theorem least_wall (hg : goodE n es) (hn : n ≤ 10) (ha : a < n) (hb : b < n) (hab : a ≠ b) (hno : adjE es a b = false) {bl : Nat} {fd : Bool} (H : LeastW (OkW es a b) sizeW (2 ^ n) bl fd) :
    fd = true ∧ bl < 2 ^ n ∧ OkW es a b bl ∧ ∀ (L : List (List Nat)) (W : Nat → Bool), (∀ l, l ∈ L → WayL (adjE es) a b l) → ApartL a b L → WallP (adjE es) n a b W → sizeP W n ≤ L.length → sizeW bl = L.length := by
  obtain ⟨L0, W0, h1, h2, h3, h4⟩ := menger hab ha hb hno (adjE_far hg)
  obtain ⟨u0, hu0, ho0, hs0⟩ := wall_okW hg h3
  have hfd : fd = true := by
    cases hfd : fd with
    | true => rfl
    | false => exact absurd ho0 ((H.none hfd).2 u0 hu0)
  obtain ⟨g1, g2, g3, _⟩ := H.some hfd
  refine ⟨hfd, g1, g2, fun L W k1 k2 k3 k4 => ?_⟩
  obtain ⟨u, hu, ho, hs⟩ := wall_okW hg k3
  have e1 := g3 u hu ho
  rw [sizeW_bits (by omega) hu, hs] at e1
  have e2 := ((okW_wall hg g1).1 g2).2.2.ge k1 k2
  rw [← sizeW_bits (by omega) g1] at e2
  omega
end
end Go.Proofs.YtmelemjngnadpaaDoor
