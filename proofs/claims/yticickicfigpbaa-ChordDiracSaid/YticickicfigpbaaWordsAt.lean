/- Slices of words of 32 bits that are read; powers of two as words. No conditions. -/
import Derived.Test.YticickicfigpbaaWords
import Derived.Test.YticickicfigpbaaRows2
namespace Go.Proofs.Yticickicfigpbaa
open Go.RowKit

/-- A slice of words reads as a list, below block B. -/
def WordsAt (w : World) (B : Nat) (A : Option Addr) (n : Nat) (xs : List Nat) : Prop :=
  xs.length = n ∧ (0 < n → ∃ b off, A = some ⟨b, off, none⟩ ∧ b < B ∧ ∀ i x : Nat, xs[i]? = some x → w.cell? ⟨b, off + i, none⟩ = some (.int .u32 (x : Int)))
section
variable {w w' : World} {B B' n : Nat} {A : Option Addr} {xs : List Nat}
theorem WordsAt.keep (h : WordsAt w B A n xs) (hk : ∀ p : Addr, p.block < B → w'.cell? p = w.cell? p) : WordsAt w' B A n xs :=
  ⟨h.1, fun hn => by
    obtain ⟨b, off, e, hb, hc⟩ := h.2 hn
    exact ⟨b, off, e, hb, fun i x hx => (hk _ hb).trans (hc i x hx)⟩⟩
theorem WordsAt.more (h : WordsAt w B A n xs) (hB : B ≤ B') : WordsAt w B' A n xs :=
  ⟨h.1, fun hn => by
    obtain ⟨b, off, e, hb, hc⟩ := h.2 hn
    exact ⟨b, off, e, by omega, hc⟩⟩
theorem WordsAt.below (h : WordsAt w B A n xs) (hb : Below B w w') : WordsAt w' B A n xs := h.keep fun _ hp => hb.cell hp
theorem WordsAt.go_ (h : WordsAt w w.heap.size A n xs) (hb : Below w.heap.size w w') : WordsAt w' w'.heap.size A n xs := (h.below hb).more hb.size
theorem WordsAt.at_ {k : Nat} (h : WordsAt w B A n xs) (hk : k < n) : ∃ b off, A = some ⟨b, off, none⟩ ∧ b < B ∧ w.cell? ⟨b, off + k, none⟩ = some (.int .u32 ((xs.getD k 0 : Nat) : Int)) := by
  obtain ⟨b, off, e, hb, hc⟩ := h.2 (by omega)
  have hl : k < xs.length := by have := h.1; omega
  refine ⟨b, off, e, hb, ?_⟩
  rw [hc k _ (List.getElem?_eq_getElem hl), List.getD_eq_getElem?_getD, List.getElem?_eq_getElem hl]
  rfl
end

theorem pow_mod (i : Nat) (h : 2 ^ i < 4294967296) : (2 : Int) ^ i % 4294967296 = ((2 ^ i : Nat) : Int) := by
  rw [show (2 : Int) ^ i = ((2 ^ i : Nat) : Int) by simp]
  exact Int.emod_eq_of_lt (Int.natCast_nonneg _) (Int.ofNat_lt.2 h)
def u32V (x : Nat) : Value := .int .u32 (x : Int)
theorem WordsAt.of_row {w : World} {B g : Nat} {t : TypeId} {xs : List Nat} (h : RowOf w g t (xs.map u32V)) (hg : g < B) : WordsAt w B (some ⟨g, 0, none⟩) xs.length xs :=
  ⟨rfl, fun _ => ⟨g, 0, rfl, hg, fun i x hx => by rw [Nat.zero_add]; exact h.cell (by rw [List.getElem?_map, hx]; rfl)⟩⟩

section
variable {w w' : World} {B n : Nat} {A : Option Addr} {xs : List Nat}
theorem WordsAt.drewN (h : WordsAt w B A n xs) (k : Nat) : WordsAt (w.drewN k) B A n xs := h
/-- What lies behind the first k of a slice. -/
theorem WordsAt.drop_ {b off k : Nat} (h : WordsAt w B (some ⟨b, off, none⟩) n xs) (hk : k ≤ n) : WordsAt w B (some ⟨b, off + k, none⟩) (n - k) (xs.drop k) := by
  refine ⟨by rw [List.length_drop, h.1], fun hn => ?_⟩
  obtain ⟨b', off', e, hb, hc⟩ := h.2 (by omega)
  injection e with e
  injection e with e1 e2
  subst e1 e2
  refine ⟨b, off + k, rfl, hb, fun i x hx => ?_⟩
  rw [List.getElem?_drop] at hx
  have := hc (k + i) x hx
  rw [Nat.add_assoc]
  exact this
end
theorem shr_and_one (s i : Nat) (hs : s < 4294967296) : bits .and .u32 ((s / 2 ^ i : Nat) : Int) 1 = if s.testBit i = true then 1 else 0 := by
  have h0 : s / 2 ^ i < 4294967296 := Nat.lt_of_le_of_lt (Nat.div_le_self _ _) hs
  have := and_u32 (s / 2 ^ i) 1 h0 (by omega)
  rw [show ((1 : Nat) : Int) = 1 from rfl] at this
  rw [this, Nat.and_one_is_mod, Nat.testBit_eq_decide_div_mod_eq]
  by_cases h : s / 2 ^ i % 2 = 1
  · simp [h]
  · have h2 : s / 2 ^ i % 2 = 0 := by omega
    simp [h2]
theorem shr_bit (s i : Nat) (hs : s < 4294967296) : (bits .and .u32 ((s : Int) / 2 ^ i) 1 == 1) = s.testBit i := by
  have e : (s : Int) / 2 ^ i = ((s / 2 ^ i : Nat) : Int) := by simp
  rw [e, shr_and_one s i hs]
  cases s.testBit i <;> rfl
theorem and_pow_ne (s i : Nat) : (s &&& 2 ^ i ≠ 0) ↔ s.testBit i = true := by
  constructor
  · intro h
    cases hb : s.testBit i with
    | true => rfl
    | false =>
      exfalso; apply h
      apply Nat.eq_of_testBit_eq
      intro j
      rw [Nat.testBit_and, Nat.testBit_two_pow, Nat.zero_testBit]
      by_cases hj : i = j
      · subst hj; rw [hb]; rfl
      · simp [hj]
  · intro hb h
    have h1 : (s &&& 2 ^ i).testBit i = true := by rw [Nat.testBit_and, Nat.testBit_two_pow, hb]; simp
    rw [h, Nat.zero_testBit] at h1; cases h1
end Go.Proofs.Yticickicfigpbaa
