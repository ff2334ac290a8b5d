/- The reference's Bit. -/
import Derived.Test.YthnchnamdoobeaaWordsAt
namespace Go.Proofs.Ythnchnamdoobeaa
open Go.RowKit

def bitC (u z : Int) : Bool := bits BinOp.and IntKind.u32 u ((2 ^ z.toNat : Nat) : Int) != 0
set_option maxRecDepth 100000 in
set_option maxHeartbeats 4000000 in
theorem bit_any (u z : Int) (h0 : 0 ≤ z) (h1 : z < 32) (W : World) : Calls Try.prog 29 #[.int .u32 u, .int .i64 z] W fun e w' => e = .returned (.bool (bitC u z)) ∧ w' = W := by
  rcases (show z = 0 ∨ z = 1 ∨ z = 2 ∨ z = 3 ∨ z = 4 ∨ z = 5 ∨ z = 6 ∨ z = 7 ∨ z = 8 ∨ z = 9 ∨ z = 10 ∨ z = 11 ∨ z = 12 ∨ z = 13 ∨ z = 14 ∨ z = 15 ∨ z = 16 ∨ z = 17 ∨ z = 18 ∨ z = 19 ∨ z = 20 ∨ z = 21 ∨ z = 22 ∨ z = 23 ∨ z = 24 ∨ z = 25 ∨ z = 26 ∨ z = 27 ∨ z = 28 ∨ z = 29 ∨ z = 30 ∨ z = 31 by omega) with rfl | rfl | rfl | rfl | rfl | rfl | rfl | rfl | rfl | rfl | rfl | rfl | rfl | rfl | rfl | rfl | rfl | rfl | rfl | rfl | rfl | rfl | rfl | rfl | rfl | rfl | rfl | rfl | rfl | rfl | rfl | rfl
  all_goals
    clear h0 h1
    go_enter Try.func29, Try.ntmps29
    go_wp2
    go_ret
    exact ⟨rfl, rfl⟩
theorem bitC_nat {s i : Nat} (hs : s < 4294967296) (hi : i < 32) : bitC (s : Int) (i : Int) = s.testBit i := by
  unfold bitC
  have hp : 2 ^ i < 4294967296 := by show 2 ^ i < 2 ^ 32; exact Nat.pow_lt_pow_right (by decide) hi
  rw [Int.toNat_natCast, and_u32 s (2 ^ i) hs hp]
  cases hb : s.testBit i with
  | false =>
    have h0 : s &&& 2 ^ i = 0 := by
      apply Nat.eq_of_testBit_eq
      intro j
      rw [Nat.testBit_and, Nat.testBit_two_pow, Nat.zero_testBit]
      by_cases hj : i = j
      · subst hj; rw [hb]; rfl
      · simp [hj]
    rw [h0]; rfl
  | true =>
    have h1 : (s &&& 2 ^ i).testBit i = true := by
      rw [Nat.testBit_and, Nat.testBit_two_pow, hb]; simp
    have h0 : s &&& 2 ^ i ≠ 0 := fun h => by rw [h, Nat.zero_testBit] at h1; cases h1
    have h2 : ((s &&& 2 ^ i : Nat) : Int) ≠ 0 := by omega
    simpa using h0
set_option maxRecDepth 100000 in
theorem bit_nat (s i : Nat) (b : Bool) (hs : s < 4294967296) (hi : i < 32) (hb : s.testBit i = b) (W : World) : Calls Try.prog 29 #[.int .u32 s, .int .i64 i] W fun e w' => e = .returned (.bool b) ∧ w' = W := by
  rw [← hb, ← bitC_nat hs hi]
  exact bit_any s i (by omega) (by omega) W
/-- What is no place of a bit is none. -/
def bitZ (s : Nat) (z : Int) : Bool := decide (0 ≤ z) && s.testBit z.toNat
set_option maxRecDepth 100000 in
set_option maxHeartbeats 4000000 in
theorem bit_out (u z : Int) (h : z < 0 ∨ 32 ≤ z) (W : World) : Calls Try.prog 29 #[.int .u32 u, .int .i64 z] W fun e w' => e = .returned (.bool false) ∧ w' = W := by
  rcases h with h | h
  · go_enter Try.func29, Try.ntmps29
    go_wp2
    go_ret
    exact ⟨rfl, rfl⟩
  · have h0 : 0 ≤ z := by omega
    have h1 : ¬ z < 32 := by omega
    go_enter Try.func29, Try.ntmps29
    go_wp2
    go_ret
    exact ⟨rfl, rfl⟩
set_option maxRecDepth 100000 in
theorem bit_z (s : Nat) (z : Int) (b : Bool) (hs : s < 4294967296) (hb : bitZ s z = b) (W : World) : Calls Try.prog 29 #[.int .u32 s, .int .i64 z] W fun e w' => e = .returned (.bool b) ∧ w' = W := by
  subst hb
  by_cases h : z < 0 ∨ 32 ≤ z
  · have e : bitZ s z = false := by
      unfold bitZ
      rcases h with h | h
      · rw [decide_eq_false (by omega)]; rfl
      · rw [Nat.testBit_lt_two_pow (Nat.lt_of_lt_of_le hs (by rw [show 4294967296 = 2 ^ 32 from rfl]; exact Nat.pow_le_pow_right (by decide) (by omega)))]; simp
    rw [e]
    exact bit_out s z h W
  · obtain ⟨i, rfl⟩ := Int.eq_ofNat_of_zero_le (show 0 ≤ z by omega)
    have e : bitZ s (i : Int) = s.testBit i := by unfold bitZ; simp
    rw [e]
    exact bit_nat s i _ hs (by omega) rfl W
end Go.Proofs.Ythnchnamdoobeaa
