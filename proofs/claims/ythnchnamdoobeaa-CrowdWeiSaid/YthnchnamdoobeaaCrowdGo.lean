/- crowd's own functions: the word of all nodes; whether no two of a set are neighbours. Conditions: at most ten nodes. -/
import Derived.Test.YthnchnamdoobeaaCrowdGoP
import Derived.Test.YthnchnamdoobeaaWordsAt
import Derived.Test.YthnchnamdoobeaaOnes
import Derived.IntWalk
namespace Go.Proofs.Ythnchnamdoobeaa
open Go.RowKit

set_option maxRecDepth 100000 in
theorem allOf_any (n cap : Nat) (A : Option Addr) (w : World) (hn : n ≤ 10) :
    Calls Try.prog 26 #[.slice A n cap] w fun e w' => e = .returned (.int .u32 ((2 ^ n - 1 : Nat) : Int)) ∧ w' = w := by
  have hp1 : 1 ≤ 2 ^ n := Nat.two_pow_pos n
  have hp2 : 2 ^ n ≤ 1024 := by rw [show 1024 = 2 ^ 10 from rfl]; exact Nat.pow_le_pow_right (by decide) hn
  have hsi : (2 : Int) ^ n % 4294967296 = ((2 ^ n : Nat) : Int) := pow_mod n (by omega)
  have hti : IntKind.u32.wrap ((2 : Int) ^ n) = ((2 ^ n : Nat) : Int) := by rw [wrap_u32n]; exact hsi
  have hn32 : (n : Int) ≤ 32 := by omega
  generalize 2 ^ n = p at hp1 hp2 hsi hti ⊢
  have HP : Hid (((p : Int) - 1) = ((p - 1 : Nat) : Int)) := Lib.hid (by omega)
  have hw : IntKind.u32.wrap ((p : Int) - 1) = (p : Int) - 1 := by rw [wrap_u32n]; omega
  go_enter Try.func26, Try.ntmps26
  go_wp2
  go_ret
  exact ⟨by rw [HP.out]; rfl, rfl⟩
set_option maxRecDepth 100000 in
set_option maxHeartbeats 1000000 in
theorem apartGo_any (n cap s : Nat) (A : Option Addr) (xs : List Nat) (r : Bool) (w : World) (hA : WordsAt w w.heap.size A n xs) (hn : n ≤ 10) (hs : s < 1024) (hxs : ∀ i, xs.getD i 0 < 4294967296) (hr : r = true ↔ ApartL xs n s) :
    Calls Try.prog 28 #[.slice A n cap, .int .u32 (s : Int)] w fun e w' => e = .returned (.bool r) ∧ w' = w := by
  have HW := Lib.hid hA
  have HR := Lib.hid hr
  have HS := Lib.hid hxs
  clear hA hr hxs
  go_enter Try.func28, Try.ntmps28
  go_wp2
  go_loop [9] (fun j => ∃ k : Nat, k ≤ n ∧ j = .int .i64 k ∧ Hid (∀ i, i < k → s.testBit i = true → s &&& xs.getD i 0 = 0)) (fun j => n - (intOf j).toNat)
  case atStart => exact ⟨0, Nat.zero_le _, rfl, Lib.hid fun i hi => absurd hi (Nat.not_lt_zero i)⟩
  case round =>
    obtain ⟨k, hk, rfl, HK⟩ := hrel
    by_cases hkn : k < n
    · have hkn' : (k : Int) < (n : Int) := by omega
      have hk32 : (k : Int) ≤ 32 := by omega
      obtain ⟨b, off, rfl, hb, hc⟩ := HW.out.at_ hkn
      have hx := HS.out k
      obtain ⟨x, hxe⟩ : ∃ x, xs.getD k 0 = x := ⟨_, rfl⟩
      have HX := Lib.hid hxe
      rw [hxe] at hc hx
      have hbit := shr_bit s k (by omega)
      have hand := and_u32 s x (by omega) hx
      clear hxe
      cases hbk : s.testBit k with
      | false =>
        rw [hbk] at hbit
        have HN : Hid (∀ i, i < k + 1 → s.testBit i = true → s &&& xs.getD i 0 = 0) := Lib.hid (fun i hi h => by
          by_cases e : i = k
          · subst e; rw [hbk] at h; cases h
          · exact HK.out i (by omega) h)
        clear hbk HK hand
        go_wp2
        go_round
        case rel => exact ⟨k + 1, by omega, by go_num, HN⟩
        case measure => simp [intOf]; omega
      | true =>
        rw [hbk] at hbit
        by_cases hz : s &&& x = 0
        · have HN : Hid (∀ i, i < k + 1 → s.testBit i = true → s &&& xs.getD i 0 = 0) := Lib.hid (fun i hi h => by
            by_cases e : i = k
            · subst e; rw [HX.out]; exact hz
            · exact HK.out i (by omega) h)
          rw [hz] at hand
          clear hbk HK hz
          go_wp2
          go_round
          case rel => exact ⟨k + 1, by omega, by go_num, HN⟩
          case measure => simp [intOf]; omega
        · have HF : Hid (r = false) := Lib.hid (by
            cases hrv : r with
            | false => rfl
            | true => exact absurd (by have := HR.out.1 hrv k hkn hbk; rw [HX.out] at this; exact this) hz)
          have hne : (((s &&& x : Nat) : Int) != 0) = true := by simpa using hz
          clear hbk HK hz
          generalize s &&& x = z at hand hne
          go_wp2
          go_ret
          exact ⟨ret_bool HF.out.symm, rfl⟩
    · obtain rfl : k = n := by omega
      have HT : Hid (r = true) := Lib.hid (HR.out.2 HK.out)
      clear HK
      go_wp2
      go_ret
      exact ⟨ret_bool HT.out.symm, rfl⟩
end Go.Proofs.Ythnchnamdoobeaa
