/- The keepers' ahead and has. -/
import Derived.Test.YtmelgnfhocofiaaFirstAt
namespace Go.Proofs.Ytmelgnfhocofiaa
open Go.RowKit

set_option maxRecDepth 100000 in
set_option maxHeartbeats 400000 in
theorem hasK_any (n cap : Nat) (v : Int) (A : Option Addr) (xs : List Int) (w : World) (hA : IntsAt w w.heap.size A n xs) (hn : n ≤ 4000000000) :
    Calls Try.prog 24 #[.slice A n cap, .int .i64 v] w fun e w' => e = .returned (.int .i64 (owP xs v)) ∧ w' = w := by
  obtain ⟨k, hkn, h0, hO, hk1, hk2⟩ := first_at xs v n hA.1
  have HA := Lib.hid hA
  have HK := Lib.hid hk1
  have HL := Lib.hid hk2
  have HO := Lib.hid hO
  clear hA hk1 hk2 hO h0
  go_enter Try.func24, Try.ntmps24
  go_wp2
  go_loop [9] (fun j => ∃ i : Nat, i ≤ k ∧ j = .int .i64 i) (fun j => n - (intOf j).toNat)
  case atStart => exact ⟨0, Nat.zero_le _, rfl⟩
  case round =>
    obtain ⟨i, hi, rfl⟩ := hrel
    by_cases hin : i < n
    · obtain ⟨b, off, x, rfl, _, hx, hc⟩ := HA.out.at_ hin
      have ix0 : (0 : Int) ≤ (i : Int) := by omega
      have ix1 : (i : Int) < (n : Int) := by omega
      by_cases hik : i = k
      · subst hik
        obtain rfl : x = v := HK.out x hx
        clear hx
        go_wp2
        go_ret
        exact ⟨by rw [HO.out, if_pos hin]; rfl, rfl⟩
      · have hne : ¬ x = v := HL.out i x (by omega) hx
        have hne2 : (x == v) = false := by simpa using hne
        clear hx
        go_wp2
        go_round
        case rel => exact ⟨i + 1, by omega, by go_num⟩
        case measure => simp [intOf]; omega
    · obtain rfl : k = n := by omega
      obtain rfl : i = k := by omega
      go_wp2
      go_ret
      exact ⟨by rw [HO.out, if_neg hin]; rfl, rfl⟩

set_option maxRecDepth 100000 in
set_option maxHeartbeats 400000 in
theorem ahead_any (n cap : Nat) (v : Int) (A : Option Addr) (xs : List Int) (w : World) (hA : IntsAt w w.heap.size A n xs) (hn : n ≤ 4000000000) :
    Calls Try.prog 23 #[.slice A n cap, .int .i64 v] w fun e w' => e = .returned (.int .i64 (ahd xs v : Nat)) ∧ w' = w := by
  obtain ⟨k, hkn, hO, _, hk1, hk2⟩ := first_at xs v n hA.1
  rw [hO]
  have HA := Lib.hid hA
  have HK := Lib.hid hk1
  have HL := Lib.hid hk2
  clear hA hk1 hk2 hO
  go_enter Try.func23, Try.ntmps23
  go_wp2
  go_loop [9] (fun j => ∃ i : Nat, i ≤ k ∧ j = .int .i64 i) (fun j => n - (intOf j).toNat)
  case atStart => exact ⟨0, Nat.zero_le _, rfl⟩
  case round =>
    obtain ⟨i, hi, rfl⟩ := hrel
    by_cases hin : i < n
    · obtain ⟨b, off, x, rfl, _, hx, hc⟩ := HA.out.at_ hin
      have ix0 : (0 : Int) ≤ (i : Int) := by omega
      have ix1 : (i : Int) < (n : Int) := by omega
      by_cases hik : i = k
      · subst hik
        obtain rfl : x = v := HK.out x hx
        clear hx
        go_wp2
        go_ret
        exact ⟨rfl, rfl⟩
      · have hne : ¬ x = v := HL.out i x (by omega) hx
        have hne2 : (x == v) = false := by simpa using hne
        clear hx
        go_wp2
        go_round
        case rel => exact ⟨i + 1, by omega, by go_num⟩
        case measure => simp [intOf]; omega
    · obtain rfl : k = n := by omega
      obtain rfl : i = k := by omega
      go_wp2
      go_ret
      exact ⟨rfl, rfl⟩
end Go.Proofs.Ytmelgnfhocofiaa
