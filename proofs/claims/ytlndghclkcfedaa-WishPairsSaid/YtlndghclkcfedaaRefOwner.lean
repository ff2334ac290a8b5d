/- The reference's owner and rather. -/
import Derived.Test.YtlndghclkcfedaaFirstAt
namespace Go.Proofs.Ytlndghclkcfedaa
open Go.RowKit

set_option maxHeartbeats 400000 in
theorem owner_any (n cap : Nat) (v : Int) (A : Option Addr) (xs : List Int) (w : World) (hA : IntsAt w w.heap.size A n xs) (hn : n ≤ 4000000000) :
    Calls Try.prog 35 #[.slice A n cap, .int .i64 v] w fun e w' => e = .returned (.int .i64 (owP xs v)) ∧ w' = w := by
  obtain ⟨k, hkn, h0, hO, hk1, hk2⟩ := first_at xs v n hA.1
  have HA := Lib.hid hA
  have HK := Lib.hid hk1
  have HL := Lib.hid hk2
  have HO := Lib.hid hO
  clear hA hk1 hk2 hO h0
  go_enter Try.func35, Try.ntmps35
  go_wp2
  go_loop [9] (fun j => ∃ i : Nat, i ≤ k ∧ j = .int .i64 i) (fun j => n - (intOf j).toNat)
  case atStart => exact ⟨0, Nat.zero_le _, rfl⟩
  case round =>
    obtain ⟨i, hi, rfl⟩ := hrel
    by_cases hin : i < n
    · obtain ⟨b, off, x, rfl, _, hx, hc⟩ := HA.out.at_ hin
      have ix0 : (0 : Int) ≤ (i : Int) := by omega
      have ix1 : (i : Int) < (n : Int) := by omega
      by_cases hik : i = k
      · subst hik
        obtain rfl : x = v := HK.out x hx
        clear hx
        go_wp2
        go_ret
        exact ⟨by rw [HO.out, if_pos hin]; rfl, rfl⟩
      · have hne : ¬ x = v := HL.out i x (by omega) hx
        have hne2 : (x == v) = false := by simpa using hne
        clear hx
        go_wp2
        go_round
        case rel => exact ⟨i + 1, by omega, by go_num⟩
        case measure => simp [intOf]; omega
    · obtain rfl : k = n := by omega
      obtain rfl : i = k := by omega
      go_wp2
      go_ret
      exact ⟨by rw [HO.out, if_neg hin]; rfl, rfl⟩

set_option maxHeartbeats 400000 in
theorem rather_any (n cap : Nat) (a b : Int) (p : Bool) (A : Option Addr) (xs : List Int) (w : World) (hA : IntsAt w w.heap.size A n xs) (hn : n ≤ 4000000000) (hp : decide (ahd xs a < ahd xs b) = p) :
    Calls Try.prog 36 #[.slice A n cap, .int .i64 a, .int .i64 b] w fun e w' => e = .returned (.bool p) ∧ w' = w := by
  obtain ⟨k, hkn, hend, hk1, hk2⟩ := first_two xs a b n hA.1
  rw [hp] at hk1 hend
  have HA := Lib.hid hA
  have HK := Lib.hid hk1
  have HL := Lib.hid hk2
  have HE := Lib.hid hend
  clear hA hk1 hk2 hend hp
  go_enter Try.func36, Try.ntmps36
  go_wp2
  go_loop [11] (fun j => ∃ i : Nat, i ≤ k ∧ j = .int .i64 i) (fun j => n - (intOf j).toNat)
  case atStart => exact ⟨0, Nat.zero_le _, rfl⟩
  case round =>
    obtain ⟨i, hi, rfl⟩ := hrel
    by_cases hin : i < n
    · obtain ⟨b', off, x, rfl, _, hx, hc⟩ := HA.out.at_ hin
      have ix0 : (0 : Int) ≤ (i : Int) := by omega
      have ix1 : (i : Int) < (n : Int) := by omega
      by_cases hik : i = k
      · subst hik
        cases p with
        | true =>
          obtain ⟨rfl, hne⟩ := (HK.out x hx).1 rfl
          have hne2 : (x == b) = false := by simpa using hne
          clear hx HE HK HL
          go_wp2
          go_ret
          exact ⟨rfl, rfl⟩
        | false =>
          obtain rfl := (HK.out x hx).2 rfl
          clear hx HE HK HL
          go_wp2
          go_ret
          exact ⟨rfl, rfl⟩
      · obtain ⟨hna, hnb⟩ := HL.out i x (by omega) hx
        have hna2 : (x == a) = false := by simpa using hna
        have hnb2 : (x == b) = false := by simpa using hnb
        clear hx
        go_wp2
        go_round
        case rel => exact ⟨i + 1, by omega, by go_num⟩
        case measure => simp [intOf]; omega
    · obtain rfl : k = n := by omega
      obtain rfl := HE.out rfl
      clear HE HK HL
      go_wp2
      go_ret
      exact ⟨rfl, rfl⟩
end Go.Proofs.Ytlndghclkcfedaa
