/- The reference's Cover: all sets on both sides. -/
import Derived.Test.YtblbjiogojldhaaPairCheck
import Derived.Test.YtblbjiogojldhaaFriends
namespace Go.Proofs.Ytblbjiogojldhaa
open Go.RowKit

theorem pow_lit2 {n Q : Nat} (hn : n ≤ 8) (hQ : 2 ^ n = Q + 1) : (2 : Int) ^ n % 4294967296 = (Q : Int) + 1 ∧ IntKind.u32.wrap ((2 : Int) ^ n) = (Q : Int) + 1 := by
  have := pow8 hn
  have h := pow_mod n (by omega)
  rw [hQ] at h
  refine ⟨by rw [h]; omega, ?_⟩
  rw [wrap_u32n, h]; omega

set_option maxRecDepth 100000 in
set_option maxHeartbeats 4000000 in
theorem refCoverP_any (len cap : Nat) (A : Option Addr) (xs : List Nat) (w : World) (hA : WordsAt w w.heap.size A len xs) (hl : len ≤ 8) (hx : W8 xs) :
    Calls Try.prog 7 #[.slice A len cap] w fun e w' => (∃ a : Nat, FirstMin (costW xs len) (2 ^ len) a ∧ e = .returned (.tuple #[.int .u32 a, .int .u32 (reachTo xs (othW len a) len : Nat)])) ∧ w = w' := by
  have HA := Lib.hid hA
  have HX := Lib.hid hx
  have h8 := pow8 hl
  have hp := Nat.two_pow_pos len
  have HV := Lib.hid (fun (L R : Nat) (v : Bool) (W : World) (hW : WordsAt W W.heap.size A len xs) (h1 : L < 4294967296) (h2 : R < 4294967296) (hv : v = true ↔ CovW xs len L R) => covers_v len cap L R v A xs W hW hl hx h1 h2 hv)
  obtain ⟨Q, hQ⟩ : ∃ Q, 2 ^ len = Q + 1 := ⟨2 ^ len - 1, by omega⟩
  have HQ := Lib.hid hQ
  have HST : Hid (RefCov xs len 0 0 Q 255) := Lib.hid (by have h := RefCov.start (xs := xs) (n := len); rwa [show 2 ^ len - 1 = Q by omega] at h)
  obtain ⟨hq1, hq2⟩ := pow_lit2 hl hQ
  have hQ8 : Q < 256 := by omega
  have hl0 : (0 : Int) ≤ (len : Int) := by omega
  have hl64 : (len : Int) < 64 := by omega
  clear hA hx hQ h8 hp
  go_enter Try.func7, Try.ntmps7
  go_wp2
  go_loop [4, 5, 6] (fun a b c => ∃ (k x y : Nat), k ≤ Q + 1 ∧ x < 256 ∧ y < 256 ∧ c = .int .u32 k ∧ a = .int .u32 x ∧ b = .int .u32 y ∧ Hid (RefCov xs len k 0 x y)) (fun _ _ c => Q + 1 - (intOf c).toNat)
  case atStart => exact ⟨0, Q, 255, Nat.zero_le _, hQ8, by omega, rfl, rfl, rfl, HST⟩
  case round =>
    obtain ⟨k, x, y, hk, hx, hy, rfl, rfl, rfl, HR⟩ := hrel
    by_cases hlt : k < Q + 1
    · go_wp2
      go_loop [4, 5, 7] (fun a b c => ∃ (j x y : Nat), j ≤ 256 ∧ x < 256 ∧ y < 256 ∧ c = .int .u32 j ∧ a = .int .u32 x ∧ b = .int .u32 y ∧ Hid (RefCov xs len k j x y)) (fun _ _ c => 256 - (intOf c).toNat)
      case atStart => exact ⟨0, x, y, by omega, hx, hy, rfl, rfl, rfl, HR⟩
      case round =>
        clear HR hx hy
        obtain ⟨j, x, y, hj, hx, hy, rfl, rfl, rfl, HR⟩ := hrel
        by_cases hjt : j < 256
        · have hk256 : k < 256 := by omega
          have HS := Lib.hid (fun (x : Nat) (W : World) (h : x < 256) => sizeR_any x W h)
          have l1 := szS_le k
          have l2 := szS_le j
          have l3 := szS_le x
          have l4 := szS_le y
          by_cases hc : szS k + szS j < szS x + szS y
          · have hcI : decide (szS k + szS j < szS x + szS y) = true := decide_eq_true hc
            have hcJ : decide ((szS k : Int) + (szS j : Int) < (szS x : Int) + (szS y : Int)) = true := decide_eq_true (by omega)
            by_cases hv : CovW xs len k j
            · have HN := Lib.hid (HR.out.take (by have := HQ.out; omega) hjt hv hc)
              have HVV := Lib.hid (HV.out k j true w HA.out (by omega) (by omega) ⟨fun _ => hv, fun _ => rfl⟩)
              clear HR hc hv
              go_wp2_with (first
                | (go_at_call 13; refine (HS.out _ _ (by omega)).mono ?_; rintro e w' ⟨rfl, rfl⟩)
                | (go_at_call 14; refine HVV.out.mono ?_; rintro e w' ⟨rfl, rfl⟩))
              go_round
              case rel => exact ⟨j + 1, k, j, by omega, hk256, hjt, by go_num, rfl, rfl, HN⟩
              case measure => simp [intOf]; omega
            · have HN := Lib.hid (HR.out.skip fun h => absurd h hv)
              have HVV := Lib.hid (HV.out k j false w HA.out (by omega) (by omega) ⟨(fun h => by cases h), fun h => absurd h hv⟩)
              clear HR hc hv
              go_wp2_with (first
                | (go_at_call 13; refine (HS.out _ _ (by omega)).mono ?_; rintro e w' ⟨rfl, rfl⟩)
                | (go_at_call 14; refine HVV.out.mono ?_; rintro e w' ⟨rfl, rfl⟩))
              go_round
              case rel => exact ⟨j + 1, x, y, by omega, hx, hy, by go_num, rfl, rfl, HN⟩
              case measure => simp [intOf]; omega
          · have hcI : decide (szS k + szS j < szS x + szS y) = false := decide_eq_false hc
            have hcJ : decide ((szS k : Int) + (szS j : Int) < (szS x : Int) + (szS y : Int)) = false := decide_eq_false (by omega)
            have HN := Lib.hid (HR.out.skip fun h => by omega)
            clear HR hc
            go_wp2_with (go_at_call 13; refine (HS.out _ _ (by omega)).mono ?_; rintro e w' ⟨rfl, rfl⟩)
            go_round
            case rel => exact ⟨j + 1, x, y, by omega, hx, hy, by go_num, rfl, rfl, HN⟩
            case measure => simp [intOf]; omega
        · obtain rfl : j = 256 := by omega
          have HN := Lib.hid HR.out.row
          clear HR
          go_wp2
          go_round
          case rel => exact ⟨k + 1, x, y, by omega, hx, hy, by go_num, rfl, rfl, HN⟩
          case measure => simp [intOf]; omega
    · obtain rfl : k = Q + 1 := by omega
      have HD := Lib.hid (RefCov.done HX.out hl (by rw [HQ.out]; exact HR.out))
      clear HR
      go_wp2
      exact bodyPost_ret (v := .tuple #[.int .u32 x, .int .u32 y]) (by simp [results, Try.results7, go_sem]) rfl ⟨⟨x, HD.out.1, by rw [← HD.out.2]⟩, rfl⟩
end Go.Proofs.Ytblbjiogojldhaa
