/- pairs.reach, pairs.size: those on the right with whom one of a set may be paired; how many are in a set. -/
import Derived.Test.YtblbjiogojldhaaDoorWordsAt
import Derived.Test.YtblbjiogojldhaaDoorPairW
import Derived.Test.YtblbjiogojldhaaDoorOnes
namespace Go.Proofs.YtblbjiogojldhaaDoor
open Go.RowKit

theorem sizeGo_any (x : Nat) (w : World) (hx : x < 256) :
    Calls Tryd.prog 24 #[.int .u32 x] w fun e w' => e = .returned (.int .i64 (szS x)) ∧ ∃ k, w' = w.drewN k := by
  have HO : Hid (ones x = szS x) := Lib.hid (ones_szS x hx)
  go_enter Tryd.func24, Tryd.ntmps24
  go_wp2_with (go_at_call 28; refine (ones_any x _ (by omega)).mono ?_; rintro e w' ⟨rfl, k, rfl⟩)
  go_ret
  exact ⟨ret_int (by rw [HO.out]), _, rfl⟩

set_option maxRecDepth 100000 in
set_option maxHeartbeats 1000000 in
theorem reach_any (len cap s : Nat) (A : Option Addr) (xs : List Nat) (w : World) (hA : WordsAt w w.heap.size A len xs) (hl : len ≤ 8) (hx : W8 xs) (hs : s < 4294967296) :
    Calls Tryd.prog 23 #[.slice A len cap, .int .u32 s] w fun e w' => e = .returned (.int .u32 (reachTo xs s len : Nat)) ∧ w = w' := by
  have HA := Lib.hid hA
  have HX := Lib.hid hx
  clear hA hx
  go_enter Tryd.func23, Tryd.ntmps23
  go_wp2
  go_loop [5, 10] (fun r j => ∃ k : Nat, k ≤ len ∧ j = .int .i64 k ∧ r = .int .u32 (reachTo xs s k : Nat)) (fun _ j => len - (intOf j).toNat)
  case atStart => exact ⟨0, Nat.zero_le _, rfl, rfl⟩
  case round =>
    obtain ⟨k, hk, rfl, rfl⟩ := hrel
    by_cases hlt : k < len
    · obtain ⟨b, off, rfl, _, hc⟩ := HA.out.at_ hlt
      have ik0 : (0 : Int) ≤ (k : Int) := by omega
      have ik1 : (k : Int) < (len : Int) := by omega
      have ik32 : (k : Int) < 32 := by omega
      have hr := reachTo_lt (s := s) HX.out k
      have hxk := HX.out.at_ k
      have HO := or_u32 (reachTo xs s k) (xs.getD k 0) (by omega) (by omega)
      have HS : Hid (reachTo xs s (k + 1) = if s.testBit k = true then reachTo xs s k ||| xs.getD k 0 else reachTo xs s k) := Lib.hid rfl
      have HB := shr_bit s k hs
      generalize reachTo xs s k ||| xs.getD k 0 = y at HO HS
      generalize xs.getD k 0 = x at hc HO hxk
      generalize reachTo xs s k = r at HO HS hr
      cases hb : s.testBit k
      · rw [hb] at HB HS
        clear hb
        go_wp2
        go_round
        case rel => exact ⟨k + 1, by omega, by go_num, by rw [HS.out]; rfl⟩
        case measure => simp [intOf]; omega
      · rw [hb] at HB HS
        clear hb
        go_wp2
        go_round
        case rel => exact ⟨k + 1, by omega, by go_num, by rw [HS.out]; rfl⟩
        case measure => simp [intOf]; omega
    · obtain rfl : k = len := by omega
      go_wp2
      go_ret
      exact ⟨rfl, rfl⟩
end Go.Proofs.YtblbjiogojldhaaDoor
