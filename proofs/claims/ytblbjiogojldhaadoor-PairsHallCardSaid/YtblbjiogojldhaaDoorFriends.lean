/- The reference's Friends, Covers: those on the right with whom one of a set may be paired; is a cover one? -/
import Derived.Test.YtblbjiogojldhaaDoorBitSize
import Derived.Test.YtblbjiogojldhaaDoorPairW
namespace Go.Proofs.YtblbjiogojldhaaDoor
open Go.RowKit

theorem sizeW_szS : ∀ x, x < 256 → sizeW x = szS x := by decide +kernel
theorem sizeR_any (x : Nat) (w : World) (hx : x < 256) : Calls Tryd.prog 16 #[.int .u32 x] w fun e w' => e = .returned (.int .i64 (szS x)) ∧ w' = w :=
  size_v x (szS x) (by omega) (by rw [sizeW_szS x hx]) w

set_option maxRecDepth 100000 in
set_option maxHeartbeats 1000000 in
theorem friends_any (len cap s : Nat) (A : Option Addr) (xs : List Nat) (w : World) (hA : WordsAt w w.heap.size A len xs) (hl : len ≤ 8) (hx : W8 xs) (hs : s < 4294967296) :
    Calls Tryd.prog 18 #[.slice A len cap, .int .u32 s] w fun e w' => e = .returned (.int .u32 (reachTo xs s len : Nat)) ∧ w = w' := by
  have HA := Lib.hid hA
  have HX := Lib.hid hx
  clear hA hx
  go_enter Tryd.func18, Tryd.ntmps18
  go_wp2
  go_loop [5, 10] (fun r j => ∃ k : Nat, k ≤ len ∧ j = .int .i64 k ∧ r = .int .u32 (reachTo xs s k : Nat)) (fun _ j => len - (intOf j).toNat)
  case atStart => exact ⟨0, Nat.zero_le _, rfl, rfl⟩
  case round =>
    obtain ⟨k, hk, rfl, rfl⟩ := hrel
    by_cases hlt : k < len
    · obtain ⟨b, off, rfl, _, hc⟩ := HA.out.at_ hlt
      have ik0 : (0 : Int) ≤ (k : Int) := by omega
      have ik1 : (k : Int) < (len : Int) := by omega
      have hk32 : k < 32 := by omega
      have hr := reachTo_lt (s := s) HX.out k
      have hxk := HX.out.at_ k
      have HO := or_u32 (reachTo xs s k) (xs.getD k 0) (by omega) (by omega)
      have HS : Hid (reachTo xs s (k + 1) = if s.testBit k = true then reachTo xs s k ||| xs.getD k 0 else reachTo xs s k) := Lib.hid rfl
      generalize reachTo xs s k ||| xs.getD k 0 = y at HO HS
      generalize xs.getD k 0 = x at hc HO hxk
      generalize reachTo xs s k = r at HO HS hr
      cases hb : s.testBit k
      · rw [hb] at HS
        have HB := Lib.hid hb
        clear hb
        go_wp2_with (go_at_call 22; refine (bit_nat s k false hs hk32 HB.out _).mono ?_; rintro e w1 ⟨rfl, rfl⟩)
        go_round
        case rel => exact ⟨k + 1, by omega, by go_num, by rw [HS.out]; rfl⟩
        case measure => simp [intOf]; omega
      · rw [hb] at HS
        have HB := Lib.hid hb
        clear hb
        go_wp2_with (go_at_call 22; refine (bit_nat s k true hs hk32 HB.out _).mono ?_; rintro e w1 ⟨rfl, rfl⟩)
        go_round
        case rel => exact ⟨k + 1, by omega, by go_num, by rw [HS.out]; rfl⟩
        case measure => simp [intOf]; omega
    · obtain rfl : k = len := by omega
      go_wp2
      go_ret
      exact ⟨rfl, rfl⟩

set_option maxRecDepth 100000 in
set_option maxHeartbeats 1000000 in
theorem covers_v (len cap L R : Nat) (v : Bool) (A : Option Addr) (xs : List Nat) (w : World) (hA : WordsAt w w.heap.size A len xs) (hl : len ≤ 8) (hx : W8 xs) (hL : L < 4294967296) (hR : R < 4294967296) (hv : v = true ↔ CovW xs len L R) :
    Calls Tryd.prog 14 #[.slice A len cap, .int .u32 L, .int .u32 R] w fun e w' => e = .returned (.bool v) ∧ w = w' := by
  have HA := Lib.hid hA
  have HX := Lib.hid hx
  have HV := Lib.hid hv
  clear hA hx hv
  go_enter Tryd.func14, Tryd.ntmps14
  go_wp2
  go_loop [11] (fun j => ∃ k : Nat, k ≤ len ∧ j = .int .i64 k ∧ Hid (∀ i, i < k → L.testBit i = true ∨ diffW (xs.getD i 0) R = 0)) (fun j => len - (intOf j).toNat)
  case atStart => exact ⟨0, Nat.zero_le _, rfl, Lib.hid fun i hi => by omega⟩
  case round =>
    obtain ⟨k, hk, rfl, HK⟩ := hrel
    by_cases hlt : k < len
    · obtain ⟨b, off, rfl, _, hc⟩ := HA.out.at_ hlt
      have ik0 : (0 : Int) ≤ (k : Int) := by omega
      have ik1 : (k : Int) < (len : Int) := by omega
      have hk32 : k < 32 := by omega
      have hxk := HX.out.at_ k
      have HN : Hid ((L.testBit k = true ∨ diffW (xs.getD k 0) R = 0) → ∀ i, i < k + 1 → L.testBit i = true ∨ diffW (xs.getD i 0) R = 0) := Lib.hid fun h i hi => by
        rcases Nat.lt_or_ge i k with h1 | h1
        · exact HK.out i h1
        · obtain rfl : i = k := by omega
          exact h
      have HF : Hid (L.testBit k = false → diffW (xs.getD k 0) R ≠ 0 → v = false) := Lib.hid fun h1 h2 => by
        rw [Bool.eq_false_iff]
        intro h
        rcases HV.out.1 h k hlt with h3 | h3
        · rw [h1] at h3; cases h3
        · exact h2 h3
      have HD := andNot_u32 (xs.getD k 0) R (by omega) hR
      clear HK
      generalize diffW (xs.getD k 0) R = d at HD HN HF
      generalize xs.getD k 0 = x at hc HD hxk
      cases hb : L.testBit k
      · have HB := Lib.hid hb
        by_cases hd : d = 0
        · subst hd
          have HM := Lib.hid (HN.out (.inr rfl))
          clear HN HF hb
          go_wp2_with (go_at_call 22; refine (bit_nat L k false hL hk32 HB.out _).mono ?_; rintro e w1 ⟨rfl, rfl⟩)
          go_round
          case rel => exact ⟨k + 1, by omega, by go_num, HM⟩
          case measure => simp [intOf]; omega
        · have HM := Lib.hid (HF.out hb hd)
          have hdb : ((d : Int) != 0) = true := by
            have : (d : Int) ≠ 0 := by omega
            simpa using this
          clear HN HF hb
          go_wp2_with (go_at_call 22; refine (bit_nat L k false hL hk32 HB.out _).mono ?_; rintro e w1 ⟨rfl, rfl⟩)
          go_ret
          exact ⟨ret_bool HM.out.symm, rfl⟩
      · have HB := Lib.hid hb
        have HM := Lib.hid (HN.out (.inl hb))
        clear HN HF hb
        go_wp2_with (go_at_call 22; refine (bit_nat L k true hL hk32 HB.out _).mono ?_; rintro e w1 ⟨rfl, rfl⟩)
        go_round
        case rel => exact ⟨k + 1, by omega, by go_num, HM⟩
        case measure => simp [intOf]; omega
    · have HR2 : Hid (v = true) := Lib.hid (HV.out.2 fun i hi => HK.out i (by omega))
      go_wp2
      go_ret
      exact ⟨ret_bool HR2.out.symm, rfl⟩
end Go.Proofs.YtblbjiogojldhaaDoor
