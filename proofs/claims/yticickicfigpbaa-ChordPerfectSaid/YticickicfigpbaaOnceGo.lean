/- graph.EachOnce: are all of a list nodes of n, none twice? Conditions: at most ten nodes. -/
import Derived.Test.YticickicfigpbaaEachB
import Derived.Test.YticickicfigpbaaWordsAt
namespace Go.Proofs.Yticickicfigpbaa
open Go.RowKit

set_option maxRecDepth 100000 in
set_option maxHeartbeats 400000 in
theorem nodeIn_any (n x : Int) (w : World) :
    Calls Try.prog 48 #[.int .i64 n, .int .i64 x] w fun e w' => e = .returned (.bool (isIn n x)) ∧ w = w' := by
  by_cases h0 : 0 ≤ x
  · by_cases h1 : x < n
    · have hin : isIn n x = true := by simp [isIn, h0, h1]
      rw [hin]; clear hin
      go_enter Try.func48, Try.ntmps48
      go_wp2
      go_ret
      exact ⟨rfl, rfl⟩
    · have hin : isIn n x = false := by simp [isIn, h1]
      rw [hin]; clear hin
      go_enter Try.func48, Try.ntmps48
      go_wp2
      go_ret
      exact ⟨rfl, rfl⟩
  · have hin : isIn n x = false := by simp [isIn, h0]
    rw [hin]; clear hin
    go_enter Try.func48, Try.ntmps48
    go_wp2
    go_ret
    exact ⟨rfl, rfl⟩
theorem nodeIn_v (n x : Int) (b : Bool) (w : World) (hb : isIn n x = b) : Calls Try.prog 48 #[.int .i64 n, .int .i64 x] w fun e w' => e = .returned (.bool b) ∧ w' = w := by
  subst hb
  exact (nodeIn_any n x w).mono fun e w' h => ⟨h.1, h.2.symm⟩
theorem or_lt10 {s v n : Nat} (hs : s < 1024) (hv : v < n) (hn : n ≤ 10) : s ||| 2 ^ v < 1024 :=
  Nat.or_lt_two_pow (n := 10) hs (Nat.pow_lt_pow_right (by decide) (by omega))

set_option maxRecDepth 100000 in
set_option maxHeartbeats 1000000 in
theorem eachOnce_any (A : Option Addr) (len cap n : Nat) (xs : List Int) (w : World) (hA : IntsAt w w.heap.size A len xs) (hl : len ≤ 9223372036854775807) (hn : n ≤ 10) :
    Calls Try.prog 35 #[.int .i64 (n : Int), .slice A len cap] w fun e w' => e = .returned (.bool (eachB n xs)) ∧ w = w' := by
  have HA := Lib.hid hA
  clear hA
  go_enter Try.func35, Try.ntmps35
  go_wp2
  go_loop [5, 10] (fun r j => ∃ k s : Nat, k ≤ len ∧ j = .int .i64 k ∧ r = .int .u32 s ∧ s < 1024 ∧ Hid (EachTo n (xs.take k) s)) (fun _ j => len - (intOf j).toNat)
  case atStart => exact ⟨0, 0, Nat.zero_le _, rfl, rfl, by omega, Lib.hid ⟨by simp, by simp, by simp⟩⟩
  case round =>
    obtain ⟨k, s, hk, rfl, rfl, hs, HE⟩ := hrel
    by_cases hlt : k < len
    · obtain ⟨b, off, x, rfl, _, hx, hc⟩ := HA.out.at_ hlt
      have ik0 : (0 : Int) ≤ (k : Int) := by omega
      have ik1 : (k : Int) < (len : Int) := by omega
      by_cases h0 : x < 0
      · have HR := Lib.hid (eachB_false HE.out hx (.inl h0))
        have HN : Hid (isIn n x = false) := Lib.hid (by simp [isIn]; omega)
        clear hx
        go_wp2_with (go_at_call 48; refine (nodeIn_v n x false _ HN.out).mono ?_; rintro e w1 ⟨rfl, rfl⟩)
        go_ret
        exact ⟨ret_bool HR.out.symm, rfl⟩
      · by_cases h1 : (n : Int) ≤ x
        · have HR := Lib.hid (eachB_false HE.out hx (.inr (.inl h1)))
          have HN : Hid (isIn n x = false) := Lib.hid (by simp [isIn]; omega)
          clear hx
          go_wp2_with (go_at_call 48; refine (nodeIn_v n x false _ HN.out).mono ?_; rintro e w1 ⟨rfl, rfl⟩)
          go_ret
          exact ⟨ret_bool HR.out.symm, rfl⟩
        · obtain ⟨v, rfl⟩ := Int.eq_ofNat_of_zero_le (show 0 ≤ x by omega)
          have hv : v < n := by omega
          have iv : ¬ n ≤ v := by omega
          have HN : Hid (isIn n (v : Int) = true) := Lib.hid (by simp [isIn]; omega)
          have hv32 : (v : Int) < 32 := by omega
          have hp := Nat.pow_lt_pow_right (a := 2) (by decide) (show v < 10 by omega)
          have hpm := pow_mod v (by omega)
          have HB := shr_bit s v (by omega)
          have HO := or_u32 s (2 ^ v) (by omega) (by omega)
          have hor := or_lt10 hs hv hn
          cases hb : s.testBit v
          · rw [hb] at HB
            have HE2 : Hid (EachTo n (xs.take (k + 1)) (s ||| 2 ^ v)) := Lib.hid (by
              obtain ⟨h3, h4⟩ := List.getElem?_eq_some_iff.1 hx
              rw [List.take_succ_eq_append_getElem h3, h4]
              exact HE.out.next hv hb)
            clear hb hx
            generalize s ||| 2 ^ v = y at HO HE2 hor
            generalize 2 ^ v = p at *
            go_wp2_with (go_at_call 48; refine (nodeIn_v n (v : Int) true _ HN.out).mono ?_; rintro e w1 ⟨rfl, rfl⟩)
            go_round
            case rel => exact ⟨k + 1, y, by omega, by go_num, rfl, hor, HE2⟩
            case measure => simp [intOf]; omega
          · rw [hb] at HB
            have HR := Lib.hid (eachB_false HE.out hx (.inr (.inr ⟨v, rfl, hb⟩)))
            clear hb hx
            go_wp2_with (go_at_call 48; refine (nodeIn_v n (v : Int) true _ HN.out).mono ?_; rintro e w1 ⟨rfl, rfl⟩)
            go_ret
            exact ⟨ret_bool HR.out.symm, rfl⟩
    · obtain rfl : k = len := by omega
      have HR : Hid (eachB n xs = true) := Lib.hid (by
        have h := HE.out
        rw [List.take_of_length_le (by have := HA.out.1; omega)] at h
        exact eachB_iff.2 ⟨h.nd, h.rng⟩)
      go_wp2
      go_ret
      exact ⟨ret_bool HR.out.symm, rfl⟩
set_option maxRecDepth 100000 in
theorem eachOnce_v (A : Option Addr) (len cap n : Nat) (xs : List Int) (b : Bool) (w : World) (hA : IntsAt w w.heap.size A len xs) (hl : len ≤ 9223372036854775807) (hn : n ≤ 10) (hb : eachB n xs = b) :
    Calls Try.prog 35 #[.int .i64 (n : Int), .slice A len cap] w fun e w' => e = .returned (.bool b) ∧ w = w' := by
  subst hb; exact eachOnce_any A len cap n xs w hA hl hn
end Go.Proofs.Yticickicfigpbaa
