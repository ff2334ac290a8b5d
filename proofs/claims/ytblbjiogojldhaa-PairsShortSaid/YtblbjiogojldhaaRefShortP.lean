/- The reference's Short: the first set that lacks the most. -/
import Derived.Test.YtblbjiogojldhaaPairCheck
import Derived.Test.YtblbjiogojldhaaFriends
import Derived.IntWalk
namespace Go.Proofs.Ytblbjiogojldhaa
open Go.RowKit

set_option maxRecDepth 100000 in
set_option maxHeartbeats 4000000 in
theorem refShortP_any (len cap : Nat) (A : Option Addr) (xs : List Nat) (w : World) (hA : WordsAt w w.heap.size A len xs) (hl : len ≤ 8) (hx : W8 xs) :
    Calls Try.prog 9 #[.slice A len cap] w fun e w' => (∃ a : Nat, FirstMax (lackW xs len) (2 ^ len) a ∧ e = .returned (.int .u32 a)) ∧ w = w' := by
  have HA := Lib.hid hA
  have HX := Lib.hid hx
  have h8 := pow8 hl
  have hp := Nat.two_pow_pos len
  have HR := Lib.hid (fun (s : Nat) (hs : s < 256) => friends_any len cap s A xs w hA hl hx (by omega))
  obtain ⟨Q, hQ⟩ : ∃ Q, 2 ^ len = Q + 1 := ⟨2 ^ len - 1, by omega⟩
  have HQ := Lib.hid hQ
  have hq1 : (2 : Int) ^ len % 4294967296 = (Q : Int) + 1 := by
    have h := pow_mod len (by omega)
    rw [hQ] at h
    rw [h]; omega
  have hq2 : IntKind.u32.wrap ((2 : Int) ^ len) = (Q : Int) + 1 := by rw [wrap_u32n, hq1]
  have hQ8 : Q < 256 := by omega
  clear hA hx hQ h8 hp
  go_enter Try.func9, Try.ntmps9
  go_wp2
  go_loop [3, 4] (fun b c => ∃ (k bl : Nat), k ≤ Q + 1 ∧ bl < 256 ∧ c = .int .u32 k ∧ b = .int .u32 bl ∧ Hid (FirstMax (lackW xs len) (max k 1) bl)) (fun _ c => Q + 1 - (intOf c).toNat)
  case atStart => exact ⟨0, 0, Nat.zero_le _, by omega, rfl, rfl, Lib.hid (FirstMax.one _)⟩
  case round =>
    obtain ⟨k, bl, hk, hbl, rfl, rfl, HF⟩ := hrel
    by_cases hlt : k < Q + 1
    · have hr1 := reachTo_lt (s := k) HX.out len
      have hr2 := reachTo_lt (s := bl) HX.out len
      have HS := Lib.hid (fun (x : Nat) (W : World) (h : x < 256) => sizeR_any x W h)
      have HRR := Lib.hid (show ∀ (s r : Nat), (s = k ∧ r = reachTo xs k len) ∨ (s = bl ∧ r = reachTo xs bl len) → Calls Try.prog 15 #[.slice A len cap, .int .u32 s] w fun e w' => e = .returned (.int .u32 (r : Nat)) ∧ w = w' from fun s r h => by
        rcases h with ⟨rfl, rfl⟩ | ⟨rfl, rfl⟩
        · exact HR.out _ (by omega)
        · exact HR.out _ (by omega))
      have HCK : Hid (lackW xs len k = (szS k : Int) - (szS (reachTo xs k len) : Int)) := Lib.hid rfl
      have HCB : Hid (lackW xs len bl = (szS bl : Int) - (szS (reachTo xs bl len) : Int)) := Lib.hid rfl
      have l1 := szS_le k
      have l2 := szS_le (reachTo xs k len)
      have l3 := szS_le bl
      have l4 := szS_le (reachTo xs bl len)
      have HK1 : Hid (FirstMax (lackW xs len) k bl ∨ k = 0) := Lib.hid (by
        rcases Nat.eq_zero_or_pos k with h | h
        · exact .inr h
        · have h2 := HF.out
          rw [show max k 1 = k by omega] at h2; exact .inl h2)
      have HB0 : Hid (k = 0 → bl = 0) := Lib.hid fun h => by
        have := HF.out.1
        omega
      generalize reachTo xs k len = rk at hr1 HRR HCK l2
      generalize reachTo xs bl len = rb at hr2 HRR HCB l4
      by_cases hc : (szS bl : Int) - (szS rb : Int) < (szS k : Int) - (szS rk : Int)
      · have HN : Hid (FirstMax (lackW xs len) (max (k + 1) 1) k) := Lib.hid (by
          rw [show max (k + 1) 1 = k + 1 by omega]
          rcases HK1.out with h | h
          · exact h.take (by rw [HCK.out, HCB.out]; exact hc)
          · subst h; exact FirstMax.one _)
        have hcI : decide ((szS bl : Int) - (szS rb : Int) < (szS k : Int) - (szS rk : Int)) = true := decide_eq_true hc
        clear HF HK1 HB0 HCK HCB hc
        go_wp2_with (first
          | (go_at_call 15; refine (HRR.out _ _ (by first | exact Or.inl ⟨rfl, rfl⟩ | exact Or.inr ⟨rfl, rfl⟩)).mono ?_; rintro e w' ⟨rfl, rfl⟩)
          | (go_at_call 13; refine (HS.out _ _ (by omega)).mono ?_; rintro e w' ⟨rfl, rfl⟩))
        go_round
        case rel => exact ⟨k + 1, k, by omega, by omega, by go_num, rfl, HN⟩
        case measure => simp [intOf]; omega
      · have HN : Hid (FirstMax (lackW xs len) (max (k + 1) 1) bl) := Lib.hid (by
          rw [show max (k + 1) 1 = k + 1 by omega]
          rcases HK1.out with h | h
          · exact h.keep (by rw [HCK.out, HCB.out]; omega)
          · have := HB0.out h; subst h; subst this; exact FirstMax.one _)
        have hcI : decide ((szS bl : Int) - (szS rb : Int) < (szS k : Int) - (szS rk : Int)) = false := decide_eq_false hc
        clear HF HK1 HB0 HCK HCB hc
        go_wp2_with (first
          | (go_at_call 15; refine (HRR.out _ _ (by first | exact Or.inl ⟨rfl, rfl⟩ | exact Or.inr ⟨rfl, rfl⟩)).mono ?_; rintro e w' ⟨rfl, rfl⟩)
          | (go_at_call 13; refine (HS.out _ _ (by omega)).mono ?_; rintro e w' ⟨rfl, rfl⟩))
        go_round
        case rel => exact ⟨k + 1, bl, by omega, by omega, by go_num, rfl, HN⟩
        case measure => simp [intOf]; omega
    · obtain rfl : k = Q + 1 := by omega
      have HE : Hid (FirstMax (lackW xs len) (2 ^ len) bl) := Lib.hid (by
        rw [HQ.out]
        have := HF.out
        rwa [show max (Q + 1) 1 = Q + 1 by omega] at this)
      clear HF
      go_wp2
      go_ret
      exact ⟨⟨bl, HE.out, rfl⟩, rfl⟩
end Go.Proofs.Ytblbjiogojldhaa
