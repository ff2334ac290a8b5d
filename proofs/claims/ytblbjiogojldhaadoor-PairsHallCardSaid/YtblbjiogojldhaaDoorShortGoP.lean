/- pairs.Short: the first set that lacks the most. -/
import Derived.Test.YtblbjiogojldhaaDoorPairCheck
import Derived.Test.YtblbjiogojldhaaDoorReachGo
namespace Go.Proofs.YtblbjiogojldhaaDoor
open Go.RowKit

theorem pow_lit3 {n Q : Nat} (hn : n ≤ 8) (hQ : 2 ^ n = Q + 1) : (2 : Int) ^ n % 4294967296 = (Q : Int) + 1 ∧ IntKind.u32.wrap ((2 : Int) ^ n) = (Q : Int) + 1 := by
  have := pow8 hn
  have h := pow_mod n (by omega)
  rw [hQ] at h
  refine ⟨by rw [h]; omega, ?_⟩
  rw [wrap_u32n, h]; omega
theorem szS_zero : szS 0 = 0 := by decide +kernel
theorem lack_zero (xs : List Nat) (n : Nat) : lackW xs n 0 = 0 := by
  have h : ∀ k, reachTo xs 0 k = 0 := fun k => by
    induction k with
    | zero => rfl
    | succ k ih => unfold reachTo; rw [if_neg (by simp)]; exact ih
  unfold lackW
  rw [h, szS_zero]; rfl

set_option maxRecDepth 100000 in
set_option maxHeartbeats 1000000 in
theorem shortGo_bad (len cap : Nat) (A : Option Addr) (xs : List Nat) (v : Int) (w : World) (hA : WordsAt w w.heap.size A len xs) (hm : len ≤ maxLen) (hx : ∀ x ∈ xs, x < 4294967296) (hv : pcheck xs = v) (hv0 : v ≠ 0) :
    Calls Tryd.prog 17 #[.slice A len cap] w fun e w' => e = .returned (.tuple #[.int .u32 0, .int .i64 v]) ∧ w = w' := by
  have hb0 : (v != 0) = true := by simpa using hv0
  have HC := Lib.hid (check_v len cap A xs v w hA hm hx hv)
  clear hA hv hx
  go_enter Tryd.func17, Tryd.ntmps17
  go_wp2_with (go_at_call 19; refine HC.out.mono ?_; rintro e w' ⟨rfl, rfl⟩)
  exact bodyPost_ret (v := .tuple #[.int .u32 0, .int .i64 v]) (by simp [results, Tryd.results17, go_sem]) rfl ⟨rfl, rfl⟩

set_option maxRecDepth 100000 in
set_option maxHeartbeats 4000000 in
theorem shortGo_good (len cap : Nat) (A : Option Addr) (xs : List Nat) (w : World) (hA : WordsAt w w.heap.size A len xs) (hl : len ≤ 8) (hx : W8 xs) :
    Calls Tryd.prog 17 #[.slice A len cap] w fun e w' => (∃ a : Nat, FirstMax (lackW xs len) (2 ^ len) a ∧ e = .returned (.tuple #[.int .u32 a, .int .i64 0])) ∧ ∃ k, w' = w.drewN k := by
  have hlen := hA.1
  have HC := Lib.hid (check_v len cap A xs 0 w hA (by unfold maxLen; omega) (fun x h => by have := hx x h; omega) (pcheck_ok (by omega) fun i _ => hx.at_ i))
  have HA := Lib.hid hA
  have HX := Lib.hid hx
  have h8 := pow8 hl
  have hp := Nat.two_pow_pos len
  have HR := Lib.hid (fun (s : Nat) (W : World) (hW : WordsAt W W.heap.size A len xs) (hs : s < 4294967296) => reach_any len cap s A xs W hW hl hx hs)
  obtain ⟨Q, hQ⟩ : ∃ Q, 2 ^ len = Q + 1 := ⟨2 ^ len - 1, by omega⟩
  have HQ := Lib.hid hQ
  obtain ⟨hq1, hq2⟩ := pow_lit3 hl hQ
  have hQ8 : Q < 256 := by omega
  clear hA hx hlen hQ h8 hp
  go_enter Tryd.func17, Tryd.ntmps17
  go_wp2_with (go_at_call 19; refine HC.out.mono ?_; rintro e w' ⟨rfl, rfl⟩)
  go_loopw [5, 6, 17] (fun b m c wr => ∃ (k bl q : Nat) (z : Int), k ≤ Q + 1 ∧ bl < 256 ∧ -8 ≤ z ∧ z ≤ 8 ∧ c = .int .u32 k ∧ b = .int .u32 bl ∧ m = .int .i64 z ∧ Hid (FirstMax (lackW xs len) (max k 1) bl ∧ lackW xs len bl = z) ∧ wr = w.drewN q) (fun _ _ c _ => Q + 1 - (intOf c).toNat)
  case atStart => exact ⟨0, 0, 0, 0, Nat.zero_le _, by omega, by omega, by omega, rfl, rfl, rfl, Lib.hid ⟨FirstMax.one _, lack_zero _ _⟩, rfl⟩
  case round =>
    obtain ⟨k, bl, q, z, hk, hbl, hz0, hz1, rfl, rfl, rfl, HF, rfl⟩ := hrel
    by_cases hlt : k < Q + 1
    · have hr := reachTo_lt (s := k) HX.out len
      have HRK : Hid (Calls Tryd.prog 23 #[.slice A len cap, .int .u32 k] ((w.drewN q)) fun e w' => e = .returned (.int .u32 (reachTo xs k len : Nat)) ∧ w.drewN q = w') := Lib.hid (HR.out k _ (by exact HA.out.drewN q) (by omega))
      have HRA := Lib.hid (fun (n : Nat) => HR.out k (w.drewN n) (by exact HA.out.drewN n) (by omega))
      have HS := Lib.hid (fun (x : Nat) (W : World) (h : x < 256) => sizeGo_any x W h)
      have HCK : Hid (lackW xs len k = (szS k : Int) - (szS (reachTo xs k len) : Int)) := Lib.hid rfl
      have l1 := szS_le k
      have l2 := szS_le (reachTo xs k len)
      have HK1 : Hid (FirstMax (lackW xs len) k bl ∨ k = 0) := Lib.hid (by
        rcases Nat.eq_zero_or_pos k with h | h
        · exact .inr h
        · have h2 := HF.out.1
          rw [show max k 1 = k by omega] at h2; exact .inl h2)
      have HB0 : Hid (k = 0 → bl = 0) := Lib.hid fun h => by
        have := HF.out.1.1
        omega
      generalize reachTo xs k len = rk at hr HRK HRA HCK l2
      have ⟨d, hd⟩ : ∃ d : Int, (szS k : Int) - (szS rk : Int) = d := ⟨_, rfl⟩
      have HLK : Hid (lackW xs len k = d) := Lib.hid (by rw [HCK.out, hd])
      have hd0 : -8 ≤ d := by omega
      have hd1 : d ≤ 8 := by omega
      have hdw : IntKind.i64.wrap ((szS k : Int) - (szS rk : Int)) = d := by rw [hd]; exact IntWalk.i64_in _ (by omega)
      by_cases hc : z < d
      · have HN : Hid (FirstMax (lackW xs len) (max (k + 1) 1) k ∧ lackW xs len k = d) := Lib.hid (by
          rw [show max (k + 1) 1 = k + 1 by omega]
          refine ⟨?_, HLK.out⟩
          rcases HK1.out with h | h
          · exact h.take (by rw [HLK.out, HF.out.2]; exact hc)
          · subst h; exact FirstMax.one _)
        have hcI : decide (z < d) = true := decide_eq_true hc
        clear HF HK1 HB0 HCK hc
        go_wp2_with (first
          | (go_at_call 23; refine (HRA.out _).mono ?_; rintro e w' ⟨rfl, rfl⟩)
          | (go_at_call 24; refine (HS.out _ _ (by omega)).mono ?_; rintro e w' ⟨rfl, kq, rfl⟩))
        go_roundw
        case rel => exact ⟨k + 1, k, _, d, by omega, by omega, hd0, hd1, by go_num, rfl, rfl, HN, rfl⟩
        case measure => simp [intOf]; omega
      · have HN : Hid (FirstMax (lackW xs len) (max (k + 1) 1) bl ∧ lackW xs len bl = z) := Lib.hid (by
          rw [show max (k + 1) 1 = k + 1 by omega]
          refine ⟨?_, HF.out.2⟩
          rcases HK1.out with h | h
          · exact h.keep (by rw [HLK.out, HF.out.2]; omega)
          · have := HB0.out h; subst h; subst this; exact FirstMax.one _)
        have hcI : decide (z < d) = false := decide_eq_false hc
        clear HF HK1 HB0 HCK hc
        go_wp2_with (first
          | (go_at_call 23; refine (HRA.out _).mono ?_; rintro e w' ⟨rfl, rfl⟩)
          | (go_at_call 24; refine (HS.out _ _ (by omega)).mono ?_; rintro e w' ⟨rfl, kq, rfl⟩))
        go_roundw
        case rel => exact ⟨k + 1, bl, _, z, by omega, by omega, hz0, hz1, by go_num, rfl, rfl, HN, rfl⟩
        case measure => simp [intOf]; omega
    · obtain rfl : k = Q + 1 := by omega
      have HE : Hid (FirstMax (lackW xs len) (2 ^ len) bl) := Lib.hid (by
        rw [HQ.out]
        have := HF.out.1
        rwa [show max (Q + 1) 1 = Q + 1 by omega] at this)
      clear HF
      go_wp2
      exact bodyPost_ret (v := .tuple #[.int .u32 bl, .int .i64 0]) (by simp [results, Tryd.results17, go_sem]) rfl ⟨⟨bl, HE.out, rfl⟩, _, rfl⟩
end Go.Proofs.YtblbjiogojldhaaDoor
