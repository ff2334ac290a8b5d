/- pairs.Cover: the first of the cheapest lefts, and all friends of the others. -/
import Derived.Test.YtblbjiogojldhaaDoorPairCheck
import Derived.Test.YtblbjiogojldhaaDoorReachGo
namespace Go.Proofs.YtblbjiogojldhaaDoor
open Go.RowKit

theorem othW_zero {n : Nat} (hn : n ≤ 8) : othW n 0 = 2 ^ n - 1 := by
  have := pow8 hn
  have h0 := othW_lt (n := n) (s := 0) hn (by omega)
  refine eq_of_bits (by omega) (by omega) fun j _ => ?_
  rw [othW_bit hn (by omega), all_bit]
  simp
theorem drewN_two (w : World) (a b : Nat) : (w.drewN a).drewN b = w.drewN (a + b) := World.drewN_drewN _ _ _
theorem pow_lit {n Q : Nat} (hn : n ≤ 8) (hQ : 2 ^ n = Q + 1) : (2 : Int) ^ n % 4294967296 = (Q : Int) + 1 ∧ IntKind.u32.wrap ((2 : Int) ^ n) = (Q : Int) + 1 := by
  have := pow8 hn
  have h := pow_mod n (by omega)
  rw [hQ] at h
  refine ⟨by rw [h]; omega, ?_⟩
  rw [wrap_u32n, h]; omega
def coverR (xs : List Nat) (n bl : Nat) : Nat := reachTo xs (othW n bl) n
theorem coverR_lt {xs : List Nat} {n bl : Nat} (hx : W8 xs) : coverR xs n bl < 256 := reachTo_lt hx n

set_option maxRecDepth 100000 in
set_option maxHeartbeats 1000000 in
theorem coverGo_bad (len cap : Nat) (A : Option Addr) (xs : List Nat) (v : Int) (w : World) (hA : WordsAt w w.heap.size A len xs) (hm : len ≤ maxLen) (hx : ∀ x ∈ xs, x < 4294967296) (hv : pcheck xs = v) (hv0 : v ≠ 0) :
    Calls Tryd.prog 11 #[.slice A len cap] w fun e w' => e = .returned (.tuple #[.int .u32 0, .int .u32 0, .int .i64 v]) ∧ w = w' := by
  have hb0 : (v != 0) = true := by simpa using hv0
  have HC := Lib.hid (check_v len cap A xs v w hA hm hx hv)
  clear hA hv hx
  go_enter Tryd.func11, Tryd.ntmps11
  go_wp2_with (go_at_call 19; refine HC.out.mono ?_; rintro e w' ⟨rfl, rfl⟩)
  exact bodyPost_ret (v := .tuple #[.int .u32 0, .int .u32 0, .int .i64 v]) (by simp [results, Tryd.results11, go_sem]) rfl ⟨rfl, rfl⟩

set_option maxRecDepth 100000 in
set_option maxHeartbeats 4000000 in
theorem coverGo_good (len cap : Nat) (A : Option Addr) (xs : List Nat) (w : World) (hA : WordsAt w w.heap.size A len xs) (hl : len ≤ 8) (hx : W8 xs) :
    Calls Tryd.prog 11 #[.slice A len cap] w fun e w' => (∃ a : Nat, FirstMin (costW xs len) (2 ^ len) a ∧ e = .returned (.tuple #[.int .u32 a, .int .u32 (coverR xs len a : Nat), .int .i64 0])) ∧ ∃ k, w' = w.drewN k := by
  have hlen := hA.1
  have HC := Lib.hid (check_v len cap A xs 0 w hA (by unfold maxLen; omega) (fun x h => by have := hx x h; omega) (pcheck_ok (by omega) fun i _ => hx.at_ i))
  have HA := Lib.hid hA
  have HX := Lib.hid hx
  have h8 := pow8 hl
  have hp := Nat.two_pow_pos len
  have HR := Lib.hid (fun (s : Nat) (W : World) (hW : WordsAt W W.heap.size A len xs) (hs : s < 4294967296) => reach_any len cap s A xs W hW hl hx hs)
  have HO0 : Hid (reachTo xs (2 ^ len - 1) len = coverR xs len 0) := Lib.hid (by unfold coverR; rw [othW_zero hl])
  have HOT : Hid (∀ k, k < 256 → othW len k < 256 ∧ bits .andNot .u32 ((2 ^ len - 1 : Nat) : Int) (k : Int) = ((othW len k : Nat) : Int)) := Lib.hid fun k hk => ⟨by have := othW_lt (n := len) hl hk; omega, andNot_u32 _ _ (by omega) (by omega)⟩
  obtain ⟨Q, hQ⟩ : ∃ Q, 2 ^ len = Q + 1 := ⟨2 ^ len - 1, by omega⟩
  have HQ := Lib.hid hQ
  obtain ⟨hq1, hq2⟩ := pow_lit hl hQ
  have hQ8 : Q < 256 := by omega
  rw [show 2 ^ len - 1 = Q by omega] at HO0 HOT
  clear hA hx hlen hQ h8 hp
  go_enter Tryd.func11, Tryd.ntmps11
  go_wp2_with (first
    | (go_at_call 19; refine HC.out.mono ?_; rintro e w' ⟨rfl, rfl⟩)
    | (go_at_call 23; refine (HR.out Q _ (by exact HA.out) (by omega)).mono ?_; rintro e w' ⟨rfl, rfl⟩))
  rw [HO0.out]
  go_loopw [7, 8, 25] (fun b7 b8 c wr => ∃ (k bl q : Nat), k ≤ Q + 1 ∧ bl < 256 ∧ c = .int .u32 k ∧ b7 = .int .u32 bl ∧ b8 = .int .u32 (coverR xs len bl : Nat) ∧ Hid (FirstMin (costW xs len) (max k 1) bl) ∧ wr = w.drewN q) (fun _ _ c _ => Q + 1 - (intOf c).toNat)
  case atStart => exact ⟨0, 0, 0, Nat.zero_le _, by omega, rfl, rfl, rfl, Lib.hid (FirstMin.one _), rfl⟩
  case round =>
    obtain ⟨k, bl, q, hk, hbl, rfl, rfl, rfl, HF, rfl⟩ := hrel
    by_cases hlt : k < Q + 1
    · obtain ⟨hok, hoe⟩ := HOT.out k (by omega)
      have hck : coverR xs len k < 256 := coverR_lt HX.out
      have hcb : coverR xs len bl < 256 := coverR_lt HX.out
      have HCK : Hid (costW xs len k = szS k + szS (coverR xs len k)) := Lib.hid rfl
      have HCB : Hid (costW xs len bl = szS bl + szS (coverR xs len bl)) := Lib.hid rfl
      have HRK : Hid (Calls Tryd.prog 23 #[.slice A len cap, .int .u32 (othW len k : Nat)] (w.drewN q) fun e w' => e = .returned (.int .u32 (coverR xs len k : Nat)) ∧ w.drewN q = w') := Lib.hid (HR.out (othW len k) _ (by exact HA.out.drewN q) (by omega))
      have HS := Lib.hid (fun (x : Nat) (W : World) (h : x < 256) => sizeGo_any x W h)
      have HK1 : Hid (FirstMin (costW xs len) k bl ∨ k = 0) := Lib.hid (by
        rcases Nat.eq_zero_or_pos k with h | h
        · exact .inr h
        · rw [show max k 1 = k by omega] at HF; exact .inl HF.out)
      have l1 := szS_le k
      have l2 := szS_le (coverR xs len k)
      have l3 := szS_le bl
      have l4 := szS_le (coverR xs len bl)
      have hk256 : k < 256 := by omega
      have HB0 : Hid (k = 0 → bl = 0) := Lib.hid fun h => by
        have := HF.out.1
        omega
      generalize hrk : coverR xs len k = rk at hck HCK HRK l2
      have HRK2 : Hid (coverR xs len k = rk) := Lib.hid hrk
      generalize hrb : coverR xs len bl = rb at hcb HCB l4
      have HRB2 : Hid (coverR xs len bl = rb) := Lib.hid hrb
      clear hrk hrb
      generalize othW len k = ok at hok hoe HRK
      by_cases hc : szS k + szS rk < szS bl + szS rb
      · have HN : Hid (FirstMin (costW xs len) (max (k + 1) 1) k) := Lib.hid (by
          rw [show max (k + 1) 1 = k + 1 by omega]
          rcases HK1.out with h | h
          · exact h.take (by rw [HCK.out, HCB.out]; exact hc)
          · subst h; exact FirstMin.one _)
        have hcI : decide (szS k + szS rk < szS bl + szS rb) = true := decide_eq_true hc
        have hcJ : decide ((szS k : Int) + (szS rk : Int) < (szS bl : Int) + (szS rb : Int)) = true := decide_eq_true (by omega)
        clear HF HK1 HB0 HCK HCB hc
        go_wp2_with (first
          | (go_at_call 23; refine HRK.out.mono ?_; rintro e w' ⟨rfl, rfl⟩)
          | (go_at_call 24; refine (HS.out _ _ (by omega)).mono ?_; rintro e w' ⟨rfl, kq, rfl⟩))
        go_roundw
        case rel => exact ⟨k + 1, k, _, by omega, by omega, by go_num, rfl, by rw [HRK2.out], HN, rfl⟩
        case measure => simp [intOf]; omega
      · have HN : Hid (FirstMin (costW xs len) (max (k + 1) 1) bl) := Lib.hid (by
          rw [show max (k + 1) 1 = k + 1 by omega]
          rcases HK1.out with h | h
          · exact h.keep (by rw [HCK.out, HCB.out]; omega)
          · have := HB0.out h; subst h; subst this; exact FirstMin.one _)
        have hcI : decide (szS k + szS rk < szS bl + szS rb) = false := decide_eq_false hc
        have hcJ : decide ((szS k : Int) + (szS rk : Int) < (szS bl : Int) + (szS rb : Int)) = false := decide_eq_false (by omega)
        clear HF HK1 HB0 HCK HCB hc
        go_wp2_with (first
          | (go_at_call 23; refine HRK.out.mono ?_; rintro e w' ⟨rfl, rfl⟩)
          | (go_at_call 24; refine (HS.out _ _ (by omega)).mono ?_; rintro e w' ⟨rfl, kq, rfl⟩))
        go_roundw
        case rel => exact ⟨k + 1, bl, _, by omega, by omega, by go_num, rfl, by rw [HRB2.out], HN, rfl⟩
        case measure => simp [intOf]; omega
    · obtain rfl : k = Q + 1 := by omega
      have HE : Hid (FirstMin (costW xs len) (2 ^ len) bl) := Lib.hid (by
        rw [HQ.out]
        have := HF.out
        rwa [show max (Q + 1) 1 = Q + 1 by omega] at this)
      clear HF
      go_wp2
      exact bodyPost_ret (v := .tuple #[.int .u32 bl, .int .u32 (coverR xs len bl : Nat), .int .i64 0]) (by simp [results, Tryd.results11, go_sem]) rfl ⟨⟨bl, HE.out, rfl⟩, _, rfl⟩
end Go.Proofs.YtblbjiogojldhaaDoor
