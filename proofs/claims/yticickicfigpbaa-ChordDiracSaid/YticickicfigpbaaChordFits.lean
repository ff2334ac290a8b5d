/- chord.fits: may a node come next in a ring that is to have so many? Conditions: at most ten nodes. -/
import Derived.Test.YticickicfigpbaaHoleGoP
import Derived.Test.YticickicfigpbaaNatG
import Derived.Test.YticickicfigpbaaWordsAt
import Derived.IntWalk
namespace Go.Proofs.Yticickicfigpbaa
open Go.RowKit

set_option maxRecDepth 100000 in
set_option maxHeartbeats 4000000 in
theorem fits_any (m L x n cW cR : Nat) (AW AR : Option Addr) (xs l : List Nat) (adj : Nat → Nat → Bool) (v : Bool) (w : World) (hm : m ≤ 10) (hL : L ≤ 10) (hW : WordsAt w w.heap.size AW m xs) (hR : IntsAt w w.heap.size AR n (natG l)) (hx : x < m) (hn : n ≤ 10)
    (hl : ∀ i, i < l.length → l.getD i 0 < m) (hxl : xs.getD x 0 < 1024) (hbit : ∀ j, (xs.getD x 0).testBit j = adj x j) (hv : fitsB adj L l x = v) :
    Calls Try.prog 41 #[.slice AW m cW, .slice AR n cR, .int .i64 (L : Int), .int .i64 (x : Int)] w fun e w' => e = .returned (.bool v) ∧ w' = w := by
  have hln : l.length = n := by have := hR.1; simpa [natG] using this
  have HR := Lib.hid hR
  have HL := Lib.hid hl
  have HV : Hid (v = true ↔ ∀ p, p < n → l.getD p 0 ≠ x ∧ (adj x (l.getD p 0) = true ↔ p + 1 = n ∨ (p = 0 ∧ n + 1 = L))) := Lib.hid (by rw [← hv, fits_iff, hln])
  have HB := Lib.hid hbit
  obtain ⟨bW, oW, rfl, _, hcx⟩ := hW.at_ hx
  obtain ⟨nbx, hnbx⟩ : ∃ nbx, xs.getD x 0 = nbx := ⟨_, rfl⟩
  rw [hnbx] at hcx hxl HB
  have hx0 : (0 : Int) ≤ (x : Int) := by omega
  have hx1 : (x : Int) < (m : Int) := by omega
  have hw1 : IntKind.i64.wrap ((n : Int) - 1) = (n : Int) - 1 := IntWalk.i64_in _ (by omega)
  have hw2 : IntKind.i64.wrap ((L : Int) - 1) = (L : Int) - 1 := IntWalk.i64_in _ (by omega)
  have HLN := Lib.hid hln
  clear hW hR hl hv hbit hnbx hln
  go_enter Try.func41, Try.ntmps41
  go_wp2
  go_loop [9, 10, 11, 14] (fun _ _ _ j => ∃ k : Nat, k ≤ n ∧ j = .int .i64 k ∧ Hid (∀ p, p < k → l.getD p 0 ≠ x ∧ (adj x (l.getD p 0) = true ↔ p + 1 = n ∨ (p = 0 ∧ n + 1 = L)))) (fun _ _ _ j => n - (intOf j).toNat)
  case atStart => exact ⟨0, Nat.zero_le _, rfl, Lib.hid fun i hi => absurd hi (Nat.not_lt_zero i)⟩
  case round =>
    obtain ⟨k, hk, rfl, HK⟩ := hrel
    by_cases hkn : k < n
    · have hkn' : (k : Int) < (n : Int) := by omega
      have hk0 : (0 : Int) ≤ (k : Int) := by omega
      obtain ⟨b, off, y0, rfl, hb, hy, hc⟩ := HR.out.at_ hkn
      obtain ⟨y, hy2, rfl⟩ := natG_get hy
      have hyd : l.getD k 0 = y := by rw [List.getD_eq_getElem?_getD, hy2]; rfl
      have hym : y < m := by rw [← hyd]; exact HL.out k (by rw [HLN.out]; exact hkn)
      have hy0 : (0 : Int) ≤ (y : Int) := by omega
      have hy32 : (y : Int) ≤ 32 := by omega
      have hbt := shr_bit nbx y (by omega)
      rw [HB.out] at hbt
      have HYD := Lib.hid hyd
      clear hy hy2 hyd
      have HBAD : Hid (¬ (y ≠ x ∧ (adj x y = true ↔ k + 1 = n ∨ (k = 0 ∧ n + 1 = L))) → v = false) := Lib.hid (fun h => by
        cases hvv : v with
        | false => rfl
        | true => have := HV.out.1 hvv k hkn; rw [HYD.out] at this; exact absurd this h)
      have HOK : Hid ((y ≠ x ∧ (adj x y = true ↔ k + 1 = n ∨ (k = 0 ∧ n + 1 = L))) → ∀ p, p < k + 1 → l.getD p 0 ≠ x ∧ (adj x (l.getD p 0) = true ↔ p + 1 = n ∨ (p = 0 ∧ n + 1 = L))) := Lib.hid (fun h p hp => by
        by_cases e : p = k
        · subst e; rw [HYD.out]; exact h
        · exact HK.out p (by omega))
      clear HK
      have HS : (((k : Int) == (n : Int) - 1) = true ∧ Hid (k + 1 = n ∨ (k = 0 ∧ n + 1 = L))) ∨ (((k : Int) == (n : Int) - 1) = false ∧ ((k : Int) == 0) = false ∧ Hid (¬ (k + 1 = n ∨ (k = 0 ∧ n + 1 = L)))) ∨ (((k : Int) == (n : Int) - 1) = false ∧ ((k : Int) == 0) = true ∧ ((n : Int) == (L : Int) - 1) = true ∧ Hid (k + 1 = n ∨ (k = 0 ∧ n + 1 = L))) ∨ (((k : Int) == (n : Int) - 1) = false ∧ ((k : Int) == 0) = true ∧ ((n : Int) == (L : Int) - 1) = false ∧ Hid (¬ (k + 1 = n ∨ (k = 0 ∧ n + 1 = L)))) := by
        by_cases h1 : k + 1 = n
        · exact .inl ⟨by rw [beq_iff_eq]; omega, Lib.hid (.inl h1)⟩
        · have e1 : ((k : Int) == (n : Int) - 1) = false := by rw [beq_eq_false_iff_ne]; omega
          by_cases h2 : k = 0
          · have e2 : ((k : Int) == 0) = true := by rw [beq_iff_eq]; omega
            by_cases h3 : n + 1 = L
            · exact .inr (.inr (.inl ⟨e1, e2, by rw [beq_iff_eq]; omega, Lib.hid (.inr ⟨h2, h3⟩)⟩))
            · exact .inr (.inr (.inr ⟨e1, e2, by rw [beq_eq_false_iff_ne]; omega, Lib.hid (by omega)⟩))
          · exact .inr (.inl ⟨e1, by rw [beq_eq_false_iff_ne]; omega, Lib.hid (by omega)⟩)
      by_cases hyx : y = x
      · have HF : Hid (v = false) := Lib.hid (HBAD.out fun h => h.1 hyx)
        have hee : ((y : Int) == (x : Int)) = true := by rw [beq_iff_eq]; omega
        clear hyx hbt HBAD HOK
        rcases HS with ⟨e1, _⟩ | ⟨e1, e2, _⟩ | ⟨e1, e2, e3, _⟩ | ⟨e1, e2, e3, _⟩ <;> all_goals
          go_wp2
          go_ret
          exact ⟨ret_bool HF.out.symm, rfl⟩
      · have hee : ((y : Int) == (x : Int)) = false := by rw [beq_eq_false_iff_ne]; omega
        have HYX := Lib.hid hyx
        clear hyx
        cases ha : adj x y with
        | true =>
          rw [ha] at hbt HOK HBAD
          clear ha
          rcases HS with ⟨e1, HQ⟩ | ⟨e1, e2, HQ⟩ | ⟨e1, e2, e3, HQ⟩ | ⟨e1, e2, e3, HQ⟩
          · have HN := Lib.hid (HOK.out ⟨HYX.out, by simpa using HQ.out⟩)
            clear HOK HBAD
            go_wp2
            go_round
            case rel => exact ⟨k + 1, by omega, by go_num, HN⟩
            case measure => simp [intOf]; omega
          · have HF : Hid (v = false) := Lib.hid (HBAD.out fun h => HQ.out (h.2.1 rfl))
            clear HOK HBAD
            go_wp2
            go_ret
            exact ⟨ret_bool HF.out.symm, rfl⟩
          · have HN := Lib.hid (HOK.out ⟨HYX.out, by simpa using HQ.out⟩)
            clear HOK HBAD
            go_wp2
            go_round
            case rel => exact ⟨k + 1, by omega, by go_num, HN⟩
            case measure => simp [intOf]; omega
          · have HF : Hid (v = false) := Lib.hid (HBAD.out fun h => HQ.out (h.2.1 rfl))
            clear HOK HBAD
            go_wp2
            go_ret
            exact ⟨ret_bool HF.out.symm, rfl⟩
        | false =>
          rw [ha] at hbt HOK HBAD
          clear ha
          rcases HS with ⟨e1, HQ⟩ | ⟨e1, e2, HQ⟩ | ⟨e1, e2, e3, HQ⟩ | ⟨e1, e2, e3, HQ⟩
          · have HF : Hid (v = false) := Lib.hid (HBAD.out fun h => by cases h.2.2 HQ.out)
            clear HOK HBAD
            go_wp2
            go_ret
            exact ⟨ret_bool HF.out.symm, rfl⟩
          · have HN := Lib.hid (HOK.out ⟨HYX.out, fun h => (by cases h), fun h => absurd h HQ.out⟩)
            clear HOK HBAD
            go_wp2
            go_round
            case rel => exact ⟨k + 1, by omega, by go_num, HN⟩
            case measure => simp [intOf]; omega
          · have HF : Hid (v = false) := Lib.hid (HBAD.out fun h => by cases h.2.2 HQ.out)
            clear HOK HBAD
            go_wp2
            go_ret
            exact ⟨ret_bool HF.out.symm, rfl⟩
          · have HN := Lib.hid (HOK.out ⟨HYX.out, fun h => (by cases h), fun h => absurd h HQ.out⟩)
            clear HOK HBAD
            go_wp2
            go_round
            case rel => exact ⟨k + 1, by omega, by go_num, HN⟩
            case measure => simp [intOf]; omega
    · obtain rfl : k = n := by omega
      have HT : Hid (v = true) := Lib.hid (HV.out.2 HK.out)
      clear HK
      go_wp2
      go_ret
      exact ⟨ret_bool HT.out.symm, rfl⟩
end Go.Proofs.Yticickicfigpbaa
