/- The reference's Ints, for any two lists. -/
import Derived.Test.YticickicfigpbaaInts
namespace Go.Proofs.Yticickicfigpbaa
open Go.RowKit

set_option maxRecDepth 100000 in
set_option maxHeartbeats 1000000 in
theorem ints_v (A1 A2 : Option Addr) (n1 n2 c1 c2 : Nat) (xs ys : List Int) (v : Bool) (w : World) (h1 : IntsAt w w.heap.size A1 n1 xs) (h2 : IntsAt w w.heap.size A2 n2 ys) (hn : n1 ≤ 4000000000) (hn2 : n2 ≤ 4000000000) (hv : v = true ↔ xs = ys) :
    Calls Try.prog 10 #[.slice A1 n1 c1, .slice A2 n2 c2] w fun e w' => e = .returned (.bool v) ∧ ∃ k, w' = w.drewN k := by
  have H1 := Lib.hid h1
  have H2 := Lib.hid h2
  have HV := Lib.hid hv
  clear h1 h2 hv
  by_cases hl : n1 = n2
  · subst hl
    go_enter Try.func10, Try.ntmps10
    go_wp2
    go_loopw [5] (fun j wr => ∃ k q : Nat, k ≤ n1 ∧ j = .int .i64 k ∧ Hid (∀ i, i < k → xs[i]? = ys[i]?) ∧ wr = w.drewN q) (fun j _ => n1 - (intOf j).toNat)
    case atStart => exact ⟨0, 0, Nat.zero_le _, rfl, Lib.hid (fun i hi => by omega), rfl⟩
    case round =>
      obtain ⟨k, q, hk, rfl, HS, rfl⟩ := hrel
      by_cases hlt : k < n1
      · obtain ⟨b, off, x, rfl, _, hx, hc⟩ := H1.out.at_ hlt
        obtain ⟨b', off', y, rfl, _, hy, hc'⟩ := H2.out.at_ hlt
        have hki : (k : Int) < (n1 : Int) := by omega
        have hk0 : (0 : Int) ≤ (k : Int) := by omega
        by_cases hxy : x = y
        · subst hxy
          have HS2 : Hid (∀ i, i < k + 1 → xs[i]? = ys[i]?) := Lib.hid fun i hi => by
            rcases Nat.lt_or_ge i k with h | h
            · exact HS.out i h
            · obtain rfl : i = k := by omega
              rw [hx, hy]
          clear hx hy
          go_wp2
          go_quiet (fail)
          go_wp2
          go_roundw
          case rel => exact ⟨k + 1, _, by omega, by go_num, HS2, rfl⟩
          case measure => simp [intOf]; omega
        · have hne : (x != y) = true := by simpa using hxy
          have HR : Hid (v = false) := Lib.hid (by
            rw [Bool.eq_false_iff]
            intro h
            have := HV.out.1 h
            subst this
            rw [hx] at hy
            injection hy with hy
            exact hxy hy)
          clear hx hy
          go_wp2
          go_quiet (fail)
          go_wp2
          go_ret
          exact ⟨ret_bool HR.out.symm, _, World.drewN_drewN _ _ _⟩
      · have HR : Hid (v = true) := Lib.hid (HV.out.2 (List.ext_getElem? fun i => by
          rcases Nat.lt_or_ge i n1 with h | h
          · exact HS.out i (by omega)
          · rw [List.getElem?_eq_none (by rw [H1.out.1]; exact h), List.getElem?_eq_none (by rw [H2.out.1]; exact h)]))
        go_wp2
        go_ret
        exact ⟨ret_bool HR.out.symm, q, rfl⟩
  · have HR : Hid (v = false) := Lib.hid (by
      rw [Bool.eq_false_iff]
      intro h
      have := HV.out.1 h
      subst this
      exact hl (H1.out.1.symm.trans H2.out.1))
    have hb1 : ((n1 : Int) != (n2 : Int)) = true := by simp; omega
    have hb2 : (n1 != n2) = true := by simpa using hl
    go_enter Try.func10, Try.ntmps10
    go_wp2
    go_ret
    exact ⟨ret_bool HR.out.symm, 0, rfl⟩
end Go.Proofs.Yticickicfigpbaa
