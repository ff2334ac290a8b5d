/- The reference's GraphCheck: what it answers is gcheck. -/
import Derived.Test.YticickicfigpbaaMem
import Derived.Test.YticickicfigpbaaGood
namespace Go.Proofs.Yticickicfigpbaa
open Go.RowKit

/-- Below, over a param's box. -/
def bx (w : World) (n : Int) (A : Option Addr) (len cap : Nat) : World := w.alloc (.cells #[.int .i64 n, .slice A len cap] 24)

/-- .. an edge's box. -/
def eb (w : World) (a b c : Int) : World := w.alloc (.cells #[.int .i64 a, .int .i64 b, .int .i64 c] 54)

set_option maxRecDepth 100000 in
set_option maxHeartbeats 400000 in
theorem graphCheck_large (n : Int) (A : Option Addr) (len cap : Nat) (w : World) (hL : largeB n len = true) :
    Calls Try.prog 8 #[.agg #[.int .i64 n, .slice A len cap]] w fun e w' => e = .returned (.int .i64 1) ∧ Below w.heap.size w w' := by
  by_cases h0 : n < 0
  · clear hL
    go_enter Try.func8, Try.ntmps8
    go_wp2
    go_ret
    exact ⟨rfl, (Below.refl _ _).alloc (Nat.le_refl _) _⟩
  · by_cases h1 : 10 < n
    · clear hL
      go_enter Try.func8, Try.ntmps8
      go_wp2
      go_ret
      exact ⟨rfl, (Below.refl _ _).alloc (Nat.le_refl _) _⟩
    · have h2 : 45 < len := by simp [largeB] at hL; omega
      clear hL
      go_enter Try.func8, Try.ntmps8
      go_wp2
      go_ret
      exact ⟨rfl, (Below.refl _ _).alloc (Nat.le_refl _) _⟩

set_option maxRecDepth 100000 in
set_option maxHeartbeats 1000000 in
theorem graphCheck_small (n : Int) (A : Option Addr) (len cap : Nat) (es : List E3) (w : World) (hE : EdgesAt w w.heap.size A len es) (hcap : len ≤ cap) (hn0 : 0 ≤ n) (hn1 : n ≤ 10) (hl : len ≤ 45) :
    Calls Try.prog 8 #[.agg #[.int .i64 n, .slice A len cap]] w fun e w' => e = .returned (.int .i64 (scan n [] es)) ∧ Below w.heap.size w w' := by
  go_enter Try.func8, Try.ntmps8
  go_wp2
  go_loopw [24] (fun j wr => ∃ k : Nat, k ≤ len ∧ j = .int .i64 k ∧ Hid (scan n [] es = scan n (es.take k) (es.drop k)) ∧ Below (w.heap.size + 1) (bx w n A len cap) wr) (fun j _ => len - (intOf j).toNat)
  case atStart => exact ⟨0, Nat.zero_le _, rfl, Lib.hid rfl, Below.refl _ _⟩
  case round =>
    obtain ⟨k, hk, rfl, HS, hB⟩ := hrel
    have hE0 : EdgesAt (bx w n A len cap) w.heap.size A len es := hE.alloc (Nat.le_refl _) _
    have hE1 := hE0.below (hB.mono (Nat.le_succ _))
    have hbx0 : wr.cell? ⟨w.heap.size, 0, none⟩ = some (.int .i64 n) := by
      rw [hB.cell (p := ⟨w.heap.size, 0, none⟩) (Nat.lt_succ_self _)]; simp [bx, go_sem]
    have hbx1 : wr.cell? ⟨w.heap.size, 1, none⟩ = some (.slice A len cap) := by
      rw [hB.cell (p := ⟨w.heap.size, 1, none⟩) (Nat.lt_succ_self _)]; simp [bx, go_sem]
    by_cases hlt : k < len
    · obtain ⟨b, off, ⟨a0, a1, a2⟩, rfl, hb, hx, hc0, hc1, hc2⟩ := hE1.at_ hlt
      have HX := Lib.hid hx
      clear hx
      have hEW := Lib.hid hE1
      clear hE hE0 hE1
      obtain ⟨wo, rfl⟩ : ∃ wo : World, wo = wr := ⟨_, rfl⟩
      have hsz : w.heap.size < wo.heap.size := by have := hB.size; simp [bx] at this; omega
      have hbo : b < wo.heap.size := by omega
      have hBw : Below w.heap.size w wo := ((Below.refl _ _).alloc (Nat.le_refl _) _).trans (hB.mono (Nat.le_succ _))
      by_cases hA : isIn n a0 = true ∧ isIn n a1 = true
      · have hi0 : 0 ≤ a0 ∧ a0 < n := by simpa [isIn] using hA.1
        have hi1 : 0 ≤ a1 ∧ a1 < n := by simpa [isIn] using hA.2
        obtain ⟨hi00, hi01⟩ := hi0
        obtain ⟨hi10, hi11⟩ := hi1
        have HA := Lib.hid hA
        clear hA
        by_cases hq : a0 = a1
        · have HR : Hid (scan n [] es = 3) := Lib.hid (HS.out.trans (scan_err n es k _ 3 HX.out (edgeErr_form n _ a0 a1 a2 HA.out.1 HA.out.2 (by simp [hq])) (by decide)))
          have hqb : (a0 == a1) = true := by simpa using hq
          clear hq
          go_wp2
          go_ret
          exact ⟨ret_int HR.out.symm, hBw.alloc (by omega) _⟩
        · have hqb : (a0 == a1) = false := by simpa using hq
          go_wp2
          go_loopw [61] (fun j ws => ∃ m : Nat, m ≤ k ∧ j = .int .i64 m ∧ Hid (metB (es.take m) (a0, a1, a2) = false) ∧ Below (wo.heap.size + 1) (eb wo a0 a1 a2) ws) (fun j _ => k - (intOf j).toNat)
          case atStart => exact ⟨0, Nat.zero_le _, rfl, Lib.hid rfl, Below.refl _ _⟩
          case round =>
            obtain ⟨m, hm, rfl, HM, hB2⟩ := hrel
            have he0 : wr.cell? ⟨wo.heap.size, 0, none⟩ = some (.int .i64 a0) := by
              rw [hB2.cell (p := ⟨wo.heap.size, 0, none⟩) (Nat.lt_succ_self _)]; simp [eb, go_sem]
            have he1 : wr.cell? ⟨wo.heap.size, 1, none⟩ = some (.int .i64 a1) := by
              rw [hB2.cell (p := ⟨wo.heap.size, 1, none⟩) (Nat.lt_succ_self _)]; simp [eb, go_sem]
            have he2 : wr.cell? ⟨wo.heap.size, 2, none⟩ = some (.int .i64 a2) := by
              rw [hB2.cell (p := ⟨wo.heap.size, 2, none⟩) (Nat.lt_succ_self _)]; simp [eb, go_sem]
            have hsz2 : wo.heap.size < wr.heap.size := by have := hB2.size; simp [eb] at this; omega
            have hBo : Below wo.heap.size wo wr := ((Below.refl _ _).alloc (Nat.le_refl _) _).trans (hB2.mono (Nat.le_succ _))
            have hBw2 : Below w.heap.size w wr := hBw.trans (hBo.mono (by omega))
            by_cases hlt2 : m < k
            · obtain ⟨b', off', ⟨f0, f1, f2⟩, hA', hb', hx', hd0, hd1, hd2⟩ := (hEW.out.below (hBo.mono (by omega))).at_ (k := m) (by omega)
              obtain ⟨rfl, rfl⟩ : b = b' ∧ off = off' := by injection hA' with h; injection h with h1 h2; exact ⟨h1, h2⟩
              clear hA' hb'
              have HF := Lib.hid hx'
              clear hx' hEW
              have hbr : b < wr.heap.size := by omega
              by_cases hs : sameB (a0, a1, a2) (f0, f1, f2) = true
              · have HR : Hid (scan n [] es = 3) := Lib.hid (HS.out.trans (scan_err n es k _ 3 HX.out (edgeErr_form n _ a0 a1 a2 HA.out.1 HA.out.2 (by rw [metB_mem es m k _ _ hlt2 HF.out hs]; simp)) (by decide)))
                have hw : ((f0 == a0) = true ∧ (f1 == a1) = true) ∨ ((f0 == a0) = false ∧ (f0 == a1) = true ∧ (f1 == a0) = true) := by
                  simp [sameB] at hs; simp; omega
                clear hs
                rcases hw with ⟨h1, h2⟩ | ⟨h1, h2, h3⟩
                all_goals
                  go_wp2
                  go_ret
                  exact ⟨ret_int HR.out.symm, hBw2.alloc (by omega) _⟩
              · have HM2 : Hid (metB (es.take (m + 1)) (a0, a1, a2) = false) := Lib.hid (by rw [metB_next es m _ _ HF.out, HM.out]; simpa using hs)
                have hw : ((f0 == a0) = true ∧ (f1 == a1) = false ∧ (f0 == a1) = false) ∨ ((f0 == a0) = false ∧ (f0 == a1) = true ∧ (f1 == a0) = false) ∨ ((f0 == a0) = false ∧ (f0 == a1) = false) := by
                  simp [sameB] at hs; simp; omega
                clear hs
                rcases hw with ⟨h1, h2, h3⟩ | ⟨h1, h2, h3⟩ | ⟨h1, h2⟩
                all_goals
                  go_wp2
                  go_roundw
                  case rel => exact ⟨m + 1, by omega, by go_num, HM2, hB2.alloc (by omega) _⟩
                  case measure => simp [intOf]; omega
            · have hmk : m = k := by omega
              have HF : Hid ((a0 == a1 || metB (es.take k) (a0, a1, a2)) = false) := Lib.hid (by rw [← hmk, HM.out, hqb]; rfl)
              by_cases hw : a2 < -1048576 ∨ 1048576 < a2
              · have HR : Hid (scan n [] es = 4) := Lib.hid (HS.out.trans (scan_err n es k _ 4 HX.out (edgeErr_range n _ a0 a1 a2 HA.out.1 HA.out.2 HF.out hw) (by decide)))
                have hw' : a2 < -1048576 ∨ (-1048576 ≤ a2 ∧ 1048576 < a2) := by omega
                clear hw hmk
                rcases hw' with h1 | ⟨h1, h2⟩
                all_goals
                  go_wp2
                  go_ret
                  exact ⟨ret_int HR.out.symm, hBw2⟩
              · have hw1 : -1048576 ≤ a2 := by omega
                have hw2 : a2 ≤ 1048576 := by omega
                have HN : Hid (scan n [] es = scan n (es.take (k + 1)) (es.drop (k + 1))) := Lib.hid (HS.out.trans (scan_next n es k _ HX.out (edgeErr_ok n _ a0 a1 a2 HA.out.1 HA.out.2 HF.out hw1 hw2)))
                clear hw hmk
                go_wp2
                go_roundw
                case rel => exact ⟨k + 1, by omega, by go_num, HN, hB.trans (hBo.mono (by omega))⟩
                case measure => simp [intOf]; omega
      · have HR : Hid (scan n [] es = 2) := by
          exact Lib.hid (HS.out.trans (scan_err n es k _ 2 HX.out (edgeErr_out n _ a0 a1 a2 hA) (by decide)))
        have hw : a0 < 0 ∨ (0 ≤ a0 ∧ n ≤ a0) ∨ (0 ≤ a0 ∧ a0 < n ∧ a1 < 0) ∨ (0 ≤ a0 ∧ a0 < n ∧ 0 ≤ a1 ∧ n ≤ a1) := by
          simp [isIn] at hA; omega
        clear hA
        rcases hw with h | ⟨h1, h2⟩ | ⟨h1, h2, h3⟩ | ⟨h1, h2, h3, h4⟩
        all_goals
          go_wp2
          go_ret
          exact ⟨ret_int HR.out.symm, hBw.alloc (by omega) _⟩
    · have HZ := Lib.hid (HS.out.trans (scan_end n es k (by have := hE.1; omega)))
      go_wp2
      go_ret
      exact ⟨ret_int HZ.out.symm, ((Below.refl _ _).alloc (Nat.le_refl _) _).trans (hB.mono (Nat.le_succ _))⟩
end Go.Proofs.Yticickicfigpbaa
