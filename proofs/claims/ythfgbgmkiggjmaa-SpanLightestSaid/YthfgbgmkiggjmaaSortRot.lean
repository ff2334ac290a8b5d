/- The rotation of two blocks of a row. -/
import Derived.Test.YthfgbgmkiggjmaaSortCmp
namespace Go.Proofs.Ythfgbgmkiggjmaa
open Go.RowKit

set_option maxRecDepth 100000 in
set_option maxHeartbeats 2000000 in
theorem rotate_any (g len cap a m b : Nat) (vf : Value) (f : Nat → Int) (w : World) (h : RowC w g len f) (h1 : a < m) (h2 : m < b) (hb : b ≤ len) (hl : len ≤ 1000) :
    Calls Try.prog 90 #[.slice (some ⟨g, 0, none⟩) len cap, .int .i64 a, .int .i64 m, .int .i64 b, vf] w fun e w' => e = .returned (.tuple #[]) ∧ RowC w' g len (rotF f a m b) ∧ Below g w w' := by
  have HR := Lib.hid h
  clear h
  go_enter Try.func90, Try.ntmps90
  go_wp2
  go_loopw [10, 11] (fun si sj wr => ∃ (i j : Nat) (c : Nat → Int), 0 < i ∧ 0 < j ∧ i ≤ m ∧ m + j ≤ len ∧ si = .int .i64 i ∧ sj = .int .i64 j ∧ Hid (∀ t, rotF c (m - i) m (m + j) t = rotF f a m b t) ∧ Hid (RowC wr g len c) ∧ Below g w wr) (fun si sj _ => (intOf si).toNat + (intOf sj).toNat)
  case atStart =>
    refine ⟨m - a, b - m, f, by omega, by omega, by omega, by omega, ?_, ?_, Lib.hid fun t => ?_, HR, Below.refl _ _⟩
    · congr 1; omega
    · congr 1; omega
    · rw [show m - (m - a) = a by omega, show m + (b - m) = b by omega]
  case round =>
    obtain ⟨i, j, c, hi0, hj0, him, hjl, rfl, rfl, HT, HC, hB⟩ := hrel
    have wmi : IntKind.i64.wrap ((m : Int) - (i : Int)) = (m : Int) - (i : Int) := IntWalk.i64_in _ (by omega)
    have emi : (m : Int) - (i : Int) = ((m - i : Nat) : Int) := by omega
    by_cases hij : i = j
    · subst hij
      have hne : ((i : Int) != (i : Int)) = false := by simp
      have HS := Lib.hid (fun W hW => swapRange_any g len cap (m - i) m i vf c W hW (by omega) (by omega) hl)
      have HFN : Hid (∀ t, t < len → swpF c (m - i) m i t = rotF f a m b t) := Lib.hid fun t _ => by
        rw [rot_same (u := m + i) (by omega) rfl, HT.out t]
      go_wp2_with (go_at_call 92; refine (HS.out _ (by exact HC.out)).mono ?_; rintro e w1 ⟨rfl, hr, hb1⟩; have HR1 := Lib.hid (hr.congr HFN.out); have HB1 := Lib.hid (hB.trans hb1); clear hr hb1)
      go_end0
      exact ⟨rfl, HR1.out, HB1.out⟩
    · have hne : ((i : Int) != (j : Int)) = true := by simp; omega
      have hne2 : ¬ (i : Int) = (j : Int) := by omega
      by_cases hgt : j < i
      · have HS := Lib.hid (fun W hW => swapRange_any g len cap (m - i) m j vf c W hW (by omega) (by omega) hl)
        have HFN : Hid (∀ t, rotF (swpF c (m - i) m j) (m - (i - j)) m (m + j) t = rotF f a m b t) := Lib.hid fun t => by
          have e : m - (i - j) = m - i + j := by omega
          rw [e]
          exact (rot_more rfl (by omega) t).trans (HT.out t)
        have hgt2 : (j : Int) < (i : Int) := by omega
        have e1 : (i : Int) - (j : Int) = ((i - j : Nat) : Int) := by omega
        go_wp2_with (go_at_call 92; refine (HS.out _ (by exact HC.out)).mono ?_; rintro e w1 ⟨rfl, hr, hb1⟩; have HR1 := Lib.hid hr; have HB1 := Lib.hid (hB.trans hb1); clear hr hb1)
        go_roundw
        case rel => exact ⟨i - j, j, _, by omega, hj0, by omega, hjl, rfl, rfl, HFN, HR1, HB1.out⟩
        case measure => simp [intOf]; omega
      · have hlt : i < j := by omega
        have HS := Lib.hid (fun W hW => swapRange_any g len cap (m - i) (m + j - i) i vf c W hW (by omega) (by omega) hl)
        have HFN : Hid (∀ t, rotF (swpF c (m - i) (m + j - i) i) (m - i) m (m + (j - i)) t = rotF f a m b t) := Lib.hid fun t => by
          have e : m + (j - i) = m + j - i := by omega
          rw [e]
          exact (rot_less (by omega) (by omega) t).trans (HT.out t)
        have emj : (m : Int) + (j : Int) - (i : Int) = ((m + j - i : Nat) : Int) := by omega
        rw [← emj] at HS
        clear emj
        have wmj : IntKind.i64.wrap ((m : Int) + (j : Int)) = (m : Int) + (j : Int) := IntWalk.i64_in _ (by omega)
        have wmk : IntKind.i64.wrap ((m : Int) + (j : Int) - (i : Int)) = (m : Int) + (j : Int) - (i : Int) := IntWalk.i64_in _ (by omega)
        have hgt2 : ¬ (j : Int) < (i : Int) := by omega
        have e1 : (j : Int) - (i : Int) = ((j - i : Nat) : Int) := by omega
        go_wp2_with (go_at_call 92; refine (HS.out _ (by exact HC.out)).mono ?_; rintro e w1 ⟨rfl, hr, hb1⟩; have HR1 := Lib.hid hr; have HB1 := Lib.hid (hB.trans hb1); clear hr hb1)
        go_roundw
        case rel => exact ⟨i, j - i, _, hi0, by omega, him, by omega, rfl, rfl, HFN, HR1, HB1.out⟩
        case measure => simp [intOf]; omega

end Go.Proofs.Ythfgbgmkiggjmaa
