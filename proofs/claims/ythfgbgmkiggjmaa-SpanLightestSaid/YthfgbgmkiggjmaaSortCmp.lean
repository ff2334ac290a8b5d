/- What the sort of places asks: of two edges, which has less weight; two blocks of a row that change places. -/
import Derived.Test.YthfgbgmkiggjmaaSortP
import Derived.Test.YthfgbgmkiggjmaaInts
import Derived.Test.YthfgbgmkiggjmaaMem
import Derived.RegionTactic
import Derived.BigRegion
import Derived.ChangeAlike
import Derived.IntWalk
namespace Go.Proofs.Ythfgbgmkiggjmaa
open Go.RowKit

/-- The weight of the edge at a place. -/
def wOf (es : List E3) (x : Int) : Int := (es.getD x.toNat (0, 0, 0)).2.2
/-- The variable that the test reads, and the edges behind it. -/
structure CmpAt (w : World) (B : Nat) (A : Option Addr) (len cap : Nat) (es : List E3) : Prop where
  box : w.cell? ⟨B, 0, none⟩ = some (.slice A len cap)
  edges : EdgesAt w B A len es
theorem CmpAt.below {w w' : World} {B g : Nat} {A : Option Addr} {len cap : Nat} {es : List E3} (h : CmpAt w B A len cap es) (hb : Below g w w') (hg : B < g) : CmpAt w' B A len cap es :=
  ⟨(hb.cell (p := ⟨B, 0, none⟩) hg).trans h.box, h.edges.keep fun _ hp => hb.cell (by omega)⟩
def cmpI (a b : Int) : Int := if a < b then -1 else if b < a then 1 else 0
theorem cmpI_neg (a b : Int) : cmpI a b < 0 ↔ a < b := by unfold cmpI; split <;> (try split) <;> omega

set_option maxRecDepth 100000 in
theorem nan_any (x : Int) (w : World) : Calls Try.prog 70 #[.int .i64 x] w fun e w' => e = .returned (.bool false) ∧ w = w' := by
  go_enter Try.func70, Try.ntmps70
  go_wp2
  go_ret
  exact ⟨by simp, rfl⟩
set_option maxRecDepth 100000 in
set_option maxHeartbeats 400000 in
theorem compare_any (a b : Int) (w : World) : Calls Try.prog 61 #[.int .i64 a, .int .i64 b] w fun e w' => e = .returned (.int .i64 (cmpI a b)) ∧ w = w' := by
  rcases Int.lt_trichotomy a b with h | h | h
  · have h1 : decide (a < b) = true := by simpa using h
    have HC : Hid (cmpI a b = -1) := Lib.hid (by unfold cmpI; rw [if_pos h])
    go_enter Try.func61, Try.ntmps61
    go_wp2_with (go_at_call 70; refine (nan_any _ _).mono ?_; rintro e w1 ⟨rfl, rfl⟩)
    go_ret
    exact ⟨ret_int HC.out.symm, rfl⟩
  · have h1 : decide (a < b) = false := by simp; omega
    have h2 : decide (b < a) = false := by simp; omega
    have HC : Hid (cmpI a b = 0) := Lib.hid (by unfold cmpI; rw [if_neg (by omega), if_neg (by omega)])
    clear h
    go_enter Try.func61, Try.ntmps61
    go_wp2_with (go_at_call 70; refine (nan_any _ _).mono ?_; rintro e w1 ⟨rfl, rfl⟩)
    go_ret
    exact ⟨ret_int HC.out.symm, rfl⟩
  · have h1 : decide (a < b) = false := by simp; omega
    have h2 : decide (b < a) = true := by simpa using h
    have HC : Hid (cmpI a b = 1) := Lib.hid (by unfold cmpI; rw [if_neg (by omega), if_pos h])
    go_enter Try.func61, Try.ntmps61
    go_wp2_with (go_at_call 70; refine (nan_any _ _).mono ?_; rintro e w1 ⟨rfl, rfl⟩)
    go_ret
    exact ⟨ret_int HC.out.symm, rfl⟩
set_option maxRecDepth 100000 in
set_option maxHeartbeats 400000 in
theorem wcmp_any (x y : Int) (B len cap : Nat) (A : Option Addr) (es : List E3) (w : World) (h : CmpAt w B A len cap es) (hx0 : 0 ≤ x) (hx1 : x < len) (hy0 : 0 ≤ y) (hy1 : y < len) :
    Calls Try.prog 60 #[.int .i64 x, .int .i64 y, .pointer (some ⟨B, 0, none⟩)] w fun e w' => e = .returned (.int .i64 (cmpI (wOf es x) (wOf es y))) ∧ ∃ k, w' = w.drewN k := by
  obtain ⟨i, rfl⟩ := Int.eq_ofNat_of_zero_le hx0
  obtain ⟨j, rfl⟩ := Int.eq_ofNat_of_zero_le hy0
  have hc := h.box
  obtain ⟨b, off, e1, rfl, _, hx, _, _, c1⟩ := h.edges.at_ (show i < len by omega)
  obtain ⟨b', off', e2, hA, _, hy, _, _, c2⟩ := h.edges.at_ (show j < len by omega)
  injection hA with hA
  injection hA with hA1 hA2
  subst hA1
  subst hA2
  have w1 : wOf es (i : Int) = e1.2.2 := by unfold wOf; rw [Int.toNat_natCast, List.getD_eq_getElem?_getD, hx]; rfl
  have w2 : wOf es (j : Int) = e2.2.2 := by unfold wOf; rw [Int.toNat_natCast, List.getD_eq_getElem?_getD, hy]; rfl
  rw [w1, w2]
  clear w1 w2 hx hy
  generalize e1.2.2 = u at *
  generalize e2.2.2 = v at *
  go_enter Try.func60, Try.ntmps60
  go_wp2
  go_quiet ((go_at_call 61; exact Calls.quiet_of_same ((compare_any u v _).mono fun e w' h => ⟨h.1, h.2.symm⟩)))
  go_wp2
  go_ret
  exact ⟨rfl, _, rfl⟩

/-! Two blocks that change places. -/
set_option maxRecDepth 100000 in
set_option maxHeartbeats 1000000 in
theorem swapRange_any (g len cap a b n : Nat) (vf : Value) (f : Nat → Int) (w : World) (h : RowC w g len f) (hab : a + n ≤ b) (hb : b + n ≤ len) (hl : len ≤ 1000) :
    Calls Try.prog 92 #[.slice (some ⟨g, 0, none⟩) len cap, .int .i64 a, .int .i64 b, .int .i64 n, vf] w fun e w' => e = .returned (.tuple #[]) ∧ RowC w' g len (swpF f a b n) ∧ Below g w w' := by
  have HR := Lib.hid h
  clear h
  go_enter Try.func92, Try.ntmps92
  go_wp2
  go_loopw [10] (fun j wr => ∃ i : Nat, i ≤ n ∧ j = .int .i64 i ∧ Hid (RowC wr g len (swpF f a b i)) ∧ Below g w wr) (fun j _ => n - (intOf j).toNat)
  case atStart => exact ⟨0, Nat.zero_le _, rfl, Lib.hid (HR.out.congr fun p _ => (swpF_zero f a b p).symm), Below.refl _ _⟩
  case round =>
    obtain ⟨i, hi, rfl, HC, hB⟩ := hrel
    by_cases hlt : i < n
    · have ca := HC.out.cell (show a + i < len by omega)
      have cb := HC.out.cell (show b + i < len by omega)
      rw [swpF_at1 hab hlt] at ca
      rw [swpF_at2 hab hlt] at cb
      have fa := HC.out.frozen (a + i)
      have fb := HC.out.frozen (b + i)
      have HN : Hid (∀ p, p < len → updF (updF (swpF f a b i) (a + i) (f (b + i))) (b + i) (f (a + i)) p = swpF f a b (i + 1) p) := Lib.hid fun p _ => swpF_step hab hlt p
      have n1 : ¬ a + i = b + i := by omega
      have n2 : ¬ b + i = a + i := by omega
      have n3 : ¬ a = b := by omega
      have n4 : ¬ b = a := by omega
      generalize f (a + i) = x at ca HN
      generalize f (b + i) = y at cb HN
      have ia0 : (0 : Int) ≤ (a : Int) + (i : Int) := by omega
      have ia1 : (a : Int) + (i : Int) < (len : Int) := by omega
      have ib0 : (0 : Int) ≤ (b : Int) + (i : Int) := by omega
      have ib1 : (b : Int) + (i : Int) < (len : Int) := by omega
      have wa : IntKind.i64.wrap ((a : Int) + (i : Int)) = (a : Int) + (i : Int) := IntWalk.i64_in _ (by omega)
      have wb : IntKind.i64.wrap ((b : Int) + (i : Int)) = (b : Int) + (i : Int) := IntWalk.i64_in _ (by omega)
      have ta : ((a : Int) + (i : Int)).toNat = a + i := by omega
      have tb : ((b : Int) + (i : Int)).toNat = b + i := by omega
      go_wp2
      go_region
      go_wp2
      go_roundw
      case rel => exact ⟨i + 1, by omega, by go_num, Lib.hid (((HC.out.set_ (a + i) y).set_ (b + i) x).drew.congr HN.out), ((hB.setCell (p := ⟨g, a + i, none⟩) (Nat.le_refl _) _).setCell (p := ⟨g, b + i, none⟩) (Nat.le_refl _) _).drew⟩
      case measure => simp [intOf]; omega
    · obtain rfl : i = n := by omega
      go_wp2
      go_end0
      exact ⟨rfl, HC.out, hB⟩
end Go.Proofs.Ythfgbgmkiggjmaa
