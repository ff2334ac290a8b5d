/- The reference's Count. Conditions: a graph without fault, a number from -1 to 12. -/
import Derived.Test.YtpcealcghglopaaZRefSorts
namespace Go.Proofs.Ytpcealcghglopaa
open Go.RowKit

set_option maxRecDepth 100000 in
set_option maxHeartbeats 4000000 in
theorem refCount_any (n : Nat) (A : Option Addr) (len cap : Nat) (es : List E3) (T : Nat → Nat → Int) (k v : Int) (w : World) (hE : EdgesAt w w.heap.size A len es) (hn10 : n ≤ 10) (hl : len ≤ 45) (hI : InE n es) (hT : TabP n (looseE es) T) (k0 : -1 ≤ k) (k1 : k ≤ 12) (hv : polT n T (2 ^ n - 1) k = v) :
    Calls Try.prog 23 #[.agg #[.int .i64 (n : Int), .slice A len cap], .int .i64 k] w fun e w' => e = .returned (.int .i64 v) ∧ Below w.heap.size w w' := by
  have HX := Lib.hid (BoxG.start (n := (n : Int)) (cap := cap) hE)
  have HB0 : Hid (Below w.heap.size w (bx w n A len cap)) := Lib.hid ((Below.refl _ _).alloc (Nat.le_refl _) _)
  have HSO := Lib.hid (refSorts_any n A len cap es T (bx w n A len cap) HX.out.edges hn10 hl hI hT)
  have hpos := Nat.two_pow_pos n
  have HCA := Lib.hid (fun (j i : Nat) (hij : i ≤ j) (hj : j ≤ n) => count_abs (w := 2 ^ n - 1) hT (looseE_zero es) hn10 (by omega) hij hj k0 k1)
  have HV : Hid (sumI (fun j => T (2 ^ n - 1) j * fallI k j) (n + 1) = v) := Lib.hid hv
  have HSA : Hid (∀ j, j ≤ n + 1 → -700000000000 ≤ sumI (fun j => T (2 ^ n - 1) j * fallI k j) j ∧ sumI (fun j => T (2 ^ n - 1) j * fallI k j) j ≤ 700000000000) := Lib.hid fun j hj => by
    have h := sum_abs (B := 61917364224) j (f := fun j => T (2 ^ n - 1) j * fallI k j) fun i hi => HCA.out i i (Nat.le_refl _) (by omega)
    have h2 : (j : Int) ≤ 11 := by omega
    omega
  have k0' := HX.out.c0
  have k1' := HX.out.c1
  generalize T (2 ^ n - 1) = R at HCA HV HSA HSO
  clear hE hI hT hv hpos
  go_enter Try.func23, Try.ntmps23
  go_wp2_with fail
  refine HSO.out.mono ?_
  rintro e w1 ⟨g, rfl, hrow, hb⟩
  have HB1 := Lib.hid (HB0.out.trans (hb.mono HB0.out.size))
  have HR := Lib.hid hrow
  clear hb hrow HSO k0' k1'
  go_wp2_with fail
  go_loop [5, 13] (fun y z => ∃ j : Nat, j ≤ n + 1 ∧ y = .int .i64 (sumI (fun j => R j * fallI k j) j) ∧ z = .int .i64 j) (fun _ z => n + 1 - (intOf z).toNat)
  case atStart => exact ⟨0, Nat.zero_le _, rfl, rfl⟩
  case round =>
    obtain ⟨j, hj, rfl, rfl⟩ := hrel
    by_cases hjn : j < n + 1
    · have cr := HR.out.cell hjn
      have ij0 : (0 : Int) ≤ (j : Int) := by omega
      have ij1 : (j : Int) < (n : Int) + 1 := by omega
      have HS : Hid (sumI (fun j => R j * fallI k j) (j + 1) = sumI (fun j => R j * fallI k j) j + R j * fallI k j) := Lib.hid rfl
      obtain ⟨s0, s1⟩ := HSA.out j hj
      obtain ⟨a0, a1⟩ := HCA.out j j (Nat.le_refl _) (by omega)
      generalize sumI (fun j => R j * fallI k j) j = S at HS s0 s1
      go_wp2_with fail
      go_loop [8, 9] (fun y z => ∃ i : Nat, i ≤ j ∧ y = .int .i64 (R j * fallI k i) ∧ z = .int .i64 i) (fun _ z => j - (intOf z).toNat)
      case atStart => exact ⟨0, Nat.zero_le _, by simp [fallI], rfl⟩
      case round =>
        obtain ⟨i, hi, rfl, rfl⟩ := hrel
        by_cases hij : i < j
        · have ii0 : (0 : Int) ≤ (i : Int) := by omega
          have ii1 : (i : Int) < (j : Int) := by omega
          obtain ⟨p0, p1⟩ := HCA.out j (i + 1) (by omega) (by omega)
          have hst : R j * fallI k (i + 1) = R j * fallI k i * (k - (i : Int)) := by rw [Int.mul_assoc]; rfl
          have hkw : IntKind.i64.wrap (k - (i : Int)) = k - (i : Int) := IntWalk.i64_in _ (by omega)
          have HST := Lib.hid hst
          rw [hst] at p0 p1
          generalize R j * fallI k i = x at HST p0 p1
          generalize hd : k - (i : Int) = d at HST p0 p1 hkw
          have hxw : IntKind.i64.wrap (x * d) = x * d := IntWalk.i64_in _ (by omega)
          go_wp2_with fail
          go_round
          case rel => exact ⟨i + 1, by omega, by rw [HST.out], by go_num⟩
          case measure => simp [intOf]; omega
        · obtain rfl : i = j := by omega
          generalize R i * fallI k i = x at HS a0 a1
          have hsw : IntKind.i64.wrap (S + x) = S + x := IntWalk.i64_in _ (by omega)
          go_wp2_with fail
          go_round
          case rel => exact ⟨i + 1, by omega, by rw [HS.out], by go_num⟩
          case measure => simp [intOf]; omega
    · obtain rfl : j = n + 1 := by omega
      rw [HV.out]
      go_wp2_with fail
      go_ret
      exact ⟨rfl, HB1.out⟩
end Go.Proofs.Ytpcealcghglopaa
