/- cmp.Compare of two integers, slices.Compare of two slices of integers, cmp.Or of three. -/
import Derived.Test.YtkpejmpnbdblbaaShortP
import Derived.Test.YtkpejmpnbdblbaaRows2
import Derived.Deep.QuietTactic
import Derived.BigQuiet
namespace Go.Proofs.Ytkpejmpnbdblbaa
open Go.RowKit

def cmpI (a b : Int) : Int := if a < b then -1 else if b < a then 1 else 0
section
variable {a b : Int}
theorem cmpI_lt (h : a < b) : cmpI a b = -1 := if_pos h
theorem cmpI_gt (h : b < a) : cmpI a b = 1 := by unfold cmpI; rw [if_neg (by omega), if_pos h]
theorem cmpI_eq : cmpI a a = 0 := by unfold cmpI; rw [if_neg (by omega), if_neg (by omega)]
end
set_option maxRecDepth 100000 in
theorem nan64_any (x : Int) (w : World) : Calls Try.prog 40 #[.int .i64 x] w fun e w' => e = .returned (.bool false) ∧ w' = w := by
  go_enter Try.func40, Try.ntmps40
  go_wp2
  go_ret
  exact ⟨rfl, rfl⟩
set_option maxRecDepth 100000 in
theorem nanI_any (x : Int) (w : World) : Calls Try.prog 41 #[.int .i64 x] w fun e w' => e = .returned (.bool false) ∧ w' = w := by
  go_enter Try.func41, Try.ntmps41
  go_wp2
  go_ret
  exact ⟨rfl, rfl⟩
set_option maxRecDepth 100000 in
theorem cmp64_any (a b : Int) (w : World) : Calls Try.prog 36 #[.int .i64 a, .int .i64 b] w fun e w' => e = .returned (.int .i64 (cmpI a b)) ∧ w' = w := by
  rcases Int.lt_trichotomy a b with h | rfl | h
  · rw [cmpI_lt h]
    go_enter Try.func36, Try.ntmps36
    go_wp2_with fail
    refine (nan64_any a _).mono ?_
    rintro e w1 ⟨rfl, rfl⟩
    go_wp2_with fail
    refine (nan64_any b _).mono ?_
    rintro e w2 ⟨rfl, rfl⟩
    go_wp2_with fail
    go_ret
    exact ⟨rfl, rfl⟩
  · rw [cmpI_eq]
    go_enter Try.func36, Try.ntmps36
    go_wp2_with fail
    refine (nan64_any a _).mono ?_
    rintro e w1 ⟨rfl, rfl⟩
    go_wp2_with fail
    refine (nan64_any a _).mono ?_
    rintro e w2 ⟨rfl, rfl⟩
    go_wp2_with fail
    go_ret
    exact ⟨rfl, rfl⟩
  · rw [cmpI_gt h]
    have h2 : decide (a < b) = false := decide_eq_false (by omega)
    go_enter Try.func36, Try.ntmps36
    go_wp2_with fail
    refine (nan64_any a _).mono ?_
    rintro e w1 ⟨rfl, rfl⟩
    go_wp2_with fail
    refine (nan64_any b _).mono ?_
    rintro e w2 ⟨rfl, rfl⟩
    go_wp2_with fail
    go_ret
    exact ⟨rfl, rfl⟩
set_option maxRecDepth 100000 in
theorem cmpI_any (a b : Int) (w : World) : Calls Try.prog 37 #[.int .i64 a, .int .i64 b] w fun e w' => e = .returned (.int .i64 (cmpI a b)) ∧ w' = w := by
  rcases Int.lt_trichotomy a b with h | rfl | h
  · rw [cmpI_lt h]
    go_enter Try.func37, Try.ntmps37
    go_wp2_with fail
    refine (nanI_any a _).mono ?_
    rintro e w1 ⟨rfl, rfl⟩
    go_wp2_with fail
    refine (nanI_any b _).mono ?_
    rintro e w2 ⟨rfl, rfl⟩
    go_wp2_with fail
    go_ret
    exact ⟨rfl, rfl⟩
  · rw [cmpI_eq]
    go_enter Try.func37, Try.ntmps37
    go_wp2_with fail
    refine (nanI_any a _).mono ?_
    rintro e w1 ⟨rfl, rfl⟩
    go_wp2_with fail
    refine (nanI_any a _).mono ?_
    rintro e w2 ⟨rfl, rfl⟩
    go_wp2_with fail
    go_ret
    exact ⟨rfl, rfl⟩
  · rw [cmpI_gt h]
    have h2 : decide (a < b) = false := decide_eq_false (by omega)
    go_enter Try.func37, Try.ntmps37
    go_wp2_with fail
    refine (nanI_any a _).mono ?_
    rintro e w1 ⟨rfl, rfl⟩
    go_wp2_with fail
    refine (nanI_any b _).mono ?_
    rintro e w2 ⟨rfl, rfl⟩
    go_wp2_with fail
    go_ret
    exact ⟨rfl, rfl⟩
/-- The first of three that is not nothing. -/
def or3 (x y z : Int) : Int := if x ≠ 0 then x else if y ≠ 0 then y else z
structure OrP (x y z : Int) (k : Nat) : Prop where
  a : 1 ≤ k → x = 0
  b : 2 ≤ k → y = 0
  c : 3 ≤ k → z = 0
set_option maxRecDepth 100000 in
theorem or_any (b off : Nat) (x y z : Int) (w : World) (c0 : w.cell? ⟨b, off, none⟩ = some (.int .i64 x)) (c1 : w.cell? ⟨b, off + 1, none⟩ = some (.int .i64 y)) (c2 : w.cell? ⟨b, off + 2, none⟩ = some (.int .i64 z)) :
    Calls Try.prog 35 #[.slice (some ⟨b, off, none⟩) 3 3] w fun e w' => e = .returned (.int .i64 (or3 x y z)) ∧ w' = w := by
  obtain ⟨v, hv⟩ : ∃ v, or3 x y z = v := ⟨_, rfl⟩
  rw [hv]
  unfold or3 at hv
  go_enter Try.func35, Try.ntmps35
  have HV := Lib.hid hv
  clear hv
  go_wp2_with fail
  go_loop [5, 8] (fun _ j => ∃ k : Nat, k ≤ 3 ∧ j = .int .i64 k ∧ Hid (OrP x y z k)) (fun _ j => 3 - (intOf j).toNat)
  case atStart => exact ⟨0, by omega, rfl, Lib.hid ⟨fun h => by omega, fun h => by omega, fun h => by omega⟩⟩
  case round =>
    obtain ⟨k, hk, rfl, HO⟩ := hrel
    rcases (show k = 0 ∨ k = 1 ∨ k = 2 ∨ k = 3 by omega) with rfl | rfl | rfl | rfl
    · by_cases h : x = 0
      · have HN : Hid (OrP x y z 1) := Lib.hid ⟨fun _ => h, fun h => by omega, fun h => by omega⟩
        subst h
        clear HO HV
        go_wp2_with fail
        go_round
        case rel => exact ⟨1, by omega, rfl, HN⟩
        case measure => simp [intOf]
      · have hb : (x != 0) = true := by simpa using h
        have HE : Hid (x = v) := Lib.hid (by have := HV.out; rwa [if_pos h] at this)
        clear h HV
        go_wp2_with fail
        go_ret
        exact ⟨by rw [HE.out]; rfl, rfl⟩
    · have hx := HO.out.a (by omega)
      by_cases h : y = 0
      · have HN : Hid (OrP x y z 2) := Lib.hid ⟨fun _ => hx, fun _ => h, fun h => by omega⟩
        subst h
        clear HO HV hx
        go_wp2_with fail
        go_round
        case rel => exact ⟨2, by omega, rfl, HN⟩
        case measure => simp [intOf]
      · have hb : (y != 0) = true := by simpa using h
        have HE : Hid (y = v) := Lib.hid (by have := HV.out; rwa [if_neg (by simp [hx]), if_pos h] at this)
        clear h HV hx HO
        go_wp2_with fail
        go_ret
        exact ⟨by rw [HE.out]; rfl, rfl⟩
    · have hx := HO.out.a (by omega)
      have hy := HO.out.b (by omega)
      have HE : Hid (z = v) := Lib.hid (by have := HV.out; rwa [if_neg (by simp [hx]), if_neg (by simp [hy])] at this)
      by_cases h : z = 0
      · have HN : Hid (OrP x y z 3) := Lib.hid ⟨fun _ => hx, fun _ => hy, fun _ => h⟩
        subst h
        clear HO HV hx hy
        go_wp2_with fail
        go_round
        case rel => exact ⟨3, by omega, rfl, HN⟩
        case measure => simp [intOf]
      · have hb : (z != 0) = true := by simpa using h
        clear h HV hx hy HO
        go_wp2_with fail
        go_ret
        exact ⟨by rw [HE.out]; rfl, rfl⟩
    · have HE : Hid (0 = v) := Lib.hid (by have := HV.out; have := HO.out; simp [this.a, this.b, this.c] at *; assumption)
      clear HV HO
      go_wp2_with fail
      go_ret
      exact ⟨by rw [HE.out]; rfl, rfl⟩
end Go.Proofs.Ytkpejmpnbdblbaa
