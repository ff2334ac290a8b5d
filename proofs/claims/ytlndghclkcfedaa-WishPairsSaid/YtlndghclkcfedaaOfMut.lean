/- (*wish.degrees).of and (*wish.likings).mutual. -/
import Derived.Test.YtlndghclkcfedaaDegP
namespace Go.Proofs.Ytlndghclkcfedaa
open Go.RowKit

/-- Numbers that lie in a block from an offset on. -/
def DegAt (w : World) (g o : Nat) (F : Nat → Int) : Prop := ∀ k, k < 64 → w.cell? ⟨g, o + k, none⟩ = some (.int .i64 (F k))
/-- What of gives. -/
def ofF (F : Nat → Int) (i : Nat) (j : Int) : Int := if j = -1 then 0 else F (i * 8 + j.toNat)

set_option maxHeartbeats 1000000 in
theorem of_any (g o i : Nat) (j v : Int) (F : Nat → Int) (w : World) (hD : DegAt w g o F) (hi : i < 8) (hj : j = -1 ∨ (0 ≤ j ∧ j < 8)) (hv : ofF F i j = v) :
    Calls Try.prog 47 #[.pointer (some ⟨g, o, none⟩), .int .i64 (i : Int), .int .i64 j] w fun e w' => e = .returned (.int .i64 v) ∧ w' = w := by
  rcases hj with rfl | ⟨h0, h1⟩
  · have HV : Hid (v = 0) := Lib.hid (by rw [← hv]; rfl)
    clear hv hD
    go_enter Try.func47, Try.ntmps47
    go_wp2
    go_ret
    exact ⟨by rw [HV.out]; rfl, rfl⟩
  · obtain ⟨k, rfl⟩ := Int.eq_ofNat_of_zero_le h0
    have hk : k < 8 := by omega
    have HV : Hid (v = F (i * 8 + k)) := Lib.hid (by rw [← hv]; unfold ofF; rw [if_neg (by omega)]; rfl)
    have hc : w.cell? ⟨g, o + (i * 8 + k), none⟩ = some (.int .i64 v) := by rw [HV.out]; exact hD _ (by omega)
    have hc2 : w.cell? ⟨g, o + i * 8 + k, none⟩ = some (.int .i64 v) := by rw [Nat.add_assoc]; exact hc
    have i0 : (0 : Int) ≤ (i : Int) := by omega
    have i1 : (i : Int) < 8 := by omega
    have k0 : (0 : Int) ≤ (k : Int) := by omega
    have k1 : (k : Int) < 8 := by omega
    have kn : ¬ ((k : Int) = -1) := by omega
    have kn2 : ((k : Int) == -1) = false := by simp
    clear hv hD h0 h1 HV
    go_enter Try.func47, Try.ntmps47
    go_wp2_with fail
    go_ret
    exact ⟨rfl, rfl⟩

/-- Whether two wish for each other. -/
def mutF (F G : Nat → Int) (i j : Nat) : Bool := decide (0 < F (i * 8 + j)) && decide (0 < G (j * 8 + i))
set_option maxHeartbeats 1000000 in
theorem mutual_any (g i j : Nat) (b : Bool) (F G : Nat → Int) (w : World) (hD : DegAt w g 0 F) (hE : DegAt w g 64 G) (hi : i < 8) (hj : j < 8) (hb : mutF F G i j = b) :
    Calls Try.prog 46 #[.pointer (some ⟨g, 0, none⟩), .int .i64 (i : Int), .int .i64 (j : Int)] w fun e w' => e = .returned (.bool b) ∧ w' = w := by
  have hc : w.cell? ⟨g, i * 8 + j, none⟩ = some (.int .i64 (F (i * 8 + j))) := by have := hD (i * 8 + j) (by omega); rwa [Nat.zero_add] at this
  have hd : w.cell? ⟨g, 64 + (j * 8 + i), none⟩ = some (.int .i64 (G (j * 8 + i))) := hE _ (by omega)
  have hd2 : w.cell? ⟨g, 64 + j * 8 + i, none⟩ = some (.int .i64 (G (j * 8 + i))) := by rw [Nat.add_assoc]; exact hd
  unfold mutF at hb
  generalize F (i * 8 + j) = x at hc hb
  generalize G (j * 8 + i) = y at hd hd2 hb
  have i0 : (0 : Int) ≤ (i : Int) := by omega
  have i1 : (i : Int) < 8 := by omega
  have k0 : (0 : Int) ≤ (j : Int) := by omega
  have k1 : (j : Int) < 8 := by omega
  clear hD hE
  by_cases hx : 0 < x
  · by_cases hy : 0 < y
    · have HB : Hid (b = true) := Lib.hid (by rw [← hb]; simp [hx, hy])
      have hx2 : x > 0 := hx
      have hy2 : y > 0 := hy
      clear hb
      go_enter Try.func46, Try.ntmps46
      go_wp2_with fail
      go_ret
      exact ⟨by rw [HB.out]; rfl, rfl⟩
    · have HB : Hid (b = false) := Lib.hid (by rw [← hb]; simp [hy])
      have hx2 : x > 0 := hx
      have hy2 : ¬ (y > 0) := hy
      clear hb
      go_enter Try.func46, Try.ntmps46
      go_wp2_with fail
      go_ret
      exact ⟨by rw [HB.out]; rfl, rfl⟩
  · have HB : Hid (b = false) := Lib.hid (by rw [← hb]; simp [hx])
    have hx2 : ¬ (x > 0) := hx
    clear hb
    go_enter Try.func46, Try.ntmps46
    go_wp2_with fail
    go_ret
    exact ⟨by rw [HB.out]; rfl, rfl⟩
end Go.Proofs.Ytlndghclkcfedaa
