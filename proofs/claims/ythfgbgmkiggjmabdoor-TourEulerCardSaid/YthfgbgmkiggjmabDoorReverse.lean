/- slices.Reverse of a row of integers. -/
import Derived.Test.YthfgbgmkiggjmabDoorMat
import Derived.Test.YthfgbgmkiggjmabDoorInts
import Derived.RegionTactic
import Derived.BigRegion
import Derived.ChangeAlike
namespace Go.Proofs.YthfgbgmkiggjmabDoor
open Go.RowKit

def revF (f : Nat → Int) (n k : Nat) : Nat → Int := fun p => if p < k ∨ n - k ≤ p then f (n - 1 - p) else f p
theorem revF_zero {f : Nat → Int} {n p : Nat} (h : p < n) : revF f n 0 p = f p := by unfold revF; rw [if_neg (by omega)]
theorem revF_end {f : Nat → Int} {n k p : Nat} (h : p < n) (h1 : n ≤ 2 * k + 1) : revF f n k p = f (n - 1 - p) := by
  unfold revF
  split
  · rfl
  · congr 1; omega
theorem revF_at1 {f : Nat → Int} {n k j : Nat} (h : k + j + 1 = n) (hkj : k < j) : revF f n k k = f k := by unfold revF; rw [if_neg (by omega)]
theorem revF_at2 {f : Nat → Int} {n k j : Nat} (h : k + j + 1 = n) (hkj : k < j) : revF f n k j = f j := by unfold revF; rw [if_neg (by omega)]
theorem revF_next {f : Nat → Int} {n k j p : Nat} (h : k + j + 1 = n) (hkj : k < j) (hp : p < n) : updF (updF (revF f n k) k (f j)) j (f k) p = revF f n (k + 1) p := by
  unfold updF revF
  by_cases h1 : p = j
  · subst h1
    rw [if_pos rfl, if_pos (by omega)]
    congr 1; omega
  · rw [if_neg h1]
    by_cases h2 : p = k
    · subst h2
      rw [if_pos rfl, if_pos (by omega)]
      congr 1; omega
    · rw [if_neg h2]
      by_cases h3 : p < k ∨ n - k ≤ p
      · rw [if_pos h3, if_pos (by omega)]
      · rw [if_neg h3, if_neg (by omega)]

set_option maxRecDepth 100000 in
set_option maxHeartbeats 1000000 in
theorem reverse_any (g n cap : Nat) (f : Nat → Int) (w : World) (h : RowC w g (n + 1) f) (hn : n ≤ 1000) :
    Calls Tryd.prog 50 #[.slice (some ⟨g, 0, none⟩) (n + 1) cap] w fun e w' => e = .returned (.tuple #[]) ∧ RowC w' g (n + 1) (fun p => f (n - p)) ∧ Below g w w' := by
  have HR := Lib.hid h
  clear h
  go_enter Tryd.func50, Tryd.ntmps50
  go_wp2
  go_loopw [2, 3] (fun i j wr => ∃ a b : Nat, a ≤ n ∧ b ≤ n ∧ Hid (a + b = n ∧ a ≤ b + 1) ∧ i = .int .i64 a ∧ j = .int .i64 ((b : Nat) : Int) ∧ Hid (RowC wr g (n + 1) (revF f (n + 1) a)) ∧ Below g w wr) (fun i _ _ => n + 1 - (intOf i).toNat)
  case atStart => exact ⟨0, n, Nat.zero_le _, Nat.le_refl _, Lib.hid ⟨by omega, by omega⟩, rfl, rfl, Lib.hid (HR.out.congr fun p hp => (revF_zero hp).symm), Below.refl _ _⟩
  case round =>
    obtain ⟨a, b, ha, hb, HAB, rfl, rfl, HC, hB⟩ := hrel
    by_cases hlt : a < b
    · have h1 : a + b + 1 = n + 1 := by have := HAB.out; omega
      have ca := HC.out.cell (show a < n + 1 by omega)
      have cb := HC.out.cell (show b < n + 1 by omega)
      rw [revF_at1 h1 hlt] at ca
      rw [revF_at2 h1 hlt] at cb
      have fa := HC.out.frozen a
      have fb := HC.out.frozen b
      have HN : Hid (∀ p, p < n + 1 → updF (updF (revF f (n + 1) a) a (f b)) b (f a) p = revF f (n + 1) (a + 1) p) := Lib.hid fun p hp => revF_next h1 hlt hp
      have HNE : Hid (a + 1 + (b - 1) = n ∧ a + 1 ≤ b - 1 + 1) := Lib.hid (by omega)
      have hb1 : (b : Int) - 1 = ((b - 1 : Nat) : Int) := by omega
      have hab : ¬ a = b := by omega
      have hba : ¬ b = a := by omega
      clear h1
      generalize f a = x at ca HN
      generalize f b = y at cb HN
      have ia0 : (0 : Int) ≤ (a : Int) := by omega
      have ia1 : (a : Int) < (n : Int) + 1 := by omega
      have ib0 : (0 : Int) ≤ (b : Int) := by omega
      have ib1 : (b : Int) < (n : Int) + 1 := by omega
      go_wp2
      go_region
      go_wp2
      go_roundw
      case rel => exact ⟨a + 1, b - 1, by omega, by omega, HNE, by go_num, by rw [← hb1], Lib.hid (((HC.out.set_ a y).set_ b x).drew.congr HN.out), ((hB.setCell (p := ⟨g, a, none⟩) (Nat.le_refl _) _).setCell (p := ⟨g, b, none⟩) (Nat.le_refl _) _).drew⟩
      case measure => simp [intOf]; omega
    · have HE : Hid (RowC wr g (n + 1) (fun p => f (n - p))) := Lib.hid (HC.out.congr fun p hp => by rw [revF_end hp (by have := HAB.out; omega)]; congr 1)
      go_wp2
      go_end0
      exact ⟨rfl, HE.out, hB⟩
end Go.Proofs.YthfgbgmkiggjmabDoor
