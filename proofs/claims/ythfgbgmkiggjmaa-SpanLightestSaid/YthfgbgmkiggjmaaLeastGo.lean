/- span.join, span.Least: what they do. -/
import Derived.Test.YthfgbgmkiggjmaaLeastP
import Derived.Test.YthfgbgmkiggjmaaLightest
import Derived.Test.YthfgbgmkiggjmaaSortInt
import Derived.Test.YthfgbgmkiggjmaaBox0
import Derived.StillTailTactics
namespace Go.Proofs.Ythfgbgmkiggjmaa
open Go.RowKit

def joinF (G : Nat → Int) (to_ from_ : Int) (k : Nat) : Nat → Int := fun i => if i < k ∧ G i = from_ then to_ else G i
set_option maxRecDepth 100000 in
set_option maxHeartbeats 1000000 in
theorem join_any (g m cap : Nat) (G : Nat → Int) (x y : Int) (w : World) (h : RowC w g m G) (hm : m ≤ 100) :
    Calls Try.prog 42 #[.slice (some ⟨g, 0, none⟩) m cap, .int .i64 x, .int .i64 y] w fun e w' => e = .returned (.tuple #[]) ∧ RowC w' g m (fun i => if G i = y then x else G i) ∧ Below g w w' ∧ (∀ b, b ≠ g → w'.heap[b]? = w.heap[b]?) := by
  have HR := Lib.hid h
  clear h
  go_enter Try.func42, Try.ntmps42
  go_wp2
  go_loopw [6, 7, 10] (fun _ _ j wr => ∃ k : Nat, k ≤ m ∧ j = .int .i64 k ∧ Hid (RowC wr g m (joinF G x y k)) ∧ Hid (∀ b, b ≠ g → wr.heap[b]? = w.heap[b]?) ∧ Below g w wr) (fun _ _ j _ => m - (intOf j).toNat)
  case atStart => exact ⟨0, Nat.zero_le _, rfl, Lib.hid (HR.out.congr fun i _ => by unfold joinF; rw [if_neg (by omega)]), Lib.hid (fun _ _ => rfl), Below.refl _ _⟩
  case round =>
    obtain ⟨k, hk, rfl, HC, HF, hB⟩ := hrel
    by_cases hkm : k < m
    · have ck := HC.out.cell hkm
      have ek : joinF G x y k k = G k := by unfold joinF; rw [if_neg (by omega)]
      rw [ek] at ck
      have fk := HC.out.frozen k
      have ik0 : (0 : Int) ≤ (k : Int) := by omega
      have ik1 : (k : Int) < (m : Int) := by omega
      have HY : Hid (G k = y → ∀ i, i < m → updF (joinF G x y k) k x i = joinF G x y (k + 1) i) := Lib.hid fun hg i _ => by
        unfold updF joinF
        by_cases h1 : i = k
        · subst h1; rw [if_pos rfl, if_pos ⟨by omega, hg⟩]
        · rw [if_neg h1]
          by_cases h2 : i < k ∧ G i = y
          · rw [if_pos h2, if_pos ⟨by omega, h2.2⟩]
          · rw [if_neg h2, if_neg (fun h3 => h2 ⟨by omega, h3.2⟩)]
      have HN : Hid (G k ≠ y → ∀ i, i < m → joinF G x y k i = joinF G x y (k + 1) i) := Lib.hid fun hg i _ => by
        unfold joinF
        by_cases h2 : i < k ∧ G i = y
        · rw [if_pos h2, if_pos ⟨by omega, h2.2⟩]
        · rw [if_neg h2, if_neg (fun h3 => by
            by_cases h1 : i = k
            · subst h1; exact hg h3.2
            · exact h2 ⟨by omega, h3.2⟩)]
      clear ek
      generalize G k = z at ck HY HN
      by_cases hz : z = y
      · subst hz
        have HS := Lib.hid (HY.out rfl)
        clear HY HN
        go_wp2
        go_roundw
        case rel => exact ⟨k + 1, by omega, by go_num, Lib.hid ((HC.out.set_ k x).congr HS.out), Lib.hid (fun b hb => (Below.heap_setCell _ _ _ b (by exact hb)).trans (HF.out b hb)), hB.setCell (p := ⟨g, k, none⟩) (Nat.le_refl _) _⟩
        case measure => simp [intOf]; omega
      · have hzb : (z == y) = false := by simpa using hz
        have HS := Lib.hid (HN.out hz)
        clear HY HN
        go_wp2
        go_roundw
        case rel => exact ⟨k + 1, by omega, by go_num, Lib.hid (HC.out.congr HS.out), HF, hB⟩
        case measure => simp [intOf]; omega
    · obtain rfl : k = m := by omega
      have HE : Hid (RowC wr g k (fun i => if G i = y then x else G i)) := Lib.hid (HC.out.congr fun i hi => by
        unfold joinF
        by_cases h2 : G i = y
        · rw [if_pos ⟨hi, h2⟩, if_pos h2]
        · rw [if_neg (fun h3 => h2 h3.2), if_neg h2])
      go_wp2
      go_end0
      exact ⟨rfl, HE.out, hB, HF.out⟩
end Go.Proofs.Ythfgbgmkiggjmaa
