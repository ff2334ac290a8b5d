/- chord.upTo: the numbers from 0 on. Conditions: at most ten. -/
import Derived.Test.YticickicfigpbaaMakesU
import Derived.Test.YticickicfigpbaaNatG
namespace Go.Proofs.Yticickicfigpbaa
open Go.RowKit

def upR (k n : Nat) : List Int := (List.range n).map fun i => if i < k then (i : Int) else 0
theorem upR_set {k n : Nat} : (upR k n).set k (k : Int) = upR (k + 1) n := by
  unfold upR
  apply List.ext_getElem
  · simp
  · intro j h1 h2
    rw [List.getElem_set]
    simp only [List.getElem_map, List.getElem_range]
    by_cases h : k = j
    · subst h; rw [if_pos rfl, if_pos (Nat.lt_succ_self k)]
    · rw [if_neg h]
      by_cases h3 : j < k
      · rw [if_pos h3, if_pos (by omega)]
      · rw [if_neg h3, if_neg (by omega)]
theorem upR_zero {n : Nat} : (upR 0 n).map (Value.int .i64) = List.replicate n (.int .i64 0) := by simp [upR, List.map_const']
theorem upR_all {n : Nat} : upR n n = natG (List.range n) := by
  unfold upR natG
  exact List.map_congr_left fun i hi => if_pos (List.mem_range.1 hi)
set_option maxRecDepth 100000 in
set_option maxHeartbeats 1000000 in
theorem upTo_any (n : Nat) (w : World) (hn : n ≤ 10) :
    Calls Try.prog 25 #[.int .i64 (n : Int)] w fun e w' => e = .returned (.slice (some ⟨w.heap.size, 0, none⟩) n n) ∧ RowOf w' w.heap.size 3 ((natG (List.range n)).map (Value.int .i64)) ∧ w'.heap.size = w.heap.size + 1 ∧ Below w.heap.size w w' := by
  have hmk := fun W => mkI_run n (by omega) W
  go_enter Try.func25, Try.ntmps25
  go_wp2
  have HR : Hid (RowOf (mkI n w) w.heap.size 3 ((upR 0 n).map (Value.int .i64)) ∧ (mkI n w).heap.size = w.heap.size + 1 ∧ Below w.heap.size w (mkI n w)) := Lib.hid ⟨by rw [upR_zero]; exact mkI_row n w, mkI_size n w, mkI_below n w⟩
  generalize mkI n w = W2 at HR ⊢
  go_loopw [4, 9] (fun x5 x9 wr => ∃ k : Nat, k ≤ n ∧ x9 = .int .i64 k ∧ Hid (RowOf wr w.heap.size 3 ((upR k n).map (Value.int .i64)) ∧ wr.heap.size = w.heap.size + 1 ∧ Below w.heap.size w wr)) (fun _ j _ => n - (intOf j).toNat)
  case atStart => exact ⟨0, Nat.zero_le _, rfl, HR⟩
  case round =>
    clear HR
    obtain ⟨k, hk, rfl, HC⟩ := hrel
    by_cases hkn : k < n
    · have ik0 : (0 : Int) ≤ (k : Int) := by omega
      have ik1 : (k : Int) < (n : Int) := by omega
      have cK : wr.cell? ⟨w.heap.size, k, none⟩ = some (.int .i64 0) := HC.out.1.cell (by simp [upR, hkn])
      have fK := HC.out.1.frozen k
      have HN : Hid (RowOf (wr.setCell ⟨w.heap.size, k, none⟩ (.int .i64 (k : Int))) w.heap.size 3 ((upR (k + 1) n).map (Value.int .i64)) ∧ (wr.setCell ⟨w.heap.size, k, none⟩ (.int .i64 (k : Int))).heap.size = w.heap.size + 1 ∧ Below w.heap.size w (wr.setCell ⟨w.heap.size, k, none⟩ (.int .i64 (k : Int)))) := Lib.hid (by
        refine ⟨?_, by rw [World.size_setCell]; exact HC.out.2.1, HC.out.2.2.setCell (p := ⟨w.heap.size, k, none⟩) (Nat.le_refl _) _⟩
        have h := HC.out.1.set_ k (.int .i64 (k : Int))
        rw [← List.map_set, upR_set] at h
        exact h)
      go_wp2
      go_roundw
      case rel => exact ⟨k + 1, by omega, by go_num, HN⟩
      case measure => simp [intOf]; omega
    · obtain rfl : k = n := by omega
      have HE : Hid (RowOf wr w.heap.size 3 ((natG (List.range k)).map (Value.int .i64))) := Lib.hid (by rw [← upR_all]; exact HC.out.1)
      go_wp2
      go_ret
      exact ⟨rfl, HE.out, HC.out.2.1, HC.out.2.2⟩
end Go.Proofs.Yticickicfigpbaa
