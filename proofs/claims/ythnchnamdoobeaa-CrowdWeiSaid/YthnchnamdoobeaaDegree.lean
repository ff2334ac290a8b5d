/- The reference's Degree. -/
import Derived.Test.YthnchnamdoobeaaMem
import Derived.Test.YthnchnamdoobeaaGood
namespace Go.Proofs.Ythnchnamdoobeaa
open Go.RowKit

set_option maxRecDepth 100000 in
set_option maxHeartbeats 400000 in
theorem degree_any (n i : Int) (A : Option Addr) (len cap : Nat) (es : List E3) (w : World) (hE : EdgesAt w w.heap.size A len es) (hl : len ≤ 45) :
    Calls Try.prog 21 #[.agg #[.int .i64 n, .slice A len cap], .int .i64 i] w fun e w' => e = .returned (.int .i64 (degN es i)) ∧ Below w.heap.size w w' := by
  go_enter Try.func21, Try.ntmps21
  go_wp2
  go_loopw [5, 11] (fun c j wr => ∃ k : Nat, k ≤ len ∧ j = .int .i64 k ∧ c = .int .i64 (degN (es.take k) i) ∧ Below w.heap.size w wr) (fun _ j _ => len - (intOf j).toNat)
  case atStart => exact ⟨0, Nat.zero_le _, rfl, rfl, (Below.refl _ _).alloc (Nat.le_refl _) _⟩
  case round =>
    obtain ⟨k, hk, rfl, rfl, hB⟩ := hrel
    by_cases hlt : k < len
    · obtain ⟨b, off, x, rfl, hb, hx, hc0, hc1, hc2⟩ := (hE.below hB).at_ hlt
      have HN := Lib.hid (degN_next es k x i hx)
      have hdl := degN_le (es.take k) i
      have htl : (es.take k).length ≤ k := List.length_take_le _ _
      have HX := Lib.hid hx
      clear hx
      obtain ⟨a0, a1, a2⟩ := x
      go_wp2
      all_goals
        go_roundw
        case rel =>
          refine ⟨k + 1, by omega, by go_num, ?_, hB.alloc hB.size _⟩
          rw [HN.out]
          first
            | (rw [if_pos (by simp only [touchB, Bool.or_eq_true, beq_iff_eq] at *; omega)]; go_num)
            | (rw [if_neg (by simp only [touchB, Bool.or_eq_true, beq_iff_eq, beq_eq_false_iff_ne] at *; omega)]; rfl)
        case measure => simp [intOf]; omega
    · have hke : es.take k = es := List.take_of_length_le (by have := hE.1; omega)
      have HK := Lib.hid hke
      clear hke
      go_wp2
      go_ret
      exact ⟨ret_int (by rw [HK.out]), hB⟩
set_option maxRecDepth 100000 in
theorem degree_v (n i : Int) (A : Option Addr) (len cap : Nat) (es : List E3) (z : Int) (w : World) (hE : EdgesAt w w.heap.size A len es) (hl : len ≤ 45) (hz : (degN es i : Int) = z) :
    Calls Try.prog 21 #[.agg #[.int .i64 n, .slice A len cap], .int .i64 i] w fun e w' => e = .returned (.int .i64 z) ∧ Below w.heap.size w w' := by
  subst hz; exact degree_any n i A len cap es w hE hl
end Go.Proofs.Ythnchnamdoobeaa
