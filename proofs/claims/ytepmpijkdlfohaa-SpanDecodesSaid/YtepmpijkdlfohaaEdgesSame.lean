/- The reference's Edges: two slices of edges that read alike. -/
import Derived.Test.YtepmpijkdlfohaaInts
namespace Go.Proofs.Ytepmpijkdlfohaa
open Go.RowKit

set_option maxHeartbeats 400000 in
theorem edges_same (A1 A2 : Option Addr) (n c1 c2 : Nat) (es : List E3) (w : World) (h1 : EdgesAt w w.heap.size A1 n es) (h2 : EdgesAt w w.heap.size A2 n es) (hn : n ≤ 1000) :
    Calls Try.prog 13 #[.slice A1 n c1, .slice A2 n c2] w fun e w' => e = .returned (.bool true) ∧ ∃ k, w' = w.drewN k := by
  have H1 := Lib.hid h1
  have H2 := Lib.hid h2
  clear h1 h2
  go_enter Try.func13, Try.ntmps13
  go_wp2
  go_loopw [5] (fun j wr => ∃ k q : Nat, k ≤ n ∧ j = .int .i64 k ∧ wr = w.drewN q) (fun j _ => n - (intOf j).toNat)
  case atStart => exact ⟨0, 0, Nat.zero_le _, rfl, rfl⟩
  case round =>
    obtain ⟨k, q, hk, rfl, rfl⟩ := hrel
    by_cases hlt : k < n
    · obtain ⟨b, off, ⟨x0, x1, x2⟩, rfl, _, hx, hc0, hc1, hc2⟩ := H1.out.at_ hlt
      obtain ⟨b', off', y, rfl, _, hx', hd0, hd1, hd2⟩ := H2.out.at_ hlt
      obtain rfl : (x0, x1, x2) = y := by rw [hx] at hx'; injection hx'
      simp only at hc0 hc1 hc2 hd0 hd1 hd2
      have hki : (k : Int) < (n : Int) := by omega
      have hk0 : (0 : Int) ≤ (k : Int) := by omega
      clear hx hx'
      go_wp2
      go_quiet (fail)
      go_wp2
      go_roundw
      case rel => exact ⟨k + 1, _, by omega, by go_num, rfl⟩
      case measure => simp [intOf]; omega
    · go_wp2
      go_ret
      exact ⟨rfl, q, rfl⟩
end Go.Proofs.Ytepmpijkdlfohaa
