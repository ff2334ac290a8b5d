/- The reference's Unlike: over the reference's Has. -/
import Derived.Test.YtpcealcghglopaaZTakeI
import Derived.Test.YtpcealcghglopaaZb12
namespace Go.Proofs.Ytpcealcghglopaa
open Go.RowKit

set_option maxRecDepth 100000 in
set_option maxHeartbeats 400000 in
theorem unlikeT_any (A : Option Addr) (n c : Nat) (xs : List Int) (w : World) (h1 : IntsAt w w.heap.size A n xs) (hn : n ≤ 9223372036854775807) (hnc : n ≤ c) :
    Calls Try.prog 27 #[.slice A n c] w fun e w' => e = .returned (.int .i64 (unlikeT xs n)) ∧ w = w' := by
  have H1 := Lib.hid h1
  clear h1
  go_enter Try.func27, Try.ntmps27
  go_wp2
  go_loop [3, 8] (fun s j => ∃ k : Nat, k ≤ n ∧ j = .int .i64 k ∧ s = .int .i64 (unlikeT xs k)) (fun _ j => n - (intOf j).toNat)
  case atStart => exact ⟨0, Nat.zero_le _, rfl, rfl⟩
  case round =>
    obtain ⟨k, hk, rfl, rfl⟩ := hrel
    have hle := unlikeT_le xs k
    by_cases hlt : k < n
    · obtain ⟨b, off, y, rfl, _, hy, hc⟩ := H1.out.at_ hlt
      have HT := Lib.hid (H1.out.take_ hk)
      have hget : xs.getD k 0 = y := by rw [List.getD_eq_getElem?_getD, hy]; rfl
      by_cases hv : y ∈ xs.take k
      · have HU : Hid (unlikeT xs (k + 1) = unlikeT xs k) := Lib.hid (by rw [unlikeT, hget, if_pos hv]; rfl)
        have HV := Lib.hid (hasI_iff.2 hv)
        clear hv hy hget
        go_wp2_with (go_at_call 42; refine (has_v k c y true _ (xs.take k) _ (by exact HT.out) (by omega) HV.out).mono ?_; rintro e w' ⟨rfl, rfl⟩)
        go_round
        case rel => exact ⟨k + 1, by omega, by go_num, by rw [HU.out]⟩
        case measure => simp [intOf]; omega
      · have HU : Hid (unlikeT xs (k + 1) = unlikeT xs k + 1) := Lib.hid (by rw [unlikeT, hget, if_neg hv])
        have HV := Lib.hid (show hasI (xs.take k) y = false by rw [Bool.eq_false_iff, Ne, hasI_iff]; exact hv)
        clear hv hy hget
        go_wp2_with (go_at_call 42; refine (has_v k c y false _ (xs.take k) _ (by exact HT.out) (by omega) HV.out).mono ?_; rintro e w' ⟨rfl, rfl⟩)
        go_round
        case rel => exact ⟨k + 1, by omega, by go_num, by rw [HU.out]; go_num⟩
        case measure => simp [intOf]; omega
    · obtain rfl : k = n := by omega
      go_wp2
      go_ret
      exact ⟨rfl, rfl⟩

end Go.Proofs.Ytpcealcghglopaa
