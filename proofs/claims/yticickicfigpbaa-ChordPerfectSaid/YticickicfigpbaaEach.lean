/- The reference's Each: does a list have each number below n once? -/
import Derived.Test.YticickicfigpbaaHas
namespace Go.Proofs.Yticickicfigpbaa
open Go.RowKit

theorem IntsAt.takeE {w : World} {B n k : Nat} {A : Option Addr} {xs : List Int} (h : IntsAt w B A n xs) (hk : k ≤ n) : IntsAt w B A k (xs.take k) :=
  ⟨by rw [List.length_take, h.1]; omega, fun hk0 => by
    obtain ⟨b, off, e, hb, hc⟩ := h.2 (by omega)
    exact ⟨b, off, e, hb, fun i x hx => hc i x (by rw [List.getElem?_take] at hx; split at hx <;> simp_all)⟩⟩
set_option maxRecDepth 100000 in
set_option maxHeartbeats 1000000 in
theorem each_true (A : Option Addr) (n c : Nat) (xs : List Int) (w : World) (h1 : IntsAt w w.heap.size A n xs) (hn : n ≤ 1000000) (hnc : n ≤ c) (hd : xs.Nodup) (hr : ∀ x ∈ xs, 0 ≤ x ∧ x < (n : Int)) :
    Calls Try.prog 15 #[.int .i64 (n : Int), .slice A n c] w fun e w' => e = .returned (.bool true) ∧ w = w' := by
  have H1 := Lib.hid h1
  have HD := Lib.hid hd
  have HR := Lib.hid hr
  clear h1 hd hr
  go_enter Try.func15, Try.ntmps15
  go_wp2
  go_loop [9] (fun j => ∃ k : Nat, k ≤ n ∧ j = .int .i64 k) (fun j => n - (intOf j).toNat)
  case atStart => exact ⟨0, Nat.zero_le _, rfl⟩
  case round =>
    obtain ⟨k, hk, rfl⟩ := hrel
    by_cases hlt : k < n
    · obtain ⟨b, off, y, rfl, _, hy, hc⟩ := H1.out.at_ hlt
      have HT := Lib.hid (H1.out.takeE hk)
      obtain ⟨y0, y1⟩ := HR.out y (List.mem_of_getElem? hy)
      have HV := Lib.hid (show hasI (xs.take k) y = false by
        rw [Bool.eq_false_iff, Ne, hasI_iff]
        intro hm
        obtain ⟨h2, h3⟩ := List.getElem?_eq_some_iff.1 hy
        have h4 : (xs.take (k + 1)).Nodup := HD.out.sublist (List.take_sublist _ _)
        rw [List.take_succ_eq_append_getElem h2, h3, List.nodup_append] at h4
        exact h4.2.2 y hm y (List.mem_singleton.2 rfl) rfl)
      have ik0 : (0 : Int) ≤ (k : Int) := by omega
      have ik1 : (k : Int) < (n : Int) := by omega
      clear hy
      go_wp2_with fail
      refine (has_v k c y false _ (xs.take k) _ (by exact HT.out) (by omega) HV.out).mono ?_
      rintro e w' ⟨rfl, rfl⟩
      go_wp2_with fail
      go_round
      case rel => exact ⟨k + 1, by omega, by go_num⟩
      case measure => simp [intOf]; omega
    · obtain rfl : k = n := by omega
      go_wp2
      go_ret
      exact ⟨rfl, rfl⟩
end Go.Proofs.Yticickicfigpbaa
