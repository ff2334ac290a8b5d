/- The reference's Has and Unlike. -/
import Derived.Test.YthfgbgmkiggjmabDoorUnite
import Derived.Test.YthfgbgmkiggjmabDoorInts
namespace Go.Proofs.YthfgbgmkiggjmabDoor
open Go.RowKit

set_option maxRecDepth 100000 in
set_option maxHeartbeats 400000 in
theorem has_any (A : Option Addr) (n c : Nat) (xs : List Int) (x : Int) (w : World) (h1 : IntsAt w w.heap.size A n xs) (hn : n ≤ 4000000000) :
    Calls Tryd.prog 45 #[.slice A n c, .int .i64 x] w fun e w' => e = .returned (.bool (xs.contains x)) ∧ w = w' := by
  have H1 := Lib.hid h1
  clear h1
  go_enter Tryd.func45, Tryd.ntmps45
  go_wp2
  go_loop [9] (fun j => ∃ k : Nat, k ≤ n ∧ j = .int .i64 k ∧ Hid ((xs.take k).contains x = false)) (fun j => n - (intOf j).toNat)
  case atStart => exact ⟨0, Nat.zero_le _, rfl, Lib.hid rfl⟩
  case round =>
    obtain ⟨k, hk, rfl, HN⟩ := hrel
    by_cases hlt : k < n
    · obtain ⟨b, off, y, rfl, _, hy, hc⟩ := H1.out.at_ hlt
      by_cases he : x = y
      · have HR : Hid (xs.contains x = true) := Lib.hid (by rw [List.contains_iff_mem, he]; exact List.mem_of_getElem? hy)
        have heb : (x == y) = true := by simpa using he
        clear hy he
        go_wp2
        go_ret
        exact ⟨ret_bool (by have := HR.out; rw [List.contains_eq_mem] at this; exact this.symm), rfl⟩
      · have HN2 : Hid ((xs.take (k + 1)).contains x = false) := Lib.hid (by
          obtain ⟨hkl, hye⟩ := List.getElem?_eq_some_iff.1 hy
          rw [List.take_succ_eq_append_getElem hkl, hye]
          have := HN.out
          simp only [List.contains_eq_mem, List.mem_append, List.mem_singleton] at this ⊢
          simp only [decide_eq_false_iff_not] at this ⊢
          rintro (h | h)
          · exact this h
          · exact he h)
        have heb : (x == y) = false := by simpa using he
        clear hy he
        go_wp2
        go_round
        case rel => exact ⟨k + 1, by omega, by go_num, HN2⟩
        case measure => simp [intOf]; omega
    · have HR : Hid (xs.contains x = false) := Lib.hid (by
        have := HN.out
        rwa [List.take_of_length_le (by have := H1.out.1; omega)] at this)
      go_wp2
      go_ret
      exact ⟨ret_bool (by have := HR.out; rw [List.contains_eq_mem] at this; exact this.symm), rfl⟩
set_option maxRecDepth 100000 in
theorem has_v (A : Option Addr) (n c : Nat) (xs : List Int) (x : Int) (v : Bool) (w : World) (h1 : IntsAt w w.heap.size A n xs) (hn : n ≤ 4000000000) (hv : xs.contains x = v) :
    Calls Tryd.prog 45 #[.slice A n c, .int .i64 x] w fun e w' => e = .returned (.bool v) ∧ w = w' := by subst hv; exact has_any A n c xs x w h1 hn

theorem IntsAt.take_ {w : World} {B n k : Nat} {A : Option Addr} {xs : List Int} (h : IntsAt w B A n xs) (hk : k ≤ n) : IntsAt w B A k (xs.take k) :=
  ⟨by rw [List.length_take, h.1]; omega, fun hk0 => by
    obtain ⟨b, off, e, hb, hc⟩ := h.2 (by omega)
    exact ⟨b, off, e, hb, fun i x hx => hc i x (by rw [List.getElem?_take] at hx; split at hx <;> simp_all)⟩⟩

set_option maxRecDepth 100000 in
set_option maxHeartbeats 400000 in
theorem unlike_any (A : Option Addr) (n c : Nat) (xs : List Int) (w : World) (h1 : IntsAt w w.heap.size A n xs) (hn : n ≤ 4000000000) (hnc : n ≤ c) :
    Calls Tryd.prog 25 #[.slice A n c] w fun e w' => e = .returned (.int .i64 (unlikeTo xs n)) ∧ w = w' := by
  have H1 := Lib.hid h1
  clear h1
  go_enter Tryd.func25, Tryd.ntmps25
  go_wp2
  go_loop [3, 8] (fun s j => ∃ k : Nat, k ≤ n ∧ j = .int .i64 k ∧ s = .int .i64 (unlikeTo xs k)) (fun _ j => n - (intOf j).toNat)
  case atStart => exact ⟨0, Nat.zero_le _, rfl, rfl⟩
  case round =>
    obtain ⟨k, hk, rfl, rfl⟩ := hrel
    have hle := unlikeTo_le xs k
    by_cases hlt : k < n
    · obtain ⟨b, off, y, rfl, _, hy, hc⟩ := H1.out.at_ hlt
      have HT := Lib.hid (H1.out.take_ hk)
      have hget : xs.getD k 0 = y := by rw [List.getD_eq_getElem?_getD, hy]; rfl
      by_cases hv : (xs.take k).contains y = true
      · have HU : Hid (unlikeTo xs (k + 1) = unlikeTo xs k) := Lib.hid (by rw [unlikeTo, hget, if_pos hv]; rfl)
        have HV := Lib.hid hv
        clear hv hy hget
        go_wp2_with (go_at_call 45; refine (has_v _ k c (xs.take k) y true _ (by exact HT.out) (by omega) HV.out).mono ?_; rintro e w' ⟨rfl, rfl⟩)
        go_round
        case rel => exact ⟨k + 1, by omega, by go_num, by rw [HU.out]⟩
        case measure => simp [intOf]; omega
      · have HU : Hid (unlikeTo xs (k + 1) = unlikeTo xs k + 1) := Lib.hid (by rw [unlikeTo, hget, if_neg hv])
        have HV := Lib.hid (show (xs.take k).contains y = false by simpa using hv)
        clear hv hy hget
        go_wp2_with (go_at_call 45; refine (has_v _ k c (xs.take k) y false _ (by exact HT.out) (by omega) HV.out).mono ?_; rintro e w' ⟨rfl, rfl⟩)
        go_round
        case rel => exact ⟨k + 1, by omega, by go_num, by rw [HU.out]; go_num⟩
        case measure => simp [intOf]; omega
    · obtain rfl : k = n := by omega
      go_wp2
      go_ret
      exact ⟨rfl, rfl⟩
end Go.Proofs.YthfgbgmkiggjmabDoor
