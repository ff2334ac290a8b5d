/- The reference's Each, of any list. -/
import Derived.Test.YticickicfigpbaaEach
namespace Go.Proofs.Yticickicfigpbaa
open Go.RowKit

/-- An order has each node just once. -/
def EachP (n : Nat) (xs : List Int) : Prop := xs.length = n ∧ xs.Nodup ∧ ∀ x ∈ xs, 0 ≤ x ∧ x < (n : Int)
set_option maxRecDepth 100000 in
set_option maxHeartbeats 1000000 in
theorem each_v (A : Option Addr) (len c n : Nat) (xs : List Int) (v : Bool) (w : World) (h1 : IntsAt w w.heap.size A len xs) (hn : len ≤ 9223372036854775807) (hn2 : n ≤ 1000000) (hnc : len ≤ c) (hv : v = true ↔ EachP n xs) :
    Calls Try.prog 15 #[.int .i64 (n : Int), .slice A len c] w fun e w' => e = .returned (.bool v) ∧ w = w' := by
  have H1 := Lib.hid h1
  have HV := Lib.hid hv
  have HL : Hid (xs.length = len) := Lib.hid h1.1
  have HF : Hid (¬ EachP n xs → v = false) := Lib.hid fun h => by
    cases v with
    | false => rfl
    | true => exact absurd (hv.1 rfl) h
  clear h1 hv
  go_enter Try.func15, Try.ntmps15
  go_wp2
  go_loop [9] (fun j => ∃ k : Nat, k ≤ len ∧ j = .int .i64 k ∧ Hid ((xs.take k).Nodup ∧ ∀ x ∈ xs.take k, 0 ≤ x ∧ x < (n : Int))) (fun j => len - (intOf j).toNat)
  case atStart => exact ⟨0, Nat.zero_le _, rfl, Lib.hid ⟨by simp, fun x hx => by simp at hx⟩⟩
  case round =>
    obtain ⟨k, hk, rfl, HP⟩ := hrel
    by_cases hlt : k < len
    · obtain ⟨b, off, y, rfl, _, hy, hc⟩ := H1.out.at_ hlt
      have HT := Lib.hid (H1.out.takeE hk)
      have HY := Lib.hid hy
      have HS : Hid (xs.take (k + 1) = xs.take k ++ [y]) := Lib.hid (by
        obtain ⟨h2, h3⟩ := List.getElem?_eq_some_iff.1 hy
        rw [List.take_succ_eq_append_getElem h2, h3])
      have ik0 : (0 : Int) ≤ (k : Int) := by omega
      have ik1 : (k : Int) < (len : Int) := by omega
      have hkc : k ≤ c := by omega
      clear hy
      by_cases hy0 : y < 0
      · have HN : Hid (v = false) := Lib.hid (HF.out fun h => by have := h.2.2 y (List.mem_of_getElem? HY.out); omega)
        clear HP
        go_wp2_with fail
        go_ret
        exact ⟨by rw [HN.out]; first | done | rfl, rfl⟩
      · by_cases hy1 : (n : Int) ≤ y
        · have HN : Hid (v = false) := Lib.hid (HF.out fun h => by have := h.2.2 y (List.mem_of_getElem? HY.out); omega)
          clear HP
          go_wp2_with fail
          go_ret
          exact ⟨by rw [HN.out]; first | done | rfl, rfl⟩
        · cases hh : hasI (xs.take k) y with
          | true =>
            have HN : Hid (v = false) := Lib.hid (HF.out fun h => by
              have h4 : (xs.take (k + 1)).Nodup := h.2.1.sublist (List.take_sublist _ _)
              rw [HS.out, List.nodup_append] at h4
              exact h4.2.2 y (hasI_iff.1 hh) y (List.mem_singleton.2 rfl) rfl)
            have HH := Lib.hid hh
            clear HP hh
            go_wp2_with fail
            refine (has_v k c y true _ (xs.take k) _ (by exact HT.out) (by omega) HH.out).mono ?_
            rintro e w' ⟨rfl, rfl⟩
            go_wp2_with fail
            go_ret
            exact ⟨by rw [HN.out]; first | done | rfl, rfl⟩
          | false =>
            have HP2 : Hid ((xs.take (k + 1)).Nodup ∧ ∀ x ∈ xs.take (k + 1), 0 ≤ x ∧ x < (n : Int)) := Lib.hid (by
              rw [HS.out]
              refine ⟨?_, fun x hx => ?_⟩
              · rw [List.nodup_append]
                refine ⟨HP.out.1, by simp, fun a ha b hb => ?_⟩
                rw [List.mem_singleton.1 hb]
                rintro rfl
                rw [hasI_iff.2 ha] at hh
                cases hh
              · rcases List.mem_append.1 hx with hx | hx
                · exact HP.out.2 x hx
                · rw [List.mem_singleton.1 hx]; omega)
            have HH := Lib.hid hh
            clear HP hh
            go_wp2_with fail
            refine (has_v k c y false _ (xs.take k) _ (by exact HT.out) (by omega) HH.out).mono ?_
            rintro e w' ⟨rfl, rfl⟩
            go_wp2_with fail
            go_round
            case rel => exact ⟨k + 1, by omega, by go_num, HP2⟩
            case measure => simp [intOf]; omega
    · obtain rfl : k = len := by omega
      by_cases hkn : k = n
      · subst hkn
        have HN : Hid (v = true) := Lib.hid (HV.out.2 ⟨HL.out, by
          have h := HP.out
          rw [List.take_of_length_le (by have := HL.out; omega)] at h
          exact h⟩)
        clear HP
        go_wp2_with fail
        go_ret
        exact ⟨by rw [HN.out]; first | done | rfl, rfl⟩
      · have HN : Hid (v = false) := Lib.hid (HF.out fun h => hkn (HL.out.symm.trans h.1))
        have hb : ((k : Int) == (n : Int)) = false := by simp; omega
        clear HP
        go_wp2_with fail
        go_ret
        exact ⟨by rw [HN.out]; first | done | rfl, rfl⟩
end Go.Proofs.Yticickicfigpbaa
