/- The reference's Near, and the keepers' inside. -/
import Derived.Test.YtepmpijkdlfohaaDoorAdj
import Derived.Test.YtepmpijkdlfohaaDoorRefCheck
import Derived.Test.YtepmpijkdlfohaaDoorRows2
namespace Go.Proofs.YtepmpijkdlfohaaDoor
open Go.RowKit

def nearB (a b : Int) (e : E3) : Bool := (e.1 == a && e.2.1 == b) || (e.1 == b && e.2.1 == a)
def nearI (es : List E3) (a b : Int) : Bool := es.any (nearB a b)
theorem nearI_nat (es : List E3) (a b : Nat) : nearI es (a : Int) (b : Int) = adjE es a b := rfl

set_option maxHeartbeats 400000 in
theorem near_any (n a b : Int) (A : Option Addr) (len cap : Nat) (es : List E3) (w : World) (hE : EdgesAt w w.heap.size A len es) (hl : len ≤ 45) :
    Calls Tryd.prog 40 #[.agg #[.int .i64 n, .slice A len cap], .int .i64 a, .int .i64 b] w fun e w' => e = .returned (.bool (nearI es a b)) ∧ Below w.heap.size w w' := by
  go_enter Tryd.func40, Tryd.ntmps40
  go_wp2
  go_loopw [12] (fun j wr => ∃ k : Nat, k ≤ len ∧ j = .int .i64 k ∧ Hid (nearI (es.take k) a b = false) ∧ Below w.heap.size w wr) (fun j _ => len - (intOf j).toNat)
  case atStart => exact ⟨0, Nat.zero_le _, rfl, Lib.hid rfl, (Below.refl _ _).alloc (Nat.le_refl _) _⟩
  case round =>
    obtain ⟨k, hk, rfl, HN, hB⟩ := hrel
    by_cases hlt : k < len
    · obtain ⟨b', off, ⟨a0, a1, a2⟩, rfl, hb, hx, hc0, hc1, hc2⟩ := (hE.below hB).at_ hlt
      by_cases hs : nearB a b (a0, a1, a2) = true
      · have HR : Hid (nearI es a b = true) := Lib.hid (by unfold nearI; rw [List.any_eq_true]; exact ⟨_, List.mem_of_getElem? hx, hs⟩)
        have hw : ((a0 == a) = true ∧ (a1 == b) = true) ∨ ((a0 == a) = false ∧ (a0 == b) = true ∧ (a1 == a) = true) ∨ ((a0 == a) = true ∧ (a1 == b) = false ∧ (a0 == b) = true ∧ (a1 == a) = true) := by
          simp [nearB] at hs; simp; omega
        clear hs hx
        rcases hw with ⟨h1, h2⟩ | ⟨h1, h2, h3⟩ | ⟨h1, h2, h3, h4⟩
        all_goals
          go_wp2
          go_ret
          exact ⟨ret_bool HR.out.symm, hB.alloc hB.size _⟩
      · have HN2 : Hid (nearI (es.take (k + 1)) a b = false) := Lib.hid (by
          obtain ⟨hkl, hxe⟩ := List.getElem?_eq_some_iff.1 hx
          have := HN.out
          unfold nearI at this ⊢
          rw [List.take_succ_eq_append_getElem hkl, hxe, any_snoc, this]
          simpa using hs)
        have hw : ((a0 == a) = true ∧ (a1 == b) = false ∧ (a0 == b) = false) ∨ ((a0 == a) = true ∧ (a1 == b) = false ∧ (a0 == b) = true ∧ (a1 == a) = false) ∨ ((a0 == a) = false ∧ (a0 == b) = true ∧ (a1 == a) = false) ∨ ((a0 == a) = false ∧ (a0 == b) = false) := by
          simp [nearB] at hs; simp; omega
        clear hs hx
        rcases hw with ⟨h1, h2, h3⟩ | ⟨h1, h2, h3, h4⟩ | ⟨h1, h2, h3⟩ | ⟨h1, h2⟩
        all_goals
          go_wp2
          go_roundw
          case rel => exact ⟨k + 1, by omega, by go_num, HN2, hB.alloc hB.size _⟩
          case measure => simp [intOf]; omega
    · have HR : Hid (nearI es a b = false) := Lib.hid (by
        have := HN.out
        rwa [List.take_of_length_le (by have := hE.1; omega)] at this)
      go_wp2
      go_ret
      exact ⟨ret_bool HR.out.symm, hB⟩
theorem near_v (n a b : Int) (A : Option Addr) (len cap : Nat) (es : List E3) (v : Bool) (w : World) (hE : EdgesAt w w.heap.size A len es) (hl : len ≤ 45) (hv : nearI es a b = v) :
    Calls Tryd.prog 40 #[.agg #[.int .i64 n, .slice A len cap], .int .i64 a, .int .i64 b] w fun e w' => e = .returned (.bool v) ∧ Below w.heap.size w w' := by
  subst hv; exact near_any n a b A len cap es w hE hl

set_option maxHeartbeats 400000 in
theorem inside_v (n : Int) (A : Option Addr) (k c : Nat) (xs : List Int) (v : Bool) (w : World) (h1 : IntsAt w w.heap.size A k xs) (hn : k ≤ 4000000000) (hv : xs.all (isIn n) = v) :
    Calls Tryd.prog 21 #[.int .i64 n, .slice A k c] w fun e w' => e = .returned (.bool v) ∧ w = w' := by
  have H1 := Lib.hid h1
  have HV := Lib.hid hv
  clear h1 hv
  go_enter Tryd.func21, Tryd.ntmps21
  go_wp2
  go_loop [9] (fun j => ∃ i : Nat, i ≤ k ∧ j = .int .i64 i ∧ Hid ((xs.take i).all (isIn n) = true)) (fun j => k - (intOf j).toNat)
  case atStart => exact ⟨0, Nat.zero_le _, rfl, Lib.hid rfl⟩
  case round =>
    obtain ⟨i, hi, rfl, HN⟩ := hrel
    by_cases hlt : i < k
    · obtain ⟨b, off, y, rfl, _, hy, hc⟩ := H1.out.at_ hlt
      by_cases he : isIn n y = true
      · have HN2 : Hid ((xs.take (i + 1)).all (isIn n) = true) := Lib.hid (by
          obtain ⟨hkl, hye⟩ := List.getElem?_eq_some_iff.1 hy
          rw [List.take_succ_eq_append_getElem hkl, hye, List.all_append, HN.out]
          simp [he])
        have hy0 : 0 ≤ y ∧ y < n := by simpa [isIn] using he
        obtain ⟨hy1, hy2⟩ := hy0
        clear hy he
        go_wp2
        go_round
        case rel => exact ⟨i + 1, by omega, by go_num, HN2⟩
        case measure => simp [intOf]; omega
      · have HR : Hid (v = false) := Lib.hid (by
          rw [← HV.out]
          cases hall : xs.all (isIn n) with
          | false => rfl
          | true => exact absurd (List.all_eq_true.1 hall y (List.mem_of_getElem? hy)) he)
        have hw : y < 0 ∨ (0 ≤ y ∧ n ≤ y) := by simp [isIn] at he; omega
        clear hy he
        rcases hw with h | ⟨h1, h2⟩
        all_goals
          go_wp2
          go_ret
          exact ⟨ret_bool HR.out.symm, rfl⟩
    · have HR : Hid (v = true) := Lib.hid (by
        rw [← HV.out]
        have := HN.out
        rwa [List.take_of_length_le (by have := H1.out.1; omega)] at this)
      go_wp2
      go_ret
      exact ⟨ret_bool HR.out.symm, rfl⟩
end Go.Proofs.YtepmpijkdlfohaaDoor
