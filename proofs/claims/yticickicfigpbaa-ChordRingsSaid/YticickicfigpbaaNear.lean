/- The reference's Near. -/
import Derived.Test.YticickicfigpbaaAdj
import Derived.Test.YticickicfigpbaaRefCheck
import Derived.Test.YticickicfigpbaaRows2
namespace Go.Proofs.Yticickicfigpbaa
open Go.RowKit

def nearB (a b : Int) (e : E3) : Bool := (e.1 == a && e.2.1 == b) || (e.1 == b && e.2.1 == a)
def nearI (es : List E3) (a b : Int) : Bool := es.any (nearB a b)
theorem nearI_nat (es : List E3) (a b : Nat) : nearI es (a : Int) (b : Int) = adjE es a b := rfl

set_option maxRecDepth 100000 in
set_option maxHeartbeats 400000 in
theorem near_any (n a b : Int) (A : Option Addr) (len cap : Nat) (es : List E3) (w : World) (hE : EdgesAt w w.heap.size A len es) (hl : len ≤ 45) :
    Calls Try.prog 30 #[.agg #[.int .i64 n, .slice A len cap], .int .i64 a, .int .i64 b] w fun e w' => e = .returned (.bool (nearI es a b)) ∧ Below w.heap.size w w' := by
  go_enter Try.func30, Try.ntmps30
  go_wp2
  go_loopw [12] (fun j wr => ∃ k : Nat, k ≤ len ∧ j = .int .i64 k ∧ Hid (nearI (es.take k) a b = false) ∧ Below w.heap.size w wr) (fun j _ => len - (intOf j).toNat)
  case atStart => exact ⟨0, Nat.zero_le _, rfl, Lib.hid rfl, (Below.refl _ _).alloc (Nat.le_refl _) _⟩
  case round =>
    obtain ⟨k, hk, rfl, HN, hB⟩ := hrel
    by_cases hlt : k < len
    · obtain ⟨b', off, ⟨a0, a1, a2⟩, rfl, hb, hx, hc0, hc1, hc2⟩ := (hE.below hB).at_ hlt
      by_cases hs : nearB a b (a0, a1, a2) = true
      · have HR : Hid (nearI es a b = true) := Lib.hid (by unfold nearI; rw [List.any_eq_true]; exact ⟨_, List.mem_of_getElem? hx, hs⟩)
        have hw : ((a0 == a) = true ∧ (a1 == b) = true) ∨ ((a0 == a) = false ∧ (a0 == b) = true ∧ (a1 == a) = true) ∨ ((a0 == a) = true ∧ (a1 == b) = false ∧ (a0 == b) = true ∧ (a1 == a) = true) := by
          simp [nearB] at hs; simp; omega
        clear hs hx
        rcases hw with ⟨h1, h2⟩ | ⟨h1, h2, h3⟩ | ⟨h1, h2, h3, h4⟩
        all_goals
          go_wp2
          go_ret
          exact ⟨ret_bool HR.out.symm, hB.alloc hB.size _⟩
      · have HN2 : Hid (nearI (es.take (k + 1)) a b = false) := Lib.hid (by
          obtain ⟨hkl, hxe⟩ := List.getElem?_eq_some_iff.1 hx
          have := HN.out
          unfold nearI at this ⊢
          rw [List.take_succ_eq_append_getElem hkl, hxe, any_snoc, this]
          simpa using hs)
        have hw : ((a0 == a) = true ∧ (a1 == b) = false ∧ (a0 == b) = false) ∨ ((a0 == a) = true ∧ (a1 == b) = false ∧ (a0 == b) = true ∧ (a1 == a) = false) ∨ ((a0 == a) = false ∧ (a0 == b) = true ∧ (a1 == a) = false) ∨ ((a0 == a) = false ∧ (a0 == b) = false) := by
          simp [nearB] at hs; simp; omega
        clear hs hx
        rcases hw with ⟨h1, h2, h3⟩ | ⟨h1, h2, h3, h4⟩ | ⟨h1, h2, h3⟩ | ⟨h1, h2⟩
        all_goals
          go_wp2
          go_roundw
          case rel => exact ⟨k + 1, by omega, by go_num, HN2, hB.alloc hB.size _⟩
          case measure => simp [intOf]; omega
    · have HR : Hid (nearI es a b = false) := Lib.hid (by
        have := HN.out
        rwa [List.take_of_length_le (by have := hE.1; omega)] at this)
      go_wp2
      go_ret
      exact ⟨ret_bool HR.out.symm, hB⟩
set_option maxRecDepth 100000 in
theorem near_v (n a b : Int) (A : Option Addr) (len cap : Nat) (es : List E3) (v : Bool) (w : World) (hE : EdgesAt w w.heap.size A len es) (hl : len ≤ 45) (hv : nearI es a b = v) :
    Calls Try.prog 30 #[.agg #[.int .i64 n, .slice A len cap], .int .i64 a, .int .i64 b] w fun e w' => e = .returned (.bool v) ∧ Below w.heap.size w w' := by
  subst hv; exact near_any n a b A len cap es w hE hl
end Go.Proofs.Yticickicfigpbaa
