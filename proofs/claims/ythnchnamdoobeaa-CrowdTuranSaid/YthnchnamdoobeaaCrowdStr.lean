/- crowd.strangers: of each node the word of those that it has no edge with. Conditions: at most ten nodes. -/
import Derived.Test.YthnchnamdoobeaaCrowdGoP
import Derived.Test.YthnchnamdoobeaaWordsAt
import Derived.IntWalk
import Derived.RegionTactic
import Derived.BigRegion
import Derived.ChangeAlike
namespace Go.Proofs.Ythnchnamdoobeaa
open Go.RowKit

theorem xor_u32 (x : Nat) (hx : x < 4294967296) : bits .xor .u32 4294967295 (x : Int) = ((4294967295 - x : Nat) : Int) := by
  show IntKind.u32.wrap ((BitVec.ofInt 32 ((4294967295 : Nat) : Int) ^^^ BitVec.ofInt 32 (x : Int)).toNat : Int) = _
  rw [BitVec.toNat_xor, ofInt_u32 _ (by omega), ofInt_u32 _ hx, wrap_u32n, xor_all x hx]
  omega
set_option maxRecDepth 100000 in
set_option maxHeartbeats 1000000 in
theorem strangers_any (n cap : Nat) (A : Option Addr) (xs : List Nat) (w : World) (hA : WordsAt w w.heap.size A n xs) (hn : n ≤ 10) (hxs : ∀ i, xs.getD i 0 < 4294967296) :
    Calls Try.prog 25 #[.slice A n cap] w fun e w' => ∃ g, e = .returned (.slice (some ⟨g, 0, none⟩) n n) ∧ RowOf w' g 25 ((strG xs n n).map u32V) ∧ w.heap.size ≤ g ∧ Below w.heap.size w w' := by
  have HW := Lib.hid hA
  have HS := Lib.hid hxs
  clear hA hxs
  have hmk := fun W => run_make_row' (P := Try.prog) 41 25 (.int .u32 0) 4 Try.underlying41 (by kernel_rfl) rfl .i64 .i64 n (by omega) (by omega) W
  go_enter Try.func25, Try.ntmps25
  go_wp2
  clear hmk
  go_loopw [11] (fun j wr => ∃ k : Nat, k ≤ n ∧ j = .int .i64 k ∧ Hid (RowOf wr w.heap.size 25 ((strG xs n k).map u32V)) ∧ Below w.heap.size w wr) (fun j _ => n - (intOf j).toNat)
  case atStart =>
    refine ⟨0, Nat.zero_le _, rfl, Lib.hid ?_, (Below.refl _ _).alloc (Nat.le_refl _) _⟩
    rw [strG_zero, List.map_replicate]
    exact RowOf.made w (.int .u32 0) n 25
  case round =>
    obtain ⟨k, hk, rfl, HR, hB⟩ := hrel
    by_cases hkn : k < n
    · have hkn' : (k : Int) < (n : Int) := by omega
      have hk0 : (0 : Int) ≤ (k : Int) := by omega
      have hk32 : (k : Int) ≤ 32 := by omega
      obtain ⟨b, off, rfl, hb, hc⟩ := (HW.out.below hB).at_ hkn
      have hfk := HR.out.frozen k
      have hx := HS.out k
      have hpk : 2 ^ k < 1024 := Nat.lt_of_lt_of_le (Nat.pow_lt_pow_right (by decide) hkn) (by rw [show 1024 = 2 ^ 10 from rfl]; exact Nat.pow_le_pow_right (by decide) hn)
      have hsi : (2 : Int) ^ k % 4294967296 = ((2 ^ k : Nat) : Int) := pow_mod k (by omega)
      have hti : IntKind.u32.wrap ((2 : Int) ^ k) = ((2 ^ k : Nat) : Int) := by rw [wrap_u32n]; exact hsi
      have HN := Lib.hid (strG_next xs n k)
      have hxor : bits .xor .u32 (if IntKind.u32.signed = true then -1 else IntKind.u32.max) ((xs.getD k 0 : Nat) : Int) = ((4294967295 - xs.getD k 0 : Nat) : Int) := xor_u32 (xs.getD k 0) hx
      have hand := andNot_u32 (4294967295 - xs.getD k 0) (2 ^ k) (by omega) (by omega)
      have hold : wr.cell? ⟨w.heap.size, k, none⟩ = some (.int .u32 ((strG xs n k)[k]'(by rw [strG_length]; exact hkn) : Nat)) := HR.out.cell (by rw [List.getElem?_map, List.getElem?_eq_getElem (by rw [strG_length]; exact hkn)]; rfl)
      generalize (strG xs n k)[k]'(by rw [strG_length]; exact hkn) = old at hold
      have hdl := diffW_lt (4294967295 - xs.getD k 0) (2 ^ k)
      generalize diffW (4294967295 - xs.getD k 0) (2 ^ k) = d at hand HN hdl
      generalize 4294967295 - xs.getD k 0 = y at hxor hand
      generalize xs.getD k 0 = x at hx hxor hc
      generalize 2 ^ k = p at hpk hsi hti hand
      have hbr : b < wr.heap.size := by have := HR.out.lt; omega
      go_wp2
      go_roundw
      case rel =>
        refine ⟨k + 1, by omega, by go_num, Lib.hid ?_, (hB.setCell (p := ⟨w.heap.size, k, none⟩) (Nat.le_refl _) _)⟩
        rw [← HN.out, List.map_set]
        exact (HR.out.set_ k _)
      case measure => simp [intOf]; omega
    · obtain rfl : k = n := by omega
      go_wp2
      go_ret
      exact ⟨_, rfl, HR.out, Nat.le_refl _, hB⟩
end Go.Proofs.Ythnchnamdoobeaa
