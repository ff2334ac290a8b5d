/- span.firstOnes: the word of the nodes that are the least ones of their parts. -/
import Derived.Test.YthfgbgmkiggjmabDoorPrufer
import Derived.Test.YthfgbgmkiggjmabDoorParts
import Derived.Test.YthfgbgmkiggjmabDoorCheckGo
import Derived.Test.YthfgbgmkiggjmabDoorInts
namespace Go.Proofs.YthfgbgmkiggjmabDoor
open Go.RowKit

def firstW (ps : List Nat) : Nat := ps.foldl (fun a p => a ||| 2 ^ p) 0
theorem firstW_snoc (ps : List Nat) (p : Nat) : firstW (ps ++ [p]) = firstW ps ||| 2 ^ p := by simp [firstW]
theorem firstW_bit (ps : List Nat) (j : Nat) : (firstW ps).testBit j = true ↔ j ∈ ps := by
  unfold firstW
  rw [foldl_or_bit (fun p => 2 ^ p) j ps 0]
  simp only [Nat.zero_testBit, Bool.false_or, List.any_eq_true, Nat.testBit_two_pow, decide_eq_true_eq]
  exact ⟨fun ⟨p, h1, h2⟩ => h2 ▸ h1, fun h => ⟨j, h, rfl⟩⟩
theorem firstW_lt {ps : List Nat} (h : ∀ p ∈ ps, p < 10) : firstW ps < 1024 := by
  show firstW ps < 2 ^ 10
  apply Nat.lt_pow_two_of_testBit
  intro i hi
  rw [Bool.eq_false_iff]
  intro ht
  have := h i ((firstW_bit ps i).1 ht)
  omega
theorem firstW_one {ps : List Nat} (hne : ps ≠ []) : firstW ps = 1 ↔ ∀ p ∈ ps, p = 0 := by
  constructor
  · intro h p hp
    have := (firstW_bit ps p).2 hp
    rw [h] at this
    rcases Nat.eq_zero_or_pos p with h0 | h0
    · exact h0
    · rw [Nat.testBit_one_eq_true_iff_self_eq_zero.1 this] at h0; omega
  · intro h
    apply Nat.eq_of_testBit_eq
    intro i
    rw [Bool.eq_iff_iff, firstW_bit, Nat.testBit_one_eq_true_iff_self_eq_zero]
    constructor
    · exact fun hi => h i hi
    · rintro rfl
      cases ps with
      | nil => exact absurd rfl hne
      | cons p _ => rw [h p (List.mem_cons_self ..)]; exact List.mem_cons_self ..

set_option maxRecDepth 100000 in
set_option maxHeartbeats 400000 in
theorem firstOnes_any (n cap : Nat) (A : Option Addr) (ps : List Nat) (w : World) (hA : IntsAt w w.heap.size A n (intsN ps)) (hn : n ≤ 10) (hp : ∀ p ∈ ps, p < 10) :
    Calls Tryd.prog 68 #[.slice A n cap] w fun e w' => e = .returned (.int .u32 (firstW ps : Nat)) ∧ w = w' := by
  have HA := Lib.hid hA
  have HP := Lib.hid hp
  clear hA hp
  go_enter Tryd.func68, Tryd.ntmps68
  go_wp2
  go_loop [3, 8] (fun x j => ∃ i : Nat, i ≤ n ∧ j = .int .i64 i ∧ x = .int .u32 (firstW (ps.take i) : Nat)) (fun _ j => n - (intOf j).toNat)
  case atStart => exact ⟨0, Nat.zero_le _, rfl, rfl⟩
  case round =>
    obtain ⟨i, hi, rfl, rfl⟩ := hrel
    by_cases hin : i < n
    · obtain ⟨b, off, y, rfl, hb, hy, hc⟩ := HA.out.at_ hin
      obtain ⟨p, hps, rfl⟩ := intsN_get hy
      have hp10 := HP.out p (List.mem_of_getElem? hps)
      have HN : Hid (firstW (ps.take (i + 1)) = firstW (ps.take i) ||| 2 ^ p) := Lib.hid (by
        obtain ⟨h1, h2⟩ := List.getElem?_eq_some_iff.1 hps
        rw [List.take_succ_eq_append_getElem h1, h2, firstW_snoc])
      have hx1 : firstW (ps.take i) < 1024 := firstW_lt fun q hq => HP.out q (List.mem_of_mem_take hq)
      have hpp : 2 ^ p < 1024 := by show 2 ^ p < 2 ^ 10; exact Nat.pow_lt_pow_right (by decide) hp10
      have hor := or_u32 (firstW (ps.take i)) (2 ^ p) (by omega) (by omega)
      have hsp : (2 : Int) ^ p % 4294967296 = ((2 ^ p : Nat) : Int) := pow_mod p (by omega)
      have htp : IntKind.u32.wrap ((2 : Int) ^ p) = ((2 ^ p : Nat) : Int) := by rw [wrap_u32n]; exact hsp
      have ix0 : (0 : Int) ≤ (i : Int) := by omega
      have ix1 : (i : Int) < (n : Int) := by omega
      have ip0 : (0 : Int) ≤ (p : Int) := by omega
      have ip1 : (p : Int) ≤ 32 := by omega
      generalize firstW (ps.take i) = x at HN hx1 hor
      generalize 2 ^ p = pp at hpp hor hsp htp HN
      clear hy hps
      go_wp2
      go_round
      case rel => exact ⟨i + 1, by omega, by go_num, by rw [HN.out]⟩
      case measure => simp [intOf]; omega
    · have HE : Hid (firstW (ps.take i) = firstW ps) := Lib.hid (by rw [List.take_of_length_le (by have := HA.out.1; rw [intsN_length] at this; omega)])
      go_wp2
      go_ret
      exact ⟨ret_int (by rw [HE.out]), rfl⟩

theorem partsL_nat (m : Nat) (es : List E3) : partsL m (nbL m es) = intsN ((List.range m).map (partN m es)) := by
  unfold partsL intsN partN
  rw [List.map_map]
  rfl
theorem treeP_first {m : Nat} {es : List E3} (hm : m ≤ 10) (hg : goodE m es) (h2 : 2 ≤ m) (hl : es.length + 1 = m) : firstW ((List.range m).map (partN m es)) = 1 ↔ TreeP m es := by
  rw [firstW_one (by intro h; have := congrArg List.length h; simp at this; omega)]
  constructor
  · intro h
    refine ⟨h2, hl, fun i hi => ?_⟩
    have h1 := h (partN m es i) (List.mem_map_of_mem (List.mem_range.2 hi))
    have h3 := partN_rch hm hg hi
    rw [h1] at h3
    exact h3.symm
  · intro h p hp
    obtain ⟨i, hi, rfl⟩ := List.mem_map.1 hp
    have := partN_least hm hg (List.mem_range.1 hi) (h.2.2 i (List.mem_range.1 hi)).symm
    omega
end Go.Proofs.YthfgbgmkiggjmabDoor
