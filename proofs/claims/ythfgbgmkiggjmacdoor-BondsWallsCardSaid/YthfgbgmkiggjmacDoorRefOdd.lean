/- The reference's Odd: how many parts with an odd number of nodes there are without a wall. No conditions. How many nodes a wall has, how many odd parts there can be. -/
import Derived.Test.YthfgbgmkiggjmacDoorRefWithout
import Derived.Test.YthfgbgmkiggjmacDoorRefPartsR
import Derived.Test.YthfgbgmkiggjmacDoorSeekP
import Derived.Test.YthfgbgmkiggjmacDoorBoxG
namespace Go.Proofs.YthfgbgmkiggjmacDoor
open Go.RowKit

set_option maxRecDepth 100000 in
theorem refWithout_v (m u : Nat) (A : Option Addr) (len cap : Nat) (es : List E3) (w : World) (hE : EdgesAt w w.heap.size A len es) (hm10 : m ≤ 10) (hlen : len ≤ 45) (hin : InE m es) (hu : u < 4294967296) :
    Calls Tryd.prog 38 #[.agg #[.int .i64 m, .slice A len cap], .int .u32 u] w fun e w' => (∃ A2 c2, e = .returned (.agg #[.int .i64 m, .slice A2 (offE u es).length c2]) ∧ EdgesAt w' w'.heap.size A2 (offE u es).length (offE u es)) ∧ Below w.heap.size w w' :=
  (refWithout_any m u A len cap es w hE hm10 hlen hin hu).mono fun _ _ ⟨⟨A2, c2, h1, h2, _⟩, h3⟩ => ⟨⟨A2, c2, h1, h2⟩, h3⟩
set_option maxRecDepth 100000 in
theorem partsR_own (m : Nat) (A : Option Addr) (len cap : Nat) (es : List E3) (w : World) (hE : EdgesAt w w.heap.size A len es) (hm10 : m ≤ 10) (hlen : len ≤ 45) (hin : InE m es) :
    Calls Tryd.prog 28 #[.agg #[.int .i64 m, .slice A len cap]] w fun e w' => (∃ A3 c3, e = .returned (.slice A3 m c3) ∧ IntsAt w' w'.heap.size A3 m (partsR m es)) ∧ Below w.heap.size w w' :=
  (refPartsR_any m A len cap es w hE hm10 hlen hin).mono fun e w' ⟨⟨v, h1, h2⟩, h3⟩ => by
    obtain ⟨A3, c3, rfl⟩ := own_form h2
    exact ⟨⟨A3, c3, h1, IntsAt.of_own h2 (Nat.le_refl _)⟩, h3⟩
theorem off_len (u : Nat) (es : List E3) : (offE u es).length ≤ es.length := List.length_filter_le _ _
theorem off_in {m u : Nat} {es : List E3} (h : InE m es) : InE m (offE u es) := fun e he => h e (List.mem_filter.1 he).1
/-- The nodes of a part behind the wall, among the first few. -/
noncomputable def oddAt (u : Nat) (lab : Nat → Nat) (i k : Nat) : Nat := sizeP (fun j => offW u j && decide (lab j = i)) k
noncomputable def oddTo (u m : Nat) (lab : Nat → Nat) (k : Nat) : Nat := sumTo (fun i => oddAt u lab i m % 2) k
theorem oddTo_all (m u : Nat) (es : List E3) : oddTo u m (minR (offE u es)) m = oddW m es u := rfl
theorem oddAt_in {u i k : Nat} {lab : Nat → Nat} (h1 : lab k = i) (h2 : u.testBit k = false) : oddAt u lab i (k + 1) = oddAt u lab i k + 1 := by
  unfold oddAt; rw [sizeP_succ, if_pos (by simp [offW, h1, h2])]
theorem oddAt_out {u i k : Nat} {lab : Nat → Nat} (h : lab k ≠ i ∨ u.testBit k = true) : oddAt u lab i (k + 1) = oddAt u lab i k := by
  unfold oddAt; rw [sizeP_succ, if_neg (by rcases h with h | h <;> simp [offW, h])]; rfl
theorem oddAt_le (u : Nat) (lab : Nat → Nat) (i k : Nat) : oddAt u lab i k ≤ k := sizeP_le _ _
theorem oddTo_le (u m : Nat) (lab : Nat → Nat) : ∀ k, oddTo u m lab k ≤ k
  | 0 => Nat.le_refl _
  | k + 1 => by
    have := oddTo_le u m lab k
    show oddTo u m lab k + oddAt u lab k m % 2 ≤ k + 1
    omega

set_option maxRecDepth 100000 in
set_option maxHeartbeats 1000000 in
theorem refOdd_any (m u : Nat) (A : Option Addr) (len cap : Nat) (es : List E3) (w : World) (hE : EdgesAt w w.heap.size A len es) (hm10 : m ≤ 10) (hlen : len ≤ 45) (hin : InE m es) (hu : u < 4294967296) :
    Calls Tryd.prog 20 #[.agg #[.int .i64 m, .slice A len cap], .int .u32 u] w fun e w' => e = .returned (.int .i64 (oddW m es u : Nat)) ∧ Below w.heap.size w w' := by
  have HX := Lib.hid (BoxG.start (n := (m : Int)) (cap := cap) hE)
  have HIN := Lib.hid hin
  have HIO := Lib.hid (off_in (u := u) hin)
  have hol : (offE u es).length ≤ 45 := by have := off_len u es; have := hE.1; omega
  have HA := Lib.hid (oddTo_all m u es)
  have HGP : Hid (∀ k, k < m → (partsR m (offE u es))[k]? = some (minR (offE u es) k : Int)) := Lib.hid fun k hk => partsR_get hk
  have hml : ∀ k, minR (offE u es) k ≤ k := fun k => minR_le
  have HML := Lib.hid hml
  clear hE hin hml
  go_enter Tryd.func20, Tryd.ntmps20
  go_wp2_with fail
  refine (refWithout_v m u A len cap es _ (by exact HX.out.edges) hm10 hlen HIN.out hu).mono ?_
  rintro e w1 ⟨⟨A2, c2, rfl, hE2⟩, hb1⟩
  have HX1 := Lib.hid (HX.out.next hb1)
  have HE2 := Lib.hid hE2
  clear hE2 hb1
  go_wp2_with fail
  refine (partsR_own m A2 _ c2 (offE u es) _ (by exact HE2.out) hm10 hol HIO.out).mono ?_
  rintro e w2 ⟨⟨A3, c3, rfl, hI3⟩, hb2⟩
  have HX2 := Lib.hid (HX1.out.next hb2)
  have HI3 := Lib.hid hI3
  have hbx := HX2.out.c0
  have hbl := HX2.out.lt
  generalize minR (offE u es) = lab at HGP HML HA
  clear hI3 hb2 HE2 hol
  go_wp2_with fail
  go_loop [6, 7] (fun n j => ∃ i : Nat, i ≤ m ∧ j = .int .i64 i ∧ n = .int .i64 (oddTo u m lab i : Nat)) (fun _ j => m - (intOf j).toNat)
  case atStart => exact ⟨0, Nat.zero_le _, rfl, rfl⟩
  case round =>
    obtain ⟨i, hi, rfl, rfl⟩ := hrel
    have ht := oddTo_le u m lab i
    by_cases hlt : i < m
    · have HTS : Hid (oddTo u m lab (i + 1) = oddTo u m lab i + oddAt u lab i m % 2) := Lib.hid rfl
      generalize oddTo u m lab i = t at ht HTS ⊢
      go_wp2_with fail
      go_loop [8, 9] (fun n j => ∃ k : Nat, k ≤ m ∧ j = .int .i64 k ∧ n = .int .i64 (oddAt u lab i k : Nat)) (fun _ j => m - (intOf j).toNat)
      case atStart => exact ⟨0, Nat.zero_le _, rfl, rfl⟩
      case round =>
        obtain ⟨k, hk, rfl, rfl⟩ := hrel
        have hol := oddAt_le u lab i k
        by_cases hkm : k < m
        · obtain ⟨b, off, y, rfl, _, hy, hc⟩ := HI3.out.at_ hkm
          have hyv : y = (lab k : Int) := by have := HGP.out k hkm; rw [hy] at this; injection this
          subst hyv
          have hlk := HML.out k
          have HBK := Lib.hid (fun (bb : Bool) (h : u.testBit k = bb) (W : World) => bit_nat u k bb hu (by omega) h W)
          by_cases h1 : lab k = i
          · have heq : ((lab k : Int) == (i : Int)) = true := by simp [h1]
            cases h2 : u.testBit k with
            | true =>
              have HB := Lib.hid (HBK.out true h2)
              have HN := Lib.hid (oddAt_out (lab := lab) (i := i) (Or.inr h2))
              clear h1 h2 HBK hy
              generalize lab k = z at *
              go_wp2_with fail
              refine (HB.out _).mono ?_
              rintro e w3 ⟨rfl, rfl⟩
              go_wp2_with fail
              go_round
              case rel => exact ⟨k + 1, by omega, by go_num, by rw [HN.out]⟩
              case measure => simp [intOf]; omega
            | false =>
              have HB := Lib.hid (HBK.out false h2)
              have HN := Lib.hid (oddAt_in (lab := lab) h1 h2)
              clear h1 h2 HBK hy
              generalize lab k = z at *
              go_wp2_with fail
              refine (HB.out _).mono ?_
              rintro e w3 ⟨rfl, rfl⟩
              go_wp2_with fail
              go_round
              case rel => exact ⟨k + 1, by omega, by go_num, by rw [HN.out]; go_num⟩
              case measure => simp [intOf]; omega
          · have heq : ((lab k : Int) == (i : Int)) = false := by
              have : ¬ (lab k : Int) = (i : Int) := by omega
              simpa using this
            have HN := Lib.hid (oddAt_out (u := u) (k := k) (lab := lab) (i := i) (Or.inl h1))
            clear h1 HBK hy
            generalize lab k = z at *
            go_wp2_with fail
            go_round
            case rel => exact ⟨k + 1, by omega, by go_num, by rw [HN.out]⟩
            case measure => simp [intOf]; omega
        · obtain rfl : k = m := by omega
          have hmod : (oddAt u lab i k : Int).tmod 2 = ((oddAt u lab i k % 2 : Nat) : Int) := by rw [Int.tmod_eq_emod_of_nonneg (by omega)]; omega
          generalize oddAt u lab i k = c at *
          go_wp2_with fail
          go_round
          case rel => exact ⟨i + 1, by omega, by go_num, by rw [HTS.out]; go_num⟩
          case measure => simp [intOf]; omega
    · obtain rfl : i = m := by omega
      go_wp2_with fail
      go_ret
      exact ⟨ret_int (by rw [HA.out]), HX2.out.below⟩
end Go.Proofs.YthfgbgmkiggjmacDoor
namespace Go.Proofs.YthfgbgmkiggjmacDoor
open Go.RowKit

theorem sizeTo_sizeP (s : Nat) : ∀ k, sizeTo s k = sizeP (fun i => s.testBit i) k
  | 0 => rfl
  | k + 1 => by rw [sizeTo_succ, sizeP_succ, sizeTo_sizeP s k]
theorem sizeTo_more {s n : Nat} (h : s < 2 ^ n) : ∀ d, sizeTo s (n + d) = sizeTo s n
  | 0 => rfl
  | d + 1 => by
    have hb : s.testBit (n + d) = false := Nat.testBit_lt_two_pow (Nat.lt_of_lt_of_le h (Nat.pow_le_pow_right (by decide) (by omega)))
    rw [show n + (d + 1) = (n + d) + 1 by omega, sizeTo_succ, sizeTo_more h d, hb]; rfl
theorem sizeW_szN {s n : Nat} (hn : n ≤ 10) (h : s < 2 ^ n) : sizeW s = szN n s := by
  have h1 : sizeW s = sizeTo s (n + (32 - n)) := by rw [show n + (32 - n) = 32 by omega]; rfl
  rw [h1, sizeTo_more h, sizeTo_sizeP]; rfl
theorem szN_le (n s : Nat) : szN n s ≤ n := sizeP_le _ _
theorem oddW_le (n : Nat) (es : List E3) (s : Nat) : oddW n es s ≤ n := by rw [← oddTo_all]; exact oddTo_le _ _ _ _
end Go.Proofs.YthfgbgmkiggjmacDoor
