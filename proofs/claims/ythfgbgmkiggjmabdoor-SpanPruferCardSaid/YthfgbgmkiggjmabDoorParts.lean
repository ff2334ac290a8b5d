/- graph.Parts: of each node the least node that it is linked with. -/
import Derived.Test.YthfgbgmkiggjmabDoorLinked
import Derived.Test.YthfgbgmkiggjmabDoorNeigh
import Derived.Test.YthfgbgmkiggjmabDoorCheckGo
namespace Go.Proofs.YthfgbgmkiggjmabDoor
open Go.RowKit

def partsL (m : Nat) (ar : List Nat) : List Int := (List.range m).map fun i : Nat => (Lib.ctz 32 (linkedN m ar i) : Int)
theorem partsL_length (m : Nat) (ar : List Nat) : (partsL m ar).length = m := by simp [partsL]

/-- A node's own layer is among them: what it is linked with is not nothing. -/
theorem foldl_or_ge {α : Type} (f : α → Nat) : ∀ (l : List α) (a : Nat), a ≤ l.foldl (fun acc x => acc ||| f x) a
  | [], _ => Nat.le_refl _
  | x :: l, a => Nat.le_trans Nat.left_le_or (foldl_or_ge f l (a ||| f x))
theorem linkedN_pos (m : Nat) (ar : List Nat) (s : Nat) (hs : s < m) : linkedN m ar s ≠ 0 := by
  have hp : 2 ^ s ≠ 0 := Nat.ne_of_gt (Nat.two_pow_pos s)
  have hl : layN m ar 1025 0 (2 ^ s) (2 ^ s) = (0, toF m (2 ^ s)) :: layN m ar 1024 1 (nextL m ar (2 ^ s) (2 ^ s)) (2 ^ s ||| nextL m ar (2 ^ s) (2 ^ s)) := by
    conv => lhs; unfold layN
    rw [if_neg hp]
  unfold linkedN allTo
  rw [hl]
  have h := foldl_or_ge (fun x : Nat × Fin (2 ^ m) => x.2.val) (layN m ar 1024 1 (nextL m ar (2 ^ s) (2 ^ s)) (2 ^ s ||| nextL m ar (2 ^ s) (2 ^ s))) (0 ||| (toF m (2 ^ s)).val)
  rw [toF_val (Nat.pow_lt_pow_right (by decide) hs), Nat.zero_or] at h
  simp only [List.foldl_cons]
  rw [toF_val (Nat.pow_lt_pow_right (by decide) hs), Nat.zero_or]
  have := Nat.two_pow_pos s
  omega

theorem fillP_next (m k : Nat) (xs : List Int) (v : Int) (hx : xs.length = m) (h : xs[k]? = some v) : (xs.take k ++ List.replicate (m - k) 0).set k v = xs.take (k + 1) ++ List.replicate (m - (k + 1)) 0 := by
  obtain ⟨hk, rfl⟩ := List.getElem?_eq_some_iff.1 h
  have hl : (xs.take k).length = k := by rw [List.length_take]; omega
  rw [List.set_append, if_neg (by omega), hl, Nat.sub_self, show m - k = (m - (k + 1)) + 1 by omega, List.replicate_succ, List.set_cons_zero, List.take_succ_eq_append_getElem hk, List.append_assoc]
  rfl

set_option maxRecDepth 100000 in
set_option maxHeartbeats 400000 in
theorem parts_bad (n : Int) (A : Option Addr) (len cap : Nat) (es : List E3) (v : Int) (w : World) (hE : EdgesAt w w.heap.size A len es) (hv : gcheck n es = v) (hv0 : v ≠ 0) :
    Calls Tryd.prog 15 #[.agg #[.int .i64 n, .slice A len cap]] w fun e w' => e = .returned (.tuple #[.slice none 0 0, .int .i64 v]) ∧ Below w.heap.size w w' := by
  have HE := Lib.hid (show EdgesAt (bx w n A len cap) (bx w n A len cap).heap.size A len es from (hE.alloc (Nat.le_refl _) _).more (by simp [bx]))
  have HV := Lib.hid hv
  have HV0 := Lib.hid hv0
  have hb0 : (v != 0) = true := by simpa using hv0
  clear hE hv hv0
  go_enter Tryd.func15, Tryd.ntmps15
  go_wp2_with (go_at_call 41; refine (neighbours_bad n A len cap es v _ (by exact HE.out) HV.out HV0.out).mono ?_; rintro e w1 ⟨rfl, hb1⟩)
  go_ret2
  exact ⟨rfl, ((Below.refl _ _).alloc (Nat.le_refl _) _).trans (hb1.mono (by simp))⟩

set_option maxRecDepth 100000 in
set_option maxHeartbeats 1000000 in
theorem parts_good (m : Nat) (A : Option Addr) (len cap : Nat) (es : List E3) (w : World) (hE : EdgesAt w w.heap.size A len es) (hv : gcheck m es = 0) (hT : Tab w) :
    Calls Tryd.prog 15 #[.agg #[.int .i64 m, .slice A len cap]] w fun e w' => ∃ g, e = .returned (.tuple #[.slice (some ⟨g, 0, none⟩) m m, .int .i64 0]) ∧ RowOf w' g 3 ((partsL m (nbL m es)).map (Value.int .i64)) ∧ w.heap.size ≤ g ∧ Below w.heap.size w w' := by
  obtain ⟨_, hm10', hl45, hgood⟩ := good_of_gcheck hv
  have hm10 : m ≤ 10 := by omega
  have HE := Lib.hid (show EdgesAt (bx w m A len cap) (bx w m A len cap).heap.size A len es from (hE.alloc (Nat.le_refl _) _).more (by simp [bx]))
  have HV := Lib.hid hv
  have HW := Lib.hid (nbL_words hgood)
  have HT := Lib.hid hT
  have HN := Lib.hid (nbL_length m es)
  clear hE hv hgood hl45 hT
  have hmk := fun W => run_make_row' (P := Tryd.prog) 25 3 (.int .i64 0) 8 Tryd.underlying25 (by kernel_rfl) rfl .i64 .i64 m (by omega) (by omega) W
  go_enter Tryd.func15, Tryd.ntmps15
  go_wp2_with (go_at_call 41; refine (neighbours_any m A len cap es _ (by exact HE.out) HV.out).mono ?_; rintro e w2 ⟨gn, rfl, hrow, hgn, hb2⟩; have HR2 := Lib.hid hrow; have HB2 := Lib.hid hb2; have hby0 : w2.cell? ⟨w.heap.size, 0, none⟩ = some (.int .i64 m) := (by rw [hb2.cell (p := ⟨w.heap.size, 0, none⟩) (by simp)]; simp [go_sem]); have hs2 : w.heap.size < w2.heap.size := (by have := hb2.size; simp at this; omega); clear hrow hb2)
  clear hmk
  have hBw : Below w.heap.size w w2 := ((Below.refl _ _).alloc (Nat.le_refl _) _).trans (HB2.out.mono (by simp))
  have HW2 : Hid (WordsAt w2 w2.heap.size (some ⟨gn, 0, none⟩) m (nbL m es)) := Lib.hid (by
    have h := WordsAt.of_row HR2.out HR2.out.lt
    rw [nbL_length] at h
    exact h)
  have HBw := Lib.hid hBw
  have HT2 := Lib.hid (HT.out.go_ hBw)
  clear hBw hby0 hs2 HE HB2 HR2
  go_loopw [21] (fun j wr => ∃ k : Nat, k ≤ m ∧ j = .int .i64 k ∧ Hid (RowOf wr w2.heap.size 3 (((partsL m (nbL m es)).take k ++ List.replicate (m - k) 0).map (Value.int .i64))) ∧ Below w2.heap.size w2 wr) (fun j _ => m - (intOf j).toNat)
  case atStart =>
    refine ⟨0, Nat.zero_le _, rfl, Lib.hid ?_, (Below.refl _ _).alloc (Nat.le_refl _) _⟩
    simpa using RowOf.made w2 (.int .i64 0) m 3
  case round =>
    obtain ⟨k, hk, rfl, HR, hB⟩ := hrel
    by_cases hlt : k < m
    · have HWr := Lib.hid (HW2.out.go_ hB)
      have HTr := Lib.hid (HT2.out.go_ hB)
      have hx : (partsL m (nbL m es))[k]? = some (Lib.ctz 32 (linkedN m (nbL m es) k) : Int) := by simp [partsL, hlt]
      have HF := Lib.hid (fillP_next m k _ _ (partsL_length m (nbL m es)) hx)
      have hc0 : wr.cell? ⟨w2.heap.size, k, none⟩ = some (.int .i64 0) := HR.out.cell (by
        rw [List.getElem?_map, List.getElem?_append_right (by rw [List.length_take]; omega), List.length_take, partsL_length, List.getElem?_replicate, if_pos (by omega)]
        rfl)
      have hf0 := HR.out.frozen k
      have hgl := HR.out.lt
      have HLP := Lib.hid (linkedN_pos m (nbL m es) k hlt)
      have HLL : Hid (linkedN m (nbL m es) k < 4294967296) := Lib.hid (Nat.lt_of_lt_of_le (pow10 hm10 (allTo_lt m _)) (by decide))
      clear hx
      go_wp2_with (first
        | (go_at_call 43; refine (linked_any m k hm10 hlt (some ⟨gn, 0, none⟩) m (nbL m es) HW.out _ (by exact HWr.out) (by exact HTr.out)).mono ?_; rintro e w3 ⟨rfl, hb3⟩; have HB3 := Lib.hid hb3; have hc3 : w3.cell? ⟨w2.heap.size, k, none⟩ = some (.int .i64 0) := ((hb3.cell (p := ⟨w2.heap.size, k, none⟩) hgl).trans hc0); have hf3 : w3.frozen? ⟨w2.heap.size, k, none⟩ = false := ((hb3.frozen (p := ⟨w2.heap.size, k, none⟩) hgl).trans hf0); have HT3 := Lib.hid (HTr.out.go_ hb3); clear hb3)
        | (go_at_call 42; refine (tz_any _ _ HLL.out HLP.out (by exact HT3.out)).mono ?_; rintro e w4 ⟨rfl, rfl⟩))
      go_roundw
      case rel =>
        refine ⟨k + 1, by omega, by go_num, Lib.hid ?_, (hB.trans (HB3.out.mono hB.size)).setCell (p := ⟨w2.heap.size, k, none⟩) (Nat.le_refl _) _⟩
        rw [← HF.out, List.map_set]
        exact (HR.out.keep HB3.out).set_ k _
      case measure => simp [intOf]; omega
    · obtain rfl : k = m := by omega
      have hall : (partsL k (nbL k es)).take k ++ List.replicate (k - k) 0 = partsL k (nbL k es) := by simp [List.take_of_length_le (Nat.le_of_eq (partsL_length k (nbL k es)))]
      have HR2 : Hid (RowOf wr w2.heap.size 3 ((partsL k (nbL k es)).map (Value.int .i64))) := Lib.hid (by rw [← hall]; exact HR.out)
      clear hall
      go_wp2
      go_ret2
      exact ⟨_, rfl, HR2.out, by have := HBw.out.size; omega, HBw.out.trans (hB.mono HBw.out.size)⟩
end Go.Proofs.YthfgbgmkiggjmabDoor
