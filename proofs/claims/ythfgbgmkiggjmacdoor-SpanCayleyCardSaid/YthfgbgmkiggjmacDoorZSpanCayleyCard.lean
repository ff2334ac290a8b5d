/- The card SpanCayleyCardSaid, out of the law's walk: the table of math/bits is tied to the program's text. No conditions. -/
import Derived.Test.YthfgbgmkiggjmacDoorEdgesOwn
import Derived.Test.YthfgbgmkiggjmacDoorFullP
import Derived.Test.YthfgbgmkiggjmacDoorBoxG
import Derived.Test.YthfgbgmkiggjmacDoorManyGo
import Derived.Test.YthfgbgmkiggjmacDoorMem
import Derived.Test.YthfgbgmkiggjmacDoorTz
import Derived.IntWalk
import Derived.Test.YthfgbgmkiggjmacDoorRows
import Derived.ProofKit
import Derived.Deep.Slices
import Derived.Deep.Strs
import Derived.Lib.SmallJoins
import Derived.Test.YthfgbgmkiggjmacDoorTie
import Derived.Test.YthfgbgmkiggjmacDoorCards
import Derived.LaidMore
import Derived.OpenShut
import Derived.Stop.Joined
import Derived.Lib.LaidTab
import Derived.SevenTiedAt
namespace Go.Proofs.YthfgbgmkiggjmacDoor
open Go.RowKit

def fullW (w : World) (n : Int) : World := (w.alloc (.cells #[.int .i64 0, .slice none 0 0] 24)).alloc (.cells #[.int .i64 n, .slice none 0 0] 24)
theorem fullW_size (w : World) (n : Int) : (fullW w n).heap.size = w.heap.size + 2 := by simp [fullW]
theorem fullW_below (w : World) (n : Int) : Below w.heap.size w (fullW w n) := ((Below.refl _ _).alloc (Nat.le_refl _) _).alloc (by simp) _
def FullInv (n : Nat) (es : List E3) (w wr : World) : Prop :=
  ∃ v, RowOf wr (w.heap.size + 1) 24 [.int .i64 n, v] ∧ wr.ownsRow (w.heap.size + 2) 53 3 v es.length (cellsE es) ∧ Below (w.heap.size + 1) (fullW w n) wr

set_option maxRecDepth 100000 in
set_option maxHeartbeats 1000000 in
theorem full_any (n : Nat) (w : World) (hn : n ≤ 10) :
    Calls Tryd.prog 12 #[.int .i64 n] w fun e w' => LessOut n w.heap.size (fullE n) e w' ∧ Below w.heap.size w w' := by
  obtain ⟨i0, hi, hz0, hz1, hz2⟩ := info_parts infoEdge
  have HI := Lib.hid hi
  have HI0 := Lib.hid hz0
  have HI1 := Lib.hid hz1
  have HI2 := Lib.hid hz2
  clear hi hz0 hz1 hz2
  go_enter Tryd.func12, Tryd.ntmps12
  go_wp2
  have HS : Hid (FullInv n (fullE 0) w (fullW w n)) := Lib.hid (by
    refine ⟨.slice none 0 0, ?_, by simp [fullE, cellsE, World.ownsRow_nil], Below.refl _ _⟩
    have h := (MapKept.heap_alloc (w.alloc (.cells #[.int .i64 0, .slice none 0 0] 24)) (.cells #[.int .i64 n, .slice none 0 0] 24)).1
    rw [show (w.alloc (.cells #[.int .i64 0, .slice none 0 0] 24)).heap.size = w.heap.size + 1 by simp] at h
    exact h)
  go_loopw [4, 5] (fun j _ wr => ∃ i : Nat, i ≤ n ∧ j = .int .i64 i ∧ Hid (FullInv n (fullE i) w wr)) (fun j _ _ => n - (intOf j).toNat)
  case atStart => exact ⟨0, Nat.zero_le _, rfl, HS⟩
  case round =>
    clear HS
    obtain ⟨i, hi, rfl, HL⟩ := hrel
    by_cases hin : i < n
    · have HL0 : Hid (FullInv n (fullE i ++ fullRow i 0) w wr) := Lib.hid (by
        have e : fullE i ++ fullRow i 0 = fullE i := by simp [fullRow]
        rw [e]
        exact HL.out)
      go_wp2
      go_loopw [5] (fun j wr => ∃ a : Nat, a ≤ i ∧ j = .int .i64 a ∧ Hid (FullInv n (fullE i ++ fullRow i a) w wr)) (fun j _ => i - (intOf j).toNat)
      case atStart => exact ⟨0, Nat.zero_le _, rfl, HL0⟩
      case round =>
        clear HL
        obtain ⟨a, ha, rfl, HL⟩ := hrel
        obtain ⟨v, HRo, HOw, hB⟩ : ∃ v, Hid (RowOf wr (w.heap.size + 1) 24 [.int .i64 n, v]) ∧ Hid (wr.ownsRow (w.heap.size + 2) 53 3 v (fullE i ++ fullRow i a).length (cellsE (fullE i ++ fullRow i a))) ∧ Below (w.heap.size + 1) (fullW w n) wr := by
          obtain ⟨v, h1, h2, h3⟩ := HL.out
          exact ⟨v, Lib.hid h1, Lib.hid h2, h3⟩
        have hsz : w.heap.size + 2 ≤ wr.heap.size := by have := hB.size; rw [fullW_size] at this; exact this
        by_cases hai : a < i
        · have hln : (fullE i ++ fullRow i a).length ≤ 100 := by
            have h1 := fullE_len i
            have h2 : i * i ≤ 10 * 10 := Nat.mul_le_mul (by omega) (by omega)
            rw [List.length_append, fullRow_len]
            omega
          have HNX : Hid (cellsE (fullE i ++ fullRow i (a + 1)) = cellsE (fullE i ++ fullRow i a) ++ [.int .i64 (a : Int), .int .i64 (i : Int), .int .i64 0] ∧ (fullE i ++ fullRow i (a + 1)).length = (fullE i ++ fullRow i a).length + 1) := Lib.hid (by
            rw [fullRow_succ, ← List.append_assoc, cellsE_snoc]
            exact ⟨rfl, by rw [List.length_append]; rfl⟩)
          have hv1 : wr.cell? ⟨w.heap.size + 1, 1, none⟩ = some v := HRo.out.cell rfl
          have hlt2 : w.heap.size + 1 < wr.heap.size := by omega
          clear HL
          generalize (fullE i ++ fullRow i a).length = N at *
          generalize cellsE (fullE i ++ fullRow i a) = cs at *
          go_wp2_with (at_builtin; refine wpList_append_own _ rfl _ _ 22 rfl (w.heap.size + 2) 53 i0 (.agg #[.int .i64 0, .int .i64 0, .int .i64 0]) 3 24 Tryd.underlying22 HI.out HI0.out HI1.out HI2.out rfl (by decide) _ _ _ rfl (HOw.out.alloc _) ⟨wr.heap.size, 0, none⟩ 1 1 [.int .i64 (a : Int), .int .i64 (i : Int), .int .i64 0] rfl rfl ?c1 ?c2 ?c3 ?c4 ?c5 ?_)
          try (case c1 => intro j u hj; rcases j with _ | _ | _ | j <;> simp at hj <;> subst hj <;> simp [go_sem, Addr.add])
          case c2 => simp [Value.oneCell']
          case c3 => unfold maxLen; omega
          case c4 => omega
          case c5 => simp; omega
          intro v' w3 hown' hgrow _
          obtain ⟨A', cap', rfl⟩ := own_form3 hown'
          have hne : ∀ g, g < w.heap.size + 2 → some g ≠ v.ownBlock := fun g hg he => by have := own_base3 HOw.out g he.symm; omega
          have hR3 : RowOf w3 (w.heap.size + 1) 24 [.int .i64 n, v] := (hgrow.block _ (by simp; omega) (hne _ (by omega))).trans (HRo.out.alloc _)
          have hv3 : w3.cell? ⟨w.heap.size + 1, 1, none⟩ = some v := hR3.cell rfl
          have hf3 := hR3.frozen 1
          have hb3 : Below (w.heap.size + 1) (fullW w n) w3 := (hB.alloc (by omega) _).grown hgrow (by simp; omega) (fun g hg => by have := own_base3 HOw.out g hg; omega)
          have HN : Hid (FullInv n (fullE i ++ fullRow i (a + 1)) w (w3.setCell ⟨w.heap.size + 1, 1, none⟩ (.slice A' (N + 1) cap'))) := Lib.hid (by
            refine ⟨_, hR3.set_ 1 _, ?_, hb3.setCell (p := ⟨w.heap.size + 1, 1, none⟩) (Nat.le_refl _) _⟩
            rw [HNX.out.1, HNX.out.2]
            refine ⟨hown'.1, ?_⟩
            rcases hown'.2 with h0 | ⟨g, capg, cur, hv, hg, hr, hrest⟩
            · exact .inl h0
            · exact .inr ⟨g, capg, cur, hv, hg, (Below.heap_setCell _ _ _ g (by show g ≠ w.heap.size + 1; omega)).trans hr, hrest⟩)
          clear hown' hgrow hne hR3 hb3
          go_wp2
          go_roundw
          case rel => exact ⟨a + 1, by omega, by go_num, HN⟩
          case measure => simp [intOf]; omega
        · obtain rfl : a = i := by omega
          have HN : Hid (FullInv n (fullE (a + 1)) w wr) := Lib.hid (by rw [fullE_succ]; exact HL.out)
          go_wp2
          go_roundw
          case rel => exact ⟨a + 1, by omega, by go_num, HN⟩
          case measure => simp [intOf]; omega
    · obtain rfl : i = n := by omega
      obtain ⟨A', N, cap', HRo, HOw, HLn, hB⟩ : ∃ A' N cap', Hid (RowOf wr (w.heap.size + 1) 24 [.int .i64 i, .slice A' N cap']) ∧ Hid (wr.ownsRow (w.heap.size + 2) 53 3 (.slice A' N cap') N (cellsE (fullE i))) ∧ Hid (N = (fullE i).length) ∧ Below (w.heap.size + 1) (fullW w i) wr := by
        obtain ⟨v, h1, h2, h3⟩ := HL.out
        obtain ⟨A', cap', rfl⟩ := own_form3 h2
        exact ⟨A', _, cap', Lib.hid h1, Lib.hid h2, Lib.hid rfl, h3⟩
      have h0 : wr.cell? ⟨w.heap.size + 1, 0, none⟩ = some (.int .i64 i) := HRo.out.cell rfl
      have h1 : wr.cell? ⟨w.heap.size + 1, 1, none⟩ = some (.slice A' N cap') := HRo.out.cell rfl
      have r0 : wr.cell? ⟨w.heap.size, 0, none⟩ = some (.int .i64 0) := by rw [hB.cell (p := ⟨w.heap.size, 0, none⟩) (by show w.heap.size < w.heap.size + 1; omega)]; simp [fullW, go_sem]
      have r1 : wr.cell? ⟨w.heap.size, 1, none⟩ = some (.slice none 0 0) := by rw [hB.cell (p := ⟨w.heap.size, 1, none⟩) (by show w.heap.size < w.heap.size + 1; omega)]; simp [fullW, go_sem]
      have f0 : wr.frozen? ⟨w.heap.size, 0, none⟩ = false := by rw [hB.frozen (p := ⟨w.heap.size, 0, none⟩) (by show w.heap.size < w.heap.size + 1; omega)]; simp [fullW, go_sem]
      have f1 : wr.frozen? ⟨w.heap.size, 1, none⟩ = false := by rw [hB.frozen (p := ⟨w.heap.size, 1, none⟩) (by show w.heap.size < w.heap.size + 1; omega)]; simp [fullW, go_sem]
      have HB2 : Hid (Below w.heap.size w wr) := Lib.hid ((fullW_below w i).trans (hB.mono (by omega)))
      clear HL
      go_wp2
      have HFIN : Hid (((wr.setCell ⟨w.heap.size, 0, none⟩ (.int .i64 i)).setCell ⟨w.heap.size, 1, none⟩ (.slice A' N cap')).ownsRow (w.heap.size + 2) 53 3 (.slice A' N cap') N (cellsE (fullE i))) := Lib.hid (own_keep3 HOw.out fun g hg => (Below.heap_setCell _ _ _ g (by show g ≠ w.heap.size; omega)).trans (Below.heap_setCell _ _ _ g (by show g ≠ w.heap.size; omega)))
      refine bodyPost_ret (v := .agg #[.int .i64 i, .slice A' N cap']) (by simp [results, Tryd.results12, go_sem, r0, r1]) rfl ⟨⟨A', cap', by rw [HLn.out], ?_, fun a ha => ?_⟩, ?_⟩
      · rw [← HLn.out]
        exact EdgesAt.of_own3 HFIN.out
      · obtain ⟨p1, p2⟩ := own_addr3 HFIN.out a ha
        exact ⟨by omega, p2⟩
      · exact (HB2.out.setCell (p := ⟨w.heap.size, 0, none⟩) (Nat.le_refl _) _).setCell (p := ⟨w.heap.size, 1, none⟩) (Nat.le_refl _) _
end Go.Proofs.YthfgbgmkiggjmacDoor

namespace Go.Proofs.YthfgbgmkiggjmacDoor
open Go.RowKit

theorem pairsN_full (n : Nat) : pairsN (fullE n) = fullN n := by
  unfold pairsN fullE fullN fullRow
  rw [List.map_flatMap]
  congr 1
  funext b
  rw [List.map_map]
  congr 1
theorem full_adj {n i : Nat} (hi : i < n) (h0 : 0 < i) : adjE (fullE n) i 0 = true := by
  unfold adjE
  rw [List.any_eq_true]
  refine ⟨((0 : Nat), (i : Int), (0 : Int)), ?_, by simp⟩
  unfold fullE fullRow
  rw [List.mem_flatMap]
  exact ⟨i, List.mem_range.2 hi, List.mem_map.2 ⟨0, List.mem_range.2 h0, rfl⟩⟩
theorem full_root {n i : Nat} (hi : i < n) : Root (fullE n) i ↔ i = 0 := by
  constructor
  · intro h
    rcases Nat.eq_zero_or_pos i with h0 | h0
    · exact h0
    · exact absurd ((Rch.refl (fullE n) i).step (full_adj hi h0)) (h 0 h0)
  · rintro rfl j hj
    omega
theorem full_good {n : Nat} (hn : n ≤ 10) : goodE (n : Int) (fullE n) := (good_of_gcheck (gcheck_full n hn)).2.2.2
theorem cay_filter : ∀ n : Nat, n ≤ 10 → ((List.range n).filter fun i => !(i == 0)).length = n - 1 := by decide
theorem notRoots_full {n : Nat} (hn : n ≤ 10) : (notRoots n (fullE n)).length = n - 1 := by
  have h1 : notRoots n (fullE n) = (List.range n).filter fun i => !(i == 0) := by
    unfold notRoots keepL
    apply List.filter_congr
    intro i hi
    have him := List.mem_range.1 hi
    have := notRoots_mem hn (full_good hn) (i := i)
    unfold notRoots keepL at this
    rw [List.mem_filter] at this
    rw [Bool.eq_iff_iff]
    simp only [Bool.not_eq_true', beq_eq_false_iff_ne, ne_eq]
    rw [← full_root him]
    constructor
    · exact fun h => (this.1 ⟨hi, h⟩).2
    · exact fun h => (this.2 ⟨him, h⟩).2
  rw [h1, cay_filter n hn]
/-- The number of trees. -/
theorem many_cayley {n : Nat} (h2 : 2 ≤ n) (hn : n ≤ 10) : manyN n (fullE n) = ((n ^ (n - 2) : Nat) : Int) := by
  have hl := notRoots_full hn
  have hnd := notRoots_nodup n (fullE n)
  unfold manyN
  rw [hl, bst_cayley (r := n - 1) (by omega) (fun i j hi hj => ?_)]
  · rw [show n - 1 + 1 = n by omega, show n - 1 - 1 = n - 2 by omega]; simp
  · have hil : i < (notRoots n (fullE n)).length := by omega
    have hjl : j < (notRoots n (fullE n)).length := by omega
    have gi : (notRoots n (fullE n)).getD i 0 = (notRoots n (fullE n))[i] := by rw [List.getD_eq_getElem?_getD, List.getElem?_eq_getElem hil]; rfl
    have gj : (notRoots n (fullE n)).getD j 0 = (notRoots n (fullE n))[j] := by rw [List.getD_eq_getElem?_getD, List.getElem?_eq_getElem hjl]; rfl
    unfold manyA lapM
    rw [pairsN_full, gi, gj, lap_full n hn _ ((notRoots_mem hn (full_good hn)).1 (List.getElem_mem hil)).1 _ ((notRoots_mem hn (full_good hn)).1 (List.getElem_mem hjl)).1]
    rw [show n - 1 + 1 = n by omega]
    by_cases hij : i = j
    · subst hij; simp
    · rw [if_neg hij, if_neg]
      intro he
      exact hij ((List.getElem_inj hnd).1 he)
theorem pow_bd {n k : Nat} (hn : n ≤ 10) (hk : k ≤ 8) : n ^ k ≤ 100000000 :=
  Nat.le_trans (Nat.pow_le_pow_left hn k) (by rw [show 100000000 = 10 ^ 8 from rfl]; exact Nat.pow_le_pow_right (by decide) hk)
set_option maxRecDepth 100000 in
theorem many_w (m : Nat) (A : Option Addr) (len cap : Nat) (es : List E3) (N : Int) (w : World) (hE : EdgesAt w w.heap.size A len es) (hv : gcheck m es = 0) (hT : Tab w) (hN : manyN m es = N) :
    Calls Tryd.prog 9 #[.agg #[.int .i64 m, .slice A len cap]] w fun e w' => e = .returned (.tuple #[.int .i64 N, .int .i64 0]) ∧ Below w.heap.size w w' := by
  subst hN; exact many_good m A len cap es w hE hv hT

set_option maxRecDepth 100000 in
set_option maxHeartbeats 1000000 in
theorem spanCayley_in (m : Nat) (w : World) (hm2 : 2 ≤ m) (hm : m ≤ 10) (hT : Tab w) :
    Calls Tryd.prog 4 #[.int .i64 m] w fun e w' => e = .returned (.bool true) ∧ Below w.heap.size w w' := by
  have HT := Lib.hid hT
  obtain ⟨N, hN⟩ : ∃ N, m ^ (m - 2) = N := ⟨_, rfl⟩
  have HM : Hid (manyN m (fullE m) = (N : Int)) := Lib.hid (by rw [many_cayley hm2 hm, hN])
  have HNN := Lib.hid hN
  clear hN
  have HV := Lib.hid (gcheck_full m hm)
  have h1 : decide ((m : Int) < 2) = false := by simp; omega
  have h2 : decide (10 < (m : Int)) = false := by simp; omega
  have h3 : decide (m < 2) = false := by simp; omega
  have h4 : decide (10 < m) = false := by simp; omega
  clear hT
  go_enter Tryd.func4, Tryd.ntmps4
  go_wp2_with (first
    | (go_at_call 12; refine (full_any m _ hm).mono ?_; rintro e w1 ⟨⟨A1, c1, rfl, hE1, _⟩, hb1⟩; have HE1 := Lib.hid hE1; have HB1 := Lib.hid hb1; clear hE1 hb1)
    | (go_at_call 9; refine (many_w m A1 (fullE m).length c1 (fullE m) _ _ (by exact HE1.out) HV.out (by exact HT.out.go_ HB1.out) HM.out).mono ?_; rintro e w2 ⟨rfl, hb2⟩; have HB2 := Lib.hid (HB1.out.trans (hb2.mono HB1.out.size)); clear hb2))
  go_loop [5, 6] (fun p j => ∃ k q : Nat, 2 ≤ k ∧ k ≤ m ∧ j = .int .i64 k ∧ p = .int .i64 q ∧ Hid (q = m ^ (k - 2))) (fun _ j => m - (intOf j).toNat)
  case atStart => exact ⟨2, 1, Nat.le_refl _, hm2, rfl, rfl, Lib.hid rfl⟩
  case round =>
    obtain ⟨k, q, hk2, hkm, rfl, rfl, HQ⟩ := hrel
    have hqb : q ≤ 100000000 := by rw [HQ.out]; exact pow_bd hm (by omega)
    by_cases hlt : k < m
    · have HQ2 : Hid (q * m = m ^ (k + 1 - 2)) := Lib.hid (by rw [HQ.out, ← Nat.pow_succ]; congr 1; omega)
      have hmul : q * m ≤ 1000000000 := Nat.le_trans (Nat.mul_le_mul hqb hm) (by decide)
      have hml : (q : Int) * (m : Int) = ((q * m : Nat) : Int) := by simp
      have hw : IntKind.i64.wrap ((q : Int) * (m : Int)) = (q : Int) * (m : Int) := by rw [hml]; exact IntWalk.i64_in _ (by omega)
      have HML := Lib.hid hml
      clear hml
      go_wp2
      go_round
      case rel => exact ⟨k + 1, q * m, by omega, by omega, by go_num, by rw [HML.out], HQ2⟩
      case measure => simp [intOf]; omega
    · obtain rfl : k = m := by omega
      obtain rfl : q = N := by rw [HQ.out, HNN.out]
      go_wp2
      go_ret
      exact ⟨rfl, HB2.out⟩

set_option maxRecDepth 100000 in
set_option maxHeartbeats 400000 in
theorem spanCayley_any (x : Int) (w : World) (_ : (Lit.int .i64 x).wf = true) (hT : Tab w) :
    Calls Tryd.prog 4 #[.int .i64 x] w fun e w' => e = .returned (.bool true) ∧ Below w.heap.size w w' := by
  by_cases h : 2 ≤ x ∧ x ≤ 10
  · obtain ⟨m, rfl⟩ := Int.eq_ofNat_of_zero_le (show 0 ≤ x by omega)
    exact spanCayley_in m w (by omega) (by omega) hT
  · by_cases h2 : x < 2
    · have h3 : decide (x < 2) = true := by simpa using h2
      go_enter Tryd.func4, Tryd.ntmps4
      go_wp2
      go_ret
      exact ⟨rfl, Below.refl _ _⟩
    · have h3 : decide (x < 2) = false := by simpa using h2
      have h4 : decide (10 < x) = true := by simp; omega
      go_enter Tryd.func4, Tryd.ntmps4
      go_wp2
      go_ret
      exact ⟨rfl, Below.refl _ _⟩
end Go.Proofs.YthfgbgmkiggjmacDoor

namespace Go.Proofs.YthfgbgmkiggjmacDoor
open Go.ChangeShapes Go.WideShapes Go.ChangeAt Go.RowKit Go.Joins Go.Deep

set_option maxRecDepth 100000 in
theorem ownK : ownKnob Tryd.prog.godebug = none := by kernel_rfl
set_option maxRecDepth 100000 in
theorem laidOutO : laidOutB Tryd.prog = true := by kernel_rfl
set_option maxRecDepth 100000 in
theorem cellsInt : Tryd.prog.cellsOf 3 = 1 := by kernel_rfl
end Go.Proofs.YthfgbgmkiggjmacDoor

namespace Go.Proofs.YthfgbgmkiggjmacDoor
open Go.ChangeShapes Go.WideShapes Go.ChangeAt Go.RowKit

def tabZ : List Int := [0, 1, 28, 2, 29, 14, 24, 3, 30, 22, 20, 15, 25, 17, 4, 8, 31, 27, 13, 23, 21, 19, 16, 7, 26, 12, 18, 6, 11, 5, 10, 9]
def laidL : List (String × DataW Unit) := [("math/bits.deBruijn32tab", Rows.laid_math_bits_deBruijn32tab)]
set_option maxRecDepth 100000 in
theorem gTab : Tryd.prog.globalNamed "math/bits.deBruijn32tab" = some 0 := by kernel_rfl
set_option maxRecDepth 100000 in
theorem tTab : (Tryd.prog.globals[(0 : Nat)]?).map (·.type) = some 73 := by kernel_rfl
set_option maxRecDepth 100000 in
theorem cTab : Tryd.prog.cellsOf 73 = 32 := by kernel_rfl
set_option maxRecDepth 100000 in
theorem cByte : Tryd.prog.cellsOf 5 = 1 := by kernel_rfl
theorem tabZ_get : ∀ j, j < 32 → tabZ.getD j 0 = ((Lib.deBruijn32tab.getD j 0 : Nat) : Int) := by decide

set_option maxRecDepth 100000 in
theorem tab_of_laid {W : World} (h : laidMetH Tryd.prog laidL W) : Tab W := by
  rw [MakeChecks.laidMetH_plain _ _ _ (by kernel_rfl)] at h
  have ht := Lib.tabIs_of_head (k := .u8) (zs := tabZ) (rest := []) gTab tTab Tryd.underlying73 Tryd.underlying5 cByte cTab (show laidMet Tryd.prog [("math/bits.deBruijn32tab", Lib.tabData .u8 tabZ)] W from h)
  have hc : ∀ j, j < 32 → W.cell? ⟨0, j, none⟩ = some (.int .u8 (Lib.deBruijn32tab.getD j 0)) := fun j hj => by
    rw [ht.cell gTab j (by exact hj), tabZ_get j hj]
  refine ⟨?_, hc⟩
  rcases Nat.lt_or_ge 0 W.heap.size with hlt | hge
  · exact hlt
  · have h0 := hc 0 (by decide)
    simp only [World.cell?, Array.getElem?_eq_none hge] at h0
    cases h0

set_option maxRecDepth 100000 in
theorem door_met (os : Os) (args : Array Value) : laidMetH Tryd.prog laidL ((World.doorLaid Tryd.prog 400 os).forCall (fun _ _ => 0) ⟨#[], args, []⟩).memory :=
  laidMetH_of_parts3 (fuel := 8) (laidMet_of_run' 8 (by kernel_rfl) (by kernel_rfl)) (by kernel_rfl) (by kernel_rfl)
end Go.Proofs.YthfgbgmkiggjmacDoor

namespace Go.Proofs.YthfgbgmkiggjmacDoor
open Go.ChangeShapes Go.WideShapes Go.ChangeAt Go.RowKit Go.Joins Go.Deep

set_option maxRecDepth 100000 in
theorem recGraph : Tryd.prog.readableRec 24 = true := by kernel_rfl
set_option maxRecDepth 100000 in
theorem rowGraph : (24 : TypeId) < Tryd.prog.types.size := of_decide_eq_true (by kernel_rfl)
set_option maxRecDepth 100000 in
theorem cellsGraph : Tryd.prog.cellsOf 24 = 2 := by kernel_rfl
set_option maxRecDepth 100000 in
theorem cellsEdge : Tryd.prog.cellsOf 53 = 3 := by kernel_rfl
set_option maxRecDepth 100000 in
theorem cellsInt64 : Tryd.prog.cellsOf 2 = 1 := by kernel_rfl

/-- Every number of an edge is an int64. -/
def WfE (e : E3) : Prop := (Lit.int .i64 e.1).wf = true ∧ (Lit.int .i64 e.2.1).wf = true ∧ (Lit.int .i64 e.2.2).wf = true

section
variable {H : Type} {enc : TypeId × Value → H} {W : World} {base : Nat} {spare : Nat → Bool} {held : Bool}

set_option maxRecDepth 100000 in
theorem edge_of {n : Nat} {cs : List Value} {x : DataW H × List MemPlace} (h : DataW.trod enc Tryd.prog W base spare held n 53 cs = some x) :
    ∃ e : E3, cs = [.int .i64 e.1, .int .i64 e.2.1, .int .i64 e.2.2] ∧ WfE e := by
  obtain ⟨y0, y1, y2, m, _, hlen, h0, h1, h2⟩ := trod_struct3 Tryd.underlying53 h
  rw [cellsEdge] at hlen
  match cs, hlen with
  | [c0, c1, c2], _ =>
    simp only [cellsInt, cellsInt64, List.drop_zero, List.take_succ_cons, List.take_zero, List.drop_succ_cons] at h0 h1 h2
    obtain ⟨a, e0, _, wa⟩ := DataW.trod_int Tryd.underlying3 h0
    obtain ⟨b, e1, _, wb⟩ := DataW.trod_int Tryd.underlying3 h1
    obtain ⟨c, e2, _, wc⟩ := DataW.trod_int Tryd.underlying2 h2
    simp only [List.cons.injEq, and_true] at e0 e1 e2
    subst e0 e1 e2
    exact ⟨(a, b, c), rfl, wa, wb, wc⟩

set_option maxRecDepth 100000 in
theorem edges_of {n : Nat} {v : Value} {x : DataW H × List MemPlace} (h : DataW.trod enc Tryd.prog W base spare held n 22 [v] = some x) :
    ∃ (A : Option Addr) (len cap : Nat) (es : List E3), v = .slice A len cap ∧ EdgesAt W W.heap.size A len es ∧ len ≤ cap ∧ ∀ e ∈ es, WfE e := by
  rcases open_slice Tryd.underlying22 h with ⟨h0, _⟩ | ⟨a, len, cap, m, k, D, Pl, hcs, _, hl, _, hmm, _, hi⟩
  · simp only [List.cons.injEq, and_true] at h0
    subst h0
    exact ⟨none, 0, 0, [], rfl, ⟨rfl, fun h => absurd h (by omega)⟩, Nat.le_refl _, by simp⟩
  · simp only [List.cons.injEq, and_true] at hcs
    subst hcs
    have hlm : len ≤ m := by rw [hmm]; split <;> omega
    have hall : ∀ i, ∃ e : E3, i < len → (∀ j, j < 3 → W.cell? (a.add (i * 3 + j)) = [Value.int .i64 e.1, .int .i64 e.2.1, .int .i64 e.2.2][j]?) ∧ WfE e := fun i => by
      by_cases hlt : i < len
      · obtain ⟨cs', hc, ht⟩ := hi i (by omega)
        obtain ⟨e, rfl, he⟩ := edge_of ht
        rw [cellsEdge] at hc
        obtain ⟨_, _, hat⟩ := World.cells?_some hc
        exact ⟨e, fun _ => ⟨fun j hj => by rw [← Go.Deep.add_add]; exact hat j hj, he⟩⟩
      · exact ⟨default, fun h => absurd h hlt⟩
    obtain ⟨f, hf⟩ := Classical.axiomOfChoice hall
    refine ⟨some a, len, cap, (List.range len).map f, rfl, ⟨by simp, fun hn => ?_⟩, hl, fun e he => ?_⟩
    · have hz := (hf 0 hn).1 0 (by omega)
      simp only [Nat.zero_mul, Nat.add_zero, List.getElem?_cons_zero] at hz
      obtain ⟨b, off, spot⟩ := a
      have hspot : spot = none := by simpa [Addr.add] using World.cell?_spot hz
      subst hspot
      have hb : b < W.heap.size := by
        rcases Nat.lt_or_ge b W.heap.size with h | h
        · exact h
        · simp [World.cell?, Addr.add, Array.getElem?_eq_none h] at hz
      refine ⟨b, off, rfl, hb, fun i e hie => ?_⟩
      obtain ⟨hil, hie⟩ := List.getElem?_eq_some_iff.1 hie
      simp only [List.length_map, List.length_range] at hil
      simp only [List.getElem_map, List.getElem_range] at hie
      subst hie
      have hc := (hf i hil).1
      refine ⟨?_, ?_, ?_⟩
      · have := hc 0 (by omega); rw [Go.WideShapes.add_plain] at this; simpa using this
      · have := hc 1 (by omega); rw [Go.WideShapes.add_plain] at this; simpa [Nat.add_assoc] using this
      · have := hc 2 (by omega); rw [Go.WideShapes.add_plain] at this; simpa [Nat.add_assoc] using this
    · simp only [List.mem_map, List.mem_range] at he
      obtain ⟨i, hi', rfl⟩ := he
      exact (hf i hi').2

set_option maxRecDepth 100000 in
theorem open_graph {r : Reach} {b0 : Nat} {v : Value} {d : DataW H} {p : List MemPlace} (hv : Value.okWide Tryd.prog W r b0 24 v) (h : DataW.Trod enc Tryd.prog W base spare held 24 v d p) :
    ∃ (n : Int) (A : Option Addr) (len cap : Nat) (es : List E3), v = .agg #[.int .i64 n, .slice A len cap] ∧ EdgesAt W W.heap.size A len es ∧ len ≤ cap ∧ (∀ e ∈ es, WfE e) ∧ (Lit.int .i64 n).wf = true := by
  obtain ⟨c0, c1, y0, y1, m, rfl, _, _, hy0, hy1⟩ := open_agg2 Tryd.underlying24 (by kernel_rfl) cellsGraph hv h
  obtain ⟨n, e0, _, wn⟩ := DataW.trod_int Tryd.underlying3 hy0
  simp only [List.cons.injEq, and_true] at e0
  subst e0
  obtain ⟨A, len, cap, es, rfl, hE, hl, hw⟩ := edges_of hy1
  exact ⟨n, A, len, cap, es, rfl, hE, hl, hw, wn⟩
end
end Go.Proofs.YthfgbgmkiggjmacDoor

namespace Go.Proofs.YthfgbgmkiggjmacDoor
open Go.ChangeShapes Go.WideShapes Go.ChangeAt Go.RowKit

set_option maxRecDepth 100000 in
theorem spanCayley_lifted (os : Os) (started : os.Started) (H : Type) (enc : TypeId × Value → H) :
    ReturnsInHanded {} Tryd.checked os 4 .any (fun w args => (Rows.spanCayleySpec.pre enc Tryd.prog Tryd.f4 [] false w args ∧ laidMetH Tryd.prog laidL w) ∧ sizedMet enc Tryd.prog Tryd.f4 (OpenSpec.ofChange Rows.spanCayleySpec) false w args)
      (Rows.spanCayleySpec.post enc Tryd.prog Tryd.f4 false true false false) := by
  refine returnsInHanded_of_change_and (C := Tryd.checked) (X := fun w _ => laidMetH Tryd.prog laidL w) (fun _ _ _ hh h => h.of_heap hh) ownK started (by kernel_rfl) Tryd.func4
    (ChangeSpec.witness_shaped (enc := enc) (C := Tryd.checked) (os := os) (X := fun w _ => laidMetH Tryd.prog laidL w) false (World.doorLaid Tryd.prog 400 os) #[.int .i64 0] 8 rfl (World.shaped_of_RefB (by kernel_rfl) (by kernel_rfl)) (by kernel_rfl) (by kernel_rfl) (by kernel_rfl) (door_met os _)) ?_
  intro W base args ds gs before hval0 hW _ _ hL _
  have hval : ∀ (j : Nat) t v, Tryd.f4.params[j]? = some t → args[j]? = some v → Value.okWide Tryd.prog W .any base t v := hval0
  have hW' := hW
  obtain ⟨p, q, hA0, hV, rfl, _, _⟩ := hW
  have hA : DataW.TrodAll enc Tryd.prog W 0 (fun _ => true) true Tryd.f4.params.toList args.toList ds p := hA0
  rw [Tryd.params4] at hA hval
  obtain ⟨v0, d0, rfl, rfl, h0⟩ := trodAll_one hA
  obtain ⟨rfl, rfl⟩ := trodVars_none hV
  obtain ⟨x0, rfl, rfl, rfl, wx0⟩ := open_int Tryd.underlying3 (hval 0 3 v0 rfl rfl) h0
  clear hA0 hval0
  simp only [List.append_nil] at hW'
  refine (spanCayley_any x0 W wx0 (tab_of_laid hL)).mono fun e W' ⟨he, hb⟩ => ?_
  subst he
  exact ⟨_, rfl, _, _, _, [], ([]), [], hW', trodAll_mk1 (shut_bool Tryd.underlying4 _), trodAll_mk1 (shut_int Tryd.underlying3 wx0), rfl, hb.frame _, fun h => by cases h⟩

set_option maxRecDepth 100000 in
theorem spanCayley_holds : Rows.SpanCayleySaid :=
  OpenClaim.holds_of_wide 4 Tryd.f4 rfl rfl rfl rfl rfl rfl rfl ⟨rfl, rfl, rfl, rfl, rfl⟩ rfl rfl rfl rfl rfl (by kernel_rfl) Tryd.func4 (by kernel_rfl)
    (of_decide_eq_true (by kernel_rfl)) (by unfold Func.isWrapper; first | (rw [if_pos (by decide +kernel)]; kernel_rfl) | (rw [if_neg (by decide +kernel)]; exact ⟨rfl, rfl⟩))
    (fun os started H enc _ => spanCayley_lifted os started H enc)

set_option maxRecDepth 100000 in
theorem spanCayley_card : Rows.SpanCayleyCardSaid :=
  Claim7.holds_tied_plain_at .later [] [.data] true Rows.spanCayleyCard.stood.harness false
    spanCayley_holds (fun _ h => by cases h) (by kernel_rfl) (fun _ h => by cases h) spanCayley_row_tie rfl ⟨rfl, rfl⟩ (by kernel_rfl) rfl
    (fun f fn hf hfn => by
      obtain rfl : f = 4 := Option.some.inj ((show Tryd.prog.funcNamed "teamster/teamsterkeep.SpanCayley" = some 4 by kernel_rfl).symm.trans hf) |>.symm
      obtain rfl : fn = Tryd.f4 := (Option.some.inj (Tryd.func4.symm.trans hfn)).symm
      exact ⟨by kernel_rfl, fun j t ht => by
        rw [Tryd.params4] at ht
        have hm : t ∈ [3] := by simpa using Array.mem_of_getElem? ht
        have hall : ([3].all fun u => !Tryd.prog.wantsStandIn u) = true := by kernel_rfl
        exact (show Tryd.prog.wantsStandIn t = false by simpa using List.all_eq_true.1 hall t hm)⟩)
    (by kernel_rfl)
#print axioms spanCayley_card
end Go.Proofs.YthfgbgmkiggjmacDoor
