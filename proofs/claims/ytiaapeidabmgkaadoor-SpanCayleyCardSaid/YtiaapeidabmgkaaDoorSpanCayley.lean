/- CAYLEY: for every number of nodes from 2 to 10 the full graph has as many trees as nodes, as often as there are nodes but two. No conditions. -/
import Derived.Test.YtiaapeidabmgkaaDoorFull
import Derived.Test.YtiaapeidabmgkaaDoorManyGo
import Derived.IntWalk
namespace Go.Proofs.YtiaapeidabmgkaaDoor
open Go.RowKit

theorem pairsN_full (n : Nat) : pairsN (fullE n) = fullN n := by
  unfold pairsN fullE fullN fullRow
  rw [List.map_flatMap]
  congr 1
  funext b
  rw [List.map_map]
  congr 1
theorem full_adj {n i : Nat} (hi : i < n) (h0 : 0 < i) : adjE (fullE n) i 0 = true := by
  unfold adjE
  rw [List.any_eq_true]
  refine ⟨((0 : Nat), (i : Int), (0 : Int)), ?_, by simp⟩
  unfold fullE fullRow
  rw [List.mem_flatMap]
  exact ⟨i, List.mem_range.2 hi, List.mem_map.2 ⟨0, List.mem_range.2 h0, rfl⟩⟩
theorem full_root {n i : Nat} (hi : i < n) : Root (fullE n) i ↔ i = 0 := by
  constructor
  · intro h
    rcases Nat.eq_zero_or_pos i with h0 | h0
    · exact h0
    · exact absurd ((Rch.refl (fullE n) i).step (full_adj hi h0)) (h 0 h0)
  · rintro rfl j hj
    omega
theorem full_good {n : Nat} (hn : n ≤ 10) : goodE (n : Int) (fullE n) := (good_of_gcheck (gcheck_full n hn)).2.2.2
theorem cay_filter : ∀ n : Nat, n ≤ 10 → ((List.range n).filter fun i => !(i == 0)).length = n - 1 := by decide
theorem notRoots_full {n : Nat} (hn : n ≤ 10) : (notRoots n (fullE n)).length = n - 1 := by
  have h1 : notRoots n (fullE n) = (List.range n).filter fun i => !(i == 0) := by
    unfold notRoots keepL
    apply List.filter_congr
    intro i hi
    have him := List.mem_range.1 hi
    have := notRoots_mem hn (full_good hn) (i := i)
    unfold notRoots keepL at this
    rw [List.mem_filter] at this
    rw [Bool.eq_iff_iff]
    simp only [Bool.not_eq_true', beq_eq_false_iff_ne, ne_eq]
    rw [← full_root him]
    constructor
    · exact fun h => (this.1 ⟨hi, h⟩).2
    · exact fun h => (this.2 ⟨him, h⟩).2
  rw [h1, cay_filter n hn]
/-- The number of trees. -/
theorem many_cayley {n : Nat} (h2 : 2 ≤ n) (hn : n ≤ 10) : manyN n (fullE n) = ((n ^ (n - 2) : Nat) : Int) := by
  have hl := notRoots_full hn
  have hnd := notRoots_nodup n (fullE n)
  unfold manyN
  rw [hl, bst_cayley (r := n - 1) (by omega) (fun i j hi hj => ?_)]
  · rw [show n - 1 + 1 = n by omega, show n - 1 - 1 = n - 2 by omega]; simp
  · have hil : i < (notRoots n (fullE n)).length := by omega
    have hjl : j < (notRoots n (fullE n)).length := by omega
    have gi : (notRoots n (fullE n)).getD i 0 = (notRoots n (fullE n))[i] := by rw [List.getD_eq_getElem?_getD, List.getElem?_eq_getElem hil]; rfl
    have gj : (notRoots n (fullE n)).getD j 0 = (notRoots n (fullE n))[j] := by rw [List.getD_eq_getElem?_getD, List.getElem?_eq_getElem hjl]; rfl
    unfold manyA lapM
    rw [pairsN_full, gi, gj, lap_full n hn _ ((notRoots_mem hn (full_good hn)).1 (List.getElem_mem hil)).1 _ ((notRoots_mem hn (full_good hn)).1 (List.getElem_mem hjl)).1]
    rw [show n - 1 + 1 = n by omega]
    by_cases hij : i = j
    · subst hij; simp
    · rw [if_neg hij, if_neg]
      intro he
      exact hij ((List.getElem_inj hnd).1 he)
theorem pow_bd {n k : Nat} (hn : n ≤ 10) (hk : k ≤ 8) : n ^ k ≤ 100000000 :=
  Nat.le_trans (Nat.pow_le_pow_left hn k) (by rw [show 100000000 = 10 ^ 8 from rfl]; exact Nat.pow_le_pow_right (by decide) hk)
theorem many_w (m : Nat) (A : Option Addr) (len cap : Nat) (es : List E3) (N : Int) (w : World) (hE : EdgesAt w w.heap.size A len es) (hv : gcheck m es = 0) (hT : Tab w) (hN : manyN m es = N) :
    Calls Tryd.prog 9 #[.agg #[.int .i64 m, .slice A len cap]] w fun e w' => e = .returned (.tuple #[.int .i64 N, .int .i64 0]) ∧ Below w.heap.size w w' := by
  subst hN; exact many_good m A len cap es w hE hv hT

set_option maxHeartbeats 1000000 in
theorem spanCayley_in (m : Nat) (w : World) (hm2 : 2 ≤ m) (hm : m ≤ 10) (hT : Tab w) :
    Calls Tryd.prog 4 #[.int .i64 m] w fun e w' => e = .returned (.bool true) ∧ Below w.heap.size w w' := by
  have HT := Lib.hid hT
  obtain ⟨N, hN⟩ : ∃ N, m ^ (m - 2) = N := ⟨_, rfl⟩
  have HM : Hid (manyN m (fullE m) = (N : Int)) := Lib.hid (by rw [many_cayley hm2 hm, hN])
  have HNN := Lib.hid hN
  clear hN
  have HV := Lib.hid (gcheck_full m hm)
  have h1 : decide ((m : Int) < 2) = false := by simp; omega
  have h2 : decide (10 < (m : Int)) = false := by simp; omega
  have h3 : decide (m < 2) = false := by simp; omega
  have h4 : decide (10 < m) = false := by simp; omega
  clear hT
  go_enter Tryd.func4, Tryd.ntmps4
  go_wp2_with (first
    | (go_at_call 12; refine (full_any m _ hm).mono ?_; rintro e w1 ⟨⟨A1, c1, rfl, hE1, _⟩, hb1⟩; have HE1 := Lib.hid hE1; have HB1 := Lib.hid hb1; clear hE1 hb1)
    | (go_at_call 9; refine (many_w m A1 (fullE m).length c1 (fullE m) _ _ (by exact HE1.out) HV.out (by exact HT.out.go_ HB1.out) HM.out).mono ?_; rintro e w2 ⟨rfl, hb2⟩; have HB2 := Lib.hid (HB1.out.trans (hb2.mono HB1.out.size)); clear hb2))
  go_loop [5, 6] (fun p j => ∃ k q : Nat, 2 ≤ k ∧ k ≤ m ∧ j = .int .i64 k ∧ p = .int .i64 q ∧ Hid (q = m ^ (k - 2))) (fun _ j => m - (intOf j).toNat)
  case atStart => exact ⟨2, 1, Nat.le_refl _, hm2, rfl, rfl, Lib.hid rfl⟩
  case round =>
    obtain ⟨k, q, hk2, hkm, rfl, rfl, HQ⟩ := hrel
    have hqb : q ≤ 100000000 := by rw [HQ.out]; exact pow_bd hm (by omega)
    by_cases hlt : k < m
    · have HQ2 : Hid (q * m = m ^ (k + 1 - 2)) := Lib.hid (by rw [HQ.out, ← Nat.pow_succ]; congr 1; omega)
      have hmul : q * m ≤ 1000000000 := Nat.le_trans (Nat.mul_le_mul hqb hm) (by decide)
      have hml : (q : Int) * (m : Int) = ((q * m : Nat) : Int) := by simp
      have hw : IntKind.i64.wrap ((q : Int) * (m : Int)) = (q : Int) * (m : Int) := by rw [hml]; exact IntWalk.i64_in _ (by omega)
      have HML := Lib.hid hml
      clear hml
      go_wp2
      go_round
      case rel => exact ⟨k + 1, q * m, by omega, by omega, by go_num, by rw [HML.out], HQ2⟩
      case measure => simp [intOf]; omega
    · obtain rfl : k = m := by omega
      obtain rfl : q = N := by rw [HQ.out, HNN.out]
      go_wp2
      go_ret
      exact ⟨rfl, HB2.out⟩

set_option maxHeartbeats 400000 in
theorem spanCayley_any (x : Int) (w : World) (_ : (Lit.int .i64 x).wf = true) (hT : Tab w) :
    Calls Tryd.prog 4 #[.int .i64 x] w fun e w' => e = .returned (.bool true) ∧ Below w.heap.size w w' := by
  by_cases h : 2 ≤ x ∧ x ≤ 10
  · obtain ⟨m, rfl⟩ := Int.eq_ofNat_of_zero_le (show 0 ≤ x by omega)
    exact spanCayley_in m w (by omega) (by omega) hT
  · by_cases h2 : x < 2
    · have h3 : decide (x < 2) = true := by simpa using h2
      go_enter Tryd.func4, Tryd.ntmps4
      go_wp2
      go_ret
      exact ⟨rfl, Below.refl _ _⟩
    · have h3 : decide (x < 2) = false := by simpa using h2
      have h4 : decide (10 < x) = true := by simp; omega
      go_enter Tryd.func4, Tryd.ntmps4
      go_wp2
      go_ret
      exact ⟨rfl, Below.refl _ _⟩
end Go.Proofs.YtiaapeidabmgkaaDoor
