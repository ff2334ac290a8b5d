/- wish.ranked, liking: how much each wishes for each. -/
import Derived.Test.YtlndghclkcfedaaDegP
import Derived.Laws.Rows
import Derived.Laws.Tables
import Derived.Laws.CopyOwn
namespace Go.Proofs.Ytlndghclkcfedaa
open Go.RowKit

set_option maxRecDepth 100000 in
set_option maxHeartbeats 2000000 in
theorem ranked_any (A : Option Addr) (n c : Nat) (Ls : List (List Int)) (w : World) (hS : SideAt w w.heap.size A n c Ls) (hn : n ≤ 8) (hok : ∀ xs ∈ Ls, eachB n xs = true) :
    Calls Try.prog 45 #[.slice A n c] w fun e w' => e = .returned (rowV 64 (dgF Ls)) ∧ Below w.heap.size w w' := by
  have HS := Lib.hid hS
  have HOK := Lib.hid hok
  have HLen := Lib.hid hS.len
  clear hS hok
  have HW : Hid (RowT ((w.alloc (.cells ((List.range 64).map fun _ => Value.int .i64 0).toArray 55)).alloc (.cells ((List.range 64).map fun _ => Value.int .i64 0).toArray 55)) w.heap.size 55 64 (fun _ => 0) ∧ RowT ((w.alloc (.cells ((List.range 64).map fun _ => Value.int .i64 0).toArray 55)).alloc (.cells ((List.range 64).map fun _ => Value.int .i64 0).toArray 55)) (w.heap.size + 1) 55 64 (fun _ => 0) ∧ Below w.heap.size w ((w.alloc (.cells ((List.range 64).map fun _ => Value.int .i64 0).toArray 55)).alloc (.cells ((List.range 64).map fun _ => Value.int .i64 0).toArray 55))) := Lib.hid (by
    refine ⟨RowT.alloc (show RowT _ _ _ _ _ from (MapKept.heap_alloc w _).1) _, ?_, two_below ..⟩
    have := (MapKept.heap_alloc (w.alloc (.cells ((List.range 64).map fun _ => Value.int .i64 0).toArray 55)) (.cells ((List.range 64).map fun _ => Value.int .i64 0).toArray 55)).1
    rw [show (w.alloc (.cells ((List.range 64).map fun _ => Value.int .i64 0).toArray 55)).heap.size = w.heap.size + 1 by simp] at this
    exact this)
  go_enter Try.func45, Try.ntmps45
  go_wp2_with fail
  go_loopw [10] (fun j wr => ∃ i : Nat, i ≤ n ∧ j = .int .i64 i ∧ Hid (RowT wr w.heap.size 55 64 (fun _ => 0) ∧ RowT wr (w.heap.size + 1) 55 64 (dgM Ls i 0) ∧ Below w.heap.size w wr)) (fun j _ => n - (intOf j).toNat)
  case atStart => exact ⟨0, Nat.zero_le _, rfl, Lib.hid ⟨HW.out.1, HW.out.2.1.congr fun _ _ => dgM_zero.symm, HW.out.2.2⟩⟩
  case round =>
    clear HW
    obtain ⟨i, hi, rfl, HR⟩ := hrel
    by_cases hil : i < n
    · obtain ⟨b, off, xs, A', c', rfl, hbl, hx, hc, hA', hxc, hcm⟩ := HS.out.get hil
      have hcr : wr.cell? ⟨b, off + i, none⟩ = some (.slice A' xs.length c') := (HR.out.2.2.cell (p := ⟨b, off + i, none⟩) hbl).trans hc
      have ii0 : (0 : Int) ≤ (i : Int) := by omega
      have ii1 : (i : Int) < (n : Int) := by omega
      have hok := eachB_iff.1 (HOK.out xs (List.mem_of_getElem? hx))
      have hx8 : xs.length ≤ 8 := Nat.le_trans (len_le hok.1 hok.2) hn
      have HX : Hid (Ls.getD i [] = xs) := Lib.hid (by rw [List.getD_eq_getElem?_getD, hx]; rfl)
      have HO := Lib.hid hok
      obtain ⟨m, hm⟩ : ∃ m, m = xs.length := ⟨_, rfl⟩
      rw [← hm] at hc hcr hA' hxc hx8
      have HA := Lib.hid hA'
      have HM := Lib.hid hm
      clear hx hA' hok hm hcm hxc hc
      go_wp2
      obtain ⟨wo, rfl⟩ : ∃ wo : World, wo = wr := ⟨_, rfl⟩
      go_loopw [17] (fun j wr => ∃ p : Nat, p ≤ m ∧ j = .int .i64 p ∧ Hid (RowT wr w.heap.size 55 64 (fun _ => 0) ∧ RowT wr (w.heap.size + 1) 55 64 (dgM Ls i p) ∧ Below w.heap.size w wr)) (fun j _ => m - (intOf j).toNat)
      case atStart => exact ⟨0, Nat.zero_le _, rfl, HR⟩
      case round =>
        clear HR hcr
        obtain ⟨p, hp, rfl, HR⟩ := hrel
        by_cases hpl : p < m
        · obtain ⟨b2, off2, x, rfl, hb2, hx2, hc2⟩ := HA.out.at_ hpl
          have hcx : wr.cell? ⟨b2, off2 + p, none⟩ = some (.int .i64 x) := (HR.out.2.2.cell (p := ⟨b2, off2 + p, none⟩) hb2).trans hc2
          obtain ⟨q0, q1⟩ := HO.out.2 x (List.mem_of_getElem? hx2)
          obtain ⟨j, rfl⟩ := Int.eq_ofNat_of_zero_le q0
          have hj8 : j < 8 := by omega
          have hk : i * 8 + j < 64 := by omega
          have cT := HR.out.2.1.cell hk
          have fT := HR.out.2.1.frozen (i * 8 + j)
          have i8 : (i : Int) < 8 := by omega
          have j8 : (j : Int) < 8 := by omega
          have pp0 : (0 : Int) ≤ (p : Int) := by omega
          have pp1 : (p : Int) < (m : Int) := by omega
          have w8 : wrap64 (8 - (p : Int)) = 8 - (p : Int) := by unfold wrap64; omega
          have HN : Hid (RowT (wr.setCell ⟨w.heap.size + 1, i * 8 + j, none⟩ (.int .i64 (8 - (p : Int)))) w.heap.size 55 64 (fun _ => 0) ∧ RowT (wr.setCell ⟨w.heap.size + 1, i * 8 + j, none⟩ (.int .i64 (8 - (p : Int)))) (w.heap.size + 1) 55 64 (dgM Ls i (p + 1)) ∧ Below w.heap.size w (wr.setCell ⟨w.heap.size + 1, i * 8 + j, none⟩ (.int .i64 (8 - (p : Int))))) := Lib.hid
            ⟨HR.out.1.far (by show w.heap.size ≠ w.heap.size + 1; omega) _, (by rw [← dgM_step HX.out HO.out.1 hx2 hj8]; exact HR.out.2.1.set_ _ _), HR.out.2.2.setCell (p := ⟨w.heap.size + 1, i * 8 + j, none⟩) (Nat.le_succ _) _⟩
          generalize dgM Ls i p (i * 8 + j) = z at cT
          clear HR hx2 hc2 q0 q1 hk
          go_wp2_with fail
          go_roundw
          case rel => exact ⟨p + 1, by omega, by go_num, HN⟩
          case measure => simp [intOf]; omega
        · obtain rfl : p = m := by omega
          have HE : Hid (RowT wr w.heap.size 55 64 (fun _ => 0) ∧ RowT wr (w.heap.size + 1) 55 64 (dgM Ls (i + 1) 0) ∧ Below w.heap.size w wr) := Lib.hid ⟨HR.out.1, HR.out.2.1.congr fun k _ => dgM_row (by rw [HX.out, ← HM.out]; exact Nat.le_refl _), HR.out.2.2⟩
          clear HR HX HM HO HA
          go_wp2
          go_roundw
          case rel => exact ⟨i + 1, by omega, by go_num, HE⟩
          case measure => simp [intOf]; omega
    · obtain rfl : i = n := by omega
      have HE : Hid (RowT wr w.heap.size 55 64 (fun _ => 0) ∧ RowT wr (w.heap.size + 1) 55 64 (dgF Ls) ∧ Below w.heap.size w wr) := Lib.hid ⟨HR.out.1, HR.out.2.1.congr fun k _ => dgM_end (by rw [HLen.out]; exact Nat.le_refl _), HR.out.2.2⟩
      clear HR HS HOK HLen
      go_wp2_with (first | refine wpList_load_row rfl 55 _ rfl (w.heap.size + 1) rfl 55 _ (0, 0) _ HE.out.2.1 Try.underlying55 rfl (by kernel_rfl) ?_ | refine wpList_store_row rfl 55 _ _ rfl w.heap.size _ rfl rfl 55 _ HE.out.1 (by kernel_rfl) (by simp) (by simp [Value.oneCell']) ?_)
      refine bodyPost_ret (v := rowV 64 (dgF Ls)) ?_ rfl ⟨rfl, below_setRow HE.out.2.2 (Nat.le_refl _) _⟩
      exact results_cell_row rfl _ _ w.heap.size 55 _ (0, 0) _ rfl (setRow_heap wr _ _ _ _ _ HE.out.1) Try.underlying55 rfl (by kernel_rfl)
end Go.Proofs.Ytlndghclkcfedaa
