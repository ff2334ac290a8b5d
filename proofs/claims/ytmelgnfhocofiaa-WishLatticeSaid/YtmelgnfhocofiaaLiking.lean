/- wish.ranked, liking: how much each wishes for each. wish.liking. -/
import Derived.Test.YtmelgnfhocofiaaDegP
import Derived.Laws.Rows
import Derived.Laws.Tables
import Derived.Laws.CopyOwn
import Derived.Test.YtmelgnfhocofiaaBoxS
namespace Go.Proofs.Ytmelgnfhocofiaa
open Go.RowKit

set_option maxRecDepth 100000 in
set_option maxHeartbeats 2000000 in
theorem ranked_any (A : Option Addr) (n c : Nat) (Ls : List (List Int)) (w : World) (hS : SideAt w w.heap.size A n c Ls) (hn : n ≤ 8) (hok : ∀ xs ∈ Ls, eachB n xs = true) :
    Calls Try.prog 46 #[.slice A n c] w fun e w' => e = .returned (rowV 64 (dgF Ls)) ∧ Below w.heap.size w w' := by
  have HS := Lib.hid hS
  have HOK := Lib.hid hok
  have HLen := Lib.hid hS.len
  clear hS hok
  have HW : Hid (RowT ((w.alloc (.cells ((List.range 64).map fun _ => Value.int .i64 0).toArray 56)).alloc (.cells ((List.range 64).map fun _ => Value.int .i64 0).toArray 56)) w.heap.size 56 64 (fun _ => 0) ∧ RowT ((w.alloc (.cells ((List.range 64).map fun _ => Value.int .i64 0).toArray 56)).alloc (.cells ((List.range 64).map fun _ => Value.int .i64 0).toArray 56)) (w.heap.size + 1) 56 64 (fun _ => 0) ∧ Below w.heap.size w ((w.alloc (.cells ((List.range 64).map fun _ => Value.int .i64 0).toArray 56)).alloc (.cells ((List.range 64).map fun _ => Value.int .i64 0).toArray 56))) := Lib.hid (by
    refine ⟨RowT.alloc (show RowT _ _ _ _ _ from (MapKept.heap_alloc w _).1) _, ?_, two_below ..⟩
    have := (MapKept.heap_alloc (w.alloc (.cells ((List.range 64).map fun _ => Value.int .i64 0).toArray 56)) (.cells ((List.range 64).map fun _ => Value.int .i64 0).toArray 56)).1
    rw [show (w.alloc (.cells ((List.range 64).map fun _ => Value.int .i64 0).toArray 56)).heap.size = w.heap.size + 1 by simp] at this
    exact this)
  go_enter Try.func46, Try.ntmps46
  go_wp2_with fail
  go_loopw [10] (fun j wr => ∃ i : Nat, i ≤ n ∧ j = .int .i64 i ∧ Hid (RowT wr w.heap.size 56 64 (fun _ => 0) ∧ RowT wr (w.heap.size + 1) 56 64 (dgM Ls i 0) ∧ Below w.heap.size w wr)) (fun j _ => n - (intOf j).toNat)
  case atStart => exact ⟨0, Nat.zero_le _, rfl, Lib.hid ⟨HW.out.1, HW.out.2.1.congr fun _ _ => dgM_zero.symm, HW.out.2.2⟩⟩
  case round =>
    clear HW
    obtain ⟨i, hi, rfl, HR⟩ := hrel
    by_cases hil : i < n
    · obtain ⟨b, off, xs, A', c', rfl, hbl, hx, hc, hA', hxc, hcm⟩ := HS.out.get hil
      have hcr : wr.cell? ⟨b, off + i, none⟩ = some (.slice A' xs.length c') := (HR.out.2.2.cell (p := ⟨b, off + i, none⟩) hbl).trans hc
      have ii0 : (0 : Int) ≤ (i : Int) := by omega
      have ii1 : (i : Int) < (n : Int) := by omega
      have hok := eachB_iff.1 (HOK.out xs (List.mem_of_getElem? hx))
      have hx8 : xs.length ≤ 8 := Nat.le_trans (len_le hok.1 hok.2) hn
      have HX : Hid (Ls.getD i [] = xs) := Lib.hid (by rw [List.getD_eq_getElem?_getD, hx]; rfl)
      have HO := Lib.hid hok
      obtain ⟨m, hm⟩ : ∃ m, m = xs.length := ⟨_, rfl⟩
      rw [← hm] at hc hcr hA' hxc hx8
      have HA := Lib.hid hA'
      have HM := Lib.hid hm
      clear hx hA' hok hm hcm hxc hc
      go_wp2
      obtain ⟨wo, rfl⟩ : ∃ wo : World, wo = wr := ⟨_, rfl⟩
      go_loopw [17] (fun j wr => ∃ p : Nat, p ≤ m ∧ j = .int .i64 p ∧ Hid (RowT wr w.heap.size 56 64 (fun _ => 0) ∧ RowT wr (w.heap.size + 1) 56 64 (dgM Ls i p) ∧ Below w.heap.size w wr)) (fun j _ => m - (intOf j).toNat)
      case atStart => exact ⟨0, Nat.zero_le _, rfl, HR⟩
      case round =>
        clear HR hcr
        obtain ⟨p, hp, rfl, HR⟩ := hrel
        by_cases hpl : p < m
        · obtain ⟨b2, off2, x, rfl, hb2, hx2, hc2⟩ := HA.out.at_ hpl
          have hcx : wr.cell? ⟨b2, off2 + p, none⟩ = some (.int .i64 x) := (HR.out.2.2.cell (p := ⟨b2, off2 + p, none⟩) hb2).trans hc2
          obtain ⟨q0, q1⟩ := HO.out.2 x (List.mem_of_getElem? hx2)
          obtain ⟨j, rfl⟩ := Int.eq_ofNat_of_zero_le q0
          have hj8 : j < 8 := by omega
          have hk : i * 8 + j < 64 := by omega
          have cT := HR.out.2.1.cell hk
          have fT := HR.out.2.1.frozen (i * 8 + j)
          have i8 : (i : Int) < 8 := by omega
          have j8 : (j : Int) < 8 := by omega
          have pp0 : (0 : Int) ≤ (p : Int) := by omega
          have pp1 : (p : Int) < (m : Int) := by omega
          have w8 : wrap64 (8 - (p : Int)) = 8 - (p : Int) := by unfold wrap64; omega
          have HN : Hid (RowT (wr.setCell ⟨w.heap.size + 1, i * 8 + j, none⟩ (.int .i64 (8 - (p : Int)))) w.heap.size 56 64 (fun _ => 0) ∧ RowT (wr.setCell ⟨w.heap.size + 1, i * 8 + j, none⟩ (.int .i64 (8 - (p : Int)))) (w.heap.size + 1) 56 64 (dgM Ls i (p + 1)) ∧ Below w.heap.size w (wr.setCell ⟨w.heap.size + 1, i * 8 + j, none⟩ (.int .i64 (8 - (p : Int))))) := Lib.hid
            ⟨HR.out.1.far (by show w.heap.size ≠ w.heap.size + 1; omega) _, (by rw [← dgM_step HX.out HO.out.1 hx2 hj8]; exact HR.out.2.1.set_ _ _), HR.out.2.2.setCell (p := ⟨w.heap.size + 1, i * 8 + j, none⟩) (Nat.le_succ _) _⟩
          generalize dgM Ls i p (i * 8 + j) = z at cT
          clear HR hx2 hc2 q0 q1 hk
          go_wp2_with fail
          go_roundw
          case rel => exact ⟨p + 1, by omega, by go_num, HN⟩
          case measure => simp [intOf]; omega
        · obtain rfl : p = m := by omega
          have HE : Hid (RowT wr w.heap.size 56 64 (fun _ => 0) ∧ RowT wr (w.heap.size + 1) 56 64 (dgM Ls (i + 1) 0) ∧ Below w.heap.size w wr) := Lib.hid ⟨HR.out.1, HR.out.2.1.congr fun k _ => dgM_row (by rw [HX.out, ← HM.out]; exact Nat.le_refl _), HR.out.2.2⟩
          clear HR HX HM HO HA
          go_wp2
          go_roundw
          case rel => exact ⟨i + 1, by omega, by go_num, HE⟩
          case measure => simp [intOf]; omega
    · obtain rfl : i = n := by omega
      have HE : Hid (RowT wr w.heap.size 56 64 (fun _ => 0) ∧ RowT wr (w.heap.size + 1) 56 64 (dgF Ls) ∧ Below w.heap.size w wr) := Lib.hid ⟨HR.out.1, HR.out.2.1.congr fun k _ => dgM_end (by rw [HLen.out]; exact Nat.le_refl _), HR.out.2.2⟩
      clear HR HS HOK HLen
      go_wp2_with (first | refine wpList_load_row rfl 56 _ rfl (w.heap.size + 1) rfl 56 _ (0, 0) _ HE.out.2.1 Try.underlying56 rfl (by kernel_rfl) ?_ | refine wpList_store_row rfl 56 _ _ rfl w.heap.size _ rfl rfl 56 _ HE.out.1 (by kernel_rfl) (by simp) (by simp [Value.oneCell']) ?_)
      refine bodyPost_ret (v := rowV 64 (dgF Ls)) ?_ rfl ⟨rfl, below_setRow HE.out.2.2 (Nat.le_refl _) _⟩
      exact results_cell_row rfl _ _ w.heap.size 56 _ (0, 0) _ rfl (setRow_heap wr _ _ _ _ _ HE.out.1) Try.underlying56 rfl (by kernel_rfl)
end Go.Proofs.Ytmelgnfhocofiaa
namespace Go.Proofs.Ytmelgnfhocofiaa
open Go.RowKit

set_option maxRecDepth 100000 in
theorem info57 : (Try.prog.info? 58).map (fun i => (i.zero, i.size)) = some (some (rowV 128 fun _ => 0), 128) := by kernel_rfl
set_option maxRecDepth 100000 in
theorem zero57 : ∀ w, (zeroValue 58).run Try.prog w = .ok (rowV 128 fun _ => 0) w := by
  intro w
  have h := info57
  cases hq : Try.prog.info? 58 with
  | none => rw [hq] at h; cases h
  | some i =>
    rw [hq] at h
    simp only [Option.map_some, Option.some.injEq, Prod.mk.injEq] at h
    simp [zeroValue, typeInfo, hq, h.1]
set_option maxRecDepth 100000 in
theorem exec_build {f : Operand → Value} {o : Oper} {t : TypeId} {parts : Array (Nat × Operand)} (ho : o.op = .build t parts) {C : Array Value} {W : World} (h : (Instr.build t (parts.map fun (i, x) => (i, f x))).run Try.prog W = .ok (.agg C) W) :
    (execOp f o).run Try.prog W = .ok (Next.value (.agg C)) W := by
  unfold execOp
  simp only [ho, Sem.run_bind, h, Result.andThen_ok, Sem.run_pure]
/-- Both sides' numbers in one row. -/
def bothF (F G : Nat → Int) (k : Nat) : Int := if k < 64 then F k else G (k - 64)
set_option maxRecDepth 100000 in
theorem built57 (F G : Nat → Int) (w : World) : (Instr.build 58 #[(0, rowV 64 F), (1, rowV 64 G)]).run Try.prog w = .ok (rowV 128 (bothF F G)) w :=
  run_build w _ _ _ (by kernel_rfl)
/-- What holds all the way: the box, the wishes, and the block for what comes out. -/
structure LikeW (w : World) (A1 : Option Addr) (n1 c1 : Nat) (A2 : Option Addr) (n2 c2 : Nat) (Ls Rs : List (List Int)) (w1 : World) : Prop where
  box : BoxS w A1 n1 c1 A2 n2 c2 Ls Rs w1
  row : RowT w1 (w.heap.size + 1) 58 128 fun _ => 0
section
variable {w w1 w2 : World} {A1 A2 : Option Addr} {n1 c1 n2 c2 : Nat} {Ls Rs : List (List Int)}
theorem LikeW.next (h : LikeW w A1 n1 c1 A2 n2 c2 Ls Rs w1) (hb : Below w1.heap.size w1 w2) : LikeW w A1 n1 c1 A2 n2 c2 Ls Rs w2 := ⟨h.box.next hb, h.row.keep hb⟩
theorem LikeW.drew (h : LikeW w A1 n1 c1 A2 n2 c2 Ls Rs w1) : LikeW w A1 n1 c1 A2 n2 c2 Ls Rs w1.drew := ⟨h.box.drew, h.row⟩
end
set_option maxRecDepth 100000 in
set_option maxHeartbeats 2000000 in
theorem liking_any (A1 A2 : Option Addr) (n c1 c2 : Nat) (Ls Rs : List (List Int)) (w : World) (S1 : SideAt w w.heap.size A1 n c1 Ls) (S2 : SideAt w w.heap.size A2 n c2 Rs) (hn : n ≤ 8) (o1 : ∀ xs ∈ Ls, eachB n xs = true) (o2 : ∀ xs ∈ Rs, eachB n xs = true) :
    Calls Try.prog 33 #[.agg #[.slice A1 n c1, .slice A2 n c2]] w fun e w' => e = .returned (rowV 128 (bothF (dgF Ls) (dgF Rs))) ∧ Below w.heap.size w w' := by
  obtain ⟨Z, hZ⟩ : ∃ Z : Array Value, Z = ((List.range 128).map fun _ => Value.int .i64 0).toArray := ⟨_, rfl⟩
  have hz : ∀ w, (zeroValue 58).run Try.prog w = .ok (.agg Z) w := by rw [hZ]; exact zero57
  have hr : RowT ((bxS w A1 n c1 A2 n c2).alloc (.cells Z 58)) (w.heap.size + 1) 58 128 (fun _ => 0) := by
    rw [hZ]
    have := (MapKept.heap_alloc (bxS w A1 n c1 A2 n c2) (.cells ((List.range 128).map fun _ => Value.int .i64 0).toArray 58)).1
    rw [show (bxS w A1 n c1 A2 n c2).heap.size = w.heap.size + 1 by simp [bxS]] at this
    exact this
  have HB : Hid (LikeW w A1 n c1 A2 n c2 Ls Rs ((bxS w A1 n c1 A2 n c2).alloc (.cells Z 58))) := Lib.hid ⟨(BoxS.start S1 S2).next ((Below.refl _ _).alloc (Nat.le_refl _) _), hr⟩
  obtain ⟨U, hU⟩ : ∃ U : Value, U = rowV 64 (dgF Ls) := ⟨_, rfl⟩
  obtain ⟨V, hV⟩ : ∃ V : Value, V = rowV 64 (dgF Rs) := ⟨_, rfl⟩
  obtain ⟨C, hC⟩ : ∃ C : Array Value, C = ((List.range 128).map fun j => Value.int .i64 (bothF (dgF Ls) (dgF Rs) j)).toArray := ⟨_, rfl⟩
  have HC : Hid (∀ W A c v, LikeW w A1 n c1 A2 n c2 Ls Rs W → ((A = A1 ∧ c = c1 ∧ v = U) ∨ (A = A2 ∧ c = c2 ∧ v = V)) → Calls Try.prog 46 #[.slice A n c] W fun e W' => e = .returned v ∧ LikeW w A1 n c1 A2 n c2 Ls Rs W') := Lib.hid (by
    rintro W A c v hW (⟨rfl, rfl, rfl⟩ | ⟨rfl, rfl, rfl⟩)
    · rw [hU]; exact (ranked_any A n c Ls W hW.box.left hn o1).mono fun _ _ q => ⟨q.1, hW.next q.2⟩
    · rw [hV]; exact (ranked_any A n c Rs W hW.box.right hn o2).mono fun _ _ q => ⟨q.1, hW.next q.2⟩)
  have hbd : ∀ w, (Instr.build 58 #[(0, U), (1, V)]).run Try.prog w = .ok (.agg C) w := fun w => by rw [hU, hV, hC]; exact built57 (dgF Ls) (dgF Rs) w
  have HCI : Hid ((Try.prog.info? 58).map (·.size) = some C.size ∧ ((List.range 128).map fun _ => Value.int .i64 0).toArray.size = C.size ∧ C.all (·.oneCell') = true) := Lib.hid (by rw [hC]; exact ⟨by kernel_rfl, by simp, by simp [Value.oneCell']⟩)
  have HCC := Lib.hid hC
  have hlt : w.heap.size < w.heap.size + 1 := Nat.lt_succ_self _
  clear S1 S2 o1 o2 hZ hU hV hC hr
  go_enter Try.func33, Try.ntmps33
  go_wp2_with fail
  clear hz
  go_region_with (first
    | (go_at_call_of 46 A1; refine (HC.out _ _ _ _ HB.out.drew (.inl ⟨rfl, rfl, rfl⟩)).mono ?_; rintro e w1 ⟨rfl, hJ⟩; have HJ1 := Lib.hid hJ; have k0 := hJ.box.k0; have k1 := hJ.box.k1; clear hJ)
    | (go_at_call_of 46 A2; refine (HC.out _ _ _ _ HJ1.out (.inr ⟨rfl, rfl, rfl⟩)).mono ?_; rintro e w2 ⟨rfl, hJ⟩; have HJ2 := Lib.hid hJ; clear hJ; go_wp2; refine wpAny_take (i := 6) (v := .agg C) rfl (by kernel_rfl) (by kernel_rfl) (by kernel_rfl) (fun _ _ _ h => h) (Or.inl ⟨by kernel_rfl, ?hb⟩) ?_; (case hb => intro W; refine exec_build (t := 58) (parts := #[(0, .tmp 5), (1, .tmp 8)]) rfl ?_; simp [Act.eval]; exact hbd W); refine wpAny_ready (rs := [7]) (by kernel_rfl) (by simp) ?_; refine AllReady.cons rfl (fun K hK => ?_) AllReady.nil; refine wp_store_row 58 (.tmp 2) (.tmp 9) rfl (w.heap.size + 1) C rfl rfl 58 _ HJ2.out.row HCI.out.1 HCI.out.2.1 HCI.out.2.2 ?_; refine hK _ _ ?_; clear hK K))
  all_goals
    have HR : Hid (LikeW w A1 n c1 A2 n c2 Ls Rs w2) := HJ2
    clear HJ1 HJ2 HB HC hbd k0 k1
    go_wp2_with fail
    refine bodyPost_ret (v := rowV 128 (bothF (dgF Ls) (dgF Rs))) ?_ rfl ⟨rfl, below_setRow HR.out.box.below (Nat.le_succ _) _⟩
    rw [HCC.out]
    exact results_cell_row rfl _ _ (w.heap.size + 1) 58 _ (0, 0) _ rfl (setRow_heap w2 _ _ _ _ _ HR.out.row) Try.underlying58 rfl (by kernel_rfl)
end Go.Proofs.Ytmelgnfhocofiaa
