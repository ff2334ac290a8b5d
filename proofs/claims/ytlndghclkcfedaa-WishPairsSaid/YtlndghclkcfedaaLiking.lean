/- wish.liking. -/
import Derived.Test.YtlndghclkcfedaaRanked
import Derived.Test.YtlndghclkcfedaaBoxS
namespace Go.Proofs.Ytlndghclkcfedaa
open Go.RowKit

theorem info57 : (Try.prog.info? 57).map (fun i => (i.zero, i.size)) = some (some (rowV 128 fun _ => 0), 128) := by kernel_rfl
theorem zero57 : ∀ w, (zeroValue 57).run Try.prog w = .ok (rowV 128 fun _ => 0) w := by
  intro w
  have h := info57
  cases hq : Try.prog.info? 57 with
  | none => rw [hq] at h; cases h
  | some i =>
    rw [hq] at h
    simp only [Option.map_some, Option.some.injEq, Prod.mk.injEq] at h
    simp [zeroValue, typeInfo, hq, h.1]
theorem exec_build {f : Operand → Value} {o : Oper} {t : TypeId} {parts : Array (Nat × Operand)} (ho : o.op = .build t parts) {C : Array Value} {W : World} (h : (Instr.build t (parts.map fun (i, x) => (i, f x))).run Try.prog W = .ok (.agg C) W) :
    (execOp f o).run Try.prog W = .ok (Next.value (.agg C)) W := by
  unfold execOp
  simp only [ho, Sem.run_bind, h, Result.andThen_ok, Sem.run_pure]
/-- Both sides' numbers in one row. -/
def bothF (F G : Nat → Int) (k : Nat) : Int := if k < 64 then F k else G (k - 64)
theorem built57 (F G : Nat → Int) (w : World) : (Instr.build 57 #[(0, rowV 64 F), (1, rowV 64 G)]).run Try.prog w = .ok (rowV 128 (bothF F G)) w :=
  run_build w _ _ _ (by kernel_rfl)
/-- What holds all the way: the box, the wishes, and the block for what comes out. -/
structure LikeW (w : World) (A1 : Option Addr) (n1 c1 : Nat) (A2 : Option Addr) (n2 c2 : Nat) (Ls Rs : List (List Int)) (w1 : World) : Prop where
  box : BoxS w A1 n1 c1 A2 n2 c2 Ls Rs w1
  row : RowT w1 (w.heap.size + 1) 57 128 fun _ => 0
section
variable {w w1 w2 : World} {A1 A2 : Option Addr} {n1 c1 n2 c2 : Nat} {Ls Rs : List (List Int)}
theorem LikeW.next (h : LikeW w A1 n1 c1 A2 n2 c2 Ls Rs w1) (hb : Below w1.heap.size w1 w2) : LikeW w A1 n1 c1 A2 n2 c2 Ls Rs w2 := ⟨h.box.next hb, h.row.keep hb⟩
theorem LikeW.drew (h : LikeW w A1 n1 c1 A2 n2 c2 Ls Rs w1) : LikeW w A1 n1 c1 A2 n2 c2 Ls Rs w1.drew := ⟨h.box.drew, h.row⟩
end
set_option maxRecDepth 100000 in
set_option maxHeartbeats 2000000 in
theorem liking_any (A1 A2 : Option Addr) (n c1 c2 : Nat) (Ls Rs : List (List Int)) (w : World) (S1 : SideAt w w.heap.size A1 n c1 Ls) (S2 : SideAt w w.heap.size A2 n c2 Rs) (hn : n ≤ 8) (o1 : ∀ xs ∈ Ls, eachB n xs = true) (o2 : ∀ xs ∈ Rs, eachB n xs = true) :
    Calls Try.prog 33 #[.agg #[.slice A1 n c1, .slice A2 n c2]] w fun e w' => e = .returned (rowV 128 (bothF (dgF Ls) (dgF Rs))) ∧ Below w.heap.size w w' := by
  obtain ⟨Z, hZ⟩ : ∃ Z : Array Value, Z = ((List.range 128).map fun _ => Value.int .i64 0).toArray := ⟨_, rfl⟩
  have hz : ∀ w, (zeroValue 57).run Try.prog w = .ok (.agg Z) w := by rw [hZ]; exact zero57
  have hr : RowT ((bxS w A1 n c1 A2 n c2).alloc (.cells Z 57)) (w.heap.size + 1) 57 128 (fun _ => 0) := by
    rw [hZ]
    have := (MapKept.heap_alloc (bxS w A1 n c1 A2 n c2) (.cells ((List.range 128).map fun _ => Value.int .i64 0).toArray 57)).1
    rw [show (bxS w A1 n c1 A2 n c2).heap.size = w.heap.size + 1 by simp [bxS]] at this
    exact this
  have HB : Hid (LikeW w A1 n c1 A2 n c2 Ls Rs ((bxS w A1 n c1 A2 n c2).alloc (.cells Z 57))) := Lib.hid ⟨(BoxS.start S1 S2).next ((Below.refl _ _).alloc (Nat.le_refl _) _), hr⟩
  obtain ⟨U, hU⟩ : ∃ U : Value, U = rowV 64 (dgF Ls) := ⟨_, rfl⟩
  obtain ⟨V, hV⟩ : ∃ V : Value, V = rowV 64 (dgF Rs) := ⟨_, rfl⟩
  obtain ⟨C, hC⟩ : ∃ C : Array Value, C = ((List.range 128).map fun j => Value.int .i64 (bothF (dgF Ls) (dgF Rs) j)).toArray := ⟨_, rfl⟩
  have HC : Hid (∀ W A c v, LikeW w A1 n c1 A2 n c2 Ls Rs W → ((A = A1 ∧ c = c1 ∧ v = U) ∨ (A = A2 ∧ c = c2 ∧ v = V)) → Calls Try.prog 45 #[.slice A n c] W fun e W' => e = .returned v ∧ LikeW w A1 n c1 A2 n c2 Ls Rs W') := Lib.hid (by
    rintro W A c v hW (⟨rfl, rfl, rfl⟩ | ⟨rfl, rfl, rfl⟩)
    · rw [hU]; exact (ranked_any A n c Ls W hW.box.left hn o1).mono fun _ _ q => ⟨q.1, hW.next q.2⟩
    · rw [hV]; exact (ranked_any A n c Rs W hW.box.right hn o2).mono fun _ _ q => ⟨q.1, hW.next q.2⟩)
  have hbd : ∀ w, (Instr.build 57 #[(0, U), (1, V)]).run Try.prog w = .ok (.agg C) w := fun w => by rw [hU, hV, hC]; exact built57 (dgF Ls) (dgF Rs) w
  have HCI : Hid ((Try.prog.info? 57).map (·.size) = some C.size ∧ ((List.range 128).map fun _ => Value.int .i64 0).toArray.size = C.size ∧ C.all (·.oneCell') = true) := Lib.hid (by rw [hC]; exact ⟨by kernel_rfl, by simp, by simp [Value.oneCell']⟩)
  have HCC := Lib.hid hC
  have hlt : w.heap.size < w.heap.size + 1 := Nat.lt_succ_self _
  clear S1 S2 o1 o2 hZ hU hV hC hr
  go_enter Try.func33, Try.ntmps33
  go_wp2_with fail
  clear hz
  go_region_with (first
    | (go_at_call_of 45 A1; refine (HC.out _ _ _ _ HB.out.drew (.inl ⟨rfl, rfl, rfl⟩)).mono ?_; rintro e w1 ⟨rfl, hJ⟩; have HJ1 := Lib.hid hJ; have k0 := hJ.box.k0; have k1 := hJ.box.k1; clear hJ)
    | (go_at_call_of 45 A2; refine (HC.out _ _ _ _ HJ1.out (.inr ⟨rfl, rfl, rfl⟩)).mono ?_; rintro e w2 ⟨rfl, hJ⟩; have HJ2 := Lib.hid hJ; clear hJ; go_wp2; refine wpAny_take (i := 6) (v := .agg C) rfl (by kernel_rfl) (by kernel_rfl) (by kernel_rfl) (fun _ _ _ h => h) (Or.inl ⟨by kernel_rfl, ?hb⟩) ?_; (case hb => intro W; refine exec_build (t := 57) (parts := #[(0, .tmp 5), (1, .tmp 8)]) rfl ?_; simp [Act.eval]; exact hbd W); refine wpAny_ready (rs := [7]) (by kernel_rfl) (by simp) ?_; refine AllReady.cons rfl (fun K hK => ?_) AllReady.nil; refine wp_store_row 57 (.tmp 2) (.tmp 9) rfl (w.heap.size + 1) C rfl rfl 57 _ HJ2.out.row HCI.out.1 HCI.out.2.1 HCI.out.2.2 ?_; refine hK _ _ ?_; clear hK K))
  all_goals
    have HR : Hid (LikeW w A1 n c1 A2 n c2 Ls Rs w2) := HJ2
    clear HJ1 HJ2 HB HC hbd k0 k1
    go_wp2_with fail
    refine bodyPost_ret (v := rowV 128 (bothF (dgF Ls) (dgF Rs))) ?_ rfl ⟨rfl, below_setRow HR.out.box.below (Nat.le_succ _) _⟩
    rw [HCC.out]
    exact results_cell_row rfl _ _ (w.heap.size + 1) 57 _ (0, 0) _ rfl (setRow_heap w2 _ _ _ _ _ HR.out.row) Try.underlying57 rfl (by kernel_rfl)
end Go.Proofs.Ytlndghclkcfedaa
