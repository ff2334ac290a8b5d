/- wish.Pair. -/
import Derived.Test.YtlndghclkcfedaaFirstPair
import Derived.Test.YtlndghclkcfedaaWishHoldsGo
namespace Go.Proofs.Ytlndghclkcfedaa
open Go.RowKit

theorem field50 (v1 v2 : Value) (w : World) : (Instr.field 50 (.agg #[v1, v2]) 0).run Try.prog w = .ok v1 w := by
  have h : Try.prog.underlying 50 = some _ := Try.underlying50
  simp [Instr.field, run_underlying h, go_sem, asAgg]
set_option maxRecDepth 100000 in
set_option maxHeartbeats 1000000 in
theorem wishPair_bad (A1 A2 : Option Addr) (n1 c1 n2 c2 : Nat) (Ls Rs : List (List Int)) (r : Int) (w : World) (S1 : SideAt w w.heap.size A1 n1 c1 Ls) (S2 : SideAt w w.heap.size A2 n2 c2 Rs) (hr : wishF Ls Rs = r) (hr0 : r ≠ 0) :
    Calls Try.prog 16 #[.agg #[.slice A1 n1 c1, .slice A2 n2 c2]] w fun e w' => e = .returned (.tuple #[.slice none 0 0, .int .i64 r]) ∧ Below w.heap.size w w' := by
  have HX := Lib.hid (BoxS.start S1 S2)
  have hk0 := HX.out.k0
  have hk1 := HX.out.k1
  have HC := Lib.hid (fun W (h1 : BoxS w A1 n1 c1 A2 n2 c2 Ls Rs W) => wishCheck_any A1 A2 n1 c1 n2 c2 Ls Rs W h1.left h1.right)
  rw [hr] at HC
  have hr1 : (r != 0) = true := by simpa using hr0
  clear S1 S2 hr
  go_enter Try.func16, Try.ntmps16
  go_wp2_with fail
  refine (HC.out _ (by exact HX.out)).mono ?_
  rintro e w1 ⟨rfl, hb1⟩
  have HX1 := Lib.hid (HX.out.next hb1)
  clear hb1
  go_wp2_with fail
  go_ret2
  exact ⟨rfl, HX1.out.below⟩
set_option maxRecDepth 100000 in
set_option maxHeartbeats 2000000 in
theorem wishPair_good (A1 A2 : Option Addr) (n c1 c2 : Nat) (Ls Rs : List (List Int)) (w : World) (S1 : SideAt w w.heap.size A1 n c1 Ls) (S2 : SideAt w w.heap.size A2 n c2 Rs) (hr : wishF Ls Rs = 0) (hn : n ≤ 8) (o1 : ∀ xs ∈ Ls, eachB n xs = true) (o2 : ∀ xs ∈ Rs, eachB n xs = true) (W : WishOK n (sd Ls) (sd Rs)) :
    Calls Try.prog 16 #[.agg #[.slice A1 n c1, .slice A2 n c2]] w fun e w' => ∃ a l, e = .returned (.tuple #[.slice (some ⟨a, 0, none⟩) n n, .int .i64 0]) ∧ BestL n (sd Ls) (sd Rs) l ∧ RowC w' a n (fun i => l.getD i (-1)) ∧ w.heap.size ≤ a ∧ Below w.heap.size w w' := by
  have HX := Lib.hid (BoxS.start S1 S2)
  have hk0 := HX.out.k0
  have hk1 := HX.out.k1
  have HC := Lib.hid (fun W (h1 : BoxS w A1 n c1 A2 n c2 Ls Rs W) => wishCheck_any A1 A2 n c1 n c2 Ls Rs W h1.left h1.right)
  rw [hr] at HC
  have HLK := Lib.hid (fun W (h1 : BoxS w A1 n c1 A2 n c2 Ls Rs W) => liking_any A1 A2 n c1 c2 Ls Rs W h1.left h1.right hn o1 o2)
  obtain ⟨C, hC⟩ : ∃ C : Array Value, C = ((List.range 128).map fun j => Value.int .i64 (bothF (dgF Ls) (dgF Rs) j)).toArray := ⟨_, rfl⟩
  have hCV : rowV 128 (bothF (dgF Ls) (dgF Rs)) = .agg C := by rw [hC]; rfl
  rw [hCV] at HLK
  obtain ⟨Z, hZ⟩ : ∃ Z : Array Value, Z = ((List.range 128).map fun _ => Value.int .i64 0).toArray := ⟨_, rfl⟩
  have hz : ∀ w, (zeroValue 57).run Try.prog w = .ok (.agg Z) w := by rw [hZ]; exact zero57
  have HCI : Hid ((Try.prog.info? 57).map (·.size) = some C.size ∧ Z.size = C.size ∧ C.all (·.oneCell') = true) := Lib.hid (by rw [hC, hZ]; exact ⟨by kernel_rfl, by simp, by simp [Value.oneCell']⟩)
  have HCC := Lib.hid hC
  have HW := Lib.hid W
  clear S1 S2 hr o1 o2 hC hCV hZ W
  go_enter Try.func16, Try.ntmps16
  go_wp2_with fail
  refine (HC.out _ (by exact HX.out)).mono ?_
  rintro e w1 ⟨rfl, hb1⟩
  have HX1 := Lib.hid (HX.out.next hb1)
  have l0 := HX1.out.k0
  have l1 := HX1.out.k1
  clear hb1 hk0 hk1 HC HX
  go_wp2_with fail
  refine (HLK.out _ (by exact HX1.out)).mono ?_
  rintro e w2 ⟨rfl, hb2⟩
  have HX2 := Lib.hid (HX1.out.next hb2)
  have k0 := HX2.out.k0
  have k1 := HX2.out.k1
  clear hb2 l0 l1 HLK HX1
  have hlt := HX2.out.lt
  go_wp2_with (refine wpList_store_row rfl 57 _ _ rfl w2.heap.size C rfl rfl 57 Z (heap_alloc_last w2 _) HCI.out.1 HCI.out.2.1 HCI.out.2.2 ?_; rw [World.setRow_alloc_new])
  have HX3 := Lib.hid (HX2.out.next ((Below.refl _ w2).alloc (Nat.le_refl _) (.cells C 57)))
  have HT : Hid (RowT (w2.alloc (.cells C 57)) w2.heap.size 57 128 (bothF (dgF Ls) (dgF Rs))) := Lib.hid (by rw [HCC.out]; exact (MapKept.heap_alloc w2 _).1)
  refine (firstPairing_any A1 n c1 w2.heap.size Ls Rs _ (by exact HW.out) hn (by exact HX3.out.left) (by exact (degs_of_row HT.out).2) (by simp)).mono ?_
  rintro e w4 ⟨a, b, l, rfl, hB, hC4, hb4⟩
  have HE : Hid (BestL n (sd Ls) (sd Rs) l ∧ RowC w4 a n (fun i => l.getD i (-1)) ∧ w.heap.size ≤ a ∧ Below w.heap.size w w4) := Lib.hid (by
    have h5 := HX3.out.below.size
    exact ⟨hB, hC4.left, Nat.le_trans h5 hC4.ba, HX3.out.below.trans (hb4.mono h5)⟩)
  clear hB hC4 hb4
  go_wp2_with fail
  rw [field50, Result.andThen_ok, Oper.upon_value]
  go_wp2_with fail
  go_ret2
  exact ⟨a, l, rfl, HE.out⟩
end Go.Proofs.Ytlndghclkcfedaa
