/- math/bits.Mul of small numbers; slices.Repeat of one number. wish.noPairs, join, part: whom each one has on the other side. -/
import Derived.Test.YtmelgnfhocofiaaMat
import Derived.Laws.CopyRow
import Derived.Laws.CopyOwn
import Derived.Lib.SlBuf
import Derived.OwnWalk
import Derived.Deep.RegionLaw
namespace Go.Proofs.Ytmelgnfhocofiaa
open Go.RowKit

/-- A block that was made behind another one holds what it was made with. -/
theorem two_cell0 (w : World) (o : Obj) (cs : Array Value) (t : TypeId) (j : Nat) : ((w.alloc o).alloc (.cells cs t)).cell? ⟨w.heap.size + 1, j, none⟩ = cs[j]? := by
  have h := (MapKept.heap_alloc (w.alloc o) (.cells cs t)).1
  rw [show (w.alloc o).heap.size = w.heap.size + 1 by simp] at h
  exact cell_of_row _ _ j cs t (0, 0) h
theorem two_below0 (w : World) (o o' : Obj) : Below w.heap.size w ((w.alloc o).alloc o') := ((Below.refl _ _).alloc (Nat.le_refl _) _).alloc (by simp) _
theorem two_size0 (w : World) (o o' : Obj) : ((w.alloc o).alloc o').heap.size = w.heap.size + 2 := by simp
set_option maxRecDepth 100000 in
set_option maxHeartbeats 1000000 in
theorem mul_any (n : Nat) (w : World) (hn : n ≤ 8) :
    Calls Try.prog 50 #[.int .u64 1, .int .u64 (n : Int)] w fun e w' => e = .returned (.tuple #[.int .u64 0, .int .u64 (n : Int)]) ∧ w' = w := by
  rcases (show n = 0 ∨ n = 1 ∨ n = 2 ∨ n = 3 ∨ n = 4 ∨ n = 5 ∨ n = 6 ∨ n = 7 ∨ n = 8 by omega) with rfl | rfl | rfl | rfl | rfl | rfl | rfl | rfl | rfl
  all_goals
    go_enter Try.func50, Try.ntmps50
    go_wp2
    go_ret2
    exact ⟨rfl, rfl⟩

/-- The first k of a block of n are -1. -/
def FillTo (w : World) (g n k : Nat) : Prop := ∃ cur : Array Value, w.heap[g]? = some (.cells cur 3 (0, 0)) ∧ cur.size = n ∧ ∀ j, j < k → cur[j]? = some (.int .i64 (-1))
theorem FillTo.row {w : World} {g n : Nat} (h : FillTo w g n n) : RowC w g n (fun _ => -1) := by
  obtain ⟨cur, h1, _, h3⟩ := h
  exact ⟨cur, h1, h3⟩
set_option maxRecDepth 100000 in
theorem fill_more {w : World} {g n k m : Nat} {cur : Array Value} (h1 : w.heap[g]? = some (.cells cur 3 (0, 0))) (h2 : cur.size = n) (h3 : ∀ j, j < k → cur[j]? = some (.int .i64 (-1))) (hm : k + m ≤ n) :
    FillTo (w.setRow g (cur.toList.take k ++ List.replicate m (Value.int .i64 (-1)) ++ cur.toList.drop (k + m)).toArray) g n (k + m) := by
  refine ⟨_, setRow_heap w g cur _ _ _ h1, by simp; omega, fun j hj => ?_⟩
  simp only [List.getElem?_toArray, List.append_assoc]
  rcases Nat.lt_or_ge j k with h | h
  · rw [List.getElem?_append_left (by simp; omega), List.getElem?_take, if_pos h]
    simpa using h3 j h
  · rw [List.getElem?_append_right (by simp; omega), List.getElem?_append_left (by simp; omega), List.getElem?_replicate, if_pos (by simp; omega)]

set_option maxRecDepth 100000 in
set_option maxHeartbeats 2000000 in
theorem repeat_any (b n : Nat) (w : World) (hc : w.cell? ⟨b, 0, none⟩ = some (.int .i64 (-1))) (hb : b < w.heap.size) (hn : n ≤ 8) :
    Calls Try.prog 45 #[.slice (some ⟨b, 0, none⟩) 1 1, .int .i64 (n : Int)] w fun e w' => ∃ g, e = .returned (.slice (some ⟨g, 0, none⟩) n n) ∧ w.heap.size ≤ g ∧ RowC w' g n (fun _ => -1) ∧ Below w.heap.size w w' := by
  have hmk := fun W => run_make_row' (P := Try.prog) 28 3 (.int .i64 0) 8 Try.underlying28 (by kernel_rfl) rfl .i64 .i64 n (by omega) (by omega) W
  have n0 : ¬ ((n : Int) < 0) := by omega
  have n1 : (n : Int) % 18446744073709551616 = (n : Int) := by omega
  have n2 : decide (9223372036854775807 < (n : Int)) = false := by simp; omega
  go_enter Try.func45, Try.ntmps45
  have HW : Hid (∃ (x : Int) (w2 : World), (Builtin.copy_ #[28, 28] 3 #[.slice (some ⟨w.heap.size, 0, none⟩) n n, .slice (some ⟨b, 0, none⟩) 1 1]).run Try.prog (w.alloc (.cells (madeCells #[Value.int .i64 0] n) 3)) = .ok (.int .i64 x) w2 ∧ ∃ m : Nat, x = (m : Int) ∧ m ≤ n ∧ (0 < n → 0 < m) ∧ FillTo w2 w.heap.size n m ∧ Below w.heap.size w w2) := Lib.hid (by
    have hg : (w.alloc (.cells (madeCells #[Value.int .i64 0] n) 3)).heap[w.heap.size]? = some (.cells (madeCells #[Value.int .i64 0] n) 3 (0, 0)) := (MapKept.heap_alloc w _).1
    have hB : Below w.heap.size w (w.alloc (.cells (madeCells #[Value.int .i64 0] n) 3)) := (Below.refl _ _).alloc (Nat.le_refl _) _
    rcases Nat.eq_zero_or_pos n with rfl | hp
    · exact ⟨0, _, run_copy_none _ _ _ _ 3 _ _ _ _ _ _ Try.underlying28 (by kernel_rfl) rfl, 0, rfl, Nat.le_refl _, fun h => absurd h (by omega), ⟨_, hg, by simp [size_madeCells], fun j hj => absurd hj (by omega)⟩, hB⟩
    · have hr := run_copy_row (P := Try.prog) (w.alloc (.cells (madeCells #[Value.int .i64 0] n) 3)) 28 28 3 3 w.heap.size 0 n n ⟨b, 0, none⟩ 1 1 _ 3 [.int .i64 (-1)] Try.underlying28 (by kernel_rfl) hg (by show 1 = min 1 n; omega)
        (fun j v hj => by
          have hj0 : j = 0 := by have := (List.getElem?_eq_some_iff.1 hj).1; simpa using this
          subst hj0
          simp only [List.getElem?_cons_zero, Option.some.injEq] at hj
          subst hj
          have hadd : (⟨b, 0, none⟩ : Addr).add 0 = ⟨b, 0, none⟩ := by unfold Addr.add; split <;> simp_all
          rw [hadd]
          exact (World.cell?_alloc_lt _ _ _ hb).trans hc) (by simp [size_madeCells]; omega) (by simp [Value.oneCell'])
      refine ⟨1, _, hr, 1, rfl, by omega, fun _ => by omega, ?_, below_setRow hB (Nat.le_refl _) _⟩
      exact fill_more (m := 1) hg (by simp [size_madeCells]) (fun j hj => absurd hj (by omega)) (by omega))
  go_wp2_with (go_at_call 50; refine (mul_any n _ hn).mono ?_; rintro e w1 ⟨rfl, rfl⟩)
  obtain ⟨x, w2, hr, m, rfl, hm, hm0, hF, hB⟩ := HW.out
  rw [hr, Result.andThen_ok, Oper.upon_value]
  have HS := Lib.hid (And.intro hF hB)
  have HP := Lib.hid hm0
  clear HW hr hF hB hm0 hmk
  go_wp2
  go_loopw [8] (fun k wr => ∃ m : Nat, m ≤ n ∧ k = .int .i64 m ∧ Hid ((0 < n → 0 < m) ∧ FillTo wr w1.heap.size n m ∧ Below w1.heap.size w1 wr)) (fun k _ => n - (intOf k).toNat)
  case atStart => exact ⟨m, hm, rfl, Lib.hid ⟨HP.out, HS.out⟩⟩
  case round =>
    clear HS HP hm
    obtain ⟨m, hm, rfl, HR⟩ := hrel
    by_cases hlt : m < n
    · go_wp2
      have HC : Hid (∃ (x : Nat) (w3 : World), 0 < x ∧ m + x ≤ n ∧ FillTo w3 w1.heap.size n (m + x) ∧ Below w1.heap.size w1 w3 ∧ ∀ ty, (Builtin.copy_ #[28, 28] ty #[.slice (some ⟨w1.heap.size, m, none⟩) (n - m) (n - m), .slice (some ⟨w1.heap.size, 0, none⟩) m n]).run Try.prog wr.drew = .ok (.int .i64 (x : Int)) w3) := Lib.hid (by
        obtain ⟨cur, h1, h2, h3⟩ := HR.out.2.1
        have h0 := HR.out.1 (by omega)
        refine ⟨min m (n - m), _, by omega, by omega, fill_more (w := wr.drew) h1 h2 h3 (by omega), below_setRow HR.out.2.2.drew (Nat.le_refl _) _, fun ty => ?_⟩
        have hr := run_copy_row (P := Try.prog) wr.drew 28 28 ty 3 w1.heap.size m (n - m) (n - m) ⟨w1.heap.size, 0, none⟩ m n cur 3 (List.replicate (min m (n - m)) (.int .i64 (-1))) Try.underlying28 (by kernel_rfl) h1 (by simp)
          (fun j v hj => by
            obtain ⟨hj1, hj2⟩ := List.getElem?_eq_some_iff.1 hj
            rw [List.length_replicate] at hj1
            rw [List.getElem_replicate] at hj2
            subst hj2
            have hadd : (⟨w1.heap.size, 0, none⟩ : Addr).add j = ⟨w1.heap.size, j, none⟩ := by unfold Addr.add; split <;> simp_all
            rw [hadd, cell_of_row wr.drew _ j cur _ (0, 0) h1]
            exact h3 j (by omega)) (by simp; omega) (fun v hv => by rw [List.eq_of_mem_replicate hv]; rfl)
        rw [List.length_replicate] at hr
        exact hr)
      have hm0 : (0 : Int) ≤ (m : Int) := by omega
      obtain ⟨x, w3, hx0, hx1, hF3, hB3, hr3⟩ := HC.out
      have HS3 : Hid ((0 < n → 0 < m + x) ∧ FillTo w3 w1.heap.size n (m + x) ∧ Below w1.heap.size w1 w3) := Lib.hid ⟨fun _ => by omega, hF3, hB3⟩
      have hw : wrap64 ((m : Int) + (x : Int)) = (m : Int) + (x : Int) := by unfold wrap64; omega
      have HR3 := Lib.hid hr3
      clear HC HR hF3 hB3 hr3
      have hnm : ¬ (n = m) := by omega
      have hrr := HR3.out 3
      clear HR3
      go_region
      go_wp2
      go_roundw
      case rel => exact ⟨m + x, hx1, by go_num, HS3⟩
      case measure => simp [intOf]; omega
    · obtain rfl : m = n := by omega
      go_wp2
      go_ret
      exact ⟨_, rfl, Nat.le_refl _, HR.out.2.1.row, HR.out.2.2⟩
end Go.Proofs.Ytmelgnfhocofiaa
namespace Go.Proofs.Ytmelgnfhocofiaa
open Go.RowKit

/-- Only two blocks were written, of those that there were. -/
structure Only (a b : Nat) (w w' : World) : Prop where
  low : Below 0 w w'
  block : ∀ k, k < w.heap.size → k ≠ a → k ≠ b → w'.heap[k]? = w.heap[k]?
section
variable {a b B : Nat} {w w' w2 : World}
theorem Only.refl (a b : Nat) (w : World) : Only a b w w := ⟨Below.refl _ _, fun _ _ _ _ => rfl⟩
theorem Only.trans (h : Only a b w w') (h2 : Only a b w' w2) : Only a b w w2 :=
  ⟨h.low.trans h2.low, fun k hk h3 h4 => (h2.block k (Nat.lt_of_lt_of_le hk h.low.size) h3 h4).trans (h.block k hk h3 h4)⟩
theorem Only.below (h : Only a b w w') (ha : B ≤ a) (hb : B ≤ b) (hB : B ≤ w.heap.size) : Below B w w' :=
  ⟨h.low.os, h.low.tape, h.low.output, h.low.size, fun k hk => h.block k (by omega) (by omega) (by omega)⟩
theorem Only.of_below (h : Below w.heap.size w w') : Only a b w w' := ⟨h.mono (Nat.zero_le _), fun k hk _ _ => h.block k hk⟩
theorem Only.set_ (h : Only a b w w') {p : Addr} (hp : p.block = a ∨ p.block = b) (v : Value) : Only a b w (w'.setCell p v) :=
  ⟨h.low.setCell (Nat.zero_le _) v, fun k hk h3 h4 => (Below.heap_setCell w' p v k (by omega)).trans (h.block k hk h3 h4)⟩
theorem Only.drew (h : Only a b w w') : Only a b w w'.drew := ⟨h.low.drew, h.block⟩
theorem Only.row {g n : Nat} {f : Nat → Int} (h : Only a b w w') (hr : RowC w g n f) (h3 : g ≠ a) (h4 : g ≠ b) : RowC w' g n f := hr.of_block (h.block g hr.lt h3 h4)
end
/-- Two blocks of n: whom those on the left have, and those on the right. -/
structure Couples (w : World) (B n a b : Nat) (f h : Nat → Int) : Prop where
  ba : B ≤ a
  bb : B ≤ b
  ne : a ≠ b
  left : RowC w a n f
  right : RowC w b n h
section
variable {B n a b : Nat} {f h : Nat → Int} {w w' : World}
theorem Couples.keep (H : Couples w B n a b f h) (hb : Below w.heap.size w w') : Couples w' B n a b f h :=
  ⟨H.ba, H.bb, H.ne, H.left.of_block (hb.block _ H.left.lt), H.right.of_block (hb.block _ H.right.lt)⟩
theorem Couples.drew (H : Couples w B n a b f h) : Couples w.drew B n a b f h := ⟨H.ba, H.bb, H.ne, H.left.drew, H.right.drew⟩
theorem Couples.setL (H : Couples w B n a b f h) (j : Nat) (x : Int) : Couples (w.setCell ⟨a, j, none⟩ (.int .i64 x)) B n a b (updF f j x) h :=
  ⟨H.ba, H.bb, H.ne, H.left.set_ j x, H.right.of_block (Below.heap_setCell w _ _ _ (Ne.symm H.ne))⟩
theorem Couples.setR (H : Couples w B n a b f h) (j : Nat) (x : Int) : Couples (w.setCell ⟨b, j, none⟩ (.int .i64 x)) B n a b f (updF h j x) :=
  ⟨H.ba, H.bb, H.ne, H.left.of_block (Below.heap_setCell w _ _ _ H.ne), H.right.set_ j x⟩
theorem Couples.congr {f' h' : Nat → Int} (H : Couples w B n a b f h) (e1 : ∀ j, j < n → f j = f' j) (e2 : ∀ j, j < n → h j = h' j) : Couples w B n a b f' h' :=
  ⟨H.ba, H.bb, H.ne, H.left.congr e1, H.right.congr e2⟩
theorem Couples.far (H : Couples w B n a b f h) {p : Addr} (h1 : a ≠ p.block) (h2 : b ≠ p.block) (v : Value) : Couples (w.setCell p v) B n a b f h :=
  ⟨H.ba, H.bb, H.ne, H.left.of_block (Below.heap_setCell w p v _ h1), H.right.of_block (Below.heap_setCell w p v _ h2)⟩
end
/-- The value of two rows. -/
def coupV (n a b : Nat) : Value := .agg #[.slice (some ⟨a, 0, none⟩) n n, .slice (some ⟨b, 0, none⟩) n n]

theorem cell_new0 (w : World) (v : Value) (t : TypeId) : (w.alloc (.cells #[v] t)).cell? ⟨w.heap.size, 0, none⟩ = some v :=
  cell_of_row _ _ 0 #[v] t (0, 0) (MapKept.heap_alloc w (.cells #[v] t)).1
set_option maxRecDepth 100000 in
set_option maxHeartbeats 2000000 in
theorem noPairs_any (n : Nat) (w : World) (hn : n ≤ 8) :
    Calls Try.prog 31 #[.int .i64 (n : Int)] w fun e w' => ∃ a b, e = .returned (.agg #[.slice (some ⟨a, 0, none⟩) n n, .slice (some ⟨b, 0, none⟩) n n]) ∧ Couples w' w.heap.size n a b (fun _ => -1) (fun _ => -1) ∧ Below w.heap.size w w' := by
  go_enter Try.func31, Try.ntmps31
  go_wp2_with fail
  refine (repeat_any (w.heap.size + 1) n _ (two_cell0 ..) (by rw [two_size0]; omega) hn).mono ?_
  rintro e w1 ⟨g1, rfl, hg1, hr1, hb1⟩
  have hs1 : w.heap.size + 2 ≤ w1.heap.size := by have := hb1.size; rw [two_size0] at this; exact this
  have hr0 : RowOf w1 w.heap.size 51 [.slice none 0 0, .slice none 0 0] := by
    refine RowOf.below ?_ hb1 (by simp; omega)
    exact (show RowOf (w.alloc (.cells #[.slice none 0 0, .slice none 0 0] 51)) w.heap.size 51 [.slice none 0 0, .slice none 0 0] from (MapKept.heap_alloc w _).1).alloc _
  have hB1 : Below w.heap.size w w1 := (two_below0 ..).trans (hb1.mono (by simp; omega))
  have H1 : Hid (RowC w1 g1 n (fun _ => -1) ∧ RowOf w1 w.heap.size 51 [.slice none 0 0, .slice none 0 0] ∧ Below w.heap.size w w1 ∧ w.heap.size < g1 ∧ w.heap.size + 2 ≤ w1.heap.size) := Lib.hid ⟨hr1, hr0, hB1, by rw [two_size0] at hg1; omega, hs1⟩
  clear hr1 hb1 hg1 hs1 hr0 hB1
  go_wp2_with fail
  refine (repeat_any w1.heap.size n _ (cell_new0 ..) (by simp) hn).mono ?_
  rintro e w2 ⟨g2, rfl, hg2, hr2, hb2⟩
  have hb2' : Below w1.heap.size w1 w2 := ((Below.refl _ _).alloc (Nat.le_refl _) _).trans (hb2.mono (by simp))
  have hr0 := H1.out.2.1.below hb2' (by have := H1.out.2.2.2.2; omega)
  have H2 : Hid (Couples w2 w.heap.size n g1 g2 (fun _ => -1) (fun _ => -1) ∧ w.heap.size < g1 ∧ w.heap.size < g2 ∧ Below w.heap.size w w2) := Lib.hid (by
    obtain ⟨a1, _, a3, a4, a5⟩ := H1.out
    have hl := a1.lt
    have hg : w1.heap.size < g2 := by simp at hg2; omega
    exact ⟨⟨by omega, by omega, by omega, a1.of_block (hb2'.block _ hl), hr2⟩, a4, by omega, a3.trans (hb2'.mono (by omega))⟩)
  have c0 := hr0.cell (i := 0) rfl
  have c1 := hr0.cell (i := 1) rfl
  have f0 := hr0.frozen 0
  have f1 := hr0.frozen 1
  clear hr2 hb2 hg2 hb2' H1
  have HF : Hid (RowOf ((w2.setCell ⟨w.heap.size, 0, none⟩ (.slice (some ⟨g1, 0, none⟩) n n)).setCell ⟨w.heap.size, 1, none⟩ (.slice (some ⟨g2, 0, none⟩) n n)) w.heap.size 51 [.slice (some ⟨g1, 0, none⟩) n n, .slice (some ⟨g2, 0, none⟩) n n] ∧ Couples ((w2.setCell ⟨w.heap.size, 0, none⟩ (.slice (some ⟨g1, 0, none⟩) n n)).setCell ⟨w.heap.size, 1, none⟩ (.slice (some ⟨g2, 0, none⟩) n n)) w.heap.size n g1 g2 (fun _ => -1) (fun _ => -1) ∧ Below w.heap.size w ((w2.setCell ⟨w.heap.size, 0, none⟩ (.slice (some ⟨g1, 0, none⟩) n n)).setCell ⟨w.heap.size, 1, none⟩ (.slice (some ⟨g2, 0, none⟩) n n))) := Lib.hid (by
    obtain ⟨a1, a2, a3, a4⟩ := H2.out
    exact ⟨(hr0.set_ 0 _).set_ 1 _, (a1.far (p := ⟨w.heap.size, 0, none⟩) (by show g1 ≠ w.heap.size; omega) (by show g2 ≠ w.heap.size; omega) _).far (p := ⟨w.heap.size, 1, none⟩) (by show g1 ≠ w.heap.size; omega) (by show g2 ≠ w.heap.size; omega) _, (a4.setCell (p := ⟨w.heap.size, 0, none⟩) (Nat.le_refl _) _).setCell (p := ⟨w.heap.size, 1, none⟩) (Nat.le_refl _) _⟩)
  clear H2 hr0
  go_wp2_with fail
  generalize ((w2.setCell ⟨w.heap.size, 0, none⟩ (.slice (some ⟨g1, 0, none⟩) n n)).setCell ⟨w.heap.size, 1, none⟩ (.slice (some ⟨g2, 0, none⟩) n n)) = W at HF ⊢
  have d0 := HF.out.1.cell (i := 0) rfl
  have d1 := HF.out.1.cell (i := 1) rfl
  refine bodyPost_ret (v := coupV n g1 g2) (by simp [coupV, results, Try.results31, go_sem, d0, d1]) rfl ⟨g1, g2, rfl, HF.out.2⟩

/-- A row of numbers with another one for a number of it, if it is one of it. -/
def updJ (h : Nat → Int) (r v : Int) : Nat → Int := fun j => if (j : Int) = r then v else h j
theorem updJ_at (h : Nat → Int) (k : Nat) (v : Int) : updJ h (k : Int) v = updF h k v := by
  funext j
  unfold updJ updF
  by_cases hj : j = k
  · rw [if_pos hj, if_pos (by omega)]
  · rw [if_neg hj, if_neg (by omega)]

set_option maxRecDepth 100000 in
set_option maxHeartbeats 2000000 in
theorem join_any (B n a b i : Nat) (r : Int) (f h : Nat → Int) (w : World) (HC : Couples w B n a b f h) (hi : i < n) (hr : r = -1 ∨ (0 ≤ r ∧ r < (n : Int))) :
    Calls Try.prog 32 #[.agg #[.slice (some ⟨a, 0, none⟩) n n, .slice (some ⟨b, 0, none⟩) n n], .int .i64 (i : Int), .int .i64 r] w fun e w' => e = .returned (.tuple #[]) ∧ Couples w' B n a b (updF f i r) (updJ h r (i : Int)) ∧ Only a b w w' := by
  have c0 := HC.left.cell hi
  have f0 := HC.left.frozen i
  have hal := HC.left.lt
  have hbl := HC.right.lt
  have han : a ≠ w.heap.size := by omega
  have hbn : b ≠ w.heap.size := by omega
  have hi0 : (i : Int) < (n : Int) := by omega
  have HC' := Lib.hid HC
  clear HC
  rcases hr with rfl | ⟨h0, h1⟩
  · go_enter Try.func32, Try.ntmps32
    go_wp2
    go_end0
    refine ⟨rfl, ?_, ?_⟩
    · exact ((HC'.out.setL i (-1)).keep ((Below.refl _ _).alloc (Nat.le_refl _) _)).congr (fun _ _ => rfl) fun j _ => by unfold updJ; rw [if_neg (by omega)]
    · exact ((Only.refl a b w).set_ (p := ⟨a, i, none⟩) (.inl rfl) _).trans (Only.of_below ((Below.refl _ _).alloc (Nat.le_refl _) _))
  · obtain ⟨k, rfl⟩ := Int.eq_ofNat_of_zero_le h0
    have hk : k < n := by omega
    have c1 := (HC'.out.setL i (k : Int)).right.cell hk
    have f1 := (HC'.out.setL i (k : Int)).right.frozen k
    have hk1 : ((k : Int) != -1) = true := by simp
    go_enter Try.func32, Try.ntmps32
    go_wp2
    go_end0
    refine ⟨rfl, ?_, ?_⟩
    · exact (((HC'.out.setL i (k : Int)).setR k (i : Int)).keep ((Below.refl _ _).alloc (Nat.le_refl _) _)).congr (fun _ _ => rfl) fun j _ => by rw [updJ_at]
    · exact (((Only.refl a b w).set_ (p := ⟨a, i, none⟩) (.inl rfl) _).set_ (p := ⟨b, k, none⟩) (.inr rfl) _).trans (Only.of_below ((Below.refl _ _).alloc (Nat.le_refl _) _))

set_option maxRecDepth 100000 in
set_option maxHeartbeats 2000000 in
theorem part_any (B n a b i : Nat) (r : Int) (f h : Nat → Int) (w : World) (HC : Couples w B n a b f h) (hi : i < n) (hf : f i = r) (hr : r = -1 ∨ (0 ≤ r ∧ r < (n : Int))) :
    Calls Try.prog 40 #[.agg #[.slice (some ⟨a, 0, none⟩) n n, .slice (some ⟨b, 0, none⟩) n n], .int .i64 (i : Int)] w fun e w' => e = .returned (.tuple #[]) ∧ Couples w' B n a b (updF f i (-1)) (updJ h r (-1)) ∧ Only a b w w' := by
  have c0 := HC.left.cell hi
  have f0 := HC.left.frozen i
  have hal := HC.left.lt
  have hbl := HC.right.lt
  have han : a ≠ w.heap.size := by omega
  have hbn : b ≠ w.heap.size := by omega
  have hi0 : (i : Int) < (n : Int) := by omega
  have HC' := Lib.hid HC
  rw [hf] at c0
  clear HC hf
  rcases hr with rfl | ⟨h0, h1⟩
  · go_enter Try.func40, Try.ntmps40
    go_wp2
    go_end0
    refine ⟨rfl, ?_, ?_⟩
    · exact ((HC'.out.setL i (-1)).keep ((Below.refl _ _).alloc (Nat.le_refl _) _)).congr (fun _ _ => rfl) fun j _ => by unfold updJ; rw [if_neg (by omega)]
    · exact ((Only.refl a b w).set_ (p := ⟨a, i, none⟩) (.inl rfl) _).trans (Only.of_below ((Below.refl _ _).alloc (Nat.le_refl _) _))
  · obtain ⟨k, rfl⟩ := Int.eq_ofNat_of_zero_le h0
    have hk : k < n := by omega
    have c1 := HC'.out.right.cell hk
    have f1 := HC'.out.right.frozen k
    have c2 := (HC'.out.setR k (-1)).left.cell hi
    have f2 := (HC'.out.setR k (-1)).left.frozen i
    have hk1 : ((k : Int) != -1) = true := by simp
    go_enter Try.func40, Try.ntmps40
    go_wp2
    go_end0
    refine ⟨rfl, ?_, ?_⟩
    · exact (((HC'.out.setR k (-1)).setL i (-1)).keep ((Below.refl _ _).alloc (Nat.le_refl _) _)).congr (fun _ _ => rfl) fun j _ => by rw [updJ_at]
    · exact (((Only.refl a b w).set_ (p := ⟨b, k, none⟩) (.inr rfl) _).set_ (p := ⟨a, i, none⟩) (.inl rfl) _).trans (Only.of_below ((Below.refl _ _).alloc (Nat.le_refl _) _))
end Go.Proofs.Ytmelgnfhocofiaa
