/- math/bits.Mul of small numbers; slices.Repeat of any one number. No conditions but that they are few. -/
import Derived.Test.YthjhndbhebnmjaaMatQ
import Derived.Laws.IdiomCopy
import Derived.Lib.AppendZeros
import Derived.RegionTactic
import Derived.IntWalk
import Derived.Laws.CopyRow
import Derived.Laws.CopyOwn
import Derived.Lib.SlBuf
import Derived.OwnWalk
import Derived.Deep.RegionLaw
import Derived.Deep.OwnRows
namespace Go.Proofs.Ythjhndbhebnmjaa
open Go.RowKit

set_option maxRecDepth 100000 in
set_option maxHeartbeats 1000000 in
theorem mulZ_any (n : Nat) (w : World) (hn : n ≤ 10) :
    Calls Try.prog 30 #[.int .u64 1, .int .u64 (n : Int)] w fun e w' => e = .returned (.tuple #[.int .u64 0, .int .u64 (n : Int)]) ∧ w' = w := by
  rcases (show n = 0 ∨ n = 1 ∨ n = 2 ∨ n = 3 ∨ n = 4 ∨ n = 5 ∨ n = 6 ∨ n = 7 ∨ n = 8 ∨ n = 9 ∨ n = 10 by omega) with rfl | rfl | rfl | rfl | rfl | rfl | rfl | rfl | rfl | rfl | rfl
  all_goals
    go_enter Try.func30, Try.ntmps30
    go_wp2
    go_ret2
    exact ⟨rfl, rfl⟩

/-- The first k of a block of n are one number. -/
def FillZ (z : Int) (w : World) (g n k : Nat) : Prop := ∃ cur : Array Value, w.heap[g]? = some (.cells cur 2 (0, 0)) ∧ cur.size = n ∧ ∀ j, j < k → cur[j]? = some (.int .i64 z)
theorem FillZ.row {z : Int} {w : World} {g n : Nat} (h : FillZ z w g n n) : RowQ w g n (fun _ => z) := by
  obtain ⟨cur, h1, _, h3⟩ := h
  exact ⟨cur, h1, h3⟩
set_option maxRecDepth 100000 in
theorem fillZ_more {z : Int} {w : World} {g n k m : Nat} {cur : Array Value} (h1 : w.heap[g]? = some (.cells cur 2 (0, 0))) (h2 : cur.size = n) (h3 : ∀ j, j < k → cur[j]? = some (.int .i64 z)) (hm : k + m ≤ n) :
    FillZ z (w.setRow g (cur.toList.take k ++ List.replicate m (Value.int .i64 z) ++ cur.toList.drop (k + m)).toArray) g n (k + m) := by
  refine ⟨_, setRow_heap w g cur _ _ _ h1, by simp; omega, fun j hj => ?_⟩
  simp only [List.getElem?_toArray, List.append_assoc]
  rcases Nat.lt_or_ge j k with h | h
  · rw [List.getElem?_append_left (by simp; omega), List.getElem?_take, if_pos h]
    simpa using h3 j h
  · rw [List.getElem?_append_right (by simp; omega), List.getElem?_append_left (by simp; omega), List.getElem?_replicate, if_pos (by simp; omega)]

set_option maxRecDepth 100000 in
set_option maxHeartbeats 2000000 in
theorem repeatZ_any (b n : Nat) (z : Int) (w : World) (hc : w.cell? ⟨b, 0, none⟩ = some (.int .i64 z)) (hb : b < w.heap.size) (hn : n ≤ 10) :
    Calls Try.prog 24 #[.slice (some ⟨b, 0, none⟩) 1 1, .int .i64 (n : Int)] w fun e w' => ∃ g, e = .returned (.slice (some ⟨g, 0, none⟩) n n) ∧ w.heap.size ≤ g ∧ RowQ w' g n (fun _ => z) ∧ Below w.heap.size w w' := by
  have hmk := fun W => run_make_row' (P := Try.prog) 32 2 (.int .i64 0) 8 Try.underlying32 (by kernel_rfl) rfl .i64 .i64 n (by omega) (by omega) W
  have n0 : ¬ ((n : Int) < 0) := by omega
  have n1 : (n : Int) % 18446744073709551616 = (n : Int) := by omega
  have n2 : decide (9223372036854775807 < (n : Int)) = false := by simp; omega
  go_enter Try.func24, Try.ntmps24
  have HW : Hid (∃ (x : Int) (w2 : World), (Builtin.copy_ #[32, 32] 3 #[.slice (some ⟨w.heap.size, 0, none⟩) n n, .slice (some ⟨b, 0, none⟩) 1 1]).run Try.prog (w.alloc (.cells (madeCells #[Value.int .i64 0] n) 2)) = .ok (.int .i64 x) w2 ∧ ∃ m : Nat, x = (m : Int) ∧ m ≤ n ∧ (0 < n → 0 < m) ∧ FillZ z w2 w.heap.size n m ∧ Below w.heap.size w w2) := Lib.hid (by
    have hg : (w.alloc (.cells (madeCells #[Value.int .i64 0] n) 2)).heap[w.heap.size]? = some (.cells (madeCells #[Value.int .i64 0] n) 2 (0, 0)) := (MapKept.heap_alloc w _).1
    have hB : Below w.heap.size w (w.alloc (.cells (madeCells #[Value.int .i64 0] n) 2)) := (Below.refl _ _).alloc (Nat.le_refl _) _
    rcases Nat.eq_zero_or_pos n with rfl | hp
    · exact ⟨0, _, run_copy_none _ _ _ _ 2 _ _ _ _ _ _ Try.underlying32 (by kernel_rfl) rfl, 0, rfl, Nat.le_refl _, fun h => absurd h (by omega), ⟨_, hg, by simp [size_madeCells], fun j hj => absurd hj (by omega)⟩, hB⟩
    · have hr := run_copy_row (P := Try.prog) (w.alloc (.cells (madeCells #[Value.int .i64 0] n) 2)) 32 32 3 2 w.heap.size 0 n n ⟨b, 0, none⟩ 1 1 _ 2 [.int .i64 z] Try.underlying32 (by kernel_rfl) hg (by show 1 = min 1 n; omega)
        (fun j v hj => by
          have hj0 : j = 0 := by have := (List.getElem?_eq_some_iff.1 hj).1; simpa using this
          subst hj0
          simp only [List.getElem?_cons_zero, Option.some.injEq] at hj
          subst hj
          have hadd : (⟨b, 0, none⟩ : Addr).add 0 = ⟨b, 0, none⟩ := by unfold Addr.add; split <;> simp_all
          rw [hadd]
          exact (World.cell?_alloc_lt _ _ _ hb).trans hc) (by simp [size_madeCells]; omega) (by simp [Value.oneCell'])
      refine ⟨1, _, hr, 1, rfl, by omega, fun _ => by omega, ?_, below_setRow hB (Nat.le_refl _) _⟩
      exact fillZ_more (m := 1) hg (by simp [size_madeCells]) (fun j hj => absurd hj (by omega)) (by omega))
  go_wp2_with (go_at_call 30; refine (mulZ_any n _ hn).mono ?_; rintro e w1 ⟨rfl, rfl⟩)
  obtain ⟨x, w2, hr, m, rfl, hm, hm0, hF, hB⟩ := HW.out
  rw [hr, Result.andThen_ok, Oper.upon_value]
  have HS := Lib.hid (And.intro hF hB)
  have HP := Lib.hid hm0
  clear HW hr hF hB hm0 hmk
  go_wp2
  go_loopw [8] (fun k wr => ∃ m : Nat, m ≤ n ∧ k = .int .i64 m ∧ Hid ((0 < n → 0 < m) ∧ FillZ z wr w1.heap.size n m ∧ Below w1.heap.size w1 wr)) (fun k _ => n - (intOf k).toNat)
  case atStart => exact ⟨m, hm, rfl, Lib.hid ⟨HP.out, HS.out⟩⟩
  case round =>
    clear HS HP hm
    obtain ⟨m, hm, rfl, HR⟩ := hrel
    by_cases hlt : m < n
    · go_wp2
      have HC : Hid (∃ (x : Nat) (w3 : World), 0 < x ∧ m + x ≤ n ∧ FillZ z w3 w1.heap.size n (m + x) ∧ Below w1.heap.size w1 w3 ∧ ∀ ty, (Builtin.copy_ #[32, 32] ty #[.slice (some ⟨w1.heap.size, m, none⟩) (n - m) (n - m), .slice (some ⟨w1.heap.size, 0, none⟩) m n]).run Try.prog wr.drew = .ok (.int .i64 (x : Int)) w3) := Lib.hid (by
        obtain ⟨cur, h1, h2, h3⟩ := HR.out.2.1
        have h0 := HR.out.1 (by omega)
        refine ⟨min m (n - m), _, by omega, by omega, fillZ_more (w := wr.drew) h1 h2 h3 (by omega), below_setRow HR.out.2.2.drew (Nat.le_refl _) _, fun ty => ?_⟩
        have hr := run_copy_row (P := Try.prog) wr.drew 32 32 ty 2 w1.heap.size m (n - m) (n - m) ⟨w1.heap.size, 0, none⟩ m n cur 2 (List.replicate (min m (n - m)) (.int .i64 z)) Try.underlying32 (by kernel_rfl) h1 (by simp)
          (fun j v hj => by
            obtain ⟨hj1, hj2⟩ := List.getElem?_eq_some_iff.1 hj
            rw [List.length_replicate] at hj1
            rw [List.getElem_replicate] at hj2
            subst hj2
            have hadd : (⟨w1.heap.size, 0, none⟩ : Addr).add j = ⟨w1.heap.size, j, none⟩ := by unfold Addr.add; split <;> simp_all
            rw [hadd, cell_of_row wr.drew _ j cur _ (0, 0) h1]
            exact h3 j (by omega)) (by simp; omega) (fun v hv => by rw [List.eq_of_mem_replicate hv]; rfl)
        rw [List.length_replicate] at hr
        exact hr)
      have hm0 : (0 : Int) ≤ (m : Int) := by omega
      obtain ⟨x, w3, hx0, hx1, hF3, hB3, hr3⟩ := HC.out
      have HS3 : Hid ((0 < n → 0 < m + x) ∧ FillZ z w3 w1.heap.size n (m + x) ∧ Below w1.heap.size w1 w3) := Lib.hid ⟨fun _ => by omega, hF3, hB3⟩
      have hw : wrap64 ((m : Int) + (x : Int)) = (m : Int) + (x : Int) := by unfold wrap64; omega
      have HR3 := Lib.hid hr3
      clear HC HR hF3 hB3 hr3
      have hnm : ¬ (n = m) := by omega
      have hrr := HR3.out 3
      clear HR3
      go_region
      go_wp2
      go_roundw
      case rel => exact ⟨m + x, hx1, by go_num, HS3⟩
      case measure => simp [intOf]; omega
    · obtain rfl : m = n := by omega
      go_wp2
      go_ret
      exact ⟨_, rfl, Nat.le_refl _, HR.out.2.1.row, HR.out.2.2⟩
end Go.Proofs.Ythjhndbhebnmjaa
