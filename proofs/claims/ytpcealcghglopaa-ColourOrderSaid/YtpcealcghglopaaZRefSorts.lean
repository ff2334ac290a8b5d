/- The reference's Sorts. Conditions: a graph without fault. -/
import Derived.Test.YtpcealcghglopaaZRefLoose
import Derived.Test.YtpcealcghglopaaZb2
import Derived.Lib.AppendZeros
import Derived.StillTailTactics
import Derived.StillTail
import Derived.IntWalk
namespace Go.Proofs.Ytpcealcghglopaa
open Go.RowKit

theorem diff_sub {s w : Nat} (hs : s < 4294967296) (hw : w < 4294967296) (h : subQ s w = true) : diffW w s = w ^^^ s := by
  apply Nat.eq_of_testBit_eq
  intro i
  rw [diffW_testBit w s i hw hs, sub_bits h]
/-- The first m rows of the table. -/
structure SortW (w : World) (n N : Nat) (A : Option Addr) (len cap : Nat) (T : Nat → Nat → Int) (m : Nat) (wr : World) : Prop where
  below : Below w.heap.size w wr
  box : wr.heap[w.heap.size]? = some (.cells #[.int .i64 n, .slice A len cap] 24 (0, 0))
  top : ∃ (bs : Nat → Nat) (cur : Array Value), wr.heap[w.heap.size + 1]? = some (.cells cur 69 (0, 0)) ∧ (∀ v, v < m → cur[v]? = some (.slice (some ⟨bs v, 0, none⟩) (n + 1) (n + 1))) ∧ (∀ v, v < N → ∃ u, cur[v]? = some u) ∧
    ∀ v, v < m → w.heap.size + 1 < bs v ∧ RowQ wr (bs v) (n + 1) (T v)
section
variable {w wr w2 : World} {n N m : Nat} {A : Option Addr} {len cap : Nat} {T : Nat → Nat → Int}
theorem SortW.lt (h : SortW w n N A len cap T m wr) : w.heap.size + 1 < wr.heap.size := by
  obtain ⟨bs, cur, h1, _⟩ := h.top
  exact (Array.getElem?_eq_some_iff.1 h1).1
theorem SortW.next (h : SortW w n N A len cap T m wr) (hb : Below wr.heap.size wr w2) : SortW w n N A len cap T m w2 := by
  obtain ⟨bs, cur, h1, h2, h3, h4⟩ := h.top
  exact ⟨h.below.trans (hb.mono h.below.size), (hb.block _ (by have := h.lt; omega)).trans h.box, bs, cur, (hb.block _ h.lt).trans h1, h2, h3, fun v hv => ⟨(h4 v hv).1, (h4 v hv).2.of_block (hb.block _ (h4 v hv).2.lt)⟩⟩
theorem SortW.c0 (h : SortW w n N A len cap T m wr) : wr.cell? ⟨w.heap.size, 0, none⟩ = some (.int .i64 n) := by simp [World.cell?, h.box]
theorem SortW.c1 (h : SortW w n N A len cap T m wr) : wr.cell? ⟨w.heap.size, 1, none⟩ = some (.slice A len cap) := by simp [World.cell?, h.box]
theorem SortW.at_ (h : SortW w n N A len cap T m wr) {v : Nat} (hv : v < m) : ∃ b, wr.cell? ⟨w.heap.size + 1, v, none⟩ = some (.slice (some ⟨b, 0, none⟩) (n + 1) (n + 1)) ∧ RowQ wr b (n + 1) (T v) ∧ b < wr.heap.size := by
  obtain ⟨bs, cur, h1, h2, h3, h4⟩ := h.top
  exact ⟨bs v, by simp [World.cell?, h1, h2 v hv], (h4 v hv).2, (h4 v hv).2.lt⟩
theorem SortW.old (h : SortW w n N A len cap T m wr) {v : Nat} (hv : v < N) : ∃ u, wr.cell? ⟨w.heap.size + 1, v, none⟩ = some u := by
  obtain ⟨bs, cur, h1, h2, h3, h4⟩ := h.top
  obtain ⟨u, hu⟩ := h3 v hv
  exact ⟨u, by simp [World.cell?, h1, hu]⟩
theorem SortW.frozen (h : SortW w n N A len cap T m wr) (v : Nat) : wr.frozen? ⟨w.heap.size + 1, v, none⟩ = false := by
  obtain ⟨bs, cur, h1, _⟩ := h.top
  simp [World.frozen?, h1]
theorem SortW.put (h : SortW w n N A len cap T m wr) (hm : m < N) {r : Nat} (hr : w.heap.size + 1 < r) (hrow : RowQ wr r (n + 1) (T m)) : SortW w n N A len cap T (m + 1) (wr.setCell ⟨w.heap.size + 1, m, none⟩ (.slice (some ⟨r, 0, none⟩) (n + 1) (n + 1))) := by
  obtain ⟨bs, cur, h1, h2, h3, h4⟩ := h.top
  have hlt : m < cur.size := by obtain ⟨u, hu⟩ := h3 m hm; exact (Array.getElem?_eq_some_iff.1 hu).1
  have hoth : ∀ b, b ≠ w.heap.size + 1 → (wr.setCell ⟨w.heap.size + 1, m, none⟩ (.slice (some ⟨r, 0, none⟩) (n + 1) (n + 1))).heap[b]? = wr.heap[b]? := fun b hb => Below.heap_setCell _ _ _ _ hb
  refine ⟨h.below.setCell (p := ⟨w.heap.size + 1, m, none⟩) (by show w.heap.size ≤ w.heap.size + 1; omega) _, (hoth _ (by omega)).trans h.box, fun v => if v = m then r else bs v, cur.setIfInBounds m (.slice (some ⟨r, 0, none⟩) (n + 1) (n + 1)), ?_, fun v hv => ?_, fun v hv => ?_, fun v hv => ?_⟩
  · simp [World.setCell, Array.getElem?_modify, h1]
  · show (cur.setIfInBounds m _)[v]? = some (.slice (some ⟨if v = m then r else bs v, 0, none⟩) (n + 1) (n + 1))
    rw [Array.getElem?_setIfInBounds]
    by_cases e : m = v
    · subst e; simp [hlt]
    · rw [if_neg e, show (if v = m then r else bs v) = bs v from if_neg (Ne.symm e)]; exact h2 v (by omega)
  · rw [Array.getElem?_setIfInBounds]
    by_cases e : m = v
    · subst e; exact ⟨_, by rw [if_pos rfl, if_pos hlt]⟩
    · rw [if_neg e]; exact h3 v hv
  · show w.heap.size + 1 < (if v = m then r else bs v) ∧ RowQ _ (if v = m then r else bs v) (n + 1) (T v)
    by_cases e : v = m
    · subst e; rw [if_pos rfl]; exact ⟨hr, hrow.of_block (hoth _ (by omega))⟩
    · rw [if_neg e]
      obtain ⟨h5, h6⟩ := h4 v (by omega)
      exact ⟨h5, h6.of_block (hoth _ (by omega))⟩
/-- Row 0 is laid, and gets its one. -/
theorem SortW.first (h : SortW w n N A len cap T 0 wr) (hN : 0 < N) {r : Nat} (hr : w.heap.size + 1 < r) (hrow : RowQ wr r (n + 1) (fun _ => 0)) (h0 : T 0 0 = 1) (h1 : ∀ j, T 0 (j + 1) = 0) :
    SortW w n N A len cap T 1 ((wr.setCell ⟨w.heap.size + 1, 0, none⟩ (.slice (some ⟨r, 0, none⟩) (n + 1) (n + 1))).setCell ⟨r, 0, none⟩ (.int .i64 1)) := by
  have hp := SortW.put (T := fun _ _ => 0) (m := 0) (by
    obtain ⟨bs, cur, a1, _, a3, _⟩ := h.top
    exact ⟨h.below, h.box, bs, cur, a1, fun v hv => absurd hv (by omega), a3, fun v hv => absurd hv (by omega)⟩) hN hr hrow
  obtain ⟨bs, cur, a1, a2, a3, a4⟩ := hp.top
  have hc0 : (wr.setCell ⟨w.heap.size + 1, 0, none⟩ (.slice (some ⟨r, 0, none⟩) (n + 1) (n + 1))).cell? ⟨w.heap.size + 1, 0, none⟩ = some (.slice (some ⟨r, 0, none⟩) (n + 1) (n + 1)) := by
    obtain ⟨u, hu⟩ := h.old hN
    simp [go_sem, hu]
  have hbs : bs 0 = r := by
    have h2 : (wr.setCell ⟨w.heap.size + 1, 0, none⟩ (.slice (some ⟨r, 0, none⟩) (n + 1) (n + 1))).cell? ⟨w.heap.size + 1, 0, none⟩ = some (.slice (some ⟨bs 0, 0, none⟩) (n + 1) (n + 1)) := by simp [World.cell?, a1, a2 0 (by omega)]
    rw [hc0] at h2
    injection h2 with h2
    injection h2 with h2
    injection h2 with h2
    injection h2 with h2
    exact h2.symm
  have hoth : ∀ b, b ≠ r → ((wr.setCell ⟨w.heap.size + 1, 0, none⟩ (.slice (some ⟨r, 0, none⟩) (n + 1) (n + 1))).setCell ⟨r, 0, none⟩ (.int .i64 1)).heap[b]? = (wr.setCell ⟨w.heap.size + 1, 0, none⟩ (.slice (some ⟨r, 0, none⟩) (n + 1) (n + 1))).heap[b]? := fun b hb => Below.heap_setCell _ _ _ _ hb
  refine ⟨hp.below.setCell (p := ⟨r, 0, none⟩) (by show w.heap.size ≤ r; omega) _, (hoth _ (by omega)).trans hp.box, bs, cur, (hoth _ (by omega)).trans a1, a2, a3, fun v hv => ?_⟩
  have e : v = 0 := by omega
  subst e
  rw [hbs]
  refine ⟨hr, ?_⟩
  have h3 := (a4 0 (by omega)).2
  rw [hbs] at h3
  refine (h3.set_ 0 1).congr fun j hj => ?_
  unfold updQ
  cases j with
  | zero => rw [if_pos rfl]; exact h0.symm
  | succ j => rw [if_neg (by omega)]; exact (h1 j).symm
end
def mkT (N : Nat) (W : World) : World := W.alloc (.cells (madeCells #[.slice none 0 0] N) 69)
def mkR (m : Nat) (W : World) : World := W.alloc (.cells (madeCells #[.int .i64 0] m) 2)
theorem mkT_size (N : Nat) (W : World) : (mkT N W).heap.size = W.heap.size + 1 := by unfold mkT; simp
theorem mkR_size (m : Nat) (W : World) : (mkR m W).heap.size = W.heap.size + 1 := by unfold mkR; simp
theorem mkT_below (N : Nat) (W : World) : Below W.heap.size W (mkT N W) := (Below.refl _ _).alloc (Nat.le_refl _) _
theorem mkR_below (m : Nat) (W : World) : Below W.heap.size W (mkR m W) := (Below.refl _ _).alloc (Nat.le_refl _) _
theorem mkR_row (m : Nat) (W : World) : RowQ (mkR m W) W.heap.size m (fun _ => 0) := ⟨_, (MapKept.heap_alloc W _).1, fun j hj => by simp [madeCells, Nat.mod_one, hj]⟩
theorem mkT_top (N : Nat) (W : World) : (mkT N W).heap[W.heap.size]? = some (.cells (madeCells #[.slice none 0 0] N) 69 (0, 0)) := (MapKept.heap_alloc W _).1
theorem mkT_cell (N : Nat) {v : Nat} (hv : v < N) : (madeCells #[Value.slice none 0 0] N)[v]? = some (.slice none 0 0) := by simp [madeCells, Nat.mod_one, hv]
/-- The row of a word, in the middle of it: of the subsets that are greater than s, and of s the first k. -/
def rowS_ (n : Nat) (loose : Nat → Bool) (T : Nat → Nat → Int) (w s k : Nat) : Nat → Int
  | 0 => 0
  | j + 1 => partW n loose T w s j + if j < k ∧ (loose s = true ∧ s.testBit (topW w) = true) then T (w ^^^ s) j else 0
/-- Up to place i, the highest one of a word is t. -/
def TopTo (w i t : Nat) : Prop := (∀ j, j < i → w.testBit j = true → j ≤ t) ∧ (t = 0 ∨ w.testBit t = true)
theorem TopTo.all {w n t : Nat} (h : TopTo w n t) (hw : w < 2 ^ n) (h0 : w ≠ 0) : topW w = t := by
  have hb : ∀ i, w.testBit i = true → i < n := fun i hi => by
    apply Nat.lt_of_not_le
    intro hle
    rw [Nat.testBit_lt_two_pow (Nat.lt_of_lt_of_le hw (Nat.pow_le_pow_right (by decide) hle))] at hi
    cases hi
  have hle : ∀ i, w.testBit i = true → i ≤ t := fun i hi => h.1 i (hb i hi) hi
  refine topW_eq ?_ hle
  rcases h.2 with e | e
  · obtain ⟨i, hi⟩ := Nat.exists_testBit_of_ne_zero h0
    have := hle i hi
    have e2 : i = t := by omega
    rw [← e2]; exact hi
  · exact e
set_option maxRecDepth 100000 in
set_option maxHeartbeats 8000000 in
theorem refSorts_any (n : Nat) (A : Option Addr) (len cap : Nat) (es : List E3) (T : Nat → Nat → Int) (w : World) (hE : EdgesAt w w.heap.size A len es) (hn10 : n ≤ 10) (hl : len ≤ 45) (hI : InE n es) (hT : TabP n (looseE es) T) :
    Calls Try.prog 45 #[.agg #[.int .i64 (n : Int), .slice A len cap]] w fun e w' => ∃ g, e = .returned (.slice (some ⟨g, 0, none⟩) (n + 1) (n + 1)) ∧ RowQ w' g (n + 1) (T (2 ^ n - 1)) ∧ Below w.heap.size w w' := by
  have HE := Lib.hid hE
  have HI := Lib.hid hI
  have HT := Lib.hid hT
  obtain ⟨N, hN⟩ : ∃ N, N = 2 ^ n := ⟨_, rfl⟩
  have hN1 : 1 ≤ N := by rw [hN]; exact Nat.pow_pos (by decide)
  have hN2 : N ≤ 1024 := by rw [hN]; show 2 ^ n ≤ 2 ^ 10; exact Nat.pow_le_pow_right (by decide) hn10
  have HN := Lib.hid hN
  have hsh : wrap64 ((2 : Int) ^ n) = (N : Int) := by
    have : (2 : Int) ^ n = (N : Int) := by rw [hN]; simp
    rw [this]; unfold wrap64; omega
  have hn1 : IntKind.i64.wrap ((n : Int) + 1) = ((n + 1 : Nat) : Int) := by rw [IntWalk.i64_in _ (by omega)]; omega
  have hNu : IntKind.u32.wrap (N : Int) = (N : Int) := by rw [wrap_u32n]; omega
  clear hN hE hI hT
  have hmk1 : ∀ W, (Instr.makeSlice 79 (.int .i64 (N : Int)) (.int .i64 (N : Int))).run Try.prog W = .ok (.slice (some ⟨W.heap.size, 0, none⟩) N N) (mkT N W) := fun W => run_make_row' (P := Try.prog) 79 69 (.slice none 0 0) 24 Try.underlying79 (by kernel_rfl) rfl .i64 .i64 N (by omega) (by omega) W
  have hmk2 : ∀ W, (Instr.makeSlice 69 (.int .i64 ((n : Int) + 1)) (.int .i64 ((n : Int) + 1))).run Try.prog W = .ok (.slice (some ⟨W.heap.size, 0, none⟩) (n + 1) (n + 1)) (mkR (n + 1) W) := fun W => run_make_row' (P := Try.prog) 69 2 (.int .i64 0) 8 Try.underlying69 (by kernel_rfl) rfl .i64 .i64 (n + 1) (by omega) (by omega) W
  simp only [show ((n + 1 : Nat) : Int) = (n : Int) + 1 from by omega] at hn1
  have hsT := fun W => mkT_size N W
  have hsR := fun W => mkR_size (n + 1) W
  have HW0 : Hid (SortW w n N A len cap T 0 (mkT N (w.alloc (.cells #[.int .i64 (n : Int), .slice A len cap] 24)))) := Lib.hid (by
    have h := mkT_top N (w.alloc (.cells #[.int .i64 (n : Int), .slice A len cap] 24))
    have hb := mkT_below N (w.alloc (.cells #[.int .i64 (n : Int), .slice A len cap] 24))
    rw [World.size_alloc] at h hb
    exact ⟨((Below.refl _ _).alloc (Nat.le_refl _) _).trans (hb.mono (by omega)), (hb.block _ (by omega)).trans (MapKept.heap_alloc w _).1, fun _ => 0, _, h, fun v hv => absurd hv (by omega), fun v hv => ⟨_, mkT_cell N hv⟩, fun v hv => absurd hv (by omega)⟩)
  obtain ⟨W1, hW1⟩ : ∃ W1, mkT N (w.alloc (.cells #[.int .i64 (n : Int), .slice A len cap] 24)) = W1 := ⟨_, rfl⟩
  have hs1 : W1.heap.size = w.heap.size + 1 + 1 := by rw [← hW1, hsT, World.size_alloc]
  rw [hW1] at HW0
  have HW1 := Lib.hid (HW0.out.next (mkR_below (n + 1) W1))
  obtain ⟨u0, c1⟩ := HW1.out.old (v := 0) (by omega)
  have f1 := HW1.out.frozen 0
  have hrow := mkR_row (n + 1) W1
  rw [hs1] at hrow
  have c2 := hrow.cell (j := 0) (by omega)
  have f2 := hrow.frozen 0
  have HR0 := Lib.hid hrow
  clear hrow
  go_enter Try.func45, Try.ntmps45
  have HW2 : Hid (SortW w n N A len cap T 1 (((mkR (n + 1) W1).setCell ⟨w.heap.size + 1, 0, none⟩ (.slice (some ⟨w.heap.size + 1 + 1, 0, none⟩) (n + 1) (n + 1))).setCell ⟨w.heap.size + 1 + 1, 0, none⟩ (.int .i64 1))) := Lib.hid (HW1.out.first (by omega) (by omega) HR0.out HT.out.none_ HT.out.none_more)
  go_wp2_with fail
  clear c1 f1 c2 f2 hW1 hs1 HW1 HR0 HW0 hmk1 hsT hsh
  generalize ((mkR (n + 1) W1).setCell ⟨w.heap.size + 1, 0, none⟩ (.slice (some ⟨w.heap.size + 1 + 1, 0, none⟩) (n + 1) (n + 1))).setCell ⟨w.heap.size + 1 + 1, 0, none⟩ (.int .i64 1) = W2 at HW2 ⊢
  go_loopw [5] (fun y wr => ∃ m : Nat, 1 ≤ m ∧ m ≤ N ∧ y = .int .u32 m ∧ Hid (SortW w n N A len cap T m wr)) (fun y _ => N - (intOf y).toNat)
  case atStart => exact ⟨1, Nat.le_refl _, hN1, rfl, HW2⟩
  case round =>
    clear HW2
    obtain ⟨m, hm1, hmN, rfl, HW⟩ := hrel
    by_cases hmn : m < N
    · obtain ⟨W3, hW3⟩ : ∃ W3, mkR (n + 1) wr = W3 := ⟨_, rfl⟩
      have HR3 : Hid (RowQ W3 wr.heap.size (n + 1) (fun _ => 0)) := Lib.hid (by rw [← hW3]; exact mkR_row _ _)
      have HB3 : Hid (Below wr.heap.size wr W3) := Lib.hid (by rw [← hW3]; exact mkR_below _ _)
      have HMW : Hid (m < 2 ^ n) := Lib.hid (by rw [← HN.out]; exact hmn)
      have im0 : (1 : Int) ≤ (m : Int) := by omega
      have im1 : (m : Int) < (N : Int) := by omega
      have hmw : IntKind.u32.wrap ((m : Int) + 1) = ((m + 1 : Nat) : Int) := by rw [wrap_u32n]; omega
      go_wp2_with fail
      clear hW3
      go_loop [7, 8] (fun y z => ∃ (i t : Nat), i ≤ n ∧ t ≤ 10 ∧ y = .int .i64 t ∧ z = .int .i64 i ∧ Hid (TopTo m i t)) (fun _ z => n - (intOf z).toNat)
      case atStart => exact ⟨0, 0, Nat.zero_le _, by omega, rfl, rfl, Lib.hid ⟨fun j hj => absurd hj (by omega), .inl rfl⟩⟩
      case round =>
        obtain ⟨i, t, hi, ht10, rfl, rfl, HTT⟩ := hrel
        by_cases hin : i < n
        · have ii0 : (0 : Int) ≤ (i : Int) := by omega
          have ii1 : (i : Int) < (n : Int) := by omega
          cases hb : m.testBit i with
          | true =>
            have HB := Lib.hid (fun W => bit_nat m i true (by omega) (by omega) hb W)
            have HN2 : Hid (TopTo m (i + 1) i) := Lib.hid ⟨fun j hj _ => by omega, .inr hb⟩
            clear hb
            go_wp2_with fail
            refine (HB.out _).mono ?_
            rintro e w1 ⟨rfl, rfl⟩
            go_wp2_with fail
            go_round
            case rel => exact ⟨i + 1, i, by omega, by omega, rfl, by go_num, HN2⟩
            case measure => simp [intOf]; omega
          | false =>
            have HB := Lib.hid (fun W => bit_nat m i false (by omega) (by omega) hb W)
            have HN2 : Hid (TopTo m (i + 1) t) := Lib.hid ⟨fun j hj hj2 => by
              by_cases e : j = i
              · subst e; rw [hb] at hj2; cases hj2
              · exact HTT.out.1 j (by omega) hj2, HTT.out.2⟩
            clear hb
            go_wp2_with fail
            refine (HB.out _).mono ?_
            rintro e w1 ⟨rfl, rfl⟩
            go_wp2_with fail
            go_round
            case rel => exact ⟨i + 1, t, by omega, ht10, rfl, by go_num, HN2⟩
            case measure => simp [intOf]; omega
        · obtain rfl : i = n := by omega
          have HTW : Hid (topW m = t) := Lib.hid (HTT.out.all HMW.out (by omega))
          clear HTT
          obtain ⟨wo, rfl⟩ : ∃ wo : World, wo = wr := ⟨_, rfl⟩
          have HRW : Hid (∃ f, RowQ W3 wo.heap.size (i + 1) f ∧ ∀ j, j < i + 1 → f j = rowS_ i (looseE es) T m m 0 j) := Lib.hid ⟨_, HR3.out, fun j hj => by
            cases j with
            | zero => rfl
            | succ j =>
              show 0 = partW i (looseE es) T m m j + if j < 0 ∧ _ then _ else 0
              rw [partW_first HMW.out, if_neg (by omega)]; rfl⟩
          clear HR3
          go_wp2_with fail
          go_loopw [9] (fun y wr => ∃ s : Nat, y = .int .u32 s ∧ Hid (subQ s m = true) ∧ Hid (∃ f, RowQ wr wo.heap.size (i + 1) f ∧ ∀ j, j < i + 1 → f j = rowS_ i (looseE es) T m s 0 j) ∧ Hid (Below wo.heap.size wo wr)) (fun y _ => (intOf y).toNat)
          case atStart => exact ⟨m, rfl, Lib.hid (by simp [subQ]), HRW, HB3⟩
          case round =>
            clear HRW HB3
            obtain ⟨s, rfl, HSB, HRW, HB⟩ := hrel
            have hsm : s ≤ m := sub_le fun j hj => subQ_iff.1 HSB.out j hj
            by_cases hs0 : s = 0
            · subst hs0
              have HSW := Lib.hid (HW.out.next HB.out)
              have HRT : Hid (RowQ wr wo.heap.size (i + 1) (T m)) := Lib.hid (by
                obtain ⟨f, h1, h2⟩ := HRW.out
                refine h1.congr fun j hj => ?_
                rw [h2 j hj]
                cases j with
                | zero => exact (HT.out.some_none m (by omega) HMW.out).symm
                | succ j =>
                  show partW i (looseE es) T m 0 j + (if j < 0 ∧ _ then _ else 0) = _
                  rw [if_neg (by omega), Int.add_zero, partW_last (by omega), HT.out.some_more m (by omega) HMW.out])
              obtain ⟨u0, cu⟩ := HSW.out.old hmn
              have fu := HSW.out.frozen m
              have HSN := Lib.hid (HSW.out.put hmn HW.out.lt HRT.out)
              clear HRW HRT
              go_wp2_with fail
              go_roundw
              case rel => exact ⟨m + 1, by omega, by omega, by go_num, HSN⟩
              case measure => simp [intOf]; omega
            · have is0 : (1 : Int) ≤ (s : Int) := by omega
              have hsw : IntKind.u32.wrap ((s : Int) - 1) = ((s - 1 : Nat) : Int) := by rw [wrap_u32n]; omega
              have hand : bits .and .u32 ((s - 1 : Nat) : Int) (m : Int) = (((s - 1) &&& m : Nat) : Int) := and_u32 _ _ (by omega) (by omega)
              have HPL := Lib.hid (prev_lt hs0 m)
              have HPS := Lib.hid (prev_sub s m)
              have HPN := Lib.hid (fun j => partW_next (j := j) (loose := looseE es) (T := T) HMW.out hs0 HSB.out)
              have HSW := Lib.hid (HW.out.next HB.out)
              have HED := Lib.hid ((HE.out.below HSW.out.below).more HSW.out.below.size)
              have k0 := HSW.out.c0
              have k1 := HSW.out.c1
              have HLO := Lib.hid (fun v hv W hW => loose_v (i : Int) A len cap es s i v W hW hl hn10 HI.out (by omega) hv)
              have HBT := Lib.hid (fun b hb W => bit_nat s t b (by omega) (by omega) hb W)
              generalize (s - 1) &&& m = s2 at hand HPL HPS HPN
              obtain ⟨s1, hs1⟩ : ∃ s1, s - 1 = s1 := ⟨_, rfl⟩
              rw [hs1] at hsw hand
              clear hs1
              cases hb : s.testBit t with
              | false =>
                have HBF := Lib.hid (HBT.out false hb)
                have HRN : Hid (∃ f, RowQ wr wo.heap.size (i + 1) f ∧ ∀ j, j < i + 1 → f j = rowS_ i (looseE es) T m s2 0 j) := Lib.hid (by
                  obtain ⟨f, h1, h2⟩ := HRW.out
                  refine ⟨f, h1, fun j hj => ?_⟩
                  rw [h2 j hj]
                  cases j with
                  | zero => rfl
                  | succ j =>
                    show partW i (looseE es) T m s j + _ = partW i (looseE es) T m s2 j + _
                    rw [HPN.out j, if_neg (show ¬ (looseE es s = true ∧ s.testBit (topW m) = true) from fun h => by rw [HTW.out, hb] at h; cases h.2)]
                    simp)
                clear hb HBT HRW
                go_wp2_with fail
                refine (HBF.out _).mono ?_
                rintro e w4 ⟨rfl, rfl⟩
                go_wp2_with fail
                go_roundw
                case rel => exact ⟨s2, rfl, HPS, HRN, HB⟩
                case measure => have := HPL.out; simp [intOf]; omega
              | true =>
                have HBF := Lib.hid (HBT.out true hb)
                have HBB := Lib.hid hb
                clear hb HBT
                cases hlo : looseE es s with
                | false =>
                  have HLF := Lib.hid (HLO.out false hlo)
                  have HRN : Hid (∃ f, RowQ wr wo.heap.size (i + 1) f ∧ ∀ j, j < i + 1 → f j = rowS_ i (looseE es) T m s2 0 j) := Lib.hid (by
                    obtain ⟨f, h1, h2⟩ := HRW.out
                    refine ⟨f, h1, fun j hj => ?_⟩
                    rw [h2 j hj]
                    cases j with
                    | zero => rfl
                    | succ j =>
                      show partW i (looseE es) T m s j + _ = partW i (looseE es) T m s2 j + _
                      rw [HPN.out j, if_neg (show ¬ (looseE es s = true ∧ s.testBit (topW m) = true) from fun h => by rw [hlo] at h; cases h.1)]
                      simp)
                  clear hlo HLO HRW
                  go_wp2_with fail
                  refine (HBF.out _).mono ?_
                  rintro e w4 ⟨rfl, rfl⟩
                  go_wp2_with fail
                  refine (HLF.out _ HED.out).mono ?_
                  rintro e w5 ⟨rfl, hb5⟩
                  have HB5 := Lib.hid (HB.out.trans (hb5.mono HB.out.size))
                  have HRN5 : Hid (∃ f, RowQ w5 wo.heap.size (i + 1) f ∧ ∀ j, j < i + 1 → f j = rowS_ i (looseE es) T m s2 0 j) := Lib.hid (by
                    obtain ⟨f, h1, h2⟩ := HRN.out
                    exact ⟨f, h1.of_block (hb5.block _ h1.lt), h2⟩)
                  clear hb5 k0 k1
                  go_wp2_with fail
                  go_roundw
                  case rel => exact ⟨s2, rfl, HPS, HRN5, HB5⟩
                  case measure => have := HPL.out; simp [intOf]; omega
                | true =>
                  have HLF := Lib.hid (HLO.out true hlo)
                  have HLL := Lib.hid hlo
                  clear hlo HLO
                  go_wp2_with fail
                  refine (HBF.out _).mono ?_
                  rintro e w4 ⟨rfl, rfl⟩
                  go_wp2_with fail
                  refine (HLF.out _ HED.out).mono ?_
                  rintro e w5 ⟨rfl, hb5⟩
                  have HB5 := Lib.hid (HB.out.trans (hb5.mono HB.out.size))
                  have HR5 : Hid (∃ f, RowQ w5 wo.heap.size (i + 1) f ∧ ∀ j, j < i + 1 → f j = rowS_ i (looseE es) T m s 0 j) := Lib.hid (by
                    obtain ⟨f, h1, h2⟩ := HRW.out
                    exact ⟨f, h1.of_block (hb5.block _ h1.lt), h2⟩)
                  clear hb5 k0 k1 HRW HSW HED HLF HBF
                  go_wp2_with fail
                  have HNT : Hid (∀ j, 0 ≤ partW i (looseE es) T m s j ∧ partW i (looseE es) T m s j ≤ 10000000000) := Lib.hid fun j => ⟨part_nonneg HT.out HMW.out s j, part_le HT.out (looseE_zero es) hn10 HMW.out (by omega) s j⟩
                  have hxm : m ^^^ s < m := sub_lt HSB.out hs0
                  have HNX : Hid (∀ j, 0 ≤ T (m ^^^ s) j ∧ T (m ^^^ s) j ≤ 10000000000) := Lib.hid fun j => ⟨tab_nonneg HT.out ((m ^^^ s) + 1) _ (by omega) (by have := HMW.out; omega) j, tab_le HT.out (looseE_zero es) hn10 (by have := HMW.out; omega) j⟩
                  have hdif : bits .andNot .u32 (m : Int) (s : Int) = ((m ^^^ s : Nat) : Int) := by rw [andNot_u32 _ _ (by omega) (by omega), diff_sub (by omega) (by omega) HSB.out]
                  have HCL : Hid (looseE es s = true ∧ s.testBit (topW m) = true) := Lib.hid ⟨HLL.out, by rw [HTW.out]; exact HBB.out⟩
                  have HRD : Hid (∀ f : Nat → Int, (∀ j, j < i + 1 → f j = rowS_ i (looseE es) T m s i j) → ∀ j, j < i + 1 → f j = rowS_ i (looseE es) T m s2 0 j) := Lib.hid fun f hf j hj => by
                    rw [hf j hj]
                    cases j with
                    | zero => rfl
                    | succ j =>
                      show partW i (looseE es) T m s j + (if j < i ∧ _ then _ else _) = partW i (looseE es) T m s2 j + (if j < 0 ∧ _ then _ else _)
                      rw [HPN.out j, if_pos HCL.out, if_pos ⟨by omega, HCL.out⟩, if_neg (by omega), Int.add_zero]
                  obtain ⟨xm, hxe⟩ : ∃ xm, m ^^^ s = xm := ⟨_, rfl⟩
                  rw [hxe] at hxm HNX hdif
                  have HXM : Hid (xm = m ^^^ s) := Lib.hid hxe.symm
                  clear hxe
                  clear HPN
                  obtain ⟨w6, rfl⟩ : ∃ w6 : World, w6 = w5 := ⟨_, rfl⟩
                  go_loopw [10] (fun y wr => ∃ k : Nat, k ≤ i ∧ y = .int .i64 k ∧ Hid (∃ f, RowQ wr wo.heap.size (i + 1) f ∧ ∀ j, j < i + 1 → f j = rowS_ i (looseE es) T m s k j) ∧ Hid (Below wo.heap.size wo wr)) (fun y _ => i - (intOf y).toNat)
                  case atStart => exact ⟨0, Nat.zero_le _, rfl, HR5, HB5⟩
                  case round =>
                    clear HR5 HB5
                    obtain ⟨k, hk, rfl, HR5, HB5⟩ := hrel
                    by_cases hki : k < i
                    · obtain ⟨f, hrow, hf⟩ := HR5.out
                      have HSW := Lib.hid (HW.out.next HB5.out)
                      obtain ⟨bx_, ct, hrx, hbl⟩ := HSW.out.at_ hxm
                      have HROW := Lib.hid hrow
                      have HF := Lib.hid hf
                      have cr := hrow.cell (j := k + 1) (by omega)
                      have cf := hrow.frozen (k + 1)
                      have cx := hrx.cell (j := k) (by omega)
                      have hfk : f (k + 1) = partW i (looseE es) T m s k := by
                        rw [hf (k + 1) (by omega)]
                        show partW i (looseE es) T m s k + (if k < k ∧ _ then _ else 0) = _
                        rw [if_neg (by omega), Int.add_zero]
                      obtain ⟨n0, n1⟩ := HNT.out k
                      obtain ⟨x0, x1⟩ := HNX.out k
                      have HNEW : Hid (∀ v, v = partW i (looseE es) T m s k + T xm k → ∃ f', RowQ (wr.drew.setCell ⟨wo.heap.size, k + 1, none⟩ (.int .i64 v)) wo.heap.size (i + 1) f' ∧ ∀ j, j < i + 1 → f' j = rowS_ i (looseE es) T m s (k + 1) j) := Lib.hid fun v hv => by
                        refine ⟨updQ f (k + 1) v, RowQ.set_ (w := wr.drew) hrow (k + 1) v, fun j hj => ?_⟩
                        unfold updQ
                        by_cases e : j = k + 1
                        · subst e
                          rw [if_pos rfl, hv, HXM.out]
                          show _ = partW i (looseE es) T m s k + (if k < k + 1 ∧ _ then _ else 0)
                          rw [if_pos ⟨by omega, HCL.out⟩]
                        · rw [if_neg e, hf j hj]
                          cases j with
                          | zero => rfl
                          | succ j =>
                            have e2 : (j < k ∧ (looseE es s = true ∧ s.testBit (topW m) = true)) ↔ (j < k + 1 ∧ (looseE es s = true ∧ s.testBit (topW m) = true)) := ⟨fun h => ⟨by omega, h.2⟩, fun h => ⟨by omega, h.2⟩⟩
                            show partW i (looseE es) T m s j + (if j < k ∧ _ then _ else 0) = partW i (looseE es) T m s j + (if j < k + 1 ∧ _ then _ else 0)
                            simp only [e2]
                      rw [hfk] at cr
                      have ik0 : (0 : Int) ≤ (k : Int) := by omega
                      have ik1 : (k : Int) < (i : Int) := by omega
                      have ik2 : (0 : Int) ≤ (k : Int) + 1 := by omega
                      have ik3 : (k : Int) + 1 < (i : Int) + 1 := by omega
                      have ik4 : (k : Int) < (i : Int) + 1 := by omega
                      have hxN : xm < N := by omega
                      have hxN2 : (xm : Int) < (N : Int) := by omega
                      have hkw : IntKind.i64.wrap ((k : Int) + 1) = ((k + 1 : Nat) : Int) := by rw [IntWalk.i64_in _ (by omega)]; omega
                      obtain ⟨p, hp⟩ : ∃ p, partW i (looseE es) T m s k = p := ⟨_, rfl⟩
                      obtain ⟨x, hx⟩ : ∃ x, T xm k = x := ⟨_, rfl⟩
                      rw [hp] at cr n0 n1 HNEW
                      rw [hx] at cx x0 x1 HNEW
                      have hpw : IntKind.i64.wrap (p + x) = p + x := IntWalk.i64_in _ (by omega)
                      clear hrow hf hrx hfk hp hx HR5
                      go_wp2_with fail
                      refine wp_region_still_tail 19 (by kernel_rfl) (by kernel_rfl) ?_
                      simp only [List.take_succ_cons, List.take_zero, List.drop_succ_cons, List.drop_zero]
                      iterate 19 still_step
                      refine wpStill_nil ?_
                      change wpList _ _ _ _ _ wr.drew
                      go_wp2_with fail
                      go_roundw
                      case rel => exact ⟨k + 1, by omega, by go_num, Lib.hid (HNEW.out _ rfl), Lib.hid (HB5.out.drew.setCell (p := ⟨wo.heap.size, k + 1, none⟩) (Nat.le_refl _) _)⟩
                      case measure => simp [intOf]; omega
                    · obtain rfl : k = i := by omega
                      have HRE : Hid (∃ f, RowQ wr wo.heap.size (k + 1) f ∧ ∀ j, j < k + 1 → f j = rowS_ k (looseE es) T m s2 0 j) := Lib.hid (by
                        obtain ⟨f, h1, h2⟩ := HR5.out
                        exact ⟨f, h1, HRD.out f h2⟩)
                      clear HR5
                      go_wp2_with fail
                      go_roundw
                      case rel => exact ⟨s2, rfl, HPS, HRE, HB5⟩
                      case measure => have := HPL.out; simp [intOf]; omega
    · obtain rfl : N = m := by omega
      obtain ⟨b, ct, hrow, hbl⟩ := HW.out.at_ (v := N - 1) (by omega)
      have HR : Hid (RowQ wr b (n + 1) (T (2 ^ n - 1))) := Lib.hid (by rw [← HN.out]; exact hrow)
      have hNw : IntKind.i64.wrap ((N : Int) - 1) = ((N - 1 : Nat) : Int) := by rw [IntWalk.i64_in _ (by omega)]; omega
      have hNi : ((N - 1 : Nat) : Int) < (N : Int) := by omega
      have HBW := Lib.hid HW.out.below
      obtain ⟨N1, hN3⟩ : ∃ N1, N - 1 = N1 := ⟨_, rfl⟩
      rw [hN3] at ct hNw hNi
      have hN4 : N1 < N := by omega
      clear hrow hN3
      go_wp2_with fail
      go_ret
      exact ⟨b, rfl, HR.out, HBW.out⟩
end Go.Proofs.Ytpcealcghglopaa
