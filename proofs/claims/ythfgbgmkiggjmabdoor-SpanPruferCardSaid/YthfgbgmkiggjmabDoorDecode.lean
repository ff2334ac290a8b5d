/- span.Decode: the tree of a code. -/
import Derived.Test.YthfgbgmkiggjmabDoorPruferDef
import Derived.Test.YthfgbgmkiggjmabDoorIndexInt
import Derived.Test.YthfgbgmkiggjmabDoorEdgesOwn
import Derived.Test.YthfgbgmkiggjmabDoorMat
import Derived.OwnWalk
namespace Go.Proofs.YthfgbgmkiggjmabDoor
open Go.RowKit

theorem intsAt_rowC {w : World} {g n : Nat} {f : Nat → Int} (h : RowC w g n f) : IntsAt w w.heap.size (some ⟨g, 0, none⟩) n ((List.range n).map f) := by
  refine ⟨by simp, fun _ => ⟨g, 0, rfl, h.lt, fun i x hx => ?_⟩⟩
  rw [List.getElem?_map, Option.map_eq_some_iff] at hx
  obtain ⟨j, hj, rfl⟩ := hx
  obtain ⟨h1, h2⟩ := List.getElem?_eq_some_iff.1 hj
  rw [List.getElem_range] at h2
  subst h2
  rw [Nat.zero_add]
  exact h.cell (by simpa using h1)

set_option maxRecDepth 100000 in
set_option maxHeartbeats 400000 in
theorem takeFirst_any (g n cap k : Nat) (f : Nat → Int) (w : World) (h : RowC w g n f) (hn : n ≤ 10) (hk : k < n) (h0 : f k = 0) (hlt : ∀ j, j < k → f j ≠ 0) :
    Calls Tryd.prog 65 #[.slice (some ⟨g, 0, none⟩) n cap] w fun e w' => e = .returned (.int .i64 k) ∧ w' = w.setCell ⟨g, k, none⟩ (.int .i64 (-1)) := by
  have HI := Lib.hid (intsAt_rowC h)
  have hc : w.cell? ⟨g, k, none⟩ = some (.int .i64 0) := by rw [h.cell hk, h0]
  have hf := h.frozen k
  have H1 : Hid (((List.range n).map f)[k]? = some 0) := Lib.hid (by rw [List.getElem?_map, List.getElem?_range hk, Option.map_some, h0])
  have H2 : Hid (∀ j, j < k → ((List.range n).map f)[j]? ≠ some 0) := Lib.hid (fun j hj he => by
    rw [List.getElem?_map, List.getElem?_range (by omega), Option.map_some] at he
    injection he with he
    exact hlt j hj he)
  have ix0 : (0 : Int) ≤ (k : Int) := by omega
  have ix1 : (k : Int) < (n : Int) := by omega
  have hgl := h.lt
  clear h h0 hlt
  go_enter Tryd.func65, Tryd.ntmps65
  go_wp2_with (go_at_call 80; refine (index_any n cap k 0 (some ⟨g, 0, none⟩) _ _ (by exact HI.out) (by omega) H1.out H2.out).mono ?_; rintro e w1 ⟨rfl, rfl⟩)
  go_ret
  exact ⟨rfl, rfl⟩

set_option maxRecDepth 100000 in
theorem decode_large (A : Option Addr) (len cap : Nat) (w : World) (hl : 8 < len) (hm : len ≤ maxLen) :
    Calls Tryd.prog 38 #[.slice A len cap] w fun e w' => e = .returned (.tuple #[.agg #[.int .i64 0, .slice none 0 0], .int .i64 1]) ∧ Below w.heap.size w w' := by
  unfold maxLen at hm
  go_enter Tryd.func38, Tryd.ntmps38
  go_wp2
  exact bodyPost_ret (v := .tuple #[.agg #[.int .i64 0, .slice none 0 0], .int .i64 1]) (by simp [results, Tryd.results38, go_sem]) rfl ⟨rfl, by first | exact ((Below.refl _ _).alloc (Nat.le_refl _) _).setCell (Nat.le_refl _) _ | exact (((Below.refl _ _).alloc (Nat.le_refl _) _).setCell (Nat.le_refl _) _).setCell (Nat.le_refl _) _ | exact ((Below.refl _ _).alloc (Nat.le_refl _) _)⟩
/-- The world behind the list of how often. -/
def dcW (w : World) (n : Nat) : World := (w.alloc (.cells #[.int .i64 0, .slice none 0 0] 24)).alloc (.cells (madeCells #[Value.int .i64 0] n) 3)
theorem dcW_size (w : World) (n : Nat) : (dcW w n).heap.size = w.heap.size + 2 := by simp [dcW]
theorem dcW_below (w : World) (n : Nat) : Below w.heap.size w (dcW w n) := ((Below.refl _ _).alloc (Nat.le_refl _) _).alloc (by simp) _
set_option maxRecDepth 100000 in
theorem dcW_row (w : World) (n : Nat) (cs : List Nat) : RowC (dcW w n) (w.heap.size + 1) n (fun v => ((cs.take 0).count v : Int)) := by
  refine ⟨madeCells #[Value.int .i64 0] n, ?_, fun j hj => ?_⟩
  · have h := (MapKept.heap_alloc (w.alloc (.cells #[.int .i64 0, .slice none 0 0] 24)) (.cells (madeCells #[Value.int .i64 0] n) 3)).1
    rw [show (w.alloc (.cells #[.int .i64 0, .slice none 0 0] 24)).heap.size = w.heap.size + 1 by simp] at h
    exact h
  · simp [madeCells, hj, Nat.mod_one]

/-- Two numbers of the same, and a box that nobody wrote. -/
def DecBad (w : World) (e : Ending) (w' : World) : Prop := e = .returned (.tuple #[.agg #[.int .i64 0, .slice none 0 0], .int .i64 2]) ∧ Below w.heap.size w w'

set_option maxRecDepth 100000 in
set_option maxHeartbeats 1000000 in
theorem decode_bad (A : Option Addr) (len cap k : Nat) (xs : List Int) (x : Int) (w : World) (hA : IntsAt w w.heap.size A len xs) (hl : len ≤ 8) (hk : xs[k]? = some x) (hx : x < 0 ∨ (len : Int) + 2 ≤ x) (hok : ∀ j y, j < k → xs[j]? = some y → 0 ≤ y ∧ y < (len : Int) + 2) :
    Calls Tryd.prog 38 #[.slice A len cap] w (DecBad w) := by
  have HA := Lib.hid hA
  have HK := Lib.hid hk
  have HX := Lib.hid hx
  have HO := Lib.hid hok
  have hkl : k < len := by have := (List.getElem?_eq_some_iff.1 hk).1; have := hA.1; omega
  clear hA hk hx hok
  have hmk := fun W => run_make_row' (P := Tryd.prog) 25 3 (.int .i64 0) 8 Tryd.underlying25 (by kernel_rfl) rfl .i64 .i64 (len + 2) (by omega) (by omega) W
  simp only [Int.natCast_add, Int.cast_ofNat_Int] at hmk
  go_enter Tryd.func38, Tryd.ntmps38
  go_wp2
  clear hmk
  have HS : Hid (RowC (dcW w (len + 2)) (w.heap.size + 1) (len + 2) (fun v => (((intsN []).take 0).count (v : Int) : Int)) ∧ True) := Lib.hid ⟨by simpa using dcW_row w (len + 2) [], trivial⟩
  go_loopw [23] (fun j wr => ∃ i : Nat, i ≤ k ∧ j = .int .i64 i ∧ Hid (∃ f : Nat → Int, RowC wr (w.heap.size + 1) (len + 2) f ∧ ∀ v, 0 ≤ f v ∧ f v ≤ i) ∧ Below (w.heap.size + 1) (dcW w (len + 2)) wr) (fun j _ => len - (intOf j).toNat)
  case atStart => exact ⟨0, Nat.zero_le _, rfl, Lib.hid ⟨_, HS.out.1, fun v => by simp [intsN]⟩, Below.refl _ _⟩
  case round =>
    clear HS
    obtain ⟨i, hi, rfl, HR, hB⟩ := hrel
    have hin : i < len := by omega
    have hsz := hB.size
    rw [dcW_size] at hsz
    have hBw : Below w.heap.size w wr := (dcW_below w (len + 2)).trans (hB.mono (by omega))
    obtain ⟨b, off, y, rfl, hb, hy, hc⟩ := (HA.out.below hBw).at_ hin
    have ix0 : (0 : Int) ≤ (i : Int) := by omega
    have ix1 : (i : Int) < (len : Int) := by omega
    by_cases hik : i = k
    · subst hik
      obtain rfl : y = x := by have := HK.out; rw [hy] at this; injection this
      have r0 : wr.cell? ⟨w.heap.size, 0, none⟩ = some (.int .i64 0) := by rw [hB.cell (p := ⟨w.heap.size, 0, none⟩) (by simp)]; simp [dcW, go_sem]
      have r1 : wr.cell? ⟨w.heap.size, 1, none⟩ = some (.slice none 0 0) := by rw [hB.cell (p := ⟨w.heap.size, 1, none⟩) (by simp)]; simp [dcW, go_sem]
      have f0 : wr.frozen? ⟨w.heap.size, 0, none⟩ = false := by rw [hB.frozen (p := ⟨w.heap.size, 0, none⟩) (by simp)]; simp [dcW, go_sem]
      have f1 : wr.frozen? ⟨w.heap.size, 1, none⟩ = false := by rw [hB.frozen (p := ⟨w.heap.size, 1, none⟩) (by simp)]; simp [dcW, go_sem]
      have HBw := Lib.hid hBw
      clear hy hB hBw
      have hxx : (y < 0) ∨ (¬ y < 0 ∧ (len : Int) + 2 ≤ y) := by have := HX.out; omega
      rcases hxx with hx1 | ⟨hx0, hx1⟩
      all_goals
        go_wp2
        exact bodyPost_ret (v := .tuple #[.agg #[.int .i64 0, .slice none 0 0], .int .i64 2]) (by simp [results, Tryd.results38, go_sem, r0, r1]) rfl ⟨rfl, (HBw.out.setCell (p := ⟨w.heap.size, 0, none⟩) (Nat.le_refl _) _).setCell (p := ⟨w.heap.size, 1, none⟩) (Nat.le_refl _) _⟩
    · obtain ⟨hy0, hy1⟩ := HO.out i y (by omega) hy
      obtain ⟨c, rfl⟩ := Int.eq_ofNat_of_zero_le hy0
      have hcn : c < len + 2 := by omega
      obtain ⟨z, HF, hcz, hfz, hgl, hz0, hz1⟩ : ∃ z : Int, Hid (∃ f : Nat → Int, RowC (wr.setCell ⟨w.heap.size + 1, c, none⟩ (.int .i64 (z + 1))) (w.heap.size + 1) (len + 2) f ∧ ∀ v, 0 ≤ f v ∧ f v ≤ ((i + 1 : Nat) : Int)) ∧ wr.cell? ⟨w.heap.size + 1, c, none⟩ = some (.int .i64 z) ∧ wr.frozen? ⟨w.heap.size + 1, c, none⟩ = false ∧ w.heap.size + 1 < wr.heap.size ∧ 0 ≤ z ∧ z ≤ 8 := by
        obtain ⟨f, h1, h2⟩ := HR.out
        refine ⟨f c, Lib.hid ⟨_, h1.set_ c (f c + 1), fun v => ?_⟩, h1.cell hcn, h1.frozen c, h1.lt, (h2 c).1, by have := (h2 c).2; omega⟩
        unfold updF
        have a := h2 v
        have b := h2 c
        split <;> omega
      have HBn := Lib.hid (hB.setCell (p := ⟨w.heap.size + 1, c, none⟩) (Nat.le_refl _) (.int .i64 (z + 1)))
      have hbne : ¬ b = w.heap.size + 1 := by omega
      clear hy hB hBw HR
      go_wp2
      go_roundw
      case rel => exact ⟨i + 1, by omega, by go_num, HF, HBn.out⟩
      case measure => simp [intOf]; omega

def DecGood (w : World) (cs : List Nat) (e : Ending) (w' : World) : Prop :=
  ∃ A cap, e = .returned (.tuple #[.agg #[.int .i64 ((cs.length + 2 : Nat) : Int), .slice A (cs.length + 1) cap], .int .i64 0]) ∧ EdgesAt w' w'.heap.size A (cs.length + 1) (decAll cs) ∧ (∀ a, A = some a → w.heap.size ≤ a.block) ∧ Below w.heap.size w w'
theorem count_next (cs : List Nat) (k c : Nat) (h : cs[k]? = some c) (v : Nat) : updF (fun v => ((cs.take k).count v : Int)) c ((((cs.take k).count c : Nat) : Int) + 1) v = ((cs.take (k + 1)).count v : Int) := by
  obtain ⟨h1, h2⟩ := List.getElem?_eq_some_iff.1 h
  rw [List.take_succ_eq_append_getElem h1, h2, List.count_append, List.count_singleton]
  unfold updF
  by_cases hv : v = c
  · subst hv; simp
  · rw [if_neg hv]
    have : ¬ c = v := fun e => hv e.symm
    simp [this]
def DecInv (w : World) (cs : List Nat) (k : Nat) (v : Value) (wr : World) : Prop :=
  RowC wr (w.heap.size + 1) (cs.length + 2) (tcF (goneK cs k) (cs.drop k)) ∧ wr.ownsRow (w.heap.size + 2) 43 3 v k (cellsE (decE cs k)) ∧ Below (w.heap.size + 1) (dcW w (cs.length + 2)) wr

set_option maxRecDepth 100000 in
set_option maxHeartbeats 2000000 in
theorem decode_good (A : Option Addr) (cap : Nat) (cs : List Nat) (w : World) (hA : IntsAt w w.heap.size A cs.length (intsN cs)) (hl : cs.length ≤ 8) (hok : ∀ c ∈ cs, c < cs.length + 2) :
    Calls Tryd.prog 38 #[.slice A cs.length cap] w (DecGood w cs) := by
  obtain ⟨len, hlen⟩ : ∃ n, n = cs.length := ⟨_, rfl⟩
  have HLn := Lib.hid hlen
  have HO := Lib.hid hok
  have HA : Hid (IntsAt w w.heap.size A len (intsN cs)) := Lib.hid (by rw [hlen]; exact hA)
  rw [← hlen] at hl ⊢
  clear hA hok hlen
  obtain ⟨i0, hi, hz0, hz1, hz2⟩ := info_parts infoEdge
  have HI := Lib.hid hi
  have HI0 := Lib.hid hz0
  have HI1 := Lib.hid hz1
  have HI2 := Lib.hid hz2
  clear hi hz0 hz1 hz2
  have hmk := fun W => run_make_row' (P := Tryd.prog) 25 3 (.int .i64 0) 8 Tryd.underlying25 (by kernel_rfl) rfl .i64 .i64 (len + 2) (by omega) (by omega) W
  simp only [Int.natCast_add, Int.cast_ofNat_Int] at hmk
  go_enter Tryd.func38, Tryd.ntmps38
  go_wp2
  clear hmk
  have HS : Hid (RowC (dcW w (len + 2)) (w.heap.size + 1) (len + 2) (fun v => ((cs.take 0).count v : Int))) := Lib.hid (dcW_row w (len + 2) cs)
  go_loopw [23] (fun j wr => ∃ i : Nat, i ≤ len ∧ j = .int .i64 i ∧ Hid (RowC wr (w.heap.size + 1) (len + 2) (fun v => ((cs.take i).count v : Int))) ∧ Below (w.heap.size + 1) (dcW w (len + 2)) wr) (fun j _ => len - (intOf j).toNat)
  case atStart => exact ⟨0, Nat.zero_le _, rfl, HS, Below.refl _ _⟩
  case round =>
    clear HS
    obtain ⟨i, hi, rfl, HR, hB⟩ := hrel
    have hsz := hB.size
    rw [dcW_size] at hsz
    have hBw : Below w.heap.size w wr := (dcW_below w (len + 2)).trans (hB.mono (by omega))
    by_cases hin : i < len
    · obtain ⟨b, off, y, rfl, hb, hy, hc⟩ := (HA.out.below hBw).at_ hin
      obtain ⟨c, hcs, rfl⟩ := intsN_get hy
      have hcn : c < len + 2 := by have := HO.out c (List.mem_of_getElem? hcs); have := HLn.out; omega
      have ix0 : (0 : Int) ≤ (i : Int) := by omega
      have ix1 : (i : Int) < (len : Int) := by omega
      have HN : Hid (RowC (wr.setCell ⟨w.heap.size + 1, c, none⟩ (.int .i64 ((((cs.take i).count c : Nat) : Int) + 1))) (w.heap.size + 1) (len + 2) (fun v => ((cs.take (i + 1)).count v : Int))) := Lib.hid ((HR.out.set_ c _).congr fun v _ => count_next cs i c hcs v)
      have hcz := HR.out.cell hcn
      have hfz := HR.out.frozen c
      have hgl := HR.out.lt
      have hz1 : (cs.take i).count c ≤ 8 := by have := List.count_le_length (a := c) (l := cs.take i); have h2 := List.length_take_le i cs; omega
      generalize (cs.take i).count c = z at HN hcz hz1
      have HBn := Lib.hid (hB.setCell (p := ⟨w.heap.size + 1, c, none⟩) (Nat.le_refl _) (.int .i64 ((z : Int) + 1)))
      have hbne : ¬ b = w.heap.size + 1 := by omega
      clear hy hcs hB hBw HR
      go_wp2
      go_roundw
      case rel => exact ⟨i + 1, by omega, by go_num, HN, HBn.out⟩
      case measure => simp [intOf]; omega
    · obtain rfl : i = len := by omega
      have HR0 : Hid (RowC wr (w.heap.size + 1) (i + 2) (tcF (goneK cs 0) (cs.drop 0))) := Lib.hid (HR.out.congr fun v _ => by
        rw [List.take_of_length_le (by have := HLn.out; omega), goneK, List.drop_zero, tcF_not (by simp)])
      have HB1 := Lib.hid hB
      clear HR hB hBw hin
      obtain ⟨wo, rfl⟩ : ∃ wo : World, wo = wr := ⟨_, rfl⟩
      go_wp2_with (at_make; refine wpList_make_own _ rfl _ _ 22 rfl (w.heap.size + 2) 43 i0 (.agg #[.int .i64 0, .int .i64 0, .int .i64 0]) 3 Tryd.underlying22 HI.out HI0.out HI1.out _ _ _ (i + 1) rfl rfl (by omega) ?b1 ?b2 ?b3 ?_)
      case b1 => have h : i0.bytes = 24 := HI2.out
                 rw [h]; omega
      case b2 => unfold maxLen; omega
      case b3 => omega
      intro w2 hown2 hgrow2
      have HV2 : Hid (DecInv w cs 0 (.slice (some ⟨wo.heap.size, 0, none⟩) 0 (i + 1)) w2 ∧ wo.heap.size ≤ w2.heap.size) := Lib.hid (by
        have hwr := HB1.out.size
        rw [dcW_size] at hwr
        refine ⟨⟨?_, by simpa [decE, cellsE] using hown2, ?_⟩, hgrow2.size⟩
        · have h := HR0.out.of_block (hgrow2.block (w.heap.size + 1) (by have := HR0.out.lt; omega) (by simp))
          rw [HLn.out] at h
          exact h
        · rw [← HLn.out]
          exact HB1.out.grown hgrow2 (by omega) (fun g hg => by cases hg))
      clear hown2 hgrow2
      go_wp2_with fail
      go_loopw [8, 47] (fun v j wr => ∃ k : Nat, k ≤ i ∧ j = .int .i64 k ∧ Hid (DecInv w cs k v wr)) (fun _ j _ => i - (intOf j).toNat)
      case atStart => exact ⟨0, Nat.zero_le _, rfl, Lib.hid HV2.out.1⟩
      case round =>
        clear HV2 HR0 HB1
        obtain ⟨k, hk, rfl, HD⟩ := hrel
        obtain ⟨HRw, HOw, hB⟩ : Hid (RowC wr (w.heap.size + 1) (i + 2) (tcF (goneK cs k) (cs.drop k))) ∧ Hid (wr.ownsRow (w.heap.size + 2) 43 3 u8 k (cellsE (decE cs k))) ∧ Hid (Below (w.heap.size + 1) (dcW w (i + 2)) wr) := by
          obtain ⟨h1, h2, h3⟩ := HD.out
          rw [← HLn.out] at h1 h3
          exact ⟨Lib.hid h1, Lib.hid h2, Lib.hid h3⟩
        clear HD
        have hsz : w.heap.size + 2 ≤ wr.heap.size := by have := hB.out.size; rw [dcW_size] at this; exact this
        have HBw : Hid (Below w.heap.size w wr) := Lib.hid ((dcW_below w (i + 2)).trans (hB.out.mono (by omega)))
        have hkc : k ≤ cs.length := by have := HLn.out; omega
        have hnx : nextK cs k < i + 2 := by have := nextK_lt hkc; have := HLn.out; omega
        have hz0 : tcF (goneK cs k) (cs.drop k) (nextK cs k) = 0 := tcF_zero (freeN_not _)
        have hz1 : ∀ j, j < nextK cs k → tcF (goneK cs k) (cs.drop k) j ≠ 0 := fun j hj => tcF_some (freeN_below hj)
        have HTK := Lib.hid (takeFirst_any (w.heap.size + 1) (i + 2) (i + 2) (nextK cs k) (tcF (goneK cs k) (cs.drop k)) wr HRw.out (by omega) hnx hz0 hz1)
        have HR4 := Lib.hid (HRw.out.set_ (nextK cs k) (-1))
        have HB4 := Lib.hid (hB.out.setCell (p := ⟨w.heap.size + 1, nextK cs k, none⟩) (Nat.le_refl _) (.int .i64 (-1)))
        have HO4 : Hid ((wr.setCell ⟨w.heap.size + 1, nextK cs k, none⟩ (.int .i64 (-1))).ownsRow (w.heap.size + 2) 43 3 u8 k (cellsE (decE cs k))) := Lib.hid (own_keep3 HOw.out fun g hg => Below.heap_setCell _ _ _ g (by show g ≠ w.heap.size + 1; omega))
        have hnI : ∃ a, a = nextK cs k := ⟨_, rfl⟩
        clear hz0 hz1
        by_cases hki : k < i
        · obtain ⟨b, off, y, rfl, hb, hy, hc⟩ := (HA.out.below HBw.out).at_ hki
          obtain ⟨c, hcs, rfl⟩ := intsN_get hy
          have hcn : c < i + 2 := by have := HO.out c (List.mem_of_getElem? hcs); have := HLn.out; omega
          have hdrop : cs.drop k = c :: cs.drop (k + 1) := by
            obtain ⟨h1, h2⟩ := List.getElem?_eq_some_iff.1 hcs
            rw [List.drop_eq_getElem_cons h1, h2]
          have hcg : c ∉ goneK cs (k + 1) := fun h => by
            rw [goneK_succ, List.mem_append, List.mem_singleton] at h
            rcases h with h | h
            · exact goneK_apart cs k c h (by rw [hdrop]; simp)
            · exact freeN_not (goneK cs k ++ cs.drop k) (List.mem_append_right _ (by rw [show freeN (goneK cs k ++ cs.drop k) = c from h.symm, hdrop]; simp))
          have HR5 : Hid (RowC (wr.setCell ⟨w.heap.size + 1, nextK cs k, none⟩ (.int .i64 (-1))) (w.heap.size + 1) (i + 2) (tcF (goneK cs (k + 1)) (cs.drop k))) := Lib.hid (HR4.out.congr fun v _ => tcF_take (goneK cs k) (cs.drop k) (nextK cs k) v)
          obtain ⟨z, HZ, hz1, hz8⟩ : ∃ z : Int, Hid (tcF (goneK cs (k + 1)) (cs.drop k) c = z) ∧ 1 ≤ z ∧ z ≤ 8 := by
            refine ⟨_, Lib.hid rfl, ?_⟩
            rw [tcF_not hcg, hdrop, List.count_cons_self]
            have := List.count_le_length (a := c) (l := cs.drop (k + 1))
            rw [List.length_drop] at this
            have hL := HLn.out
            omega
          have HNX : Hid (∀ v, updF (tcF (goneK cs (k + 1)) (cs.drop k)) c (z - 1) v = tcF (goneK cs (k + 1)) (cs.drop (k + 1)) v) := Lib.hid fun v => by
            have h := tcF_told (rest := cs.drop (k + 1)) hcg v
            rw [← hdrop, HZ.out] at h
            exact h
          have HE : Hid (cellsE (decE cs (k + 1)) = cellsE (decE cs k) ++ [.int .i64 (nextK cs k : Int), .int .i64 (c : Int), .int .i64 0]) := Lib.hid (by
            rw [decE, cellsE_snoc, show cs.getD k 0 = c by rw [List.getD_eq_getElem?_getD, hcs]; rfl]; rfl)
          have ix0 : (0 : Int) ≤ (k : Int) := by omega
          have ix1 : (k : Int) < (i : Int) := by omega
          have iy1 : (c : Int) < (i : Int) + 2 := by omega
          generalize nextK cs k = a at *
          have hlt2 : w.heap.size + 1 < wr.heap.size := by omega
          clear hy hcs hdrop hcg hnI HRw HR4 HOw
          go_wp2_with (first
            | (go_at_call 65; refine HTK.out.mono ?_; rintro e w4 ⟨rfl, rfl⟩)
            | (at_builtin; refine wpList_append_own _ rfl _ _ 22 rfl (w.heap.size + 2) 43 i0 (.agg #[.int .i64 0, .int .i64 0, .int .i64 0]) 3 24 Tryd.underlying22 HI.out HI0.out HI1.out HI2.out rfl (by decide) _ _ _ rfl (HO4.out.alloc _) ⟨wr.heap.size, 0, none⟩ 1 1 [.int .i64 (a : Int), .int .i64 (c : Int), .int .i64 0] rfl rfl ?c1 ?c2 ?c3 ?c4 ?c5 ?_))
          try (case c1 => intro j u hj; rcases j with _ | _ | _ | j <;> simp at hj <;> subst hj <;> simp [go_sem, Addr.add])
          case c2 => simp [Value.oneCell']
          case c3 => unfold maxLen; omega
          case c4 => omega
          case c5 => simp; omega
          intro v' w5 hown' hgrow _
          have hne : ∀ g, g < w.heap.size + 2 → some g ≠ u8.ownBlock := fun g hg he => by have := own_base3 HO4.out g he.symm; omega
          have hR5 : RowC w5 (w.heap.size + 1) (i + 2) (tcF (goneK cs (k + 1)) (cs.drop k)) := HR5.out.of_block ((hgrow.block _ (by simp; omega) (hne _ (by omega))).trans (Below.heap_alloc _ _ _ (by simp; omega)))
          have hc5 : w5.cell? ⟨w.heap.size + 1, c, none⟩ = some (.int .i64 z) := by rw [hR5.cell hcn, HZ.out]
          have hf5 := hR5.frozen c
          have hgl := hR5.lt
          have HN : Hid (DecInv w cs (k + 1) v' (w5.setCell ⟨w.heap.size + 1, c, none⟩ (.int .i64 (z - 1)))) := Lib.hid (by
            refine ⟨?_, ?_, ?_⟩
            · rw [← HLn.out]
              exact (hR5.set_ c (z - 1)).congr fun v _ => HNX.out v
            · rw [HE.out]
              exact own_keep3 hown' fun g hg => Below.heap_setCell _ _ _ g (by show g ≠ w.heap.size + 1; omega)
            · rw [← HLn.out]
              exact ((HB4.out.alloc (by simp; omega) _).grown hgrow (by simp; omega) (fun g hg => by have := own_base3 HO4.out g hg; omega)).setCell (p := ⟨w.heap.size + 1, c, none⟩) (Nat.le_refl _) _)
          clear hown' hgrow hne hR5
          go_wp2
          go_roundw
          case rel => exact ⟨k + 1, by omega, by go_num, HN⟩
          case measure => simp [intOf]; omega
        · obtain rfl : k = i := by omega
          have hca : nextK cs k = lastA cs := by rw [HLn.out]; exact nextK_end cs
          have hgo : goneK cs cs.length = goneK cs k := by rw [HLn.out]
          have hdr : cs.drop k = [] := List.drop_of_length_le (by have := HLn.out; omega)
          have hlb : lastB cs < k + 2 := by have := lastB_le cs; have := HLn.out; omega
          have HR5 : Hid (RowC (wr.setCell ⟨w.heap.size + 1, nextK cs k, none⟩ (.int .i64 (-1))) (w.heap.size + 1) (k + 2) (tcF (goneK cs k ++ [lastA cs]) [])) := Lib.hid (HR4.out.congr fun v _ => by
            have h := tcF_take (goneK cs k) (cs.drop k) (nextK cs k) v
            rw [hca, hdr] at h
            rw [hca, hdr]
            exact h)
          have hB0 : freeN (goneK cs k ++ [lastA cs]) = lastB cs := by unfold lastB; rw [hgo]
          have HTK2 := Lib.hid (takeFirst_any (w.heap.size + 1) (k + 2) (k + 2) (lastB cs) (tcF (goneK cs k ++ [lastA cs]) []) _ HR5.out (by omega) hlb (tcF_zero (by rw [List.append_nil, ← hB0]; exact freeN_not _)) (fun j hj => tcF_some (by rw [List.append_nil]; exact freeN_below (by rw [hB0]; exact hj))))
          have HE : Hid (cellsE (decAll cs) = cellsE (decE cs k) ++ [.int .i64 (nextK cs k : Int), .int .i64 (lastB cs : Int), .int .i64 0]) := Lib.hid (by
            rw [decAll, cellsE_snoc, ← HLn.out, hca]; rfl)
          generalize nextK cs k = a at *
          generalize lastB cs = b at *
          have HB5 := Lib.hid (HB4.out.setCell (p := ⟨w.heap.size + 1, b, none⟩) (Nat.le_refl _) (.int .i64 (-1)))
          have HO5 : Hid (((wr.setCell ⟨w.heap.size + 1, a, none⟩ (.int .i64 (-1))).setCell ⟨w.heap.size + 1, b, none⟩ (.int .i64 (-1))).ownsRow (w.heap.size + 2) 43 3 u8 k (cellsE (decE cs k))) := Lib.hid (own_keep3 HO4.out fun g hg => Below.heap_setCell _ _ _ g (by show g ≠ w.heap.size + 1; omega))
          have hlt2 : w.heap.size + 1 < wr.heap.size := by omega
          clear hca hgo hdr hB0 hnI HRw HR4 HOw HR5 hlb
          go_wp2_with (first
            | (go_at_call 65; refine HTK.out.mono ?_; rintro e w4 ⟨rfl, rfl⟩; clear HTK)
            | (go_at_call 65; refine HTK2.out.mono ?_; rintro e w4 ⟨rfl, rfl⟩)
            | (at_builtin; refine wpList_append_own _ rfl _ _ 22 rfl (w.heap.size + 2) 43 i0 (.agg #[.int .i64 0, .int .i64 0, .int .i64 0]) 3 24 Tryd.underlying22 HI.out HI0.out HI1.out HI2.out rfl (by decide) _ _ _ rfl (HO5.out.alloc _) ⟨wr.heap.size, 0, none⟩ 1 1 [.int .i64 (a : Int), .int .i64 (b : Int), .int .i64 0] rfl rfl ?d1 ?d2 ?d3 ?d4 ?d5 ?_))
          try (case d1 => intro j u hj; rcases j with _ | _ | _ | j <;> simp at hj <;> subst hj <;> simp [go_sem, Addr.add])
          case d2 => simp [Value.oneCell']
          case d3 => unfold maxLen; omega
          case d4 => omega
          case d5 => simp; omega
          intro v' w5 hown' hgrow _
          obtain ⟨A', cap', rfl⟩ := own_form3 hown'
          have hB6 : Below (w.heap.size + 1) (dcW w (k + 2)) w5 := (HB5.out.alloc (by simp; omega) _).grown hgrow (by simp; omega) (fun g hg => by have := own_base3 HO5.out g hg; omega)
          have r0 : w5.cell? ⟨w.heap.size, 0, none⟩ = some (.int .i64 0) := by rw [hB6.cell (p := ⟨w.heap.size, 0, none⟩) (by simp)]; simp [dcW, go_sem]
          have r1 : w5.cell? ⟨w.heap.size, 1, none⟩ = some (.slice none 0 0) := by rw [hB6.cell (p := ⟨w.heap.size, 1, none⟩) (by simp)]; simp [dcW, go_sem]
          have f0 : w5.frozen? ⟨w.heap.size, 0, none⟩ = false := by rw [hB6.frozen (p := ⟨w.heap.size, 0, none⟩) (by simp)]; simp [dcW, go_sem]
          have f1 : w5.frozen? ⟨w.heap.size, 1, none⟩ = false := by rw [hB6.frozen (p := ⟨w.heap.size, 1, none⟩) (by simp)]; simp [dcW, go_sem]
          have HB6 : Hid (Below w.heap.size w w5) := Lib.hid ((dcW_below w (k + 2)).trans (hB6.mono (by omega)))
          have HFIN : Hid (((w5.setCell ⟨w.heap.size, 0, none⟩ (.int .i64 ((k : Int) + 2))).setCell ⟨w.heap.size, 1, none⟩ (.slice A' (k + 1) cap')).ownsRow (w.heap.size + 2) 43 3 (.slice A' (k + 1) cap') (k + 1) (cellsE (decAll cs))) := Lib.hid (by
            rw [HE.out]
            exact own_keep3 hown' fun g hg => (Below.heap_setCell _ _ _ g (by show g ≠ w.heap.size; omega)).trans (Below.heap_setCell _ _ _ g (by show g ≠ w.heap.size; omega)))
          clear hown' hgrow hB6
          go_wp2
          refine bodyPost_ret (v := .tuple #[.agg #[.int .i64 ((k : Int) + 2), .slice A' (k + 1) cap'], .int .i64 0]) (by simp [results, Tryd.results38, go_sem, r0, r1]) rfl ⟨A', cap', ?_, ?_, fun x hx => ?_, ?_⟩
          · rw [← HLn.out]; rfl
          · rw [← HLn.out]; exact EdgesAt.of_own3 HFIN.out
          · obtain ⟨p1, p2⟩ := own_addr3 HFIN.out x hx
            omega
          · exact (HB6.out.setCell (p := ⟨w.heap.size, 0, none⟩) (Nat.le_refl _) _).setCell (p := ⟨w.heap.size, 1, none⟩) (Nat.le_refl _) _
end Go.Proofs.YthfgbgmkiggjmabDoor
