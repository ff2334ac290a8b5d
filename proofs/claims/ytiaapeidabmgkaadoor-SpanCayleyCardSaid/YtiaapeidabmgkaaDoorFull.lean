/- The keepers' full: a graph with all edges. -/
import Derived.Test.YtiaapeidabmgkaaDoorEdgesOwn
import Derived.Test.YtiaapeidabmgkaaDoorFullP
import Derived.Test.YtiaapeidabmgkaaDoorBoxG
namespace Go.Proofs.YtiaapeidabmgkaaDoor
open Go.RowKit

def fullW (w : World) (n : Int) : World := (w.alloc (.cells #[.int .i64 0, .slice none 0 0] 24)).alloc (.cells #[.int .i64 n, .slice none 0 0] 24)
theorem fullW_size (w : World) (n : Int) : (fullW w n).heap.size = w.heap.size + 2 := by simp [fullW]
theorem fullW_below (w : World) (n : Int) : Below w.heap.size w (fullW w n) := ((Below.refl _ _).alloc (Nat.le_refl _) _).alloc (by simp) _
def FullInv (n : Nat) (es : List E3) (w wr : World) : Prop :=
  ∃ v, RowOf wr (w.heap.size + 1) 24 [.int .i64 n, v] ∧ wr.ownsRow (w.heap.size + 2) 45 3 v es.length (cellsE es) ∧ Below (w.heap.size + 1) (fullW w n) wr

set_option maxRecDepth 100000 in
set_option maxHeartbeats 1000000 in
theorem full_any (n : Nat) (w : World) (hn : n ≤ 10) :
    Calls Tryd.prog 12 #[.int .i64 n] w fun e w' => LessOut n w.heap.size (fullE n) e w' ∧ Below w.heap.size w w' := by
  obtain ⟨i0, hi, hz0, hz1, hz2⟩ := info_parts infoEdge
  have HI := Lib.hid hi
  have HI0 := Lib.hid hz0
  have HI1 := Lib.hid hz1
  have HI2 := Lib.hid hz2
  clear hi hz0 hz1 hz2
  go_enter Tryd.func12, Tryd.ntmps12
  go_wp2
  have HS : Hid (FullInv n (fullE 0) w (fullW w n)) := Lib.hid (by
    refine ⟨.slice none 0 0, ?_, by simp [fullE, cellsE, World.ownsRow_nil], Below.refl _ _⟩
    have h := (MapKept.heap_alloc (w.alloc (.cells #[.int .i64 0, .slice none 0 0] 24)) (.cells #[.int .i64 n, .slice none 0 0] 24)).1
    rw [show (w.alloc (.cells #[.int .i64 0, .slice none 0 0] 24)).heap.size = w.heap.size + 1 by simp] at h
    exact h)
  go_loopw [4, 5] (fun j _ wr => ∃ i : Nat, i ≤ n ∧ j = .int .i64 i ∧ Hid (FullInv n (fullE i) w wr)) (fun j _ _ => n - (intOf j).toNat)
  case atStart => exact ⟨0, Nat.zero_le _, rfl, HS⟩
  case round =>
    clear HS
    obtain ⟨i, hi, rfl, HL⟩ := hrel
    by_cases hin : i < n
    · have HL0 : Hid (FullInv n (fullE i ++ fullRow i 0) w wr) := Lib.hid (by
        have e : fullE i ++ fullRow i 0 = fullE i := by simp [fullRow]
        rw [e]
        exact HL.out)
      go_wp2
      go_loopw [5] (fun j wr => ∃ a : Nat, a ≤ i ∧ j = .int .i64 a ∧ Hid (FullInv n (fullE i ++ fullRow i a) w wr)) (fun j _ => i - (intOf j).toNat)
      case atStart => exact ⟨0, Nat.zero_le _, rfl, HL0⟩
      case round =>
        clear HL
        obtain ⟨a, ha, rfl, HL⟩ := hrel
        obtain ⟨v, HRo, HOw, hB⟩ : ∃ v, Hid (RowOf wr (w.heap.size + 1) 24 [.int .i64 n, v]) ∧ Hid (wr.ownsRow (w.heap.size + 2) 45 3 v (fullE i ++ fullRow i a).length (cellsE (fullE i ++ fullRow i a))) ∧ Below (w.heap.size + 1) (fullW w n) wr := by
          obtain ⟨v, h1, h2, h3⟩ := HL.out
          exact ⟨v, Lib.hid h1, Lib.hid h2, h3⟩
        have hsz : w.heap.size + 2 ≤ wr.heap.size := by have := hB.size; rw [fullW_size] at this; exact this
        by_cases hai : a < i
        · have hln : (fullE i ++ fullRow i a).length ≤ 100 := by
            have h1 := fullE_len i
            have h2 : i * i ≤ 10 * 10 := Nat.mul_le_mul (by omega) (by omega)
            rw [List.length_append, fullRow_len]
            omega
          have HNX : Hid (cellsE (fullE i ++ fullRow i (a + 1)) = cellsE (fullE i ++ fullRow i a) ++ [.int .i64 (a : Int), .int .i64 (i : Int), .int .i64 0] ∧ (fullE i ++ fullRow i (a + 1)).length = (fullE i ++ fullRow i a).length + 1) := Lib.hid (by
            rw [fullRow_succ, ← List.append_assoc, cellsE_snoc]
            exact ⟨rfl, by rw [List.length_append]; rfl⟩)
          have hv1 : wr.cell? ⟨w.heap.size + 1, 1, none⟩ = some v := HRo.out.cell rfl
          have hlt2 : w.heap.size + 1 < wr.heap.size := by omega
          clear HL
          generalize (fullE i ++ fullRow i a).length = N at *
          generalize cellsE (fullE i ++ fullRow i a) = cs at *
          go_wp2_with (at_builtin; refine wpList_append_own _ rfl _ _ 22 rfl (w.heap.size + 2) 45 i0 (.agg #[.int .i64 0, .int .i64 0, .int .i64 0]) 3 24 Tryd.underlying22 HI.out HI0.out HI1.out HI2.out rfl (by decide) _ _ _ rfl (HOw.out.alloc _) ⟨wr.heap.size, 0, none⟩ 1 1 [.int .i64 (a : Int), .int .i64 (i : Int), .int .i64 0] rfl rfl ?c1 ?c2 ?c3 ?c4 ?c5 ?_)
          try (case c1 => intro j u hj; rcases j with _ | _ | _ | j <;> simp at hj <;> subst hj <;> simp [go_sem, Addr.add])
          case c2 => simp [Value.oneCell']
          case c3 => unfold maxLen; omega
          case c4 => omega
          case c5 => simp; omega
          intro v' w3 hown' hgrow _
          obtain ⟨A', cap', rfl⟩ := own_form3 hown'
          have hne : ∀ g, g < w.heap.size + 2 → some g ≠ v.ownBlock := fun g hg he => by have := own_base3 HOw.out g he.symm; omega
          have hR3 : RowOf w3 (w.heap.size + 1) 24 [.int .i64 n, v] := (hgrow.block _ (by simp; omega) (hne _ (by omega))).trans (HRo.out.alloc _)
          have hv3 : w3.cell? ⟨w.heap.size + 1, 1, none⟩ = some v := hR3.cell rfl
          have hf3 := hR3.frozen 1
          have hb3 : Below (w.heap.size + 1) (fullW w n) w3 := (hB.alloc (by omega) _).grown hgrow (by simp; omega) (fun g hg => by have := own_base3 HOw.out g hg; omega)
          have HN : Hid (FullInv n (fullE i ++ fullRow i (a + 1)) w (w3.setCell ⟨w.heap.size + 1, 1, none⟩ (.slice A' (N + 1) cap'))) := Lib.hid (by
            refine ⟨_, hR3.set_ 1 _, ?_, hb3.setCell (p := ⟨w.heap.size + 1, 1, none⟩) (Nat.le_refl _) _⟩
            rw [HNX.out.1, HNX.out.2]
            refine ⟨hown'.1, ?_⟩
            rcases hown'.2 with h0 | ⟨g, capg, cur, hv, hg, hr, hrest⟩
            · exact .inl h0
            · exact .inr ⟨g, capg, cur, hv, hg, (Below.heap_setCell _ _ _ g (by show g ≠ w.heap.size + 1; omega)).trans hr, hrest⟩)
          clear hown' hgrow hne hR3 hb3
          go_wp2
          go_roundw
          case rel => exact ⟨a + 1, by omega, by go_num, HN⟩
          case measure => simp [intOf]; omega
        · obtain rfl : a = i := by omega
          have HN : Hid (FullInv n (fullE (a + 1)) w wr) := Lib.hid (by rw [fullE_succ]; exact HL.out)
          go_wp2
          go_roundw
          case rel => exact ⟨a + 1, by omega, by go_num, HN⟩
          case measure => simp [intOf]; omega
    · obtain rfl : i = n := by omega
      obtain ⟨A', N, cap', HRo, HOw, HLn, hB⟩ : ∃ A' N cap', Hid (RowOf wr (w.heap.size + 1) 24 [.int .i64 i, .slice A' N cap']) ∧ Hid (wr.ownsRow (w.heap.size + 2) 45 3 (.slice A' N cap') N (cellsE (fullE i))) ∧ Hid (N = (fullE i).length) ∧ Below (w.heap.size + 1) (fullW w i) wr := by
        obtain ⟨v, h1, h2, h3⟩ := HL.out
        obtain ⟨A', cap', rfl⟩ := own_form3 h2
        exact ⟨A', _, cap', Lib.hid h1, Lib.hid h2, Lib.hid rfl, h3⟩
      have h0 : wr.cell? ⟨w.heap.size + 1, 0, none⟩ = some (.int .i64 i) := HRo.out.cell rfl
      have h1 : wr.cell? ⟨w.heap.size + 1, 1, none⟩ = some (.slice A' N cap') := HRo.out.cell rfl
      have r0 : wr.cell? ⟨w.heap.size, 0, none⟩ = some (.int .i64 0) := by rw [hB.cell (p := ⟨w.heap.size, 0, none⟩) (by show w.heap.size < w.heap.size + 1; omega)]; simp [fullW, go_sem]
      have r1 : wr.cell? ⟨w.heap.size, 1, none⟩ = some (.slice none 0 0) := by rw [hB.cell (p := ⟨w.heap.size, 1, none⟩) (by show w.heap.size < w.heap.size + 1; omega)]; simp [fullW, go_sem]
      have f0 : wr.frozen? ⟨w.heap.size, 0, none⟩ = false := by rw [hB.frozen (p := ⟨w.heap.size, 0, none⟩) (by show w.heap.size < w.heap.size + 1; omega)]; simp [fullW, go_sem]
      have f1 : wr.frozen? ⟨w.heap.size, 1, none⟩ = false := by rw [hB.frozen (p := ⟨w.heap.size, 1, none⟩) (by show w.heap.size < w.heap.size + 1; omega)]; simp [fullW, go_sem]
      have HB2 : Hid (Below w.heap.size w wr) := Lib.hid ((fullW_below w i).trans (hB.mono (by omega)))
      clear HL
      go_wp2
      have HFIN : Hid (((wr.setCell ⟨w.heap.size, 0, none⟩ (.int .i64 i)).setCell ⟨w.heap.size, 1, none⟩ (.slice A' N cap')).ownsRow (w.heap.size + 2) 45 3 (.slice A' N cap') N (cellsE (fullE i))) := Lib.hid (own_keep3 HOw.out fun g hg => (Below.heap_setCell _ _ _ g (by show g ≠ w.heap.size; omega)).trans (Below.heap_setCell _ _ _ g (by show g ≠ w.heap.size; omega)))
      refine bodyPost_ret (v := .agg #[.int .i64 i, .slice A' N cap']) (by simp [results, Tryd.results12, go_sem, r0, r1]) rfl ⟨⟨A', cap', by rw [HLn.out], ?_, fun a ha => ?_⟩, ?_⟩
      · rw [← HLn.out]
        exact EdgesAt.of_own3 HFIN.out
      · obtain ⟨p1, p2⟩ := own_addr3 HFIN.out a ha
        exact ⟨by omega, p2⟩
      · exact (HB2.out.setCell (p := ⟨w.heap.size, 0, none⟩) (Nat.le_refl _) _).setCell (p := ⟨w.heap.size, 1, none⟩) (Nat.le_refl _) _
end Go.Proofs.YtiaapeidabmgkaaDoor
