/- The program's stepsOf: of each arc the step along it, and the step back. Conditions: a net without fault, and for each arc a number that may go. -/
import Derived.Test.YtmlmnmphmghdlaaArcsOwn
import Derived.Test.YtmlmnmphmghdlaaFeeStepP
import Derived.Test.YtmlmnmphmghdlaaRefFlows
import Derived.Test.YtmlmnmphmghdlaaRangeAll
import Derived.Deep.AppendLies
import Derived.Laws.OwnMore
import Derived.RegionTactic
import Derived.IntWalk
import Derived.Deep.RegionHeld3
namespace Go.Proofs.Ytmlmnmphmghdlaa
open Go.RowKit

structure StepW (w : World) (m : Nat) (A : Option Addr) (len cap : Nat) (L : List A4) (v : Value) (wr : World) : Prop where
  net : RowOf wr (w.heap.size + 1 + 1) 24 [.int .i64 m, v]
  own : wr.ownsRow (w.heap.size + 1 + 1 + 1) 31 4 v L.length (cellsA L)
  box : wr.heap[w.heap.size]? = some (.cells #[.int .i64 m, .slice A len cap] 24 (0, 0))
  res : wr.heap[w.heap.size + 1]? = some (.cells #[.int .i64 0, .slice none 0 0] 24 (0, 0))
  below : Below w.heap.size w wr
  le : w.heap.size + 1 + 1 + 1 ≤ wr.heap.size
section
variable {w wr W : World} {m len cap : Nat} {A : Option Addr} {L : List A4} {v : Value}
theorem StepW.later (h : StepW w m A len cap L v wr) (hb : Below wr.heap.size wr W) : StepW w m A len cap L v W := by
  have hle := h.le
  exact ⟨(hb.block _ h.net.lt).trans h.net, own_block4 h.own fun g hg => hb.block g (h.own.lt g hg).2, (hb.block _ (by omega)).trans h.box, (hb.block _ (by omega)).trans h.res, h.below.trans (hb.mono h.below.size), Nat.le_trans hle hb.size⟩
theorem StepW.k1 (h : StepW w m A len cap L v wr) : wr.cell? ⟨w.heap.size, 1, none⟩ = some (.slice A len cap) := by simp [World.cell?, h.box]
theorem StepW.k0 (h : StepW w m A len cap L v wr) : wr.cell? ⟨w.heap.size, 0, none⟩ = some (.int .i64 m) := by simp [World.cell?, h.box]
end
theorem cellsA_two (L : List A4) (a b : A4) : cellsA (L ++ [a, b]) = cellsA L ++ (cells4 a ++ cells4 b) := by simp [cellsA]
set_option maxRecDepth 100000 in
set_option maxHeartbeats 4000000 in
theorem stepsOf_any (m : Nat) (A : Option Addr) (len cap : Nat) (es : List A4) (A2 : Option Addr) (cap2 : Nat) (xs : List Int) (w : World) (hE : ArcsAt w w.heap.size A len es) (hI : IntsAt w w.heap.size A2 len xs)
    (hG : GoodN (m : Int) es) (hFB : ∀ k, -1048576 ≤ feeP es k ∧ feeP es k ≤ 1048576) (hM : MayP (netP (m : Int) es) (goesF xs)) :
    Calls Try.prog 23 #[.agg #[.int .i64 m, .slice A len cap], .slice A2 len cap2] w fun e w' => ∃ A' cap', e = .returned (.agg #[.int .i64 m, .slice A' (2 * len) cap']) ∧ w'.ownsRow (w.heap.size + 1 + 1 + 1) 31 4 (.slice A' (2 * len) cap') (2 * len) (cellsA (stepT es (goesF xs) len)) ∧ Below w.heap.size w w' := by
  obtain ⟨i0, hi, hz0, hz1, hz2⟩ := info_parts infoArc
  have HI := Lib.hid hi
  have HI0 := Lib.hid hz0
  have HI1 := Lib.hid hz1
  have HI2 := Lib.hid hz2
  have HE := Lib.hid hE
  have HX := Lib.hid hI
  have HG := Lib.hid hG
  have HF := Lib.hid hFB
  have HM := Lib.hid hM
  have hl30 : len ≤ 30 := by have := hG.len; have := hE.1; omega
  clear hi hz0 hz1 hz2 hE hI hG hFB hM
  go_enter Try.func23, Try.ntmps23
  go_wp2
  obtain ⟨W0, hW0⟩ : ∃ W0, (((w.alloc (.cells #[.int .i64 m, .slice A len cap] 24)).alloc (.cells #[.int .i64 0, .slice none 0 0] 24)).alloc (.cells #[.int .i64 m, .slice none 0 0] 24)) = W0 := ⟨_, rfl⟩
  rw [hW0]
  have HS : Hid (StepW w m A len cap (stepT es (goesF xs) 0) (.slice none 0 0) W0) := Lib.hid (by
    have h2 : W0.heap[w.heap.size + 1 + 1]? = some (.cells #[.int .i64 m, .slice none 0 0] 24 (0, 0)) := by
      have := (MapKept.heap_alloc ((w.alloc (.cells #[.int .i64 m, .slice A len cap] 24)).alloc (.cells #[.int .i64 0, .slice none 0 0] 24)) (.cells #[.int .i64 m, .slice none 0 0] 24)).1
      rw [World.size_alloc, World.size_alloc] at this
      rw [← hW0]; exact this
    have h1 : W0.heap[w.heap.size + 1]? = some (.cells #[.int .i64 0, .slice none 0 0] 24 (0, 0)) := by
      rw [← hW0, Below.heap_alloc _ _ _ (by simp)]
      have := (MapKept.heap_alloc (w.alloc (.cells #[.int .i64 m, .slice A len cap] 24)) (.cells #[.int .i64 0, .slice none 0 0] 24)).1
      rwa [World.size_alloc] at this
    have h0 : W0.heap[w.heap.size]? = some (.cells #[.int .i64 m, .slice A len cap] 24 (0, 0)) := by
      rw [← hW0, Below.heap_alloc _ _ _ (by simp; omega), Below.heap_alloc _ _ _ (by simp)]
      exact (MapKept.heap_alloc w _).1
    refine ⟨h2, World.ownsRow_nil .., h0, h1, ?_, ?_⟩
    · rw [← hW0]; exact (((Below.refl _ _).alloc (Nat.le_refl _) _).alloc (by simp) _).alloc (by simp; omega) _
    · rw [← hW0]; simp)
  clear hW0
  go_loopw [16] (fun j wr => ∃ k : Nat, k ≤ len ∧ j = .int .i64 k ∧ Hid (∃ v, StepW w m A len cap (stepT es (goesF xs) k) v wr)) (fun j _ => len - (intOf j).toNat)
  case atStart => exact ⟨0, Nat.zero_le _, rfl, Lib.hid ⟨_, HS.out⟩⟩
  case round =>
    clear HS
    obtain ⟨k, hk, rfl, HN⟩ := hrel
    obtain ⟨v, HV⟩ : ∃ v, Hid (StepW w m A len cap (stepT es (goesF xs) k) v wr) := by
      obtain ⟨v, h⟩ := HN.out
      exact ⟨v, Lib.hid h⟩
    clear HN
    by_cases hlt : k < len
    · obtain ⟨bb, off, ⟨x0, x1, x2, x3⟩, rfl, hbb, hx, hc0, hc1, hc2, hc3⟩ := (HE.out.below HV.out.below).at_ hlt
      obtain ⟨bi, oi, z, rfl, hbi, hz, hcz⟩ := (HX.out.below HV.out.below).at_ hlt
      obtain ⟨e0, e1, e2, l0, l1, lne, b0, b1⟩ := netP_arc HG.out.big hx
      have e3 : feeP es k = x3 := by unfold feeP; rw [List.getD_eq_getElem?_getD, hx]; rfl
      have eD : es.getD k default = (x0, x1, x2, x3) := by rw [List.getD_eq_getElem?_getD, hx]; rfl
      have eZ : goesF xs k = z := by unfold goesF; rw [List.getD_eq_getElem?_getD, hz]; rfl
      have hmay := HM.out k (by show k < es.length; have := HE.out.1; omega)
      rw [eZ] at hmay
      have hfb := HF.out k
      rw [e3] at hfb
      simp only at e0 e1 e2 hc0 hc1 hc2 hc3
      rw [← e2] at hmay b0 b1
      obtain ⟨m1, m2⟩ := hmay
      obtain ⟨f1, f2⟩ := hfb
      have HT : Hid (stepT es (goesF xs) (k + 1) = stepT es (goesF xs) k ++ [(x0, x1, x2 - z, x3), (x1, x0, z, -x3)]) := Lib.hid (by
        show stepT es (goesF xs) k ++ _ = _
        rw [eD, eZ]; rfl)
      have HL : Hid ((stepT es (goesF xs) k).length = 2 * k) := Lib.hid (stepT_len k)
      have hbw : bb < wr.heap.size := by have := HV.out.below.size; omega
      have hbiw : bi < wr.heap.size := by have := HV.out.below.size; omega
      have ik0 : (0 : Int) ≤ (k : Int) := by omega
      have ik1 : (k : Int) < (len : Int) := by omega
      clear hx hz e0 e1 e2 e3 eD eZ l0 l1 lne
      have HGC : Hid (∀ W, Below wr.heap.size wr W → W.cell? ⟨bi, oi + k, none⟩ = some (.int .i64 z)) := Lib.hid fun W h => (h.cell (p := ⟨bi, oi + k, none⟩) hbiw).trans hcz
      go_wp2
      clear hc0 hc1 hc2 hc3 hcz
      obtain ⟨W1, hW1⟩ : ∃ W1, W1 = wr.alloc (.cells #[.int .i64 x0, .int .i64 x1, .int .i64 x2, .int .i64 x3] 31) := ⟨_, rfl⟩
      rw [← hW1]
      have HB1 : Hid (Below wr.heap.size wr W1 ∧ W1.heap.size = wr.heap.size + 1) := Lib.hid (by rw [hW1]; exact ⟨(Below.refl _ _).alloc (Nat.le_refl _) _, by simp⟩)
      have HQ1 : Hid (W1.heap[wr.heap.size]? = some (.cells #[.int .i64 x0, .int .i64 x1, .int .i64 x2, .int .i64 x3] 31 (0, 0))) := Lib.hid (by rw [hW1]; exact (MapKept.heap_alloc wr _).1)
      clear hW1
      have y0 : W1.cell? ⟨wr.heap.size, 0, none⟩ = some (.int .i64 x0) := by simp [World.cell?, HQ1.out]
      have y1 : W1.cell? ⟨wr.heap.size, 1, none⟩ = some (.int .i64 x1) := by simp [World.cell?, HQ1.out]
      have y2 : W1.cell? ⟨wr.heap.size, 2, none⟩ = some (.int .i64 x2) := by simp [World.cell?, HQ1.out]
      have y3 : W1.cell? ⟨wr.heap.size, 3, none⟩ = some (.int .i64 x3) := by simp [World.cell?, HQ1.out]
      have yz := HGC.out W1 HB1.out.1
      have hl1 : wr.heap.size < W1.heap.size := by have := HB1.out.2; omega
      have hl2 : bi < W1.heap.size := by omega
      have hw1 : IntKind.i64.wrap (x2 - z) = x2 - z := IntWalk.i64_in _ (by omega)
      have hw2 : IntKind.i64.wrap (-x3) = -x3 := IntWalk.i64_in _ (by omega)
      go_region_held3 (fun W => W.cell? ⟨wr.heap.size, 0, none⟩ = some (.int .i64 x0) ∧ W.cell? ⟨wr.heap.size, 1, none⟩ = some (.int .i64 x1) ∧ W.cell? ⟨wr.heap.size, 2, none⟩ = some (.int .i64 x2) ∧ W.cell? ⟨wr.heap.size, 3, none⟩ = some (.int .i64 x3) ∧ W.cell? ⟨bi, oi + k, none⟩ = some (.int .i64 z))
        (first | exact ⟨y0, y1, y2, y3, yz⟩ | go_keep) (first | fail)
      clear y0 y1 y2 y3 yz hl1 hl2
      obtain ⟨W2, hW2⟩ : ∃ W2, W2 = (W1.alloc (.cells #[.int .i64 x0, .int .i64 x1, .int .i64 (x2 - z), .int .i64 x3] 31)).drew := ⟨_, rfl⟩
      rw [← hW2]
      have HB2 : Hid (Below W1.heap.size W1 W2 ∧ W2.heap.size = W1.heap.size + 1) := Lib.hid (by rw [hW2]; exact ⟨((Below.refl _ _).alloc (Nat.le_refl _) _).drew, by simp [World.drew]⟩)
      have HQ2 : Hid (W2.heap[W1.heap.size]? = some (.cells #[.int .i64 x0, .int .i64 x1, .int .i64 (x2 - z), .int .i64 x3] 31 (0, 0))) := Lib.hid (by rw [hW2]; exact (MapKept.heap_alloc W1 _).1)
      have HQ12 : Hid (W2.heap[wr.heap.size]? = some (.cells #[.int .i64 x0, .int .i64 x1, .int .i64 x2, .int .i64 x3] 31 (0, 0))) := Lib.hid ((HB2.out.1.block _ (by have := HB1.out.2; omega)).trans HQ1.out)
      clear hW2
      go_wp2
      have y0 : W2.cell? ⟨wr.heap.size, 0, none⟩ = some (.int .i64 x0) := by simp [World.cell?, HQ12.out]
      have y1 : W2.cell? ⟨wr.heap.size, 1, none⟩ = some (.int .i64 x1) := by simp [World.cell?, HQ12.out]
      have y3 : W2.cell? ⟨wr.heap.size, 3, none⟩ = some (.int .i64 x3) := by simp [World.cell?, HQ12.out]
      have HBw2 : Hid (Below wr.heap.size wr W2) := Lib.hid (HB1.out.1.trans (HB2.out.1.mono HB1.out.1.size))
      have yz := HGC.out W2 HBw2.out
      have hl1 : wr.heap.size < W2.heap.size := by have := HB1.out.2; have := HB2.out.2; omega
      have hl2 : bi < W2.heap.size := by omega
      go_region_held3 (fun W => W.cell? ⟨wr.heap.size, 0, none⟩ = some (.int .i64 x0) ∧ W.cell? ⟨wr.heap.size, 1, none⟩ = some (.int .i64 x1) ∧ W.cell? ⟨wr.heap.size, 3, none⟩ = some (.int .i64 x3) ∧ W.cell? ⟨bi, oi + k, none⟩ = some (.int .i64 z))
        (first | exact ⟨y0, y1, y3, yz⟩ | go_keep) (first | fail)
      clear y0 y1 y3 yz hl1 hl2
      obtain ⟨W3, hW3⟩ : ∃ W3, W3 = (W2.alloc (.cells #[.int .i64 x1, .int .i64 x0, .int .i64 z, .int .i64 (-x3)] 31)).drew := ⟨_, rfl⟩
      rw [← hW3]
      have HB3 : Hid (Below W2.heap.size W2 W3 ∧ W3.heap.size = W2.heap.size + 1) := Lib.hid (by rw [hW3]; exact ⟨((Below.refl _ _).alloc (Nat.le_refl _) _).drew, by simp [World.drew]⟩)
      have HQ3 : Hid (W3.heap[W2.heap.size]? = some (.cells #[.int .i64 x1, .int .i64 x0, .int .i64 z, .int .i64 (-x3)] 31 (0, 0))) := Lib.hid (by rw [hW3]; exact (MapKept.heap_alloc W2 _).1)
      have HQ23 : Hid (W3.heap[W1.heap.size]? = some (.cells #[.int .i64 x0, .int .i64 x1, .int .i64 (x2 - z), .int .i64 x3] 31 (0, 0))) := Lib.hid ((HB3.out.1.block _ (by have := HB2.out.2; omega)).trans HQ2.out)
      clear hW3
      have HBw3 : Hid (Below wr.heap.size wr W3) := Lib.hid (HBw2.out.trans (HB3.out.1.mono HBw2.out.size))
      have HN3 := Lib.hid (HV.out.later HBw3.out)
      obtain ⟨A6, c6, HVV⟩ : ∃ A6 c6, Hid (v = .slice A6 (stepT es (goesF xs) k).length c6) := by
        obtain ⟨A6, c6, h⟩ := own_form4 HV.out.own
        exact ⟨A6, c6, Lib.hid h⟩
      obtain rfl := HVV.out
      have kv : W3.cell? ⟨w.heap.size + 1 + 1, 1, none⟩ = some (.slice A6 (2 * k) c6) := by rw [← HL.out]; exact HN3.out.net.cell rfl
      have HOW : Hid (W3.ownsRow (w.heap.size + 1 + 1 + 1) 31 4 (.slice A6 (2 * k) c6) (2 * k) (cellsA (stepT es (goesF xs) k))) := Lib.hid (by have h := HN3.out.own; rw [HL.out] at h; exact h)
      have a0 : W3.cell? ⟨W1.heap.size, 0, none⟩ = some (.int .i64 x0) := by simp [World.cell?, HQ23.out]
      have a1 : W3.cell? ⟨W1.heap.size, 1, none⟩ = some (.int .i64 x1) := by simp [World.cell?, HQ23.out]
      have a2 : W3.cell? ⟨W1.heap.size, 2, none⟩ = some (.int .i64 (x2 - z)) := by simp [World.cell?, HQ23.out]
      have a3 : W3.cell? ⟨W1.heap.size, 3, none⟩ = some (.int .i64 x3) := by simp [World.cell?, HQ23.out]
      have b0' : W3.cell? ⟨W2.heap.size, 0, none⟩ = some (.int .i64 x1) := by simp [World.cell?, HQ3.out]
      have b1' : W3.cell? ⟨W2.heap.size, 1, none⟩ = some (.int .i64 x0) := by simp [World.cell?, HQ3.out]
      have b2' : W3.cell? ⟨W2.heap.size, 2, none⟩ = some (.int .i64 z) := by simp [World.cell?, HQ3.out]
      have b3' : W3.cell? ⟨W2.heap.size, 3, none⟩ = some (.int .i64 (-x3)) := by simp [World.cell?, HQ3.out]
      have hle : w.heap.size + 1 + 1 + 1 ≤ W3.heap.size := HN3.out.le
      clear HVV
      go_wp2_with (at_builtin; refine wpList_append_own _ rfl _ _ 22 rfl (w.heap.size + 1 + 1 + 1) 31 i0 (.agg #[.int .i64 0, .int .i64 0, .int .i64 0, .int .i64 0]) 4 32 Try.underlying22 HI.out HI0.out HI1.out HI2.out rfl (by decide) _ _ _ rfl (HOW.out.alloc _) ⟨W3.heap.size, 0, none⟩ 2 2 [.int .i64 x0, .int .i64 x1, .int .i64 (x2 - z), .int .i64 x3, .int .i64 x1, .int .i64 x0, .int .i64 z, .int .i64 (-x3)] rfl rfl ?c1 ?c2 ?c3 ?c4 ?c5 ?_)
      try (case c1 => exact World.news_of_block (MapKept.heap_alloc W3 _).1)
      case c2 => simp [Value.oneCell']
      case c3 => unfold maxLen; omega
      case c4 => omega
      case c5 => simp; omega
      intro v' w4 hown' hgrow _
      obtain ⟨A7, c7, rfl⟩ := own_form4 hown'
      have hgb : ∀ b, b < W3.heap.size → (∀ q, (Value.slice A6 (2 * k) c6).ownBlock = some q → b ≠ q) → w4.heap[b]? = W3.heap[b]? := fun b hb hn => (hgrow.block b (by simp; omega) (fun he => hn b he.symm rfl)).trans (Below.heap_alloc _ _ b hb)
      have hob : ∀ q, (Value.slice A6 (2 * k) c6).ownBlock = some q → w.heap.size + 1 + 1 + 1 ≤ q := fun q hq => (HOW.out.lt q hq).1
      have hR4 : RowOf w4 (w.heap.size + 1 + 1) 24 [.int .i64 m, .slice A6 (2 * k) c6] := (hgb _ (by omega) (fun q hq => by have := hob q hq; omega)).trans (by have h := HN3.out.net; rw [HL.out] at h; exact h)
      have hv4 : w4.cell? ⟨w.heap.size + 1 + 1, 1, none⟩ = some (.slice A6 (2 * k) c6) := hR4.cell rfl
      have hf4 := hR4.frozen 1
      have hs4 : W3.heap.size ≤ w4.heap.size := by have := hgrow.size; simp at this; omega
      have HNX : Hid (StepW w m (some ⟨bb, off, none⟩) len cap (stepT es (goesF xs) (k + 1)) (.slice A7 (2 * k + 2) c7) (w4.setCell ⟨w.heap.size + 1 + 1, 1, none⟩ (.slice A7 (2 * k + 2) c7))) := Lib.hid (by
        have hfar : ∀ b : Nat, b ≠ w.heap.size + 1 + 1 → (w4.setCell ⟨w.heap.size + 1 + 1, 1, none⟩ (.slice A7 (2 * k + 2) c7)).heap[b]? = w4.heap[b]? := fun b hb => Below.heap_setCell _ _ _ b hb
        refine ⟨hR4.set_ 1 _, ?_, (hfar _ (by omega)).trans ((hgb _ (by omega) (fun q hq => by have := hob q hq; omega)).trans HN3.out.box), (hfar _ (by omega)).trans ((hgb _ (by omega) (fun q hq => by have := hob q hq; omega)).trans HN3.out.res), ⟨hgrow.os.trans HN3.out.below.os, hgrow.tape.trans HN3.out.below.tape, hgrow.output.trans HN3.out.below.output, by have := HN3.out.below.size; simp; omega, fun b hb => (hfar b (by omega)).trans ((hgb b (by omega) (fun q hq => by have := hob q hq; omega)).trans (HN3.out.below.block b hb))⟩, by simp; omega⟩
        rw [HT.out, List.length_append, HL.out, cellsA_two]
        exact own_keep4 hown' fun g hg => hfar g (by omega))
      clear hown' hgrow hgb hob hR4
      go_wp2
      go_roundw
      case rel => exact ⟨k + 1, by omega, by go_num, Lib.hid ⟨_, HNX.out⟩⟩
      case measure => simp [intOf]; omega
    · obtain rfl : k = len := by omega
      have HL : Hid ((stepT es (goesF xs) k).length = 2 * k) := Lib.hid (stepT_len k)
      obtain ⟨A6, c6, HVV⟩ : ∃ A6 c6, Hid (v = .slice A6 (2 * k) c6) := by
        obtain ⟨A6, c6, h⟩ := own_form4 HV.out.own
        rw [HL.out] at h
        exact ⟨A6, c6, Lib.hid h⟩
      obtain rfl := HVV.out
      have HOW : Hid (wr.ownsRow (w.heap.size + 1 + 1 + 1) 31 4 (.slice A6 (2 * k) c6) (2 * k) (cellsA (stepT es (goesF xs) k))) := Lib.hid (by have h := HV.out.own; rw [HL.out] at h; exact h)
      have h0 : wr.cell? ⟨w.heap.size + 1 + 1, 0, none⟩ = some (.int .i64 m) := HV.out.net.cell rfl
      have h1 : wr.cell? ⟨w.heap.size + 1 + 1, 1, none⟩ = some (.slice A6 (2 * k) c6) := HV.out.net.cell rfl
      have r0 : wr.cell? ⟨w.heap.size + 1, 0, none⟩ = some (.int .i64 0) := by simp [World.cell?, HV.out.res]
      have r1 : wr.cell? ⟨w.heap.size + 1, 1, none⟩ = some (.slice none 0 0) := by simp [World.cell?, HV.out.res]
      have f0 : wr.frozen? ⟨w.heap.size + 1, 0, none⟩ = false := by simp [World.frozen?, HV.out.res]
      have f1 : wr.frozen? ⟨w.heap.size + 1, 1, none⟩ = false := by simp [World.frozen?, HV.out.res]
      have HBw := Lib.hid HV.out.below
      clear HVV HV hlt hk
      go_wp2
      have HFIN : Hid (((wr.setCell ⟨w.heap.size + 1, 0, none⟩ (.int .i64 m)).setCell ⟨w.heap.size + 1, 1, none⟩ (.slice A6 (2 * k) c6)).ownsRow (w.heap.size + 1 + 1 + 1) 31 4 (.slice A6 (2 * k) c6) (2 * k) (cellsA (stepT es (goesF xs) k))) := Lib.hid (own_keep4 HOW.out fun g hg => (Below.heap_setCell _ _ _ g (by show g ≠ w.heap.size + 1; omega)).trans (Below.heap_setCell _ _ _ g (by show g ≠ w.heap.size + 1; omega)))
      refine bodyPost_ret (v := .agg #[.int .i64 m, .slice A6 (2 * k) c6]) (by simp [results, Try.results23, go_sem, r0, r1]) rfl ⟨A6, c6, rfl, HFIN.out, ?_⟩
      exact (HBw.out.setCell (p := ⟨w.heap.size + 1, 0, none⟩) (Nat.le_succ _) _).setCell (p := ⟨w.heap.size + 1, 1, none⟩) (Nat.le_succ _) _
end Go.Proofs.Ytmlmnmphmghdlaa
