/- lanes.netOf's closure: it lays one arc more. No conditions. -/
import Derived.Test.YtmelemjngnadpaaDoorZb3
import Derived.Test.YtmelemjngnadpaaDoorZb2
import Derived.Deep.AppendLies
import Derived.Laws.OwnMore
namespace Go.Proofs.YtmelemjngnadpaaDoor
open Go.RowKit

/-- A net under way: its box, and the arcs so far. -/
structure LayW (B base : Nat) (N : Int) (es : List A4) (v : Value) (w : World) : Prop where
  box : RowOf w B 50 [.int .i64 N, v]
  own : w.ownsRow base 65 4 v es.length (cellsA es)
  lt : B < base
  le : base ≤ w.heap.size
theorem LayW.ne {B base : Nat} {N : Int} {es : List A4} {v : Value} {w : World} (h : LayW B base N es v w) {g : Nat} (hg : v.ownBlock = some g) : base ≤ g ∧ g < w.heap.size := h.own.lt g hg
theorem LayW.below {B base : Nat} {N : Int} {es : List A4} {v : Value} {w w' : World} (h : LayW B base N es v w) (hb : Below w.heap.size w w') : LayW B base N es v w' :=
  ⟨(hb.block _ h.box.lt).trans h.box, own_block4 h.own fun g hg => hb.block g (h.ne hg).2, h.lt, Nat.le_trans h.le hb.size⟩
set_option maxHeartbeats 1000000 in
theorem lay_any (p q N : Int) (B base : Nat) (v : Value) (es : List A4) (w : World) (h : LayW B base N es v w) (hl : es.length ≤ 1000) :
    Calls Tryd.prog 29 #[.int .i64 p, .int .i64 q, .pointer (some ⟨B, 0, none⟩)] w fun e w' => e = .returned (.tuple #[]) ∧ (∃ v', LayW B base N (es ++ [(p, q, 1, 0)]) v' w') ∧ But (fun b => b = B ∨ v.ownBlock = some b) w w' := by
  obtain ⟨i0, hi, hz0, hz1, hz2⟩ := info_parts infoArc
  have HI := Lib.hid hi
  have HI0 := Lib.hid hz0
  have HI1 := Lib.hid hz1
  have HI2 := Lib.hid hz2
  have H := Lib.hid h
  have hBw := h.box.lt
  have hv1 : w.cell? ⟨B, 1, none⟩ = some v := h.box.cell rfl
  clear hi hz0 hz1 hz2 h
  obtain ⟨A, cap, HV⟩ : ∃ A cap, Hid (v = .slice A es.length cap) := by
    obtain ⟨A, cap, hv⟩ := own_form4 H.out.own
    exact ⟨A, cap, Lib.hid hv⟩
  obtain rfl := HV.out
  go_enter Tryd.func29, Tryd.ntmps29
  go_wp2_with (at_builtin; refine wpList_append_own _ rfl _ _ 48 rfl base 65 i0 (.agg #[.int .i64 0, .int .i64 0, .int .i64 0, .int .i64 0]) 4 32 Tryd.underlying48 HI.out HI0.out HI1.out HI2.out rfl (by decide) _ _ _ rfl (H.out.own.alloc _) ⟨w.heap.size, 0, none⟩ 1 1 [.int .i64 p, .int .i64 q, .int .i64 1, .int .i64 0] rfl rfl ?c1 ?c2 ?c3 ?c4 ?c5 ?_)
  try (case c1 => intro j u hj; rcases j with _ | _ | _ | _ | j <;> simp at hj <;> subst hj <;> simp [go_sem, Addr.add])
  case c2 => simp [Value.oneCell']
  case c3 => unfold maxLen; omega
  case c4 => omega
  case c5 => have := H.out.le; simp; omega
  intro v' w3 hown' hgrow _
  obtain ⟨A', cap', rfl⟩ := own_form4 hown'
  have hneB : ∀ g, (Value.slice A es.length cap).ownBlock = some g → base ≤ g ∧ g < w.heap.size := fun g hg => H.out.ne hg
  have hlt := H.out.lt
  have hle := H.out.le
  have hR3 : RowOf w3 B 50 [.int .i64 N, .slice A es.length cap] := (hgrow.block _ (by simp; omega) (fun he => by have := (hneB _ he.symm).1; omega)).trans (H.out.box.alloc _)
  have hv3 : w3.cell? ⟨B, 1, none⟩ = some (.slice A es.length cap) := hR3.cell rfl
  have hf3 := hR3.frozen 1
  have hs3 : w.heap.size ≤ w3.heap.size := by have := hgrow.size; simp at this; omega
  have HN : Hid (LayW B base N (es ++ [(p, q, 1, 0)]) (.slice A' (es.length + 1) cap') (w3.setCell ⟨B, 1, none⟩ (.slice A' (es.length + 1) cap'))) := Lib.hid (by
    refine ⟨hR3.set_ 1 _, ?_, hlt, by simp; omega⟩
    rw [List.length_append, cellsA_snoc]
    exact own_keep4 hown' fun g hg => Below.heap_setCell _ _ _ g (by show g ≠ B; omega))
  have HB : Hid (But (fun b => b = B ∨ (Value.slice A es.length cap).ownBlock = some b) w (w3.setCell ⟨B, 1, none⟩ (.slice A' (es.length + 1) cap'))) := Lib.hid (by
    suffices h0 : But (fun b => b = B ∨ (Value.slice A es.length cap).ownBlock = some b) w w3 by
      exact h0.set_ (p := ⟨B, 1, none⟩) (.inl rfl) _
    refine ⟨hgrow.os, hgrow.tape, hgrow.output, hs3, fun b hb hn => ?_⟩
    exact (hgrow.block b (by simp; omega) fun he => hn (.inr he.symm)).trans (Below.heap_alloc w _ b hb))
  clear hown' hgrow hR3 hneB
  go_wp2
  exact bodyPost_end (results_none rfl _ _ _) rfl ⟨rfl, ⟨_, HN.out⟩, HB.out⟩
end Go.Proofs.YtmelemjngnadpaaDoor
