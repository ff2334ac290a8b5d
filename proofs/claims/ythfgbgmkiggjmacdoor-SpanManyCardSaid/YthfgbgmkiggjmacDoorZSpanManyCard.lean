/- The card SpanManyCardSaid, out of the law's walk: the table of math/bits is tied to the program's text. No conditions. -/
import Derived.Test.YthfgbgmkiggjmacDoorMem
import Derived.Test.YthfgbgmkiggjmacDoorRefMany
import Derived.Test.YthfgbgmkiggjmacDoorTz
import Derived.Test.YthfgbgmkiggjmacDoorRows
import Derived.ProofKit
import Derived.Deep.Slices
import Derived.Deep.Strs
import Derived.Lib.SmallJoins
import Derived.Test.YthfgbgmkiggjmacDoorTie
import Derived.Test.YthfgbgmkiggjmacDoorCards
import Derived.LaidMore
import Derived.OpenShut
import Derived.Stop.Joined
import Derived.Lib.LaidTab
import Derived.SevenTiedAt
namespace Go.Proofs.YthfgbgmkiggjmacDoor
open Go.ChangeShapes Go.WideShapes Go.ChangeAt Go.RowKit Go.Joins Go.Deep

set_option maxRecDepth 100000 in
theorem ownK : ownKnob Tryd.prog.godebug = none := by kernel_rfl
set_option maxRecDepth 100000 in
theorem laidOutO : laidOutB Tryd.prog = true := by kernel_rfl
set_option maxRecDepth 100000 in
theorem cellsInt : Tryd.prog.cellsOf 3 = 1 := by kernel_rfl
end Go.Proofs.YthfgbgmkiggjmacDoor

namespace Go.Proofs.YthfgbgmkiggjmacDoor
open Go.ChangeShapes Go.WideShapes Go.ChangeAt Go.RowKit Go.Joins Go.Deep

set_option maxRecDepth 100000 in
theorem recGraph : Tryd.prog.readableRec 24 = true := by kernel_rfl
set_option maxRecDepth 100000 in
theorem rowGraph : (24 : TypeId) < Tryd.prog.types.size := of_decide_eq_true (by kernel_rfl)
set_option maxRecDepth 100000 in
theorem cellsGraph : Tryd.prog.cellsOf 24 = 2 := by kernel_rfl
set_option maxRecDepth 100000 in
theorem cellsEdge : Tryd.prog.cellsOf 53 = 3 := by kernel_rfl
set_option maxRecDepth 100000 in
theorem cellsInt64 : Tryd.prog.cellsOf 2 = 1 := by kernel_rfl

/-- Every number of an edge is an int64. -/
def WfE (e : E3) : Prop := (Lit.int .i64 e.1).wf = true ∧ (Lit.int .i64 e.2.1).wf = true ∧ (Lit.int .i64 e.2.2).wf = true

section
variable {H : Type} {enc : TypeId × Value → H} {W : World} {base : Nat} {spare : Nat → Bool} {held : Bool}

set_option maxRecDepth 100000 in
theorem edge_of {n : Nat} {cs : List Value} {x : DataW H × List MemPlace} (h : DataW.trod enc Tryd.prog W base spare held n 53 cs = some x) :
    ∃ e : E3, cs = [.int .i64 e.1, .int .i64 e.2.1, .int .i64 e.2.2] ∧ WfE e := by
  obtain ⟨y0, y1, y2, m, _, hlen, h0, h1, h2⟩ := trod_struct3 Tryd.underlying53 h
  rw [cellsEdge] at hlen
  match cs, hlen with
  | [c0, c1, c2], _ =>
    simp only [cellsInt, cellsInt64, List.drop_zero, List.take_succ_cons, List.take_zero, List.drop_succ_cons] at h0 h1 h2
    obtain ⟨a, e0, _, wa⟩ := DataW.trod_int Tryd.underlying3 h0
    obtain ⟨b, e1, _, wb⟩ := DataW.trod_int Tryd.underlying3 h1
    obtain ⟨c, e2, _, wc⟩ := DataW.trod_int Tryd.underlying2 h2
    simp only [List.cons.injEq, and_true] at e0 e1 e2
    subst e0 e1 e2
    exact ⟨(a, b, c), rfl, wa, wb, wc⟩

set_option maxRecDepth 100000 in
theorem edges_of {n : Nat} {v : Value} {x : DataW H × List MemPlace} (h : DataW.trod enc Tryd.prog W base spare held n 22 [v] = some x) :
    ∃ (A : Option Addr) (len cap : Nat) (es : List E3), v = .slice A len cap ∧ EdgesAt W W.heap.size A len es ∧ len ≤ cap ∧ ∀ e ∈ es, WfE e := by
  rcases open_slice Tryd.underlying22 h with ⟨h0, _⟩ | ⟨a, len, cap, m, k, D, Pl, hcs, _, hl, _, hmm, _, hi⟩
  · simp only [List.cons.injEq, and_true] at h0
    subst h0
    exact ⟨none, 0, 0, [], rfl, ⟨rfl, fun h => absurd h (by omega)⟩, Nat.le_refl _, by simp⟩
  · simp only [List.cons.injEq, and_true] at hcs
    subst hcs
    have hlm : len ≤ m := by rw [hmm]; split <;> omega
    have hall : ∀ i, ∃ e : E3, i < len → (∀ j, j < 3 → W.cell? (a.add (i * 3 + j)) = [Value.int .i64 e.1, .int .i64 e.2.1, .int .i64 e.2.2][j]?) ∧ WfE e := fun i => by
      by_cases hlt : i < len
      · obtain ⟨cs', hc, ht⟩ := hi i (by omega)
        obtain ⟨e, rfl, he⟩ := edge_of ht
        rw [cellsEdge] at hc
        obtain ⟨_, _, hat⟩ := World.cells?_some hc
        exact ⟨e, fun _ => ⟨fun j hj => by rw [← Go.Deep.add_add]; exact hat j hj, he⟩⟩
      · exact ⟨default, fun h => absurd h hlt⟩
    obtain ⟨f, hf⟩ := Classical.axiomOfChoice hall
    refine ⟨some a, len, cap, (List.range len).map f, rfl, ⟨by simp, fun hn => ?_⟩, hl, fun e he => ?_⟩
    · have hz := (hf 0 hn).1 0 (by omega)
      simp only [Nat.zero_mul, Nat.add_zero, List.getElem?_cons_zero] at hz
      obtain ⟨b, off, spot⟩ := a
      have hspot : spot = none := by simpa [Addr.add] using World.cell?_spot hz
      subst hspot
      have hb : b < W.heap.size := by
        rcases Nat.lt_or_ge b W.heap.size with h | h
        · exact h
        · simp [World.cell?, Addr.add, Array.getElem?_eq_none h] at hz
      refine ⟨b, off, rfl, hb, fun i e hie => ?_⟩
      obtain ⟨hil, hie⟩ := List.getElem?_eq_some_iff.1 hie
      simp only [List.length_map, List.length_range] at hil
      simp only [List.getElem_map, List.getElem_range] at hie
      subst hie
      have hc := (hf i hil).1
      refine ⟨?_, ?_, ?_⟩
      · have := hc 0 (by omega); rw [Go.WideShapes.add_plain] at this; simpa using this
      · have := hc 1 (by omega); rw [Go.WideShapes.add_plain] at this; simpa [Nat.add_assoc] using this
      · have := hc 2 (by omega); rw [Go.WideShapes.add_plain] at this; simpa [Nat.add_assoc] using this
    · simp only [List.mem_map, List.mem_range] at he
      obtain ⟨i, hi', rfl⟩ := he
      exact (hf i hi').2

set_option maxRecDepth 100000 in
theorem open_graph {r : Reach} {b0 : Nat} {v : Value} {d : DataW H} {p : List MemPlace} (hv : Value.okWide Tryd.prog W r b0 24 v) (h : DataW.Trod enc Tryd.prog W base spare held 24 v d p) :
    ∃ (n : Int) (A : Option Addr) (len cap : Nat) (es : List E3), v = .agg #[.int .i64 n, .slice A len cap] ∧ EdgesAt W W.heap.size A len es ∧ len ≤ cap ∧ (∀ e ∈ es, WfE e) ∧ (Lit.int .i64 n).wf = true := by
  obtain ⟨c0, c1, y0, y1, m, rfl, _, _, hy0, hy1⟩ := open_agg2 Tryd.underlying24 (by kernel_rfl) cellsGraph hv h
  obtain ⟨n, e0, _, wn⟩ := DataW.trod_int Tryd.underlying3 hy0
  simp only [List.cons.injEq, and_true] at e0
  subst e0
  obtain ⟨A, len, cap, es, rfl, hE, hl, hw⟩ := edges_of hy1
  exact ⟨n, A, len, cap, es, rfl, hE, hl, hw, wn⟩
end
end Go.Proofs.YthfgbgmkiggjmacDoor

namespace Go.Proofs.YthfgbgmkiggjmacDoor
open Go.RowKit

set_option maxRecDepth 100000 in
set_option maxHeartbeats 400000 in
theorem spanMany_bad (n : Int) (A : Option Addr) (len cap : Nat) (es : List E3) (v : Int) (w : World) (hE : EdgesAt w w.heap.size A len es) (hcap : len ≤ cap) (hv : gcheck n es = v) (hv0 : v ≠ 0) :
    Calls Tryd.prog 3 #[.agg #[.int .i64 n, .slice A len cap]] w fun e w' => e = .returned (.bool true) ∧ Below w.heap.size w w' := by
  have HX := Lib.hid (BoxG.start (n := n) (cap := cap) hE)
  have HV := Lib.hid hv
  have HV0 := Lib.hid hv0
  have hb0 : (v != 0) = true := by simpa using hv0
  clear hE hv hv0
  go_enter Tryd.func3, Tryd.ntmps3
  go_wp2_with (first
    | (go_at_call 9; refine (many_bad n A len cap es v _ (by exact HX.out.edges) HV.out HV0.out).mono ?_; rintro e w1 ⟨rfl, hb1⟩; have HX1 := Lib.hid (HX.out.next hb1); have hc0 := HX1.out.c0; have hc1 := HX1.out.c1)
    | (go_at_call 10; refine (check_v n A len cap es v _ (by exact HX1.out.edges) hcap HV.out).mono ?_; rintro e w2 ⟨rfl, hb2⟩; have HX2 := Lib.hid (HX1.out.next hb2)))
  go_ret
  exact ⟨rfl, HX2.out.below⟩

set_option maxRecDepth 100000 in
set_option maxHeartbeats 1000000 in
theorem spanMany_good (m : Nat) (A : Option Addr) (len cap : Nat) (es : List E3) (w : World) (hE : EdgesAt w w.heap.size A len es) (hcap : len ≤ cap) (hv : gcheck m es = 0) (hT : Tab w) :
    Calls Tryd.prog 3 #[.agg #[.int .i64 m, .slice A len cap]] w fun e w' => e = .returned (.bool true) ∧ Below w.heap.size w w' := by
  obtain ⟨_, hm10', hl45, hgood⟩ := good_of_gcheck hv
  have hm10 : m ≤ 10 := by omega
  have hlen : len ≤ 45 := by have := hE.1; omega
  have HX := Lib.hid (BoxG.start (n := m) (cap := cap) hE)
  have HV := Lib.hid hv
  have HG := Lib.hid hgood
  have HT := Lib.hid (show Tab (bx w m A len cap) from hT.alloc _)
  clear hE hv hl45 hgood hT
  go_enter Tryd.func3, Tryd.ntmps3
  go_wp2_with (first
    | (go_at_call 9; refine (many_good m A len cap es _ (by exact HX.out.edges) HV.out (by exact HT.out)).mono ?_; rintro e w1 ⟨rfl, hb1⟩; have HX1 := Lib.hid (HX.out.next hb1); have hc0 := HX1.out.c0; have hc1 := HX1.out.c1; clear hb1)
    | (go_at_call 10; refine (check_v m A len cap es 0 _ (by exact HX1.out.edges) hcap HV.out).mono ?_; rintro e w2 ⟨rfl, hb2⟩; have HX2 := Lib.hid (HX1.out.next hb2); clear hb2 hc0 hc1; have hd0 := HX2.out.c0; have hd1 := HX2.out.c1)
    | (go_at_call 11; refine (refMany_any m A len cap es _ (by exact HX2.out.edges) hm10 hlen HG.out).mono ?_; rintro e w3 ⟨rfl, hb3⟩; have HX3 := Lib.hid (HX2.out.next hb3); clear hb3 hd0 hd1))
  go_ret
  exact ⟨rfl, HX3.out.below⟩

set_option maxRecDepth 100000 in
theorem spanMany_any (n : Int) (A : Option Addr) (len cap : Nat) (es : List E3) (w : World) (hE : EdgesAt w w.heap.size A len es) (hcap : len ≤ cap) (_ : ∀ e ∈ es, WfE e) (_ : (Lit.int .i64 n).wf = true) (hT : Tab w) :
    Calls Tryd.prog 3 #[.agg #[.int .i64 n, .slice A len cap]] w fun e w' => e = .returned (.bool true) ∧ Below w.heap.size w w' := by
  by_cases h : gcheck n es = 0
  · obtain ⟨m, rfl⟩ := Int.eq_ofNat_of_zero_le (good_of_gcheck h).1
    exact spanMany_good m A len cap es w hE hcap h hT
  · exact spanMany_bad n A len cap es _ w hE hcap rfl h
end Go.Proofs.YthfgbgmkiggjmacDoor

namespace Go.Proofs.YthfgbgmkiggjmacDoor
open Go.ChangeShapes Go.WideShapes Go.ChangeAt Go.RowKit

def tabZ : List Int := [0, 1, 28, 2, 29, 14, 24, 3, 30, 22, 20, 15, 25, 17, 4, 8, 31, 27, 13, 23, 21, 19, 16, 7, 26, 12, 18, 6, 11, 5, 10, 9]
def laidL : List (String × DataW Unit) := [("math/bits.deBruijn32tab", Rows.laid_math_bits_deBruijn32tab)]
set_option maxRecDepth 100000 in
theorem gTab : Tryd.prog.globalNamed "math/bits.deBruijn32tab" = some 0 := by kernel_rfl
set_option maxRecDepth 100000 in
theorem tTab : (Tryd.prog.globals[(0 : Nat)]?).map (·.type) = some 73 := by kernel_rfl
set_option maxRecDepth 100000 in
theorem cTab : Tryd.prog.cellsOf 73 = 32 := by kernel_rfl
set_option maxRecDepth 100000 in
theorem cByte : Tryd.prog.cellsOf 5 = 1 := by kernel_rfl
theorem tabZ_get : ∀ j, j < 32 → tabZ.getD j 0 = ((Lib.deBruijn32tab.getD j 0 : Nat) : Int) := by decide

set_option maxRecDepth 100000 in
theorem tab_of_laid {W : World} (h : laidMetH Tryd.prog laidL W) : Tab W := by
  rw [MakeChecks.laidMetH_plain _ _ _ (by kernel_rfl)] at h
  have ht := Lib.tabIs_of_head (k := .u8) (zs := tabZ) (rest := []) gTab tTab Tryd.underlying73 Tryd.underlying5 cByte cTab (show laidMet Tryd.prog [("math/bits.deBruijn32tab", Lib.tabData .u8 tabZ)] W from h)
  have hc : ∀ j, j < 32 → W.cell? ⟨0, j, none⟩ = some (.int .u8 (Lib.deBruijn32tab.getD j 0)) := fun j hj => by
    rw [ht.cell gTab j (by exact hj), tabZ_get j hj]
  refine ⟨?_, hc⟩
  rcases Nat.lt_or_ge 0 W.heap.size with hlt | hge
  · exact hlt
  · have h0 := hc 0 (by decide)
    simp only [World.cell?, Array.getElem?_eq_none hge] at h0
    cases h0

set_option maxRecDepth 100000 in
theorem door_met (os : Os) (args : Array Value) : laidMetH Tryd.prog laidL ((World.doorLaid Tryd.prog 400 os).forCall (fun _ _ => 0) ⟨#[], args, []⟩).memory :=
  laidMetH_of_parts3 (fuel := 8) (laidMet_of_run' 8 (by kernel_rfl) (by kernel_rfl)) (by kernel_rfl) (by kernel_rfl)
end Go.Proofs.YthfgbgmkiggjmacDoor

namespace Go.Proofs.YthfgbgmkiggjmacDoor
open Go.ChangeShapes Go.WideShapes Go.ChangeAt Go.RowKit

set_option maxRecDepth 100000 in
theorem spanMany_lifted (os : Os) (started : os.Started) (H : Type) (enc : TypeId × Value → H) :
    ReturnsInHanded {} Tryd.checked os 3 .any (fun w args => (Rows.spanManySpec.pre enc Tryd.prog Tryd.f3 [] false w args ∧ laidMetH Tryd.prog laidL w) ∧ sizedMet enc Tryd.prog Tryd.f3 (OpenSpec.ofChange Rows.spanManySpec) false w args)
      (Rows.spanManySpec.post enc Tryd.prog Tryd.f3 false true false false) := by
  refine returnsInHanded_of_change_and (C := Tryd.checked) (X := fun w _ => laidMetH Tryd.prog laidL w) (fun _ _ _ hh h => h.of_heap hh) ownK started (by kernel_rfl) Tryd.func3
    (ChangeSpec.witness_shaped (enc := enc) (C := Tryd.checked) (os := os) (X := fun w _ => laidMetH Tryd.prog laidL w) false (World.doorLaid Tryd.prog 400 os) #[.agg #[.int .i64 0, .slice none 0 0]] 8 rfl (World.shaped_of_RefB (by kernel_rfl) (by kernel_rfl)) (by kernel_rfl) (by kernel_rfl) (by kernel_rfl) (door_met os _)) ?_
  intro W base args ds gs before hval0 hW _ _ hL _
  have hval : ∀ (j : Nat) t v, Tryd.f3.params[j]? = some t → args[j]? = some v → Value.okWide Tryd.prog W .any base t v := hval0
  have hW' := hW
  obtain ⟨p, q, hA0, hV, rfl, _, _⟩ := hW
  have hA : DataW.TrodAll enc Tryd.prog W 0 (fun _ => true) true Tryd.f3.params.toList args.toList ds p := hA0
  rw [Tryd.params3] at hA hval
  obtain ⟨v0, d0, rfl, rfl, h0⟩ := trodAll_one hA
  obtain ⟨rfl, rfl⟩ := trodVars_none hV
  obtain ⟨n, A, len, cap, es, rfl, hE, hcap, hwf, hwn⟩ := open_graph (hval 0 24 v0 rfl rfl) h0
  clear hA0 hval0
  simp only [List.append_nil] at hW'
  refine (spanMany_any n A len cap es W hE hcap hwf hwn (tab_of_laid hL)).mono fun e W' ⟨he, hb⟩ => ?_
  subst he
  exact ⟨_, rfl, _, _, _, [], p, [], hW', trodAll_mk1 (shut_bool Tryd.underlying4 _), trodAll_mk1 (Below.trod laidOutO recGraph rowGraph h0 hb (fun x hx => hW'.lt x hx)), rfl, hb.frame _, fun h => by cases h⟩

set_option maxRecDepth 100000 in
theorem spanMany_holds : Rows.SpanManySaid :=
  OpenClaim.holds_of_wide 3 Tryd.f3 rfl rfl rfl rfl rfl rfl rfl ⟨rfl, rfl, rfl, rfl, rfl⟩ rfl rfl rfl rfl rfl (by kernel_rfl) Tryd.func3 (by kernel_rfl)
    (of_decide_eq_true (by kernel_rfl)) (by unfold Func.isWrapper; first | (rw [if_pos (by decide +kernel)]; kernel_rfl) | (rw [if_neg (by decide +kernel)]; exact ⟨rfl, rfl⟩))
    (fun os started H enc _ => spanMany_lifted os started H enc)

set_option maxRecDepth 100000 in
theorem spanMany_card : Rows.SpanManyCardSaid :=
  Claim7.holds_tied_plain_at .later [] [.data] true Rows.spanManyCard.stood.harness false
    spanMany_holds (fun _ h => by cases h) (by kernel_rfl) (fun _ h => by cases h) spanMany_row_tie rfl ⟨rfl, rfl⟩ (by kernel_rfl) rfl
    (fun f fn hf hfn => by
      obtain rfl : f = 3 := Option.some.inj ((show Tryd.prog.funcNamed "teamster/teamsterlaw.SpanMany" = some 3 by kernel_rfl).symm.trans hf) |>.symm
      obtain rfl : fn = Tryd.f3 := (Option.some.inj (Tryd.func3.symm.trans hfn)).symm
      exact ⟨by kernel_rfl, fun j t ht => by
        rw [Tryd.params3] at ht
        have hm : t ∈ [24] := by simpa using Array.mem_of_getElem? ht
        have hall : ([24].all fun u => !Tryd.prog.wantsStandIn u) = true := by kernel_rfl
        exact (show Tryd.prog.wantsStandIn t = false by simpa using List.all_eq_true.1 hall t hm)⟩)
    (by kernel_rfl)
#print axioms spanMany_card
end Go.Proofs.YthfgbgmkiggjmacDoor
