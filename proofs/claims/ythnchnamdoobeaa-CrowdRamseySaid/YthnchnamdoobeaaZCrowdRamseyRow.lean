/- The statement CrowdRamseySaid, out of the law's walk. No conditions. -/
import Derived.Test.YthnchnamdoobeaaCrowdLoop
import Derived.Test.YthnchnamdoobeaaCrowdStr
import Derived.Test.YthnchnamdoobeaaCrowdTop
import Derived.Test.YthnchnamdoobeaaNeigh
import Derived.Test.YthnchnamdoobeaaMem
import Derived.Test.YthnchnamdoobeaaCrowdRamsey
import Derived.Test.YthnchnamdoobeaaRows
import Derived.ProofKit
import Derived.Deep.Slices
import Derived.Deep.Strs
import Derived.Lib.SmallJoins
namespace Go.Proofs.Ythnchnamdoobeaa
open Go.RowKit

set_option maxRecDepth 100000 in
set_option maxHeartbeats 2000000 in
theorem mostTop_any (n : Int) (A : Option Addr) (len cap : Nat) (es : List E3) (w : World) (hE : EdgesAt w w.heap.size A len es) :
    Calls Try.prog 11 #[.agg #[.int .i64 n, .slice A len cap]] w (CrowdTop false w n es) := by
  have HX := Lib.hid (BoxG.start (n := n) (cap := cap) hE)
  have k0 := HX.out.c0
  have k1 := HX.out.c1
  obtain ⟨x, hx⟩ : ∃ x, gcheck n es = x := ⟨_, rfl⟩
  by_cases h0 : x = 0
  · subst h0
    obtain ⟨hn0, hn1, hl, hg⟩ := good_of_gcheck hx
    obtain ⟨m, rfl⟩ := Int.eq_ofNat_of_zero_le hn0
    have hm10 : m ≤ 10 := by omega
    have HNB := Lib.hid (fun W hW => neighbours_any m A len cap es W hW hx)
    have HXX := Lib.hid hx
    have HST := Lib.hid (fun g W hW => strangers_any m m (some ⟨g, 0, none⟩) (nbL m es) W hW hm10 (fun i => by have := pow10 hm10 (nbL_words hg i); omega))
    have HMA := Lib.hid (fun g W hW => mostApart_any m m (some ⟨g, 0, none⟩) (strL m es) W hW hm10 (strL_lt m es))
    clear hE hx hn0 hn1 hl
    go_enter Try.func11, Try.ntmps11
    go_wp2_with fail
    refine (HNB.out _ HX.out.edges).mono ?_
    rintro e w1 ⟨g, rfl, hrow, hg0, hB⟩
    have HX1 := Lib.hid (HX.out.next hB)
    have HR : Hid (WordsAt w1 w1.heap.size (some ⟨g, 0, none⟩) m (nbL m es)) := Lib.hid (by
      have h := WordsAt.of_row (B := w1.heap.size) hrow hrow.lt
      rw [nbL_length] at h
      exact h)
    clear hB k0 k1 HNB hrow
    go_wp2_with fail
    refine (HST.out g _ HR.out).mono ?_
    rintro e w2 ⟨g2, rfl, hrow, hg2, hB⟩
    have HX2 := Lib.hid (HX1.out.next hB)
    have HR2 : Hid (WordsAt w2 w2.heap.size (some ⟨g2, 0, none⟩) m (strL m es)) := Lib.hid (by
      rw [strG_all] at hrow
      have h := WordsAt.of_row (B := w2.heap.size) hrow hrow.lt
      rw [strL_length] at h
      exact h)
    clear hB hrow
    go_wp2_with fail
    refine (HMA.out g2 _ HR2.out).mono ?_
    rintro e w3 ⟨⟨b, hb, rfl⟩, hB⟩
    have HX3 := Lib.hid (HX2.out.next hB)
    have HBB := Lib.hid hb
    clear hB hb
    go_wp2_with fail
    go_ret2
    exact ⟨fun h => absurd HXX.out h, fun _ => ⟨b, HBB.out.congr (Nat.two_pow_pos m) (fun j hj => apart_str hm10 hg hj) (fun j hj => ones_sizeP j (pow10 hm10 hj)), rfl⟩, HX3.out.below⟩
  · have hx1 : (x != 0) = true := by simpa using h0
    have HNB := Lib.hid (fun W hW => neighbours_bad n A len cap es x W hW hx h0)
    have HXX := Lib.hid (show gcheck n es ≠ 0 by rw [hx]; exact h0)
    have HXE := Lib.hid hx
    clear hE hx h0
    go_enter Try.func11, Try.ntmps11
    go_wp2_with fail
    refine (HNB.out _ HX.out.edges).mono ?_
    rintro e w1 ⟨rfl, hB⟩
    have HX1 := Lib.hid (HX.out.next hB)
    clear hB k0 k1 HNB
    go_wp2_with fail
    go_ret2
    exact ⟨fun _ => by rw [HXE.out]; rfl, fun h => absurd h HXX.out, HX1.out.below⟩
end Go.Proofs.Ythnchnamdoobeaa

namespace Go.Proofs.Ythnchnamdoobeaa
open Go.RowKit

set_option maxRecDepth 100000 in
set_option maxHeartbeats 2000000 in
theorem apartTop_any (n : Int) (A : Option Addr) (len cap : Nat) (es : List E3) (w : World) (hE : EdgesAt w w.heap.size A len es) :
    Calls Try.prog 14 #[.agg #[.int .i64 n, .slice A len cap]] w (CrowdTop true w n es) := by
  have HX := Lib.hid (BoxG.start (n := n) (cap := cap) hE)
  have k0 := HX.out.c0
  have k1 := HX.out.c1
  obtain ⟨x, hx⟩ : ∃ x, gcheck n es = x := ⟨_, rfl⟩
  by_cases h0 : x = 0
  · subst h0
    obtain ⟨hn0, hn1, hl, hg⟩ := good_of_gcheck hx
    obtain ⟨m, rfl⟩ := Int.eq_ofNat_of_zero_le hn0
    have hm10 : m ≤ 10 := by omega
    have HNB := Lib.hid (fun W hW => neighbours_any m A len cap es W hW hx)
    have HXX := Lib.hid hx
    have HMA := Lib.hid (fun g W hW => mostApart_any m m (some ⟨g, 0, none⟩) (nbL m es) W hW hm10 (fun i => by have := pow10 hm10 (nbL_words hg i); omega))
    clear hE hx hn0 hn1 hl
    go_enter Try.func14, Try.ntmps14
    go_wp2_with fail
    refine (HNB.out _ HX.out.edges).mono ?_
    rintro e w1 ⟨g, rfl, hrow, hg0, hB⟩
    have HX1 := Lib.hid (HX.out.next hB)
    have HR : Hid (WordsAt w1 w1.heap.size (some ⟨g, 0, none⟩) m (nbL m es)) := Lib.hid (by
      have h := WordsAt.of_row (B := w1.heap.size) hrow hrow.lt
      rw [nbL_length] at h
      exact h)
    clear hB k0 k1 HNB hrow
    go_wp2_with fail
    refine (HMA.out g _ HR.out).mono ?_
    rintro e w2 ⟨⟨b, hb, rfl⟩, hB⟩
    have HX2 := Lib.hid (HX1.out.next hB)
    have HBB := Lib.hid hb
    clear hB hb
    go_wp2_with fail
    go_ret2
    exact ⟨fun h => absurd HXX.out h, fun _ => ⟨b, HBB.out.congr (Nat.two_pow_pos m) (fun j hj => apart_nb hg hj) (fun j hj => ones_sizeP j (pow10 hm10 hj)), rfl⟩, HX2.out.below⟩
  · have hx1 : (x != 0) = true := by simpa using h0
    have HNB := Lib.hid (fun W hW => neighbours_bad n A len cap es x W hW hx h0)
    have HXX := Lib.hid (show gcheck n es ≠ 0 by rw [hx]; exact h0)
    have HXE := Lib.hid hx
    clear hE hx h0
    go_enter Try.func14, Try.ntmps14
    go_wp2_with fail
    refine (HNB.out _ HX.out.edges).mono ?_
    rintro e w1 ⟨rfl, hB⟩
    have HX1 := Lib.hid (HX.out.next hB)
    clear hB k0 k1 HNB
    go_wp2_with fail
    go_ret2
    exact ⟨fun _ => by rw [HXE.out]; rfl, fun h => absurd h HXX.out, HX1.out.below⟩
end Go.Proofs.Ythnchnamdoobeaa

namespace Go.Proofs.Ythnchnamdoobeaa
open Go.ChangeShapes Go.WideShapes Go.ChangeAt Go.RowKit Go.Joins Go.Deep

set_option maxRecDepth 100000 in
theorem ownK : ownKnob Try.prog.godebug = none := by kernel_rfl
set_option maxRecDepth 100000 in
theorem laidOutO : laidOutB Try.prog = true := by kernel_rfl
set_option maxRecDepth 100000 in
theorem cellsInt : Try.prog.cellsOf 3 = 1 := by kernel_rfl
end Go.Proofs.Ythnchnamdoobeaa

namespace Go.Proofs.Ythnchnamdoobeaa
open Go.ChangeShapes Go.WideShapes Go.ChangeAt Go.RowKit Go.Joins Go.Deep

set_option maxRecDepth 100000 in
theorem recGraph : Try.prog.readableRec 24 = true := by kernel_rfl
set_option maxRecDepth 100000 in
theorem rowGraph : (24 : TypeId) < Try.prog.types.size := of_decide_eq_true (by kernel_rfl)
set_option maxRecDepth 100000 in
theorem cellsGraph : Try.prog.cellsOf 24 = 2 := by kernel_rfl
set_option maxRecDepth 100000 in
theorem cellsEdge : Try.prog.cellsOf 47 = 3 := by kernel_rfl
set_option maxRecDepth 100000 in
theorem cellsInt64 : Try.prog.cellsOf 2 = 1 := by kernel_rfl

/-- Every number of an edge is an int64. -/
def WfE (e : E3) : Prop := (Lit.int .i64 e.1).wf = true ∧ (Lit.int .i64 e.2.1).wf = true ∧ (Lit.int .i64 e.2.2).wf = true

section
variable {H : Type} {enc : TypeId × Value → H} {W : World} {base : Nat} {spare : Nat → Bool} {held : Bool}

set_option maxRecDepth 100000 in
theorem edge_of {n : Nat} {cs : List Value} {x : DataW H × List MemPlace} (h : DataW.trod enc Try.prog W base spare held n 47 cs = some x) :
    ∃ e : E3, cs = [.int .i64 e.1, .int .i64 e.2.1, .int .i64 e.2.2] ∧ WfE e := by
  obtain ⟨y0, y1, y2, m, _, hlen, h0, h1, h2⟩ := trod_struct3 Try.underlying47 h
  rw [cellsEdge] at hlen
  match cs, hlen with
  | [c0, c1, c2], _ =>
    simp only [cellsInt, cellsInt64, List.drop_zero, List.take_succ_cons, List.take_zero, List.drop_succ_cons] at h0 h1 h2
    obtain ⟨a, e0, _, wa⟩ := DataW.trod_int Try.underlying3 h0
    obtain ⟨b, e1, _, wb⟩ := DataW.trod_int Try.underlying3 h1
    obtain ⟨c, e2, _, wc⟩ := DataW.trod_int Try.underlying2 h2
    simp only [List.cons.injEq, and_true] at e0 e1 e2
    subst e0 e1 e2
    exact ⟨(a, b, c), rfl, wa, wb, wc⟩

set_option maxRecDepth 100000 in
theorem edges_of {n : Nat} {v : Value} {x : DataW H × List MemPlace} (h : DataW.trod enc Try.prog W base spare held n 22 [v] = some x) :
    ∃ (A : Option Addr) (len cap : Nat) (es : List E3), v = .slice A len cap ∧ EdgesAt W W.heap.size A len es ∧ len ≤ cap ∧ ∀ e ∈ es, WfE e := by
  rcases open_slice Try.underlying22 h with ⟨h0, _⟩ | ⟨a, len, cap, m, k, D, Pl, hcs, _, hl, _, hmm, _, hi⟩
  · simp only [List.cons.injEq, and_true] at h0
    subst h0
    exact ⟨none, 0, 0, [], rfl, ⟨rfl, fun h => absurd h (by omega)⟩, Nat.le_refl _, by simp⟩
  · simp only [List.cons.injEq, and_true] at hcs
    subst hcs
    have hlm : len ≤ m := by rw [hmm]; split <;> omega
    have hall : ∀ i, ∃ e : E3, i < len → (∀ j, j < 3 → W.cell? (a.add (i * 3 + j)) = [Value.int .i64 e.1, .int .i64 e.2.1, .int .i64 e.2.2][j]?) ∧ WfE e := fun i => by
      by_cases hlt : i < len
      · obtain ⟨cs', hc, ht⟩ := hi i (by omega)
        obtain ⟨e, rfl, he⟩ := edge_of ht
        rw [cellsEdge] at hc
        obtain ⟨_, _, hat⟩ := World.cells?_some hc
        exact ⟨e, fun _ => ⟨fun j hj => by rw [← Go.Deep.add_add]; exact hat j hj, he⟩⟩
      · exact ⟨default, fun h => absurd h hlt⟩
    obtain ⟨f, hf⟩ := Classical.axiomOfChoice hall
    refine ⟨some a, len, cap, (List.range len).map f, rfl, ⟨by simp, fun hn => ?_⟩, hl, fun e he => ?_⟩
    · have hz := (hf 0 hn).1 0 (by omega)
      simp only [Nat.zero_mul, Nat.add_zero, List.getElem?_cons_zero] at hz
      obtain ⟨b, off, spot⟩ := a
      have hspot : spot = none := by simpa [Addr.add] using World.cell?_spot hz
      subst hspot
      have hb : b < W.heap.size := by
        rcases Nat.lt_or_ge b W.heap.size with h | h
        · exact h
        · simp [World.cell?, Addr.add, Array.getElem?_eq_none h] at hz
      refine ⟨b, off, rfl, hb, fun i e hie => ?_⟩
      obtain ⟨hil, hie⟩ := List.getElem?_eq_some_iff.1 hie
      simp only [List.length_map, List.length_range] at hil
      simp only [List.getElem_map, List.getElem_range] at hie
      subst hie
      have hc := (hf i hil).1
      refine ⟨?_, ?_, ?_⟩
      · have := hc 0 (by omega); rw [Go.WideShapes.add_plain] at this; simpa using this
      · have := hc 1 (by omega); rw [Go.WideShapes.add_plain] at this; simpa [Nat.add_assoc] using this
      · have := hc 2 (by omega); rw [Go.WideShapes.add_plain] at this; simpa [Nat.add_assoc] using this
    · simp only [List.mem_map, List.mem_range] at he
      obtain ⟨i, hi', rfl⟩ := he
      exact (hf i hi').2

set_option maxRecDepth 100000 in
theorem open_graph {r : Reach} {b0 : Nat} {v : Value} {d : DataW H} {p : List MemPlace} (hv : Value.okWide Try.prog W r b0 24 v) (h : DataW.Trod enc Try.prog W base spare held 24 v d p) :
    ∃ (n : Int) (A : Option Addr) (len cap : Nat) (es : List E3), v = .agg #[.int .i64 n, .slice A len cap] ∧ EdgesAt W W.heap.size A len es ∧ len ≤ cap ∧ (∀ e ∈ es, WfE e) ∧ (Lit.int .i64 n).wf = true := by
  obtain ⟨c0, c1, y0, y1, m, rfl, _, _, hy0, hy1⟩ := open_agg2 Try.underlying24 (by kernel_rfl) cellsGraph hv h
  obtain ⟨n, e0, _, wn⟩ := DataW.trod_int Try.underlying3 hy0
  simp only [List.cons.injEq, and_true] at e0
  subst e0
  obtain ⟨A, len, cap, es, rfl, hE, hl, hw⟩ := edges_of hy1
  exact ⟨n, A, len, cap, es, rfl, hE, hl, hw, wn⟩
end
end Go.Proofs.Ythnchnamdoobeaa

namespace Go.Proofs.Ythnchnamdoobeaa
open Go.ChangeShapes Go.WideShapes Go.ChangeAt Go.RowKit

set_option maxRecDepth 100000 in
theorem crowdRamsey_any (n : Int) (A : Option Addr) (len cap : Nat) (es : List E3) (w : World) (hE : EdgesAt w w.heap.size A len es) (hcap : len ≤ cap) (_ : ∀ e ∈ es, WfE e) (_ : (Lit.int .i64 n).wf = true) :
    Calls Try.prog 7 #[.agg #[.int .i64 n, .slice A len cap]] w fun e w' => e = .returned (.bool true) ∧ Below w.heap.size w w' :=
  crowdRamsey_of n A len cap es w hE hcap (fun W _ h => mostTop_any n A len cap es W h) (fun W _ h => apartTop_any n A len cap es W h)
set_option maxRecDepth 100000 in
theorem crowdRamsey_lifted (os : Os) (started : os.Started) (H : Type) (enc : TypeId × Value → H) :
    ReturnsInHanded {} Try.checked os 7 .any (Rows.crowdRamseySpec.pre6 enc Try.prog Try.f7 Rows.crowdRamseyRow.domain false) (Rows.crowdRamseySpec.post enc Try.prog Try.f7 false true false false) := by
  refine returnsInHanded_of_change (C := Try.checked) ownK started (by kernel_rfl) Try.func7
    (ChangeSpec.witness6 (enc := enc) (C := Try.checked) false ⟨#[], #[.agg #[.int .i64 0, .slice none 0 0]], []⟩ 8 (by kernel_rfl) (by kernel_rfl) (by kernel_rfl) (by kernel_rfl)) ?_
  intro W base args ds gs before hval0 hW _ _
  have hval : ∀ (j : Nat) t v, Try.f7.params[j]? = some t → args[j]? = some v → Value.okWide Try.prog W .any base t v := hval0
  have hW' := hW
  obtain ⟨p, q, hA0, hV, rfl, _, _⟩ := hW
  have hA : DataW.TrodAll enc Try.prog W 0 (fun _ => true) true Try.f7.params.toList args.toList ds p := hA0
  rw [Try.params7] at hA hval
  obtain ⟨v0, d0, rfl, rfl, h0⟩ := trodAll_one hA
  obtain ⟨rfl, rfl⟩ := trodVars_none hV
  obtain ⟨n0, A0, len0, cap0, es0, rfl, hE0, hcap0, hwf0, hwn0⟩ := open_graph (hval 0 24 v0 rfl rfl) h0
  clear hA0 hval0
  simp only [List.append_nil] at hW'
  refine (crowdRamsey_any n0 A0 len0 cap0 es0 W hE0 hcap0 hwf0 hwn0).mono fun e W' ⟨he, hb⟩ => ?_
  subst he
  exact ⟨_, rfl, _, _, _, [], (p), [], hW', trodAll_mk1 (shut_bool Try.underlying4 _), trodAll_mk1 (Below.trod laidOutO recGraph rowGraph h0 hb (fun x hx => hW'.lt x hx)), rfl, hb.frame _, fun h => by cases h⟩

theorem crowdRamsey_holds : Rows.CrowdRamseySaid :=
  OpenClaim.holds_of_wide 7 Try.f7 rfl rfl rfl rfl rfl rfl rfl ⟨rfl, rfl, rfl, rfl, rfl⟩ rfl rfl rfl rfl rfl (by kernel_rfl) Try.func7 (by kernel_rfl)
    (of_decide_eq_true (by kernel_rfl)) (by unfold Func.isWrapper; first | (rw [if_pos (by decide +kernel)]; kernel_rfl) | (rw [if_neg (by decide +kernel)]; exact ⟨rfl, rfl⟩))
    (fun os started H enc _ => crowdRamsey_lifted os started H enc)
#print axioms crowdRamsey_holds
end Go.Proofs.Ythnchnamdoobeaa
