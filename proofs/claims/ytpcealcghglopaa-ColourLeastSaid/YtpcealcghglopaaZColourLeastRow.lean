/- The statement ColourLeastSaid, out of the law's walk. No conditions. -/
import Derived.Test.YtpcealcghglopaaInts
import Derived.Test.YtpcealcghglopaaColourTop
import Derived.Test.YtpcealcghglopaaMem
import Derived.Test.YtpcealcghglopaaLeastTop
import Derived.Test.YtpcealcghglopaaRows
import Derived.ProofKit
import Derived.Deep.Slices
import Derived.Deep.Strs
import Derived.Lib.SmallJoins
namespace Go.Proofs.Ytpcealcghglopaa
open Go.RowKit

set_option maxRecDepth 100000 in
set_option maxHeartbeats 1000000 in
theorem ints_v (A1 A2 : Option Addr) (n1 n2 c1 c2 : Nat) (xs ys : List Int) (v : Bool) (w : World) (h1 : IntsAt w w.heap.size A1 n1 xs) (h2 : IntsAt w w.heap.size A2 n2 ys) (hn : n1 ≤ 4000000000) (hn2 : n2 ≤ 4000000000) (hv : v = true ↔ xs = ys) :
    Calls Try.prog 18 #[.slice A1 n1 c1, .slice A2 n2 c2] w fun e w' => e = .returned (.bool v) ∧ ∃ k, w' = w.drewN k := by
  have H1 := Lib.hid h1
  have H2 := Lib.hid h2
  have HV := Lib.hid hv
  clear h1 h2 hv
  by_cases hl : n1 = n2
  · subst hl
    go_enter Try.func18, Try.ntmps18
    go_wp2
    go_loopw [5] (fun j wr => ∃ k q : Nat, k ≤ n1 ∧ j = .int .i64 k ∧ Hid (∀ i, i < k → xs[i]? = ys[i]?) ∧ wr = w.drewN q) (fun j _ => n1 - (intOf j).toNat)
    case atStart => exact ⟨0, 0, Nat.zero_le _, rfl, Lib.hid (fun i hi => by omega), rfl⟩
    case round =>
      obtain ⟨k, q, hk, rfl, HS, rfl⟩ := hrel
      by_cases hlt : k < n1
      · obtain ⟨b, off, x, rfl, _, hx, hc⟩ := H1.out.at_ hlt
        obtain ⟨b', off', y, rfl, _, hy, hc'⟩ := H2.out.at_ hlt
        have hki : (k : Int) < (n1 : Int) := by omega
        have hk0 : (0 : Int) ≤ (k : Int) := by omega
        by_cases hxy : x = y
        · subst hxy
          have HS2 : Hid (∀ i, i < k + 1 → xs[i]? = ys[i]?) := Lib.hid fun i hi => by
            rcases Nat.lt_or_ge i k with h | h
            · exact HS.out i h
            · obtain rfl : i = k := by omega
              rw [hx, hy]
          clear hx hy
          go_wp2
          go_quiet (fail)
          go_wp2
          go_roundw
          case rel => exact ⟨k + 1, _, by omega, by go_num, HS2, rfl⟩
          case measure => simp [intOf]; omega
        · have hne : (x != y) = true := by simpa using hxy
          have HR : Hid (v = false) := Lib.hid (by
            rw [Bool.eq_false_iff]
            intro h
            have := HV.out.1 h
            subst this
            rw [hx] at hy
            injection hy with hy
            exact hxy hy)
          clear hx hy
          go_wp2
          go_quiet (fail)
          go_wp2
          go_ret
          exact ⟨ret_bool HR.out.symm, _, World.drewN_drewN _ _ _⟩
      · have HR : Hid (v = true) := Lib.hid (HV.out.2 (List.ext_getElem? fun i => by
          rcases Nat.lt_or_ge i n1 with h | h
          · exact HS.out i (by omega)
          · rw [List.getElem?_eq_none (by rw [H1.out.1]; exact h), List.getElem?_eq_none (by rw [H2.out.1]; exact h)]))
        go_wp2
        go_ret
        exact ⟨ret_bool HR.out.symm, q, rfl⟩
  · have HR : Hid (v = false) := Lib.hid (by
      rw [Bool.eq_false_iff]
      intro h
      have := HV.out.1 h
      subst this
      exact hl (H1.out.1.symm.trans H2.out.1))
    have hb1 : ((n1 : Int) != (n2 : Int)) = true := by simp; omega
    have hb2 : (n1 != n2) = true := by simpa using hl
    go_enter Try.func18, Try.ntmps18
    go_wp2
    go_ret
    exact ⟨ret_bool HR.out.symm, 0, rfl⟩
end Go.Proofs.Ytpcealcghglopaa

namespace Go.Proofs.Ytpcealcghglopaa
open Go.RowKit

set_option maxRecDepth 100000 in
set_option maxHeartbeats 2000000 in
theorem colourLeast_of (n : Int) (A : Option Addr) (len cap : Nat) (es : List E3) (w : World) (hE : EdgesAt w w.heap.size A len es) (hcap : len ≤ cap)
    (HO : ∀ W, EdgesAt W W.heap.size A len es → Calls Try.prog 15 #[.agg #[.int .i64 n, .slice A len cap]] W (LeastTop W n es)) :
    Calls Try.prog 3 #[.agg #[.int .i64 n, .slice A len cap]] w fun e w' => e = .returned (.bool true) ∧ Below w.heap.size w w' := by
  have HX := Lib.hid (BoxG.start (n := n) (cap := cap) hE)
  have HOO := Lib.hid HO
  obtain ⟨x, hx⟩ : ∃ x, gcheck n es = x := ⟨_, rfl⟩
  have HCX := Lib.hid hx
  have k0 := HX.out.c0
  have k1 := HX.out.c1
  have HCK := Lib.hid (fun W hW => check_v n A len cap es x W hW hcap hx)
  have HLE : Hid (es.length = len) := Lib.hid hE.1
  clear hE HO
  by_cases h0 : x = 0
  · subst h0
    obtain ⟨hn0, hn1, hl, hg⟩ := good_of_gcheck hx
    have HGD := Lib.hid hg
    obtain ⟨m, rfl⟩ := Int.eq_ofNat_of_zero_le hn0
    have hm10 : m ≤ 10 := by omega
    have hlen : len ≤ 45 := by have := HLE.out; omega
    clear hx hg hl
    go_enter Try.func3, Try.ntmps3
    go_wp2_with fail
    refine (HOO.out _ HX.out.edges).mono ?_
    rintro e w1 ⟨_, h2, hB⟩
    obtain ⟨k, l, A1, c1, hL, rfl, hi, _⟩ := h2 HCX.out
    have e0 : ((m : Int)).toNat = m := rfl
    rw [e0] at hL hi
    rw [e0]
    have HX1 := Lib.hid (HX.out.next hB)
    have HI1 := Lib.hid hi
    have HRC := Lib.hid (fun W hW => refColours_any m k l A len cap es W hW hm10 hlen hL.le_n hL)
    have k0' := HX1.out.c0
    have k1' := HX1.out.c1
    clear h2 hB hi hL HOO e0 k0 k1
    go_wp2_with fail
    refine (HCK.out _ HX1.out.edges).mono ?_
    rintro e w2 ⟨rfl, hB⟩
    have HX2 := Lib.hid (HX1.out.next hB)
    have HI2 := Lib.hid (HI1.out.go_ hB)
    have q0 := HX2.out.c0
    have q1 := HX2.out.c1
    clear hB k0' k1'
    go_wp2_with fail
    refine (HRC.out _ HX2.out.edges).mono ?_
    rintro e w3 ⟨A2, c2, rfl, ha, hB⟩
    have HX3 := Lib.hid (HX2.out.next hB)
    have HI3 := Lib.hid (HI2.out.go_ hB)
    have HI4 := Lib.hid ha.ints
    clear hB ha q0 q1
    go_wp2_with fail
    refine (ints_v A1 A2 m m c1 c2 _ _ true _ HI3.out HI4.out (by omega) (by omega) ⟨fun _ => rfl, fun _ => rfl⟩).mono ?_
    rintro e w4 ⟨rfl, q, rfl⟩
    go_wp2_with fail
    go_ret
    exact ⟨rfl, below_drewN HX3.out.below _⟩
  · have HH0 := Lib.hid h0
    have hx0 : (x != 0) = true := by simpa using h0
    clear hx h0
    go_enter Try.func3, Try.ntmps3
    go_wp2_with fail
    refine (HOO.out _ HX.out.edges).mono ?_
    rintro e w1 ⟨h1, _, hB⟩
    obtain rfl := h1 (by rw [HCX.out]; exact HH0.out)
    rw [HCX.out]
    have HX1 := Lib.hid (HX.out.next hB)
    have k0' := HX1.out.c0
    have k1' := HX1.out.c1
    clear h1 hB HOO k0 k1
    go_wp2_with fail
    refine (HCK.out _ HX1.out.edges).mono ?_
    rintro e w2 ⟨rfl, hB⟩
    have HX2 := Lib.hid (HX1.out.next hB)
    clear hB k0' k1'
    go_wp2_with fail
    go_ret
    exact ⟨rfl, HX2.out.below⟩
end Go.Proofs.Ytpcealcghglopaa

namespace Go.Proofs.Ytpcealcghglopaa
open Go.ChangeShapes Go.WideShapes Go.ChangeAt Go.RowKit Go.Joins Go.Deep

set_option maxRecDepth 100000 in
theorem ownK : ownKnob Try.prog.godebug = none := by kernel_rfl
set_option maxRecDepth 100000 in
theorem laidOutO : laidOutB Try.prog = true := by kernel_rfl
set_option maxRecDepth 100000 in
theorem cellsInt : Try.prog.cellsOf 3 = 1 := by kernel_rfl
end Go.Proofs.Ytpcealcghglopaa

namespace Go.Proofs.Ytpcealcghglopaa
open Go.ChangeShapes Go.WideShapes Go.ChangeAt Go.RowKit Go.Joins Go.Deep

set_option maxRecDepth 100000 in
theorem recGraph : Try.prog.readableRec 24 = true := by kernel_rfl
set_option maxRecDepth 100000 in
theorem rowGraph : (24 : TypeId) < Try.prog.types.size := of_decide_eq_true (by kernel_rfl)
set_option maxRecDepth 100000 in
theorem cellsGraph : Try.prog.cellsOf 24 = 2 := by kernel_rfl
set_option maxRecDepth 100000 in
theorem cellsEdge : Try.prog.cellsOf 61 = 3 := by kernel_rfl
set_option maxRecDepth 100000 in
theorem cellsInt64 : Try.prog.cellsOf 2 = 1 := by kernel_rfl

/-- Every number of an edge is an int64. -/
def WfE (e : E3) : Prop := (Lit.int .i64 e.1).wf = true ∧ (Lit.int .i64 e.2.1).wf = true ∧ (Lit.int .i64 e.2.2).wf = true

section
variable {H : Type} {enc : TypeId × Value → H} {W : World} {base : Nat} {spare : Nat → Bool} {held : Bool}

set_option maxRecDepth 100000 in
theorem edge_of {n : Nat} {cs : List Value} {x : DataW H × List MemPlace} (h : DataW.trod enc Try.prog W base spare held n 61 cs = some x) :
    ∃ e : E3, cs = [.int .i64 e.1, .int .i64 e.2.1, .int .i64 e.2.2] ∧ WfE e := by
  obtain ⟨y0, y1, y2, m, _, hlen, h0, h1, h2⟩ := trod_struct3 Try.underlying61 h
  rw [cellsEdge] at hlen
  match cs, hlen with
  | [c0, c1, c2], _ =>
    simp only [cellsInt, cellsInt64, List.drop_zero, List.take_succ_cons, List.take_zero, List.drop_succ_cons] at h0 h1 h2
    obtain ⟨a, e0, _, wa⟩ := DataW.trod_int Try.underlying3 h0
    obtain ⟨b, e1, _, wb⟩ := DataW.trod_int Try.underlying3 h1
    obtain ⟨c, e2, _, wc⟩ := DataW.trod_int Try.underlying2 h2
    simp only [List.cons.injEq, and_true] at e0 e1 e2
    subst e0 e1 e2
    exact ⟨(a, b, c), rfl, wa, wb, wc⟩

set_option maxRecDepth 100000 in
theorem edges_of {n : Nat} {v : Value} {x : DataW H × List MemPlace} (h : DataW.trod enc Try.prog W base spare held n 22 [v] = some x) :
    ∃ (A : Option Addr) (len cap : Nat) (es : List E3), v = .slice A len cap ∧ EdgesAt W W.heap.size A len es ∧ len ≤ cap ∧ ∀ e ∈ es, WfE e := by
  rcases open_slice Try.underlying22 h with ⟨h0, _⟩ | ⟨a, len, cap, m, k, D, Pl, hcs, _, hl, _, hmm, _, hi⟩
  · simp only [List.cons.injEq, and_true] at h0
    subst h0
    exact ⟨none, 0, 0, [], rfl, ⟨rfl, fun h => absurd h (by omega)⟩, Nat.le_refl _, by simp⟩
  · simp only [List.cons.injEq, and_true] at hcs
    subst hcs
    have hlm : len ≤ m := by rw [hmm]; split <;> omega
    have hall : ∀ i, ∃ e : E3, i < len → (∀ j, j < 3 → W.cell? (a.add (i * 3 + j)) = [Value.int .i64 e.1, .int .i64 e.2.1, .int .i64 e.2.2][j]?) ∧ WfE e := fun i => by
      by_cases hlt : i < len
      · obtain ⟨cs', hc, ht⟩ := hi i (by omega)
        obtain ⟨e, rfl, he⟩ := edge_of ht
        rw [cellsEdge] at hc
        obtain ⟨_, _, hat⟩ := World.cells?_some hc
        exact ⟨e, fun _ => ⟨fun j hj => by rw [← Go.Deep.add_add]; exact hat j hj, he⟩⟩
      · exact ⟨default, fun h => absurd h hlt⟩
    obtain ⟨f, hf⟩ := Classical.axiomOfChoice hall
    refine ⟨some a, len, cap, (List.range len).map f, rfl, ⟨by simp, fun hn => ?_⟩, hl, fun e he => ?_⟩
    · have hz := (hf 0 hn).1 0 (by omega)
      simp only [Nat.zero_mul, Nat.add_zero, List.getElem?_cons_zero] at hz
      obtain ⟨b, off, spot⟩ := a
      have hspot : spot = none := by simpa [Addr.add] using World.cell?_spot hz
      subst hspot
      have hb : b < W.heap.size := by
        rcases Nat.lt_or_ge b W.heap.size with h | h
        · exact h
        · simp [World.cell?, Addr.add, Array.getElem?_eq_none h] at hz
      refine ⟨b, off, rfl, hb, fun i e hie => ?_⟩
      obtain ⟨hil, hie⟩ := List.getElem?_eq_some_iff.1 hie
      simp only [List.length_map, List.length_range] at hil
      simp only [List.getElem_map, List.getElem_range] at hie
      subst hie
      have hc := (hf i hil).1
      refine ⟨?_, ?_, ?_⟩
      · have := hc 0 (by omega); rw [Go.WideShapes.add_plain] at this; simpa using this
      · have := hc 1 (by omega); rw [Go.WideShapes.add_plain] at this; simpa [Nat.add_assoc] using this
      · have := hc 2 (by omega); rw [Go.WideShapes.add_plain] at this; simpa [Nat.add_assoc] using this
    · simp only [List.mem_map, List.mem_range] at he
      obtain ⟨i, hi', rfl⟩ := he
      exact (hf i hi').2

set_option maxRecDepth 100000 in
theorem open_graph {r : Reach} {b0 : Nat} {v : Value} {d : DataW H} {p : List MemPlace} (hv : Value.okWide Try.prog W r b0 24 v) (h : DataW.Trod enc Try.prog W base spare held 24 v d p) :
    ∃ (n : Int) (A : Option Addr) (len cap : Nat) (es : List E3), v = .agg #[.int .i64 n, .slice A len cap] ∧ EdgesAt W W.heap.size A len es ∧ len ≤ cap ∧ (∀ e ∈ es, WfE e) ∧ (Lit.int .i64 n).wf = true := by
  obtain ⟨c0, c1, y0, y1, m, rfl, _, _, hy0, hy1⟩ := open_agg2 Try.underlying24 (by kernel_rfl) cellsGraph hv h
  obtain ⟨n, e0, _, wn⟩ := DataW.trod_int Try.underlying3 hy0
  simp only [List.cons.injEq, and_true] at e0
  subst e0
  obtain ⟨A, len, cap, es, rfl, hE, hl, hw⟩ := edges_of hy1
  exact ⟨n, A, len, cap, es, rfl, hE, hl, hw, wn⟩
end
end Go.Proofs.Ytpcealcghglopaa

namespace Go.Proofs.Ytpcealcghglopaa
open Go.ChangeShapes Go.WideShapes Go.ChangeAt Go.RowKit

set_option maxRecDepth 100000 in
theorem colourLeast_any (n : Int) (A : Option Addr) (len cap : Nat) (es : List E3) (w : World) (hE : EdgesAt w w.heap.size A len es) (hcap : len ≤ cap) (_ : ∀ e ∈ es, WfE e) (_ : (Lit.int .i64 n).wf = true) :
    Calls Try.prog 3 #[.agg #[.int .i64 n, .slice A len cap]] w fun e w' => e = .returned (.bool true) ∧ Below w.heap.size w w' :=
  colourLeast_of n A len cap es w hE hcap (fun W h => leastTop_any n A len cap es W h)
set_option maxRecDepth 100000 in
theorem colourLeast_lifted (os : Os) (started : os.Started) (H : Type) (enc : TypeId × Value → H) :
    ReturnsInHanded {} Try.checked os 3 .any (Rows.colourLeastSpec.pre6 enc Try.prog Try.f3 Rows.colourLeastRow.domain false) (Rows.colourLeastSpec.post enc Try.prog Try.f3 false true false false) := by
  refine returnsInHanded_of_change (C := Try.checked) ownK started (by kernel_rfl) Try.func3
    (ChangeSpec.witness6 (enc := enc) (C := Try.checked) false ⟨#[], #[.agg #[.int .i64 0, .slice none 0 0]], []⟩ 8 (by kernel_rfl) (by kernel_rfl) (by kernel_rfl) (by kernel_rfl)) ?_
  intro W base args ds gs before hval0 hW _ _
  have hval : ∀ (j : Nat) t v, Try.f3.params[j]? = some t → args[j]? = some v → Value.okWide Try.prog W .any base t v := hval0
  have hW' := hW
  obtain ⟨p, q, hA0, hV, rfl, _, _⟩ := hW
  have hA : DataW.TrodAll enc Try.prog W 0 (fun _ => true) true Try.f3.params.toList args.toList ds p := hA0
  rw [Try.params3] at hA hval
  obtain ⟨v0, d0, rfl, rfl, h0⟩ := trodAll_one hA
  obtain ⟨rfl, rfl⟩ := trodVars_none hV
  obtain ⟨n0, A0, len0, cap0, es0, rfl, hE0, hcap0, hwf0, hwn0⟩ := open_graph (hval 0 24 v0 rfl rfl) h0
  clear hA0 hval0
  simp only [List.append_nil] at hW'
  refine (colourLeast_any n0 A0 len0 cap0 es0 W hE0 hcap0 hwf0 hwn0).mono fun e W' ⟨he, hb⟩ => ?_
  subst he
  exact ⟨_, rfl, _, _, _, [], (p), [], hW', trodAll_mk1 (shut_bool Try.underlying4 _), trodAll_mk1 (Below.trod laidOutO recGraph rowGraph h0 hb (fun x hx => hW'.lt x hx)), rfl, hb.frame _, fun h => by cases h⟩

theorem colourLeast_holds : Rows.ColourLeastSaid :=
  OpenClaim.holds_of_wide 3 Try.f3 rfl rfl rfl rfl rfl rfl rfl ⟨rfl, rfl, rfl, rfl, rfl⟩ rfl rfl rfl rfl rfl (by kernel_rfl) Try.func3 (by kernel_rfl)
    (of_decide_eq_true (by kernel_rfl)) (by unfold Func.isWrapper; first | (rw [if_pos (by decide +kernel)]; kernel_rfl) | (rw [if_neg (by decide +kernel)]; exact ⟨rfl, rfl⟩))
    (fun os started H enc _ => colourLeast_lifted os started H enc)
#print axioms colourLeast_holds
end Go.Proofs.Ytpcealcghglopaa
