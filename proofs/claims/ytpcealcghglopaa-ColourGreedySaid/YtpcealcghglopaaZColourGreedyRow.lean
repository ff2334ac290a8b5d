/- The statement ColourGreedySaid, out of the law's walk. No conditions. -/
import Derived.Test.YtpcealcghglopaaInts
import Derived.Test.YtpcealcghglopaaColourTop
import Derived.Test.YtpcealcghglopaaRefGreedy
import Derived.Test.YtpcealcghglopaaMem
import Derived.Test.YtpcealcghglopaaRows2
import Derived.Test.YtpcealcghglopaaGreedyTop
import Derived.Test.YtpcealcghglopaaRows
import Derived.ProofKit
import Derived.Deep.Slices
import Derived.Deep.Strs
import Derived.Lib.SmallJoins
namespace Go.Proofs.Ytpcealcghglopaa
open Go.RowKit

set_option maxRecDepth 100000 in
set_option maxHeartbeats 1000000 in
theorem ints_v (A1 A2 : Option Addr) (n1 n2 c1 c2 : Nat) (xs ys : List Int) (v : Bool) (w : World) (h1 : IntsAt w w.heap.size A1 n1 xs) (h2 : IntsAt w w.heap.size A2 n2 ys) (hn : n1 ≤ 4000000000) (hn2 : n2 ≤ 4000000000) (hv : v = true ↔ xs = ys) :
    Calls Try.prog 18 #[.slice A1 n1 c1, .slice A2 n2 c2] w fun e w' => e = .returned (.bool v) ∧ ∃ k, w' = w.drewN k := by
  have H1 := Lib.hid h1
  have H2 := Lib.hid h2
  have HV := Lib.hid hv
  clear h1 h2 hv
  by_cases hl : n1 = n2
  · subst hl
    go_enter Try.func18, Try.ntmps18
    go_wp2
    go_loopw [5] (fun j wr => ∃ k q : Nat, k ≤ n1 ∧ j = .int .i64 k ∧ Hid (∀ i, i < k → xs[i]? = ys[i]?) ∧ wr = w.drewN q) (fun j _ => n1 - (intOf j).toNat)
    case atStart => exact ⟨0, 0, Nat.zero_le _, rfl, Lib.hid (fun i hi => by omega), rfl⟩
    case round =>
      obtain ⟨k, q, hk, rfl, HS, rfl⟩ := hrel
      by_cases hlt : k < n1
      · obtain ⟨b, off, x, rfl, _, hx, hc⟩ := H1.out.at_ hlt
        obtain ⟨b', off', y, rfl, _, hy, hc'⟩ := H2.out.at_ hlt
        have hki : (k : Int) < (n1 : Int) := by omega
        have hk0 : (0 : Int) ≤ (k : Int) := by omega
        by_cases hxy : x = y
        · subst hxy
          have HS2 : Hid (∀ i, i < k + 1 → xs[i]? = ys[i]?) := Lib.hid fun i hi => by
            rcases Nat.lt_or_ge i k with h | h
            · exact HS.out i h
            · obtain rfl : i = k := by omega
              rw [hx, hy]
          clear hx hy
          go_wp2
          go_quiet (fail)
          go_wp2
          go_roundw
          case rel => exact ⟨k + 1, _, by omega, by go_num, HS2, rfl⟩
          case measure => simp [intOf]; omega
        · have hne : (x != y) = true := by simpa using hxy
          have HR : Hid (v = false) := Lib.hid (by
            rw [Bool.eq_false_iff]
            intro h
            have := HV.out.1 h
            subst this
            rw [hx] at hy
            injection hy with hy
            exact hxy hy)
          clear hx hy
          go_wp2
          go_quiet (fail)
          go_wp2
          go_ret
          exact ⟨ret_bool HR.out.symm, _, World.drewN_drewN _ _ _⟩
      · have HR : Hid (v = true) := Lib.hid (HV.out.2 (List.ext_getElem? fun i => by
          rcases Nat.lt_or_ge i n1 with h | h
          · exact HS.out i (by omega)
          · rw [List.getElem?_eq_none (by rw [H1.out.1]; exact h), List.getElem?_eq_none (by rw [H2.out.1]; exact h)]))
        go_wp2
        go_ret
        exact ⟨ret_bool HR.out.symm, q, rfl⟩
  · have HR : Hid (v = false) := Lib.hid (by
      rw [Bool.eq_false_iff]
      intro h
      have := HV.out.1 h
      subst this
      exact hl (H1.out.1.symm.trans H2.out.1))
    have hb1 : ((n1 : Int) != (n2 : Int)) = true := by simp; omega
    have hb2 : (n1 != n2) = true := by simpa using hl
    go_enter Try.func18, Try.ntmps18
    go_wp2
    go_ret
    exact ⟨ret_bool HR.out.symm, 0, rfl⟩
end Go.Proofs.Ytpcealcghglopaa

namespace Go.Proofs.Ytpcealcghglopaa
open Go.RowKit

theorem each_nat {n : Nat} {xs : List Int} (h : EachP n xs) : ∃ o : List Nat, natG o = xs ∧ o.length = n ∧ o.Nodup ∧ ∀ i ∈ o, i < n := by
  obtain ⟨h1, h2, h3⟩ := h
  have e : natG (xs.map Int.toNat) = xs := by
    unfold natG
    rw [List.map_map]
    conv => rhs; rw [← List.map_id xs]
    refine List.map_congr_left fun x hx => ?_
    have := h3 x hx
    simp only [Function.comp_apply, id_eq]
    omega
  refine ⟨xs.map Int.toNat, e, by simp [h1], ?_, fun i hi => ?_⟩
  · rw [List.Nodup, List.pairwise_map]
    refine List.Pairwise.imp_of_mem (R := fun a b => a ≠ b) (fun ha hb hne => ?_) h2
    have := h3 _ ha
    have := h3 _ hb
    omega
  · obtain ⟨x, hx, rfl⟩ := List.mem_map.1 hi
    have := h3 x hx
    omega
theorem RowC.colR {w : World} {g n : Nat} {col : Nat → Nat} (h : RowC w g n (fun j => ((col j : Nat) : Int))) : IntsAt w w.heap.size (some ⟨g, 0, none⟩) n (colR n col) := by
  unfold Go.Proofs.Ytpcealcghglopaa.colR
  refine ⟨by simp, fun _ => ⟨g, 0, rfl, h.lt, fun i x hx => ?_⟩⟩
  have hi : i < n := by have := (List.getElem?_eq_some_iff.1 hx).1; simpa using this
  rw [List.getElem?_map, List.getElem?_range hi] at hx
  simp only [Option.map_some, Option.some.injEq] at hx
  rw [Nat.zero_add, h.cell hi, hx]
set_option maxRecDepth 100000 in
set_option maxHeartbeats 2000000 in
theorem colourGreedy_of (n : Int) (A : Option Addr) (len cap : Nat) (es : List E3) (A2 : Option Addr) (len2 cap2 : Nat) (xs : List Int) (w : World) (hE : EdgesAt w w.heap.size A len es) (hcap : len ≤ cap) (hI : IntsAt w w.heap.size A2 len2 xs) (hcap2 : len2 ≤ cap2) (hm2 : len2 ≤ 9223372036854775807)
    (HO : ∀ W, EdgesAt W W.heap.size A len es → IntsAt W W.heap.size A2 len2 xs → Calls Try.prog 19 #[.agg #[.int .i64 n, .slice A len cap], .slice A2 len2 cap2] W (GreedyTop W n es xs)) :
    Calls Try.prog 4 #[.agg #[.int .i64 n, .slice A len cap], .slice A2 len2 cap2] w fun e w' => e = .returned (.bool true) ∧ Below w.heap.size w w' := by
  have HX := Lib.hid (BoxG.start (n := n) (cap := cap) hE)
  have HI := Lib.hid (hI.go_ (show Below w.heap.size w (bx w n A len cap) from (Below.refl _ _).alloc (Nat.le_refl _) _))
  have HLX : Hid (xs.length = len2) := Lib.hid hI.1
  have HOO := Lib.hid HO
  obtain ⟨x, hx⟩ : ∃ x, gcheck n es = x := ⟨_, rfl⟩
  have HCX := Lib.hid hx
  have k0 := HX.out.c0
  have k1 := HX.out.c1
  have HCK := Lib.hid (fun W hW => check_v n A len cap es x W hW hcap hx)
  have HLE : Hid (es.length = len) := Lib.hid hE.1
  clear hE HO hI
  by_cases h0 : x = 0
  · subst h0
    obtain ⟨hn0, hn1, hl, hg⟩ := good_of_gcheck hx
    obtain ⟨m, rfl⟩ := Int.eq_ofNat_of_zero_le hn0
    have hm10 : m ≤ 10 := by omega
    have hlen : len ≤ 45 := by have := HLE.out; omega
    have HEV := Lib.hid (fun v W hW hv => each_v A2 len2 cap2 m xs v W hW hm2 (by omega) hcap2 hv)
    clear hx hg hl
    by_cases hp : EachP m xs
    · have HEV1 := Lib.hid (fun W hW => HEV.out true W hW ⟨fun _ => hp, fun _ => rfl⟩)
      obtain ⟨o, ho, hol, hond, holt⟩ := each_nat hp
      have hlm : len2 = m := by have := hp.1; have := HLX.out; omega
      subst hlm
      have HRG := Lib.hid (fun W hW hW2 => refGreedy_any len2 A len cap es A2 cap2 o W hW (by rw [ho]; exact hW2) hm10 hlen hcap2 hond holt)
      have HPP := Lib.hid hp
      have HOE := Lib.hid ho
      clear hp ho hol hond holt HEV
      go_enter Try.func4, Try.ntmps4
      go_wp2_with fail
      refine (HOO.out _ HX.out.edges HI.out).mono ?_
      rintro e w1 ⟨_, _, h3, hB⟩
      obtain ⟨col, A1, c1, hgl, rfl, hi, _⟩ := h3 HCX.out o HOE.out HPP.out
      have e0 : ((len2 : Int)).toNat = len2 := rfl
      rw [e0] at hgl hi
      rw [e0]
      have HGL := Lib.hid hgl
      have HX1 := Lib.hid (HX.out.next hB)
      have HI1 := Lib.hid (HI.out.go_ hB)
      have HA1 := Lib.hid hi
      have k0' := HX1.out.c0
      have k1' := HX1.out.c1
      clear h3 hB hi hgl HOO e0 k0 k1
      go_wp2_with fail
      refine (HCK.out _ HX1.out.edges).mono ?_
      rintro e w2 ⟨rfl, hB⟩
      have HX2 := Lib.hid (HX1.out.next hB)
      have HI2 := Lib.hid (HI1.out.go_ hB)
      have HA2 := Lib.hid (HA1.out.go_ hB)
      have q0 := HX2.out.c0
      have q1 := HX2.out.c1
      clear hB k0' k1'
      go_wp2_with fail
      refine (HEV1.out _ HI2.out).mono ?_
      rintro e w2b ⟨rfl, rfl⟩
      go_wp2_with fail
      refine (HRG.out _ HX2.out.edges HI2.out).mono ?_
      rintro e w3 ⟨g, col', rfl, hrow, hgl', _, hB⟩
      have HX3 := Lib.hid (HX2.out.next hB)
      have HA3 := Lib.hid (HA2.out.go_ hB)
      have HA4 := Lib.hid hrow.colR
      have HEQ : Hid (colR len2 col = colR len2 col') := Lib.hid (by
        unfold colR
        refine List.map_congr_left fun j _ => ?_
        rw [HGL.out.one hgl' j])
      clear hB hrow hgl' q0 q1
      go_wp2_with fail
      refine (ints_v A1 _ len2 len2 c1 len2 _ _ true _ HA3.out HA4.out (by omega) (by omega) ⟨fun _ => HEQ.out, fun _ => rfl⟩).mono ?_
      rintro e w4 ⟨rfl, q, rfl⟩
      go_wp2_with fail
      go_ret
      exact ⟨rfl, below_drewN HX3.out.below _⟩
    · have HEV1 := Lib.hid (fun W hW => HEV.out false W hW ⟨fun h => (by cases h), fun h => absurd h hp⟩)
      have HPP := Lib.hid hp
      clear hp HEV
      go_enter Try.func4, Try.ntmps4
      go_wp2_with fail
      refine (HOO.out _ HX.out.edges HI.out).mono ?_
      rintro e w1 ⟨_, h2, _, hB⟩
      obtain rfl := h2 HCX.out HPP.out
      have HX1 := Lib.hid (HX.out.next hB)
      have HI1 := Lib.hid (HI.out.go_ hB)
      have k0' := HX1.out.c0
      have k1' := HX1.out.c1
      clear h2 hB HOO k0 k1
      go_wp2_with fail
      refine (HCK.out _ HX1.out.edges).mono ?_
      rintro e w2 ⟨rfl, hB⟩
      have HX2 := Lib.hid (HX1.out.next hB)
      have HI2 := Lib.hid (HI1.out.go_ hB)
      have q0 := HX2.out.c0
      have q1 := HX2.out.c1
      clear hB k0' k1'
      go_wp2_with fail
      refine (HEV1.out _ HI2.out).mono ?_
      rintro e w2b ⟨rfl, rfl⟩
      go_wp2_with fail
      go_ret
      exact ⟨rfl, HX2.out.below⟩
  · have HH0 := Lib.hid h0
    have hx0 : (x != 0) = true := by simpa using h0
    have hx1 : (x == 0) = false := by simpa using h0
    clear hx h0
    go_enter Try.func4, Try.ntmps4
    go_wp2_with fail
    refine (HOO.out _ HX.out.edges HI.out).mono ?_
    rintro e w1 ⟨h1, _, _, hB⟩
    obtain rfl := h1 (by rw [HCX.out]; exact HH0.out)
    rw [HCX.out]
    have HX1 := Lib.hid (HX.out.next hB)
    have k0' := HX1.out.c0
    have k1' := HX1.out.c1
    clear h1 hB HOO k0 k1
    go_wp2_with fail
    refine (HCK.out _ HX1.out.edges).mono ?_
    rintro e w2 ⟨rfl, hB⟩
    have HX2 := Lib.hid (HX1.out.next hB)
    clear hB k0' k1'
    go_wp2_with fail
    go_ret
    exact ⟨rfl, HX2.out.below⟩
end Go.Proofs.Ytpcealcghglopaa

namespace Go.Proofs.Ytpcealcghglopaa
open Go.ChangeShapes Go.WideShapes Go.ChangeAt Go.RowKit Go.Joins Go.Deep

set_option maxRecDepth 100000 in
theorem ownK : ownKnob Try.prog.godebug = none := by kernel_rfl
set_option maxRecDepth 100000 in
theorem laidOutO : laidOutB Try.prog = true := by kernel_rfl
set_option maxRecDepth 100000 in
theorem cellsInt : Try.prog.cellsOf 3 = 1 := by kernel_rfl
end Go.Proofs.Ytpcealcghglopaa

namespace Go.Proofs.Ytpcealcghglopaa
open Go.ChangeShapes Go.WideShapes Go.ChangeAt Go.RowKit Go.Joins Go.Deep

set_option maxRecDepth 100000 in
theorem recGraph : Try.prog.readableRec 24 = true := by kernel_rfl
set_option maxRecDepth 100000 in
theorem rowGraph : (24 : TypeId) < Try.prog.types.size := of_decide_eq_true (by kernel_rfl)
set_option maxRecDepth 100000 in
theorem cellsGraph : Try.prog.cellsOf 24 = 2 := by kernel_rfl
set_option maxRecDepth 100000 in
theorem cellsEdge : Try.prog.cellsOf 61 = 3 := by kernel_rfl
set_option maxRecDepth 100000 in
theorem cellsInt64 : Try.prog.cellsOf 2 = 1 := by kernel_rfl

/-- Every number of an edge is an int64. -/
def WfE (e : E3) : Prop := (Lit.int .i64 e.1).wf = true ∧ (Lit.int .i64 e.2.1).wf = true ∧ (Lit.int .i64 e.2.2).wf = true

section
variable {H : Type} {enc : TypeId × Value → H} {W : World} {base : Nat} {spare : Nat → Bool} {held : Bool}

set_option maxRecDepth 100000 in
theorem edge_of {n : Nat} {cs : List Value} {x : DataW H × List MemPlace} (h : DataW.trod enc Try.prog W base spare held n 61 cs = some x) :
    ∃ e : E3, cs = [.int .i64 e.1, .int .i64 e.2.1, .int .i64 e.2.2] ∧ WfE e := by
  obtain ⟨y0, y1, y2, m, _, hlen, h0, h1, h2⟩ := trod_struct3 Try.underlying61 h
  rw [cellsEdge] at hlen
  match cs, hlen with
  | [c0, c1, c2], _ =>
    simp only [cellsInt, cellsInt64, List.drop_zero, List.take_succ_cons, List.take_zero, List.drop_succ_cons] at h0 h1 h2
    obtain ⟨a, e0, _, wa⟩ := DataW.trod_int Try.underlying3 h0
    obtain ⟨b, e1, _, wb⟩ := DataW.trod_int Try.underlying3 h1
    obtain ⟨c, e2, _, wc⟩ := DataW.trod_int Try.underlying2 h2
    simp only [List.cons.injEq, and_true] at e0 e1 e2
    subst e0 e1 e2
    exact ⟨(a, b, c), rfl, wa, wb, wc⟩

set_option maxRecDepth 100000 in
theorem edges_of {n : Nat} {v : Value} {x : DataW H × List MemPlace} (h : DataW.trod enc Try.prog W base spare held n 22 [v] = some x) :
    ∃ (A : Option Addr) (len cap : Nat) (es : List E3), v = .slice A len cap ∧ EdgesAt W W.heap.size A len es ∧ len ≤ cap ∧ ∀ e ∈ es, WfE e := by
  rcases open_slice Try.underlying22 h with ⟨h0, _⟩ | ⟨a, len, cap, m, k, D, Pl, hcs, _, hl, _, hmm, _, hi⟩
  · simp only [List.cons.injEq, and_true] at h0
    subst h0
    exact ⟨none, 0, 0, [], rfl, ⟨rfl, fun h => absurd h (by omega)⟩, Nat.le_refl _, by simp⟩
  · simp only [List.cons.injEq, and_true] at hcs
    subst hcs
    have hlm : len ≤ m := by rw [hmm]; split <;> omega
    have hall : ∀ i, ∃ e : E3, i < len → (∀ j, j < 3 → W.cell? (a.add (i * 3 + j)) = [Value.int .i64 e.1, .int .i64 e.2.1, .int .i64 e.2.2][j]?) ∧ WfE e := fun i => by
      by_cases hlt : i < len
      · obtain ⟨cs', hc, ht⟩ := hi i (by omega)
        obtain ⟨e, rfl, he⟩ := edge_of ht
        rw [cellsEdge] at hc
        obtain ⟨_, _, hat⟩ := World.cells?_some hc
        exact ⟨e, fun _ => ⟨fun j hj => by rw [← Go.Deep.add_add]; exact hat j hj, he⟩⟩
      · exact ⟨default, fun h => absurd h hlt⟩
    obtain ⟨f, hf⟩ := Classical.axiomOfChoice hall
    refine ⟨some a, len, cap, (List.range len).map f, rfl, ⟨by simp, fun hn => ?_⟩, hl, fun e he => ?_⟩
    · have hz := (hf 0 hn).1 0 (by omega)
      simp only [Nat.zero_mul, Nat.add_zero, List.getElem?_cons_zero] at hz
      obtain ⟨b, off, spot⟩ := a
      have hspot : spot = none := by simpa [Addr.add] using World.cell?_spot hz
      subst hspot
      have hb : b < W.heap.size := by
        rcases Nat.lt_or_ge b W.heap.size with h | h
        · exact h
        · simp [World.cell?, Addr.add, Array.getElem?_eq_none h] at hz
      refine ⟨b, off, rfl, hb, fun i e hie => ?_⟩
      obtain ⟨hil, hie⟩ := List.getElem?_eq_some_iff.1 hie
      simp only [List.length_map, List.length_range] at hil
      simp only [List.getElem_map, List.getElem_range] at hie
      subst hie
      have hc := (hf i hil).1
      refine ⟨?_, ?_, ?_⟩
      · have := hc 0 (by omega); rw [Go.WideShapes.add_plain] at this; simpa using this
      · have := hc 1 (by omega); rw [Go.WideShapes.add_plain] at this; simpa [Nat.add_assoc] using this
      · have := hc 2 (by omega); rw [Go.WideShapes.add_plain] at this; simpa [Nat.add_assoc] using this
    · simp only [List.mem_map, List.mem_range] at he
      obtain ⟨i, hi', rfl⟩ := he
      exact (hf i hi').2

set_option maxRecDepth 100000 in
theorem open_graph {r : Reach} {b0 : Nat} {v : Value} {d : DataW H} {p : List MemPlace} (hv : Value.okWide Try.prog W r b0 24 v) (h : DataW.Trod enc Try.prog W base spare held 24 v d p) :
    ∃ (n : Int) (A : Option Addr) (len cap : Nat) (es : List E3), v = .agg #[.int .i64 n, .slice A len cap] ∧ EdgesAt W W.heap.size A len es ∧ len ≤ cap ∧ (∀ e ∈ es, WfE e) ∧ (Lit.int .i64 n).wf = true := by
  obtain ⟨c0, c1, y0, y1, m, rfl, _, _, hy0, hy1⟩ := open_agg2 Try.underlying24 (by kernel_rfl) cellsGraph hv h
  obtain ⟨n, e0, _, wn⟩ := DataW.trod_int Try.underlying3 hy0
  simp only [List.cons.injEq, and_true] at e0
  subst e0
  obtain ⟨A, len, cap, es, rfl, hE, hl, hw⟩ := edges_of hy1
  exact ⟨n, A, len, cap, es, rfl, hE, hl, hw, wn⟩
end
end Go.Proofs.Ytpcealcghglopaa

namespace Go.Proofs.Ytpcealcghglopaa
open Go.ChangeShapes Go.WideShapes Go.ChangeAt Go.RowKit

set_option maxRecDepth 100000 in
theorem recInts : Try.prog.readableRec 25 = true := by kernel_rfl
set_option maxRecDepth 100000 in
theorem rowInts : (25 : TypeId) < Try.prog.types.size := of_decide_eq_true (by kernel_rfl)
section
variable {H : Type} {enc : TypeId × Value → H} {W : World} {base : Nat} {spare : Nat → Bool} {held : Bool}
set_option maxRecDepth 100000 in
theorem open_intsA {r : Reach} {b0 : Nat} {v : Value} {d : DataW H} {p : List MemPlace} (hv : Value.okWide Try.prog W r b0 25 v) (h : DataW.Trod enc Try.prog W base spare held 25 v d p) :
    ∃ (A : Option Addr) (len cap : Nat) (xs : List Int), v = .slice A len cap ∧ IntsAt W W.heap.size A len xs ∧ len ≤ cap ∧ cap ≤ maxLen := by
  obtain ⟨A, len, cap, rfl⟩ := okWide_slice Try.underlying25 hv
  obtain ⟨fuel, hf⟩ := h
  rcases open_ints Try.underlying25 Try.underlying3 cellsInt hf with ⟨hcs, _⟩ | ⟨a, len', cap', zs, hcs, _, hl, hm, hz, _, hcell, _⟩
  · simp [Value.cells] at hcs
    obtain ⟨rfl, rfl, rfl⟩ := hcs
    exact ⟨none, 0, 0, [], rfl, IntsAt.nil_ _ _ _, Nat.le_refl _, Nat.zero_le _⟩
  · simp [Value.cells] at hcs
    obtain ⟨rfl, rfl, rfl⟩ := hcs
    have hzl : len ≤ zs.length := by rw [hz]; split <;> omega
    refine ⟨some a, len, cap, zs.take len, rfl, ⟨by rw [List.length_take]; omega, fun hn => ?_⟩, hl, hm⟩
    have hz0 := hcell 0 (by omega)
    obtain ⟨b, off, spot⟩ := a
    have hspot : spot = none := by simpa [Addr.add] using World.cell?_spot hz0
    subst hspot
    have hb : b < W.heap.size := by
      rcases Nat.lt_or_ge b W.heap.size with h | h
      · exact h
      · simp [World.cell?, Addr.add, Array.getElem?_eq_none h] at hz0
    refine ⟨b, off, rfl, hb, fun i x hx => ?_⟩
    obtain ⟨h1, h2⟩ := List.getElem?_eq_some_iff.1 hx
    rw [List.length_take] at h1
    rw [List.getElem_take] at h2
    have := hcell i (by omega)
    rw [add_plain, List.getD_eq_getElem?_getD, List.getElem?_eq_getElem (by omega), Option.getD_some, h2] at this
    exact this
end
end Go.Proofs.Ytpcealcghglopaa

namespace Go.Proofs.Ytpcealcghglopaa
open Go.ChangeShapes Go.WideShapes Go.ChangeAt Go.RowKit

set_option maxRecDepth 100000 in
theorem colourGreedy_any (n : Int) (A : Option Addr) (len cap : Nat) (es : List E3) (A2 : Option Addr) (len2 cap2 : Nat) (xs : List Int) (w : World) (hE : EdgesAt w w.heap.size A len es) (hcap : len ≤ cap) (_ : ∀ e ∈ es, WfE e) (_ : (Lit.int .i64 n).wf = true) (hI : IntsAt w w.heap.size A2 len2 xs) (hcap2 : len2 ≤ cap2) (hm2 : cap2 ≤ maxLen) :
    Calls Try.prog 4 #[.agg #[.int .i64 n, .slice A len cap], .slice A2 len2 cap2] w fun e w' => e = .returned (.bool true) ∧ Below w.heap.size w w' :=
  colourGreedy_of n A len cap es A2 len2 cap2 xs w hE hcap hI hcap2 (by unfold maxLen at hm2; omega) (fun W h h2 => greedyTop_any n A len cap es A2 len2 cap2 xs W h h2)
set_option maxRecDepth 100000 in
theorem colourGreedy_lifted (os : Os) (started : os.Started) (H : Type) (enc : TypeId × Value → H) :
    ReturnsInHanded {} Try.checked os 4 .any (Rows.colourGreedySpec.pre6 enc Try.prog Try.f4 Rows.colourGreedyRow.domain false) (Rows.colourGreedySpec.post enc Try.prog Try.f4 false true false false) := by
  refine returnsInHanded_of_change (C := Try.checked) ownK started (by kernel_rfl) Try.func4
    (ChangeSpec.witness6 (enc := enc) (C := Try.checked) false ⟨#[], #[.agg #[.int .i64 0, .slice none 0 0], .slice none 0 0], []⟩ 8 (by kernel_rfl) (by kernel_rfl) (by kernel_rfl) (by kernel_rfl)) ?_
  intro W base args ds gs before hval0 hW _ _
  have hval : ∀ (j : Nat) t v, Try.f4.params[j]? = some t → args[j]? = some v → Value.okWide Try.prog W .any base t v := hval0
  have hW' := hW
  obtain ⟨p, q, hA0, hV, rfl, _, _⟩ := hW
  have hA : DataW.TrodAll enc Try.prog W 0 (fun _ => true) true Try.f4.params.toList args.toList ds p := hA0
  rw [Try.params4] at hA hval
  obtain ⟨v0, v1, d0, d1, p0, p1, rfl, rfl, rfl, h0, h1⟩ := trodAll_two hA
  obtain ⟨rfl, rfl⟩ := trodVars_none hV
  obtain ⟨n0, A0, len0, cap0, es0, rfl, hE0, hcap0, hwf0, hwn0⟩ := open_graph (hval 0 24 v0 rfl rfl) h0
  obtain ⟨A1, len1, cap1, xs1, rfl, hI1, hcap1, hm1⟩ := open_intsA (hval 1 25 v1 rfl rfl) h1
  clear hA0 hval0
  simp only [List.append_nil] at hW'
  refine (colourGreedy_any n0 A0 len0 cap0 es0 A1 len1 cap1 xs1 W hE0 hcap0 hwf0 hwn0 hI1 hcap1 hm1).mono fun e W' ⟨he, hb⟩ => ?_
  subst he
  exact ⟨_, rfl, _, _, _, [], (p0 ++ p1), [], hW', trodAll_mk1 (shut_bool Try.underlying4 _), (by have h := trodAll_mk2 (Below.trod laidOutO recGraph rowGraph h0 hb (fun x hx => hW'.lt x (List.mem_append_left _ hx))) (Below.trod laidOutO recInts rowInts h1 hb (fun x hx => hW'.lt x (List.mem_append_right _ hx))); first | exact h | (simp only [List.append_nil] at h; exact h)), rfl, hb.frame _, fun h => by cases h⟩

theorem colourGreedy_holds : Rows.ColourGreedySaid :=
  OpenClaim.holds_of_wide 4 Try.f4 rfl rfl rfl rfl rfl rfl rfl ⟨rfl, rfl, rfl, rfl, rfl⟩ rfl rfl rfl rfl rfl (by kernel_rfl) Try.func4 (by kernel_rfl)
    (of_decide_eq_true (by kernel_rfl)) (by unfold Func.isWrapper; first | (rw [if_pos (by decide +kernel)]; kernel_rfl) | (rw [if_neg (by decide +kernel)]; exact ⟨rfl, rfl⟩))
    (fun os started H enc _ => colourGreedy_lifted os started H enc)
#print axioms colourGreedy_holds
end Go.Proofs.Ytpcealcghglopaa
