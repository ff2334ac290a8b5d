/- Plain facts and small walks that the others lean on, in one text: ArcsOwn, HalfA, NatsW, Side, OpenSet, Open. No conditions. -/
import Derived.Test.YtmelemjngnadpaaDoorZb2
import Derived.Test.YtmelemjngnadpaaDoorZb1
import Derived.Laws.AppendOwnNone
import Derived.Lib.AppendZeros
import Derived.Test.YtmelemjngnadpaaDoorRows
import Derived.ProofKit
import Derived.Deep.Slices
import Derived.Deep.Strs
import Derived.Lib.SmallJoins
namespace Go.Proofs.YtmelemjngnadpaaDoor
open Go.RowKit

theorem infoArc : (Tryd.prog.info? 65).map (fun i => (i.zero, i.size, i.bytes)) = some (some (.agg #[.int .i64 0, .int .i64 0, .int .i64 0, .int .i64 0]), 4, 32) := by kernel_rfl
def cells4 (e : A4) : List Value := [.int .i64 e.1, .int .i64 e.2.1, .int .i64 e.2.2.1, .int .i64 e.2.2.2]
def cellsA (es : List A4) : List Value := es.flatMap cells4
theorem cellsA_length : ∀ es : List A4, (cellsA es).length = es.length * 4
  | [] => rfl
  | e :: es => by
    have ih := cellsA_length es
    show (cells4 e ++ cellsA es).length = _
    rw [List.length_append, ih, List.length_cons]
    show 4 + es.length * 4 = _
    omega
theorem cellsA_get : ∀ (es : List A4) (i j : Nat) (e : A4), es[i]? = some e → j < 4 → (cellsA es)[i * 4 + j]? = (cells4 e)[j]?
  | [], i, j, e, h, _ => by simp at h
  | x :: es, 0, j, e, h, hj => by
    simp only [List.getElem?_cons_zero, Option.some.injEq] at h
    subst h
    show (cells4 x ++ cellsA es)[0 * 4 + j]? = _
    rw [List.getElem?_append_left (by simp [cells4]; omega), Nat.zero_mul, Nat.zero_add]
  | x :: es, i + 1, j, e, h, hj => by
    simp only [List.getElem?_cons_succ] at h
    rw [← cellsA_get es i j e h hj]
    show (cells4 x ++ cellsA es)[(i + 1) * 4 + j]? = _
    rw [List.getElem?_append_right (by simp [cells4]; omega)]
    congr 1
    simp [cells4]
    omega
theorem cellsA_at {es : List A4} {k : Nat} {u : Value} (h : (cellsA es)[k]? = some u) : ∃ i j e, k = i * 4 + j ∧ j < 4 ∧ es[i]? = some e ∧ (cells4 e)[j]? = some u := by
  have hk := (List.getElem?_eq_some_iff.1 h).1
  rw [cellsA_length] at hk
  have hi : k / 4 < es.length := by omega
  refine ⟨k / 4, k % 4, es[k / 4], by omega, by omega, List.getElem?_eq_getElem hi, ?_⟩
  rw [← cellsA_get es (k / 4) (k % 4) _ (List.getElem?_eq_getElem hi) (by omega), ← h]
  congr 1
  omega
/-- A block that holds arcs. -/
def RowA (w : World) (b : Nat) (es : List A4) : Prop := ∃ cur : Array Value, w.heap[b]? = some (.cells cur 65 (0, 0)) ∧ ∀ i e, es[i]? = some e → ∀ j, j < 4 → cur[i * 4 + j]? = (cells4 e)[j]?
theorem RowA.of_block {w w' : World} {b : Nat} {es : List A4} (h : RowA w b es) (hb : w'.heap[b]? = w.heap[b]?) : RowA w' b es := by
  obtain ⟨cur, h, hc⟩ := h
  exact ⟨cur, hb.trans h, hc⟩
theorem RowA.lt {w : World} {b : Nat} {es : List A4} (h : RowA w b es) : b < w.heap.size := by
  obtain ⟨cur, h, _⟩ := h
  exact (Array.getElem?_eq_some_iff.1 h).1
theorem RowA.cell {w : World} {b : Nat} {es : List A4} (h : RowA w b es) {i : Nat} {e : A4} (he : es[i]? = some e) : arcCells w b (i * 4) e := by
  obtain ⟨cur, h, hc⟩ := h
  have hh := hc i e he
  refine ⟨?_, ?_, ?_, ?_⟩
  · have := hh 0 (by omega); simp [World.cell?, h, cells4] at this ⊢; simpa [cells4] using this
  · have := hh 1 (by omega); simp [World.cell?, h, this, cells4]
  · have := hh 2 (by omega); simp [World.cell?, h, this, cells4]
  · have := hh 3 (by omega); simp [World.cell?, h, this, cells4]
theorem RowA.frozen {w : World} {b : Nat} {es : List A4} (h : RowA w b es) (o : Nat) : w.frozen? ⟨b, o, none⟩ = false := by
  obtain ⟨cur, h, _⟩ := h
  simp [World.frozen?, h]
theorem RowA.arcs {w : World} {b : Nat} {es : List A4} (h : RowA w b es) {n : Nat} (hn : es.length = n) : ArcsAt w w.heap.size (some ⟨b, 0, none⟩) n es :=
  ⟨hn, fun _ => ⟨b, 0, rfl, h.lt, fun i e he => by rw [Nat.zero_add]; exact h.cell he⟩⟩
theorem cellsA_snoc (es : List A4) (e : A4) : cellsA (es ++ [e]) = cellsA es ++ cells4 e := by simp [cellsA]
theorem own_form4 {w : World} {base : Nat} {t : TypeId} {v : Value} {n : Nat} {xs : List Value} (h : w.ownsRow base t 4 v n xs) : ∃ A cap, v = .slice A n cap := by
  rcases h.2 with ⟨rfl, rfl⟩ | ⟨g, cap, cur, rfl, _⟩
  · exact ⟨none, 0, rfl⟩
  · exact ⟨_, _, rfl⟩
theorem own_keep4 {w w' : World} {base : Nat} {t : TypeId} {v : Value} {n : Nat} {xs : List Value} (h : w.ownsRow base t 4 v n xs) (hb : ∀ g, base ≤ g → w'.heap[g]? = w.heap[g]?) : w'.ownsRow base t 4 v n xs := by
  refine ⟨h.1, ?_⟩
  rcases h.2 with h0 | ⟨g, cap, cur, hv, hg, hr, hrest⟩
  · exact .inl h0
  · exact .inr ⟨g, cap, cur, hv, hg, (hb g hg).trans hr, hrest⟩
theorem own_block4 {w w' : World} {base : Nat} {t : TypeId} {v : Value} {n : Nat} {xs : List Value} (h : w.ownsRow base t 4 v n xs) (hb : ∀ g, v.ownBlock = some g → w'.heap[g]? = w.heap[g]?) : w'.ownsRow base t 4 v n xs := by
  refine ⟨h.1, ?_⟩
  rcases h.2 with h0 | ⟨g, cap, cur, rfl, hg, hr, hrest⟩
  · exact .inl h0
  · exact .inr ⟨g, cap, cur, rfl, hg, (hb g rfl).trans hr, hrest⟩
theorem ArcsAt.of_own4 {w : World} {base n cap : Nat} {A : Option Addr} {es : List A4} (h : w.ownsRow base 65 4 (.slice A n cap) n (cellsA es)) : ArcsAt w w.heap.size A n es := by
  have hl : es.length = n := by have := h.1; rw [cellsA_length] at this; omega
  refine ⟨hl, fun hn => ?_⟩
  rcases h.2 with ⟨_, h0⟩ | ⟨g, cap', cur, hv, _, hg, _, _, _, htake⟩
  · omega
  · have hA : A = some ⟨g, 0, none⟩ := by injection hv
    subst hA
    have hlt : g < w.heap.size := (Array.getElem?_eq_some_iff.1 hg).1
    refine ⟨g, 0, rfl, hlt, fun i e he => ?_⟩
    have hi : i < n := by have := (List.getElem?_eq_some_iff.1 he).1; omega
    have key : ∀ c v, c < 4 → (cells4 e)[c]? = some v → w.cell? ⟨g, 0 + i * 4 + c, none⟩ = some v := fun c v hc hv => by
      rw [← cellsA_get es i c e he hc, ← htake, List.getElem?_take, if_pos (by omega)] at hv
      have : cur[i * 4 + c]? = some v := by simpa using hv
      simp [World.cell?, hg, this]
    exact ⟨key 0 _ (by omega) rfl, key 1 _ (by omega) rfl, key 2 _ (by omega) rfl, key 3 _ (by omega) rfl⟩
end Go.Proofs.YtmelemjngnadpaaDoor

namespace Go.Proofs.YtmelemjngnadpaaDoor

def inArc (v : Nat) : A4 := (2 * (v : Int), 2 * (v : Int) + 1, 1, 0)
def outArc (a b : Int) : A4 := (2 * a + 1, 2 * b, 1, 0)
def nodeArcs (n a b : Nat) : List A4 := ((List.range n).filter fun v => decide (v ≠ a ∧ v ≠ b)).map inArc
def edgeArcs (e : E3) : List A4 := [outArc e.1 e.2.1, outArc e.2.1 e.1]
def halfA (n a b : Nat) (es : List E3) : List A4 := nodeArcs n a b ++ es.flatMap edgeArcs
section
variable {n a b : Nat} {es : List E3}
theorem nodeArcs_succ (k a b : Nat) : nodeArcs (k + 1) a b = nodeArcs k a b ++ (if k ≠ a ∧ k ≠ b then [inArc k] else []) := by
  unfold nodeArcs
  rw [List.range_succ, List.filter_append, List.map_append]
  congr 1
  by_cases h : k ≠ a ∧ k ≠ b
  · rw [if_pos h]; simp [h]
  · rw [if_neg h]
    have : decide (k ≠ a ∧ k ≠ b) = false := decide_eq_false h
    simp only [List.filter_cons, this, List.filter_nil]
    rfl
theorem nodeArcs_len (n a b : Nat) : (nodeArcs n a b).length ≤ n := by
  unfold nodeArcs
  rw [List.length_map]
  exact Nat.le_trans (List.length_filter_le _ _) (by simp)
theorem edges_snoc {k : Nat} {e : E3} (h : es[k]? = some e) : (es.take (k + 1)).flatMap edgeArcs = (es.take k).flatMap edgeArcs ++ [outArc e.1 e.2.1, outArc e.2.1 e.1] := by
  obtain ⟨hk, rfl⟩ := List.getElem?_eq_some_iff.1 h
  rw [List.take_succ_eq_append_getElem hk, List.flatMap_append]
  simp [edgeArcs]
theorem edgeArcs_len : ∀ es : List E3, (es.flatMap edgeArcs).length = 2 * es.length
  | [] => rfl
  | e :: r => by rw [List.flatMap_cons, List.length_append, edgeArcs_len r]; simp [edgeArcs]; omega
theorem halfA_len (n a b : Nat) (es : List E3) : (halfA n a b es).length ≤ n + 2 * es.length := by
  unfold halfA
  rw [List.length_append, edgeArcs_len]
  have := nodeArcs_len n a b
  omega
theorem halfA_mem {x : A4} (h : x ∈ halfA n a b es) : (∃ v, v < n ∧ v ≠ a ∧ v ≠ b ∧ x = inArc v) ∨ ∃ e ∈ es, x = outArc e.1 e.2.1 ∨ x = outArc e.2.1 e.1 := by
  unfold halfA at h
  rcases List.mem_append.1 h with h | h
  · obtain ⟨v, hv, rfl⟩ := List.mem_map.1 h
    obtain ⟨h1, h2⟩ := List.mem_filter.1 hv
    have h3 := of_decide_eq_true h2
    exact .inl ⟨v, List.mem_range.1 h1, h3.1, h3.2, rfl⟩
  · obtain ⟨e, he, hx⟩ := List.mem_flatMap.1 h
    refine .inr ⟨e, he, ?_⟩
    simpa [edgeArcs] using hx
theorem halfA_in {v : Nat} (hv : v < n) (ha : v ≠ a) (hb : v ≠ b) : inArc v ∈ halfA n a b es :=
  List.mem_append_left _ (List.mem_map.2 ⟨v, List.mem_filter.2 ⟨List.mem_range.2 hv, decide_eq_true ⟨ha, hb⟩⟩, rfl⟩)
theorem halfA_out {e : E3} (he : e ∈ es) {x : A4} (hx : x = outArc e.1 e.2.1 ∨ x = outArc e.2.1 e.1) : x ∈ halfA n a b es :=
  List.mem_append_right _ (List.mem_flatMap.2 ⟨e, he, by simpa [edgeArcs] using hx⟩)
theorem good_mem (hg : goodE n es) {e : E3} (he : e ∈ es) : 0 ≤ e.1 ∧ e.1 < n ∧ 0 ≤ e.2.1 ∧ e.2.1 < n ∧ e.1 ≠ e.2.1 := by
  obtain ⟨k, hk⟩ := List.getElem?_of_mem he
  obtain ⟨p0, p1, p2, p3, p4, _⟩ := edge_ok (hg k e hk)
  exact ⟨p0, p1, p2, p3, p4⟩
theorem good_apart (hg : goodE n es) : es.Pairwise fun e f => sameB f e = false := by
  rw [List.pairwise_iff_getElem]
  intro i j hi hj hij
  have h1 := (edge_ok (hg j _ (List.getElem?_eq_getElem hj))).2.2.2.2.2
  cases h : sameB es[j] es[i] with
  | false => rfl
  | true =>
    rw [metB_mem es i j es[i] es[j] hij (List.getElem?_eq_getElem hi) h] at h1
    cases h1
theorem halfA_apart (hg : goodE n es) : (halfA n a b es).Pairwise fun x y => x.1 ≠ y.1 ∨ x.2.1 ≠ y.2.1 := by
  unfold halfA
  rw [List.pairwise_append]
  refine ⟨?_, ?_, ?_⟩
  · unfold nodeArcs
    rw [List.pairwise_map]
    have h : ((List.range n).filter fun v => decide (v ≠ a ∧ v ≠ b)).Pairwise (· ≠ ·) := List.Nodup.sublist List.filter_sublist List.nodup_range
    refine h.imp fun {x y} hne => .inl ?_
    simp only [inArc]
    omega
  · rw [List.pairwise_flatMap]
    refine ⟨fun e he => ?_, ?_⟩
    · obtain ⟨p0, p1, p2, p3, p4⟩ := good_mem hg he
      simp only [edgeArcs, outArc, List.pairwise_cons, List.mem_singleton]
      refine ⟨fun x hx => ?_, fun x hx => (by cases hx), List.Pairwise.nil⟩
      subst hx
      exact .inl (by simp only; omega)
    · refine (good_apart hg).imp fun {e f} hne x hx y hy => ?_
      have hs : ¬ ((e.1 = f.1 ∧ e.2.1 = f.2.1) ∨ (e.1 = f.2.1 ∧ e.2.1 = f.1)) := fun h => by
        have : sameB f e = true := by simpa [sameB] using h
        rw [hne] at this; cases this
      have hx' : x = outArc e.1 e.2.1 ∨ x = outArc e.2.1 e.1 := by simpa [edgeArcs] using hx
      have hy' : y = outArc f.1 f.2.1 ∨ y = outArc f.2.1 f.1 := by simpa [edgeArcs] using hy
      rcases hx' with rfl | rfl <;> rcases hy' with rfl | rfl <;> simp only [outArc] <;> omega
  · intro x hx y hy
    obtain ⟨v, _, rfl⟩ := List.mem_map.1 hx
    obtain ⟨e, _, hy⟩ := List.mem_flatMap.1 hy
    have hy' : y = outArc e.1 e.2.1 ∨ y = outArc e.2.1 e.1 := by simpa [edgeArcs] using hy
    rcases hy' with rfl | rfl <;> simp only [outArc, inArc] <;> omega
theorem halfA_big (hg : goodE n es) (hn : n ≤ 10) (hl : es.length ≤ 45) : BigN ((2 * n : Nat) : Int) (halfA n a b es) := by
  refine ⟨by omega, by omega, by have := halfA_len n a b es; omega, fun x hx => ?_⟩
  rcases halfA_mem hx with ⟨v, hv, _, _, rfl⟩ | ⟨e, he, rfl | rfl⟩
  · simp only [inArc]; omega
  · obtain ⟨p0, p1, p2, p3, p4⟩ := good_mem hg he
    simp only [outArc]; omega
  · obtain ⟨p0, p1, p2, p3, p4⟩ := good_mem hg he
    simp only [outArc]; omega
/-- The net that the program makes. -/
def laneN (n a b : Nat) (es : List E3) : NetP := netP ((2 * n : Nat) : Int) (halfA n a b es)
theorem adj_mem {u v : Nat} : adjE es u v = true ↔ ∃ e ∈ es, (e.1 = (u : Int) ∧ e.2.1 = (v : Int)) ∨ (e.1 = (v : Int) ∧ e.2.1 = (u : Int)) := by
  unfold adjE
  rw [List.any_eq_true]
  simp
theorem laneN_half (hg : goodE n es) (hn : n ≤ 10) (hl : es.length ≤ 45) (ha : a < n) (hb : b < n) (hab : a ≠ b) (hno : adjE es a b = false) :
    HalfP (laneN n a b es) n a b (adjE es) (fun v => 2 * v) (fun v => 2 * v + 1) := by
  have hB := halfA_big (a := a) (b := b) hg hn hl
  have hget : ∀ k, k < (laneN n a b es).K → ∃ x, (halfA n a b es)[k]? = some x ∧ x ∈ halfA n a b es ∧ x.1 = ((laneN n a b es).fr k : Int) ∧ x.2.1 = ((laneN n a b es).to k : Int) ∧ x.2.2.1 = (laneN n a b es).mo k := fun k hk => by
    have hx : (halfA n a b es)[k]? = some (halfA n a b es)[k] := List.getElem?_eq_getElem hk
    obtain ⟨h1, h2, h3, _⟩ := netP_arc hB hx
    exact ⟨_, hx, List.getElem_mem _, h1, h2, h3⟩
  have hidx : ∀ x, x ∈ halfA n a b es → ∃ k, k < (laneN n a b es).K ∧ x.1 = ((laneN n a b es).fr k : Int) ∧ x.2.1 = ((laneN n a b es).to k : Int) ∧ x.2.2.1 = (laneN n a b es).mo k := fun x hx => by
    obtain ⟨k, hk⟩ := List.getElem?_of_mem hx
    obtain ⟨h1, h2, h3, _⟩ := netP_arc hB hk
    exact ⟨k, (List.getElem?_eq_some_iff.1 hk).1, h1, h2, h3⟩
  have hNn : (laneN n a b es).n = 2 * n := by show ((2 * n : Nat) : Int).toNat = 2 * n; omega
  refine ⟨hab, ha, hb, hno, fun i j h => adjE_lt hg h, netP_ok hB, fun v hv => by rw [hNn]; omega, fun u v _ _ h => by omega, fun u v _ _ h => by omega, fun u v _ _ => by omega, fun k hk hm => ?_, fun k l hk hl' hm hm' h1 h2 => ?_, fun v hv hva hvb => ?_, fun u v hadj _ _ => ?_⟩
  · obtain ⟨x, _, hx, e1, e2, e3⟩ := hget k hk
    rcases halfA_mem hx with ⟨v, hv, hva, hvb, rfl⟩ | ⟨e, he, hx⟩
    · simp only [inArc] at e1 e2 e3
      exact .inl ⟨v, hv, hva, hvb, by omega, by omega, by omega⟩
    · obtain ⟨p0, p1, p2, p3, p4⟩ := good_mem hg he
      obtain ⟨u, hu⟩ := Int.eq_ofNat_of_zero_le p0
      obtain ⟨w, hw⟩ := Int.eq_ofNat_of_zero_le p2
      rcases hx with rfl | rfl
      · simp only [outArc] at e1 e2 e3
        exact .inr ⟨u, w, adj_mem.2 ⟨e, he, .inl ⟨hu, hw⟩⟩, by omega, by omega⟩
      · simp only [outArc] at e1 e2 e3
        exact .inr ⟨w, u, adj_mem.2 ⟨e, he, .inr ⟨hu, hw⟩⟩, by omega, by omega⟩
  · have hp := List.pairwise_iff_getElem.1 (halfA_apart (a := a) (b := b) hg)
    have g1 : ∀ k (hk : k < (halfA n a b es).length), (halfA n a b es)[k].1 = ((laneN n a b es).fr k : Int) ∧ (halfA n a b es)[k].2.1 = ((laneN n a b es).to k : Int) := fun k hk => by
      obtain ⟨h1, h2, _⟩ := netP_arc hB (List.getElem?_eq_getElem hk)
      exact ⟨h1, h2⟩
    obtain ⟨k1, k2⟩ := g1 k hk
    obtain ⟨l1, l2⟩ := g1 l hl'
    rcases Nat.lt_trichotomy k l with h | h | h
    · rcases hp k l hk hl' h with h' | h'
      · exact absurd (by rw [k1, l1, h1]) h'
      · exact absurd (by rw [k2, l2, h2]) h'
    · exact h
    · rcases hp l k hl' hk h with h' | h'
      · exact absurd (by rw [k1, l1, h1]) h'
      · exact absurd (by rw [k2, l2, h2]) h'
  · obtain ⟨k, hk, e1, e2, e3⟩ := hidx _ (halfA_in (es := es) hv hva hvb)
    simp only [inArc] at e1 e2 e3
    exact ⟨k, hk, by omega, by omega, by omega⟩
  · obtain ⟨e, he, ⟨h1, h2⟩ | ⟨h1, h2⟩⟩ := adj_mem.1 hadj
    · obtain ⟨k, hk, e1, e2, e3⟩ := hidx _ (halfA_out (n := n) (a := a) (b := b) he (.inl rfl))
      simp only [outArc] at e1 e2 e3
      exact ⟨k, hk, by omega, by omega, by omega⟩
    · obtain ⟨k, hk, e1, e2, e3⟩ := hidx _ (halfA_out (n := n) (a := a) (b := b) he (.inr rfl))
      simp only [outArc] at e1 e2 e3
      exact ⟨k, hk, by omega, by omega, by omega⟩
end
end Go.Proofs.YtmelemjngnadpaaDoor

namespace Go.Proofs.YtmelemjngnadpaaDoor

def natsW (l : List Nat) : List Int := l.map fun x : Nat => (x : Int)
theorem natsW_length (l : List Nat) : (natsW l).length = l.length := by simp [natsW]
theorem natsW_get {l : List Nat} {i : Nat} {x : Int} (h : (natsW l)[i]? = some x) : x = ((l.getD i 0 : Nat) : Int) ∧ i < l.length := by
  unfold natsW at h
  obtain ⟨h1, h2⟩ := List.getElem?_eq_some_iff.1 h
  simp at h1 h2
  refine ⟨?_, h1⟩
  rw [← h2, List.getD_eq_getElem?_getD, List.getElem?_eq_getElem h1]; rfl
end Go.Proofs.YtmelemjngnadpaaDoor

namespace Go.Proofs.YtmelemjngnadpaaDoor
open Go.RowKit

structure SideAt (w : World) (B : Nat) (A : Option Addr) (n c : Nat) (Ls : List (List Int)) : Prop where
  len : Ls.length = n
  nil : A = none → n = 0 ∧ c = 0
  le : n ≤ c
  big : c ≤ maxLen
  at_ : 0 < n → ∃ b off, A = some ⟨b, off, none⟩ ∧ b < B ∧ ∀ (i : Nat) (xs : List Int), Ls[i]? = some xs → ∃ A' c', w.cell? ⟨b, off + i, none⟩ = some (.slice A' xs.length c') ∧ IntsAt w B A' xs.length xs ∧ xs.length ≤ c' ∧ c' ≤ maxLen
section
variable {w w' : World} {B B' n c : Nat} {A : Option Addr} {Ls : List (List Int)}
theorem SideAt.keep (h : SideAt w B A n c Ls) (hk : ∀ p : Addr, p.block < B → w'.cell? p = w.cell? p) : SideAt w' B A n c Ls :=
  ⟨h.len, h.nil, h.le, h.big, fun hn => by
    obtain ⟨b, off, e, hb, hc⟩ := h.at_ hn
    refine ⟨b, off, e, hb, fun i x hx => ?_⟩
    obtain ⟨A', c', h1, h2, h3⟩ := hc i x hx
    exact ⟨A', c', (hk _ hb).trans h1, h2.keep hk, h3⟩⟩
theorem SideAt.more (h : SideAt w B A n c Ls) (hB : B ≤ B') : SideAt w B' A n c Ls :=
  ⟨h.len, h.nil, h.le, h.big, fun hn => by
    obtain ⟨b, off, e, hb, hc⟩ := h.at_ hn
    refine ⟨b, off, e, by omega, fun i x hx => ?_⟩
    obtain ⟨A', c', h1, h2, h3⟩ := hc i x hx
    exact ⟨A', c', h1, h2.more hB, h3⟩⟩
theorem SideAt.below (h : SideAt w B A n c Ls) (hb : Below B w w') : SideAt w' B A n c Ls := h.keep fun _ hp => hb.cell hp
theorem SideAt.go_ (h : SideAt w w.heap.size A n c Ls) (hb : Below w.heap.size w w') : SideAt w' w'.heap.size A n c Ls := (h.below hb).more hb.size
theorem SideAt.drewN (h : SideAt w B A n c Ls) (k : Nat) : SideAt (w.drewN k) B A n c Ls := ⟨h.len, h.nil, h.le, h.big, h.at_⟩
theorem SideAt.drew (h : SideAt w B A n c Ls) : SideAt w.drew B A n c Ls := ⟨h.len, h.nil, h.le, h.big, h.at_⟩
theorem SideAt.get {k : Nat} (h : SideAt w B A n c Ls) (hk : k < n) : ∃ b off xs A' c', A = some ⟨b, off, none⟩ ∧ b < B ∧ Ls[k]? = some xs ∧ w.cell? ⟨b, off + k, none⟩ = some (.slice A' xs.length c') ∧ IntsAt w B A' xs.length xs ∧ xs.length ≤ c' ∧ c' ≤ maxLen := by
  obtain ⟨b, off, e, hb, hc⟩ := h.at_ (by omega)
  have hl : k < Ls.length := by have := h.len; omega
  obtain ⟨A', c', h1, h2, h3, h4⟩ := hc k _ (List.getElem?_eq_getElem hl)
  exact ⟨b, off, _, A', c', e, hb, List.getElem?_eq_getElem hl, h1, h2, h3, h4⟩
/-- The cells as values. -/
theorem SideAt.vals (h : SideAt w B A n c Ls) : ∃ vs : List Value, vs.length = n ∧ (∀ u ∈ vs, u.oneCell' = true) ∧ (∀ ad, A = some ad → ∀ j u, vs[j]? = some u → w.cell? (ad.add j) = some u) ∧
    ∀ (i : Nat) (xs : List Int), Ls[i]? = some xs → ∃ A' c', vs[i]? = some (.slice A' xs.length c') ∧ IntsAt w B A' xs.length xs ∧ xs.length ≤ c' ∧ c' ≤ maxLen := by
  rcases Nat.eq_zero_or_pos n with h0 | h0
  · refine ⟨[], by simp [h0], by simp, fun _ _ j u hu => by simp at hu, fun i xs hi => ?_⟩
    have hl := h.len
    rw [h0, List.length_eq_zero_iff] at hl
    subst hl
    simp at hi
  · obtain ⟨b, off, e, hb, hc⟩ := h.at_ h0
    have hall : ∀ i, ∃ v : Value, i < n → ∃ xs A' c', Ls[i]? = some xs ∧ v = .slice A' xs.length c' ∧ w.cell? ⟨b, off + i, none⟩ = some v ∧ IntsAt w B A' xs.length xs ∧ xs.length ≤ c' ∧ c' ≤ maxLen := fun i => by
      by_cases hi : i < n
      · have hl : i < Ls.length := by have := h.len; omega
        obtain ⟨A', c', h1, h2, h3, h4⟩ := hc i _ (List.getElem?_eq_getElem hl)
        exact ⟨_, fun _ => ⟨_, A', c', List.getElem?_eq_getElem hl, rfl, h1, h2, h3, h4⟩⟩
      · exact ⟨.slice none 0 0, fun h => absurd h hi⟩
    obtain ⟨f, hf⟩ := Classical.axiomOfChoice hall
    have hget : ∀ i, i < n → ((List.range n).map f)[i]? = some (f i) := fun i hi => by rw [List.getElem?_map, List.getElem?_range hi]; rfl
    refine ⟨(List.range n).map f, by simp, fun u hu => ?_, fun ad ha j u hu => ?_, fun i xs hi => ?_⟩
    · obtain ⟨i, hi, rfl⟩ := List.mem_map.1 hu
      obtain ⟨xs, A', c', _, h2, _⟩ := hf i (List.mem_range.1 hi)
      rw [h2]; rfl
    · rw [e] at ha
      injection ha with ha
      subst ha
      have hj : j < n := by have := (List.getElem?_eq_some_iff.1 hu).1; simpa using this
      rw [hget j hj] at hu
      injection hu with hu
      subst hu
      obtain ⟨xs, A', c', _, _, h3, _⟩ := hf j hj
      rw [Go.WideShapes.add_plain]; exact h3
    · have hin : i < n := by have := (List.getElem?_eq_some_iff.1 hi).1; rw [h.len] at this; exact this
      obtain ⟨xs', A', c', h1, h2, _, h4⟩ := hf i hin
      obtain rfl : xs' = xs := by rw [h1] at hi; injection hi
      exact ⟨A', c', by rw [hget i hin, h2], h4⟩
end
end Go.Proofs.YtmelemjngnadpaaDoor

namespace Go.Proofs.YtmelemjngnadpaaDoor
open Go.ChangeShapes Go.WideShapes Go.ChangeAt Go.RowKit Go.Joins Go.Deep

theorem ownK : ownKnob Tryd.prog.godebug = none := by kernel_rfl
theorem laidOutO : laidOutB Tryd.prog = true := by kernel_rfl
theorem cellsInt : Tryd.prog.cellsOf 3 = 1 := by kernel_rfl
end Go.Proofs.YtmelemjngnadpaaDoor

namespace Go.Proofs.YtmelemjngnadpaaDoor
open Go.ChangeShapes Go.WideShapes Go.ChangeAt Go.RowKit Go.Joins Go.Deep

theorem recGraph : Tryd.prog.readableRec 24 = true := by kernel_rfl
theorem rowGraph : (24 : TypeId) < Tryd.prog.types.size := of_decide_eq_true (by kernel_rfl)
theorem cellsGraph : Tryd.prog.cellsOf 24 = 2 := by kernel_rfl
theorem cellsEdge : Tryd.prog.cellsOf 54 = 3 := by kernel_rfl
theorem cellsInt64 : Tryd.prog.cellsOf 2 = 1 := by kernel_rfl

/-- Every number of an edge is an int64. -/
def WfE (e : E3) : Prop := (Lit.int .i64 e.1).wf = true ∧ (Lit.int .i64 e.2.1).wf = true ∧ (Lit.int .i64 e.2.2).wf = true

section
variable {H : Type} {enc : TypeId × Value → H} {W : World} {base : Nat} {spare : Nat → Bool} {held : Bool}

theorem edge_of {n : Nat} {cs : List Value} {x : DataW H × List MemPlace} (h : DataW.trod enc Tryd.prog W base spare held n 54 cs = some x) :
    ∃ e : E3, cs = [.int .i64 e.1, .int .i64 e.2.1, .int .i64 e.2.2] ∧ WfE e := by
  obtain ⟨y0, y1, y2, m, _, hlen, h0, h1, h2⟩ := trod_struct3 Tryd.underlying54 h
  rw [cellsEdge] at hlen
  match cs, hlen with
  | [c0, c1, c2], _ =>
    simp only [cellsInt, cellsInt64, List.drop_zero, List.take_succ_cons, List.take_zero, List.drop_succ_cons] at h0 h1 h2
    obtain ⟨a, e0, _, wa⟩ := DataW.trod_int Tryd.underlying3 h0
    obtain ⟨b, e1, _, wb⟩ := DataW.trod_int Tryd.underlying3 h1
    obtain ⟨c, e2, _, wc⟩ := DataW.trod_int Tryd.underlying2 h2
    simp only [List.cons.injEq, and_true] at e0 e1 e2
    subst e0 e1 e2
    exact ⟨(a, b, c), rfl, wa, wb, wc⟩

theorem edges_of {n : Nat} {v : Value} {x : DataW H × List MemPlace} (h : DataW.trod enc Tryd.prog W base spare held n 22 [v] = some x) :
    ∃ (A : Option Addr) (len cap : Nat) (es : List E3), v = .slice A len cap ∧ EdgesAt W W.heap.size A len es ∧ len ≤ cap ∧ ∀ e ∈ es, WfE e := by
  rcases open_slice Tryd.underlying22 h with ⟨h0, _⟩ | ⟨a, len, cap, m, k, D, Pl, hcs, _, hl, _, hmm, _, hi⟩
  · simp only [List.cons.injEq, and_true] at h0
    subst h0
    exact ⟨none, 0, 0, [], rfl, ⟨rfl, fun h => absurd h (by omega)⟩, Nat.le_refl _, by simp⟩
  · simp only [List.cons.injEq, and_true] at hcs
    subst hcs
    have hlm : len ≤ m := by rw [hmm]; split <;> omega
    have hall : ∀ i, ∃ e : E3, i < len → (∀ j, j < 3 → W.cell? (a.add (i * 3 + j)) = [Value.int .i64 e.1, .int .i64 e.2.1, .int .i64 e.2.2][j]?) ∧ WfE e := fun i => by
      by_cases hlt : i < len
      · obtain ⟨cs', hc, ht⟩ := hi i (by omega)
        obtain ⟨e, rfl, he⟩ := edge_of ht
        rw [cellsEdge] at hc
        obtain ⟨_, _, hat⟩ := World.cells?_some hc
        exact ⟨e, fun _ => ⟨fun j hj => by rw [← Go.Deep.add_add]; exact hat j hj, he⟩⟩
      · exact ⟨default, fun h => absurd h hlt⟩
    obtain ⟨f, hf⟩ := Classical.axiomOfChoice hall
    refine ⟨some a, len, cap, (List.range len).map f, rfl, ⟨by simp, fun hn => ?_⟩, hl, fun e he => ?_⟩
    · have hz := (hf 0 hn).1 0 (by omega)
      simp only [Nat.zero_mul, Nat.add_zero, List.getElem?_cons_zero] at hz
      obtain ⟨b, off, spot⟩ := a
      have hspot : spot = none := by simpa [Addr.add] using World.cell?_spot hz
      subst hspot
      have hb : b < W.heap.size := by
        rcases Nat.lt_or_ge b W.heap.size with h | h
        · exact h
        · simp [World.cell?, Addr.add, Array.getElem?_eq_none h] at hz
      refine ⟨b, off, rfl, hb, fun i e hie => ?_⟩
      obtain ⟨hil, hie⟩ := List.getElem?_eq_some_iff.1 hie
      simp only [List.length_map, List.length_range] at hil
      simp only [List.getElem_map, List.getElem_range] at hie
      subst hie
      have hc := (hf i hil).1
      refine ⟨?_, ?_, ?_⟩
      · have := hc 0 (by omega); rw [Go.WideShapes.add_plain] at this; simpa using this
      · have := hc 1 (by omega); rw [Go.WideShapes.add_plain] at this; simpa [Nat.add_assoc] using this
      · have := hc 2 (by omega); rw [Go.WideShapes.add_plain] at this; simpa [Nat.add_assoc] using this
    · simp only [List.mem_map, List.mem_range] at he
      obtain ⟨i, hi', rfl⟩ := he
      exact (hf i hi').2

theorem open_graph {r : Reach} {b0 : Nat} {v : Value} {d : DataW H} {p : List MemPlace} (hv : Value.okWide Tryd.prog W r b0 24 v) (h : DataW.Trod enc Tryd.prog W base spare held 24 v d p) :
    ∃ (n : Int) (A : Option Addr) (len cap : Nat) (es : List E3), v = .agg #[.int .i64 n, .slice A len cap] ∧ EdgesAt W W.heap.size A len es ∧ len ≤ cap ∧ (∀ e ∈ es, WfE e) ∧ (Lit.int .i64 n).wf = true := by
  obtain ⟨c0, c1, y0, y1, m, rfl, _, _, hy0, hy1⟩ := open_agg2 Tryd.underlying24 (by kernel_rfl) cellsGraph hv h
  obtain ⟨n, e0, _, wn⟩ := DataW.trod_int Tryd.underlying3 hy0
  simp only [List.cons.injEq, and_true] at e0
  subst e0
  obtain ⟨A, len, cap, es, rfl, hE, hl, hw⟩ := edges_of hy1
  exact ⟨n, A, len, cap, es, rfl, hE, hl, hw, wn⟩
end
end Go.Proofs.YtmelemjngnadpaaDoor
