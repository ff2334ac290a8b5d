/- Arcs that a call grew by append: how they lie. No conditions. -/
import Derived.Test.YtkpejmpnbdblbaaArcs
import Derived.Test.YtkpejmpnbdblbaaOwn
namespace Go.Proofs.Ytkpejmpnbdblbaa
open Go.RowKit

set_option maxRecDepth 100000 in
theorem infoArc : (Try.prog.info? 50).map (fun i => (i.zero, i.size, i.bytes)) = some (some (.agg #[.int .i64 0, .int .i64 0, .int .i64 0, .int .i64 0]), 4, 32) := by kernel_rfl
def cells4 (e : A4) : List Value := [.int .i64 e.1, .int .i64 e.2.1, .int .i64 e.2.2.1, .int .i64 e.2.2.2]
def cellsA (es : List A4) : List Value := es.flatMap cells4
theorem cellsA_length : ∀ es : List A4, (cellsA es).length = es.length * 4
  | [] => rfl
  | e :: es => by
    have ih := cellsA_length es
    show (cells4 e ++ cellsA es).length = _
    rw [List.length_append, ih, List.length_cons]
    show 4 + es.length * 4 = _
    omega
theorem cellsA_get : ∀ (es : List A4) (i j : Nat) (e : A4), es[i]? = some e → j < 4 → (cellsA es)[i * 4 + j]? = (cells4 e)[j]?
  | [], i, j, e, h, _ => by simp at h
  | x :: es, 0, j, e, h, hj => by
    simp only [List.getElem?_cons_zero, Option.some.injEq] at h
    subst h
    show (cells4 x ++ cellsA es)[0 * 4 + j]? = _
    rw [List.getElem?_append_left (by simp [cells4]; omega), Nat.zero_mul, Nat.zero_add]
  | x :: es, i + 1, j, e, h, hj => by
    simp only [List.getElem?_cons_succ] at h
    rw [← cellsA_get es i j e h hj]
    show (cells4 x ++ cellsA es)[(i + 1) * 4 + j]? = _
    rw [List.getElem?_append_right (by simp [cells4]; omega)]
    congr 1
    simp [cells4]
    omega
theorem cellsA_at {es : List A4} {k : Nat} {u : Value} (h : (cellsA es)[k]? = some u) : ∃ i j e, k = i * 4 + j ∧ j < 4 ∧ es[i]? = some e ∧ (cells4 e)[j]? = some u := by
  have hk := (List.getElem?_eq_some_iff.1 h).1
  rw [cellsA_length] at hk
  have hi : k / 4 < es.length := by omega
  refine ⟨k / 4, k % 4, es[k / 4], by omega, by omega, List.getElem?_eq_getElem hi, ?_⟩
  rw [← cellsA_get es (k / 4) (k % 4) _ (List.getElem?_eq_getElem hi) (by omega), ← h]
  congr 1
  omega
/-- A block that holds arcs. -/
def RowA (w : World) (b : Nat) (es : List A4) : Prop := ∃ cur : Array Value, w.heap[b]? = some (.cells cur 50 (0, 0)) ∧ ∀ i e, es[i]? = some e → ∀ j, j < 4 → cur[i * 4 + j]? = (cells4 e)[j]?
theorem RowA.of_block {w w' : World} {b : Nat} {es : List A4} (h : RowA w b es) (hb : w'.heap[b]? = w.heap[b]?) : RowA w' b es := by
  obtain ⟨cur, h, hc⟩ := h
  exact ⟨cur, hb.trans h, hc⟩
theorem RowA.lt {w : World} {b : Nat} {es : List A4} (h : RowA w b es) : b < w.heap.size := by
  obtain ⟨cur, h, _⟩ := h
  exact (Array.getElem?_eq_some_iff.1 h).1
theorem RowA.cell {w : World} {b : Nat} {es : List A4} (h : RowA w b es) {i : Nat} {e : A4} (he : es[i]? = some e) : arcCells w b (i * 4) e := by
  obtain ⟨cur, h, hc⟩ := h
  have hh := hc i e he
  refine ⟨?_, ?_, ?_, ?_⟩
  · have := hh 0 (by omega); simp [World.cell?, h, cells4] at this ⊢; simpa [cells4] using this
  · have := hh 1 (by omega); simp [World.cell?, h, this, cells4]
  · have := hh 2 (by omega); simp [World.cell?, h, this, cells4]
  · have := hh 3 (by omega); simp [World.cell?, h, this, cells4]
theorem RowA.frozen {w : World} {b : Nat} {es : List A4} (h : RowA w b es) (o : Nat) : w.frozen? ⟨b, o, none⟩ = false := by
  obtain ⟨cur, h, _⟩ := h
  simp [World.frozen?, h]
theorem RowA.arcs {w : World} {b : Nat} {es : List A4} (h : RowA w b es) {n : Nat} (hn : es.length = n) : ArcsAt w w.heap.size (some ⟨b, 0, none⟩) n es :=
  ⟨hn, fun _ => ⟨b, 0, rfl, h.lt, fun i e he => by rw [Nat.zero_add]; exact h.cell he⟩⟩
theorem cellsA_snoc (es : List A4) (e : A4) : cellsA (es ++ [e]) = cellsA es ++ cells4 e := by simp [cellsA]
theorem own_form4 {w : World} {base : Nat} {t : TypeId} {v : Value} {n : Nat} {xs : List Value} (h : w.ownsRow base t 4 v n xs) : ∃ A cap, v = .slice A n cap := by
  rcases h.2 with ⟨rfl, rfl⟩ | ⟨g, cap, cur, rfl, _⟩
  · exact ⟨none, 0, rfl⟩
  · exact ⟨_, _, rfl⟩
theorem own_keep4 {w w' : World} {base : Nat} {t : TypeId} {v : Value} {n : Nat} {xs : List Value} (h : w.ownsRow base t 4 v n xs) (hb : ∀ g, base ≤ g → w'.heap[g]? = w.heap[g]?) : w'.ownsRow base t 4 v n xs := by
  refine ⟨h.1, ?_⟩
  rcases h.2 with h0 | ⟨g, cap, cur, hv, hg, hr, hrest⟩
  · exact .inl h0
  · exact .inr ⟨g, cap, cur, hv, hg, (hb g hg).trans hr, hrest⟩
theorem own_block4 {w w' : World} {base : Nat} {t : TypeId} {v : Value} {n : Nat} {xs : List Value} (h : w.ownsRow base t 4 v n xs) (hb : ∀ g, v.ownBlock = some g → w'.heap[g]? = w.heap[g]?) : w'.ownsRow base t 4 v n xs := by
  refine ⟨h.1, ?_⟩
  rcases h.2 with h0 | ⟨g, cap, cur, rfl, hg, hr, hrest⟩
  · exact .inl h0
  · exact .inr ⟨g, cap, cur, rfl, hg, (hb g rfl).trans hr, hrest⟩
set_option maxRecDepth 100000 in
theorem ArcsAt.of_own4 {w : World} {base n cap : Nat} {A : Option Addr} {es : List A4} (h : w.ownsRow base 50 4 (.slice A n cap) n (cellsA es)) : ArcsAt w w.heap.size A n es := by
  have hl : es.length = n := by have := h.1; rw [cellsA_length] at this; omega
  refine ⟨hl, fun hn => ?_⟩
  rcases h.2 with ⟨_, h0⟩ | ⟨g, cap', cur, hv, _, hg, _, _, _, htake⟩
  · omega
  · have hA : A = some ⟨g, 0, none⟩ := by injection hv
    subst hA
    have hlt : g < w.heap.size := (Array.getElem?_eq_some_iff.1 hg).1
    refine ⟨g, 0, rfl, hlt, fun i e he => ?_⟩
    have hi : i < n := by have := (List.getElem?_eq_some_iff.1 he).1; omega
    have key : ∀ c v, c < 4 → (cells4 e)[c]? = some v → w.cell? ⟨g, 0 + i * 4 + c, none⟩ = some v := fun c v hc hv => by
      rw [← cellsA_get es i c e he hc, ← htake, List.getElem?_take, if_pos (by omega)] at hv
      have : cur[i * 4 + c]? = some v := by simpa using hv
      simp [World.cell?, hg, this]
    exact ⟨key 0 _ (by omega) rfl, key 1 _ (by omega) rfl, key 2 _ (by omega) rfl, key 3 _ (by omega) rfl⟩
end Go.Proofs.Ytkpejmpnbdblbaa
