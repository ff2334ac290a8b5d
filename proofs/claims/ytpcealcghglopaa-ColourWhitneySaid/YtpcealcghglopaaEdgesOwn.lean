/- Edges that a call grew by append: how they lie; a list without one of its places. No conditions. -/
import Derived.Test.YtpcealcghglopaaOwn
namespace Go.Proofs.Ytpcealcghglopaa
open Go.RowKit

set_option maxRecDepth 100000 in
theorem infoEdge : (Try.prog.info? 61).map (fun i => (i.zero, i.size, i.bytes)) = some (some (.agg #[.int .i64 0, .int .i64 0, .int .i64 0]), 3, 24) := by kernel_rfl
def cells3 (e : E3) : List Value := [.int .i64 e.1, .int .i64 e.2.1, .int .i64 e.2.2]
def cellsE (es : List E3) : List Value := es.flatMap cells3
theorem cellsE_snoc (es : List E3) (e : E3) : cellsE (es ++ [e]) = cellsE es ++ cells3 e := by simp [cellsE]
theorem cellsE_length : ∀ es : List E3, (cellsE es).length = es.length * 3
  | [] => rfl
  | e :: es => by
    have ih := cellsE_length es
    show (cells3 e ++ cellsE es).length = _
    rw [List.length_append, ih, List.length_cons]
    show 3 + es.length * 3 = _
    omega
theorem cellsE_get : ∀ (es : List E3) (i : Nat) (e : E3), es[i]? = some e → (cellsE es)[i * 3]? = some (.int .i64 e.1) ∧ (cellsE es)[i * 3 + 1]? = some (.int .i64 e.2.1) ∧ (cellsE es)[i * 3 + 2]? = some (.int .i64 e.2.2)
  | [], i, e, h => by simp at h
  | x :: es, 0, e, h => by
    simp only [List.getElem?_cons_zero, Option.some.injEq] at h
    subst h
    simp [cellsE, cells3]
  | x :: es, i + 1, e, h => by
    simp only [List.getElem?_cons_succ] at h
    have ih := cellsE_get es i e h
    have hs : ∀ c, (cellsE (x :: es))[(i + 1) * 3 + c]? = (cellsE es)[i * 3 + c]? := fun c => by
      show (cells3 x ++ cellsE es)[(i + 1) * 3 + c]? = _
      rw [List.getElem?_append_right (by simp [cells3]; omega)]
      congr 1
      simp [cells3]
      omega
    have h0 := hs 0
    have h1 := hs 1
    have h2 := hs 2
    rw [Nat.add_zero, Nat.add_zero] at h0
    rw [h0, h1, h2]
    exact ih
set_option maxRecDepth 100000 in
theorem EdgesAt.of_own3 {w : World} {base n cap : Nat} {A : Option Addr} {es : List E3} (h : w.ownsRow base 61 3 (.slice A n cap) n (cellsE es)) : EdgesAt w w.heap.size A n es := by
  have hl : es.length = n := by have := h.1; rw [cellsE_length] at this; omega
  refine ⟨hl, fun hn => ?_⟩
  rcases h.2 with ⟨_, h0⟩ | ⟨g, cap', cur, hv, _, hg, _, _, _, htake⟩
  · omega
  · have hA : A = some ⟨g, 0, none⟩ := by injection hv
    subst hA
    have hlt : g < w.heap.size := (Array.getElem?_eq_some_iff.1 hg).1
    refine ⟨g, 0, rfl, hlt, fun i e he => ?_⟩
    obtain ⟨h0, h1, h2⟩ := cellsE_get es i e he
    have hi : i < n := by have := (List.getElem?_eq_some_iff.1 he).1; omega
    have key : ∀ c v, c < 3 → (cellsE es)[i * 3 + c]? = some v → w.cell? ⟨g, 0 + i * 3 + c, none⟩ = some v := fun c v hc hv => by
      rw [← htake, List.getElem?_take, if_pos (by omega)] at hv
      have : cur[i * 3 + c]? = some v := by simpa using hv
      simp [World.cell?, hg, this]
    exact ⟨key 0 _ (by omega) h0, key 1 _ (by omega) h1, key 2 _ (by omega) h2⟩
theorem erase_take_at (es : List E3) (k : Nat) : (es.take (k + 1)).eraseIdx k = (es.take k).eraseIdx k := by
  rw [List.eraseIdx_of_length_le (l := es.take k) (by simp; omega)]
  rcases Nat.lt_or_ge k es.length with h | h
  · rw [List.take_succ_eq_append_getElem h, List.eraseIdx_append_of_length_le (by simp; omega)]
    simp [Nat.min_eq_left (Nat.le_of_lt h)]
  · rw [List.take_of_length_le (by omega), List.take_of_length_le h, List.eraseIdx_of_length_le h]
theorem erase_take_ne (es : List E3) (k j : Nat) (e : E3) (h : j ≠ k) (he : es[j]? = some e) : (es.take (j + 1)).eraseIdx k = (es.take j).eraseIdx k ++ [e] := by
  obtain ⟨hj, rfl⟩ := List.getElem?_eq_some_iff.1 he
  rw [List.take_succ_eq_append_getElem hj]
  rcases Nat.lt_or_ge k j with hk | hk
  · rw [List.eraseIdx_append_of_lt_length (by simp; omega)]
  · rw [List.eraseIdx_of_length_le (by simp; omega), List.eraseIdx_of_length_le (by simp; omega)]
theorem erase_take_le (es : List E3) (k j : Nat) : ((es.take j).eraseIdx k).length ≤ j := by
  have h1 := List.length_eraseIdx_le (l := es.take j) (i := k)
  have h2 := List.length_take_le j es
  omega
theorem own_addr3 {w : World} {base : Nat} {t : TypeId} {A : Option Addr} {n m cap : Nat} {xs : List Value} (h : w.ownsRow base t 3 (.slice A n cap) m xs) : ∀ a, A = some a → base ≤ a.block ∧ ∃ cur, w.heap[a.block]? = some (.cells cur t (0, 0)) := fun a ha => by
  subst ha
  rcases h.2 with ⟨h0, _⟩ | ⟨g, cap', cur, hv, hb, hg, _⟩
  · cases h0
  · injection hv with hv
    injection hv with hv
    subst hv
    exact ⟨hb, cur, hg⟩
theorem EdgesAt.move {w w' : World} {B B' n : Nat} {A : Option Addr} {es : List E3} (h : EdgesAt w B A n es) (hb : ∀ a, A = some a → w'.heap[a.block]? = w.heap[a.block]?) (hB : B ≤ B') : EdgesAt w' B' A n es :=
  ⟨h.1, fun hn => by
    obtain ⟨b, off, e, hlt, hc⟩ := h.2 hn
    have hk : ∀ o, w'.cell? ⟨b, o, none⟩ = w.cell? ⟨b, o, none⟩ := fun o => World.cell?_of_block (a := ⟨b, o, none⟩) (hb ⟨b, off, none⟩ e)
    refine ⟨b, off, e, by omega, fun i x hx => ?_⟩
    obtain ⟨h0, h1, h2⟩ := hc i x hx
    exact ⟨(hk _).trans h0, (hk _).trans h1, (hk _).trans h2⟩⟩
theorem own_base3 {w : World} {base : Nat} {t : TypeId} {v : Value} {n : Nat} {xs : List Value} (h : w.ownsRow base t 3 v n xs) : ∀ g, v.ownBlock = some g → base ≤ g := fun g hg => (h.lt g hg).1
theorem own_form3 {w : World} {base : Nat} {t : TypeId} {v : Value} {n : Nat} {xs : List Value} (h : w.ownsRow base t 3 v n xs) : ∃ A cap, v = .slice A n cap := by
  rcases h.2 with ⟨rfl, rfl⟩ | ⟨g, cap, cur, rfl, _⟩
  · exact ⟨none, 0, rfl⟩
  · exact ⟨_, _, rfl⟩
theorem own_keep3 {w w' : World} {base : Nat} {t : TypeId} {v : Value} {n : Nat} {xs : List Value} (h : w.ownsRow base t 3 v n xs) (hb : ∀ g, base ≤ g → w'.heap[g]? = w.heap[g]?) : w'.ownsRow base t 3 v n xs := by
  refine ⟨h.1, ?_⟩
  rcases h.2 with h0 | ⟨g, cap, cur, hv, hg, hr, hrest⟩
  · exact .inl h0
  · exact .inr ⟨g, cap, cur, hv, hg, (hb g hg).trans hr, hrest⟩
/-- What a graph without one of its edges reads as. -/
def LessOut (m B : Nat) (es : List E3) (e : Ending) (w' : World) : Prop := ∃ A cap, e = .returned (.agg #[.int .i64 m, .slice A es.length cap]) ∧ EdgesAt w' w'.heap.size A es.length es ∧ ∀ a, A = some a → B ≤ a.block ∧ ∃ cur, w'.heap[a.block]? = some (.cells cur 61 (0, 0))
end Go.Proofs.Ytpcealcghglopaa
