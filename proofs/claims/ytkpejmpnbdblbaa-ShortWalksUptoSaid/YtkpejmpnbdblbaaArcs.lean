/- Nets: how arcs lie in memory (four cells each); what is wrong with a net, and with two nodes of it. No conditions. -/
import Derived.Test.YtkpejmpnbdblbaaRows2
namespace Go.Proofs.Ytkpejmpnbdblbaa
open Go.RowKit

/-- An arc: from, to, most, fee. -/
abbrev A4 := Int × Int × Int × Int
def arcCells (w : World) (b o : Nat) (e : A4) : Prop :=
  w.cell? ⟨b, o, none⟩ = some (.int .i64 e.1) ∧ w.cell? ⟨b, o + 1, none⟩ = some (.int .i64 e.2.1) ∧ w.cell? ⟨b, o + 2, none⟩ = some (.int .i64 e.2.2.1) ∧ w.cell? ⟨b, o + 3, none⟩ = some (.int .i64 e.2.2.2)
/-- A slice of arcs reads as a list, below block B. -/
def ArcsAt (w : World) (B : Nat) (A : Option Addr) (n : Nat) (es : List A4) : Prop :=
  es.length = n ∧ (0 < n → ∃ b off, A = some ⟨b, off, none⟩ ∧ b < B ∧ ∀ i e, es[i]? = some e → arcCells w b (off + i * 4) e)
section
variable {w w' : World} {B B' n : Nat} {A : Option Addr} {es : List A4}
theorem ArcsAt.keep (h : ArcsAt w B A n es) (hk : ∀ p : Addr, p.block < B → w'.cell? p = w.cell? p) : ArcsAt w' B A n es :=
  ⟨h.1, fun hn => by
    obtain ⟨b, off, e, hb, hc⟩ := h.2 hn
    refine ⟨b, off, e, hb, fun i x hx => ?_⟩
    obtain ⟨h0, h1, h2, h3⟩ := hc i x hx
    exact ⟨(hk _ hb).trans h0, (hk _ hb).trans h1, (hk _ hb).trans h2, (hk _ hb).trans h3⟩⟩
theorem ArcsAt.more (h : ArcsAt w B A n es) (hB : B ≤ B') : ArcsAt w B' A n es :=
  ⟨h.1, fun hn => by
    obtain ⟨b, off, e, hb, hc⟩ := h.2 hn
    exact ⟨b, off, e, by omega, hc⟩⟩
theorem ArcsAt.below (h : ArcsAt w B A n es) (hb : Below B w w') : ArcsAt w' B A n es := h.keep fun _ hp => hb.cell hp
theorem ArcsAt.go_ (h : ArcsAt w w.heap.size A n es) (hb : Below w.heap.size w w') : ArcsAt w' w'.heap.size A n es := (h.below hb).more hb.size
theorem ArcsAt.drew (h : ArcsAt w B A n es) : ArcsAt w.drew B A n es := h
theorem ArcsAt.drewN (h : ArcsAt w B A n es) (k : Nat) : ArcsAt (w.drewN k) B A n es := h
theorem ArcsAt.alloc (h : ArcsAt w B A n es) (hB : B ≤ w.heap.size) (o : Obj) : ArcsAt (w.alloc o) B A n es := h.keep fun p hp => World.cell?_alloc_lt w o p (by omega)
theorem ArcsAt.at_ {k : Nat} (h : ArcsAt w B A n es) (hk : k < n) : ∃ b off x, A = some ⟨b, off, none⟩ ∧ b < B ∧ es[k]? = some x ∧ arcCells w b (off + k * 4) x := by
  obtain ⟨b, off, e, hb, hc⟩ := h.2 (by omega)
  have hl : k < es.length := by have := h.1; omega
  exact ⟨b, off, es[k], e, hb, List.getElem?_eq_getElem hl, hc k _ (List.getElem?_eq_getElem hl)⟩
end

/-! What is wrong with an arc, with a net, with two of its nodes. -/
def arcErr (n : Int) (a : A4) : Int :=
  if a.1 < 0 ∨ n ≤ a.1 ∨ a.2.1 < 0 ∨ n ≤ a.2.1 then 2 else if a.1 = a.2.1 then 3 else if a.2.2.1 < 0 ∨ 1048576 < a.2.2.1 ∨ a.2.2.2 < -1048576 ∨ 1048576 < a.2.2.2 then 4 else 0
def scanA (n : Int) : List A4 → Int
  | [] => 0
  | a :: r => if arcErr n a = 0 then scanA n r else arcErr n a
def largeN (n : Int) (m : Nat) : Prop := n < 0 ∨ 10 < n ∨ 30 < m
instance (n : Int) (m : Nat) : Decidable (largeN n m) := by unfold largeN; infer_instance
def netF (n : Int) (es : List A4) : Int := if largeN n es.length then 1 else scanA n es
def endsF (n : Int) (es : List A4) (s t : Int) : Int := if netF n es = 0 then (if s < 0 ∨ n ≤ s ∨ t < 0 ∨ n ≤ t ∨ s = t then 2 else 0) else netF n es
section
variable {n : Int} {es : List A4} {k : Nat} {a : A4}
theorem arcErr_out (h : a.1 < 0 ∨ n ≤ a.1 ∨ a.2.1 < 0 ∨ n ≤ a.2.1) : arcErr n a = 2 := by unfold arcErr; rw [if_pos h]
theorem arcErr_form (h0 : 0 ≤ a.1) (h1 : a.1 < n) (h : a.1 = a.2.1) : arcErr n a = 3 := by unfold arcErr; rw [if_neg (by omega), if_pos h]
theorem arcErr_range (h0 : ¬ (a.1 < 0 ∨ n ≤ a.1 ∨ a.2.1 < 0 ∨ n ≤ a.2.1)) (h1 : a.1 ≠ a.2.1) (h : a.2.2.1 < 0 ∨ 1048576 < a.2.2.1 ∨ a.2.2.2 < -1048576 ∨ 1048576 < a.2.2.2) : arcErr n a = 4 := by unfold arcErr; rw [if_neg h0, if_neg h1, if_pos h]
theorem arcErr_ok (h0 : ¬ (a.1 < 0 ∨ n ≤ a.1 ∨ a.2.1 < 0 ∨ n ≤ a.2.1)) (h1 : a.1 ≠ a.2.1) (h : ¬ (a.2.2.1 < 0 ∨ 1048576 < a.2.2.1 ∨ a.2.2.2 < -1048576 ∨ 1048576 < a.2.2.2)) : arcErr n a = 0 := by unfold arcErr; rw [if_neg h0, if_neg h1, if_neg h]
theorem scanA_next (he : es[k]? = some a) (h0 : arcErr n a = 0) : scanA n (es.drop k) = scanA n (es.drop (k + 1)) := by
  obtain ⟨hk, rfl⟩ := List.getElem?_eq_some_iff.1 he
  rw [List.drop_eq_getElem_cons hk]
  simp only [scanA]; rw [if_pos h0]
theorem scanA_stop {v : Int} (he : es[k]? = some a) (hv : arcErr n a = v) (h0 : v ≠ 0) : scanA n (es.drop k) = v := by
  obtain ⟨hk, rfl⟩ := List.getElem?_eq_some_iff.1 he
  rw [List.drop_eq_getElem_cons hk]
  simp only [scanA]; rw [if_neg (by omega), hv]
theorem scanA_end (h : es.length ≤ k) : scanA n (es.drop k) = 0 := by rw [List.drop_eq_nil_of_le h]; rfl
theorem netF_large (h : largeN n es.length) : netF n es = 1 := if_pos h
theorem netF_small (h : ¬ largeN n es.length) : netF n es = scanA n es := if_neg h
theorem scanA_all : ∀ {es : List A4}, scanA n es = 0 → ∀ a ∈ es, arcErr n a = 0
  | [], _, a, ha => by cases ha
  | b :: r, h, a, ha => by
    simp only [scanA] at h
    split at h
    · rename_i h0
      rcases List.mem_cons.1 ha with rfl | ha
      · exact h0
      · exact scanA_all h a ha
    · rename_i h0; exact absurd h h0
/-- What a net without fault is. -/
structure GoodN (n : Int) (es : List A4) : Prop where
  n0 : 0 ≤ n
  n1 : n ≤ 10
  len : es.length ≤ 30
  arc : ∀ a ∈ es, 0 ≤ a.1 ∧ a.1 < n ∧ 0 ≤ a.2.1 ∧ a.2.1 < n ∧ a.1 ≠ a.2.1 ∧ 0 ≤ a.2.2.1 ∧ a.2.2.1 ≤ 1048576
/-- A net that is not too large for a word: what GoodN asks, and more nodes and arcs. -/
structure BigN (n : Int) (es : List A4) : Prop where
  n0 : 0 ≤ n
  n1 : n ≤ 20
  len : es.length ≤ 100
  arc : ∀ a ∈ es, 0 ≤ a.1 ∧ a.1 < n ∧ 0 ≤ a.2.1 ∧ a.2.1 < n ∧ a.1 ≠ a.2.1 ∧ 0 ≤ a.2.2.1 ∧ a.2.2.1 ≤ 67108864
theorem GoodN.big (h : GoodN n es) : BigN n es := ⟨h.n0, by have := h.n1; omega, by have := h.len; omega, fun a ha => by have := h.arc a ha; omega⟩
theorem arcErr_zero (h : arcErr n a = 0) : 0 ≤ a.1 ∧ a.1 < n ∧ 0 ≤ a.2.1 ∧ a.2.1 < n ∧ a.1 ≠ a.2.1 ∧ 0 ≤ a.2.2.1 ∧ a.2.2.1 ≤ 1048576 ∧ -1048576 ≤ a.2.2.2 ∧ a.2.2.2 ≤ 1048576 := by
  unfold arcErr at h
  split at h
  · omega
  · split at h
    · omega
    · split at h <;> omega
theorem good_of_netF (h : netF n es = 0) : GoodN n es := by
  unfold netF at h
  split at h
  · omega
  · rename_i hL
    unfold largeN at hL
    exact ⟨by omega, by omega, by omega, fun a ha => by have := arcErr_zero (scanA_all h a ha); omega⟩
theorem endsF_bad (h : netF n es ≠ 0) (s t : Int) : endsF n es s t = netF n es := if_neg h
theorem endsF_arg {s t : Int} (h : netF n es = 0) (hs : s < 0 ∨ n ≤ s ∨ t < 0 ∨ n ≤ t ∨ s = t) : endsF n es s t = 2 := by unfold endsF; rw [if_pos h, if_pos hs]
theorem endsF_ok {s t : Int} (h : netF n es = 0) (hs : ¬ (s < 0 ∨ n ≤ s ∨ t < 0 ∨ n ≤ t ∨ s = t)) : endsF n es s t = 0 := by unfold endsF; rw [if_pos h, if_neg hs]
theorem endsF_zero {s t : Int} (h : endsF n es s t = 0) : netF n es = 0 ∧ 0 ≤ s ∧ s < n ∧ 0 ≤ t ∧ t < n ∧ s ≠ t := by
  unfold endsF at h
  split at h
  · rename_i h0
    split at h
    · omega
    · exact ⟨h0, by omega⟩
  · rename_i h0; exact absurd h h0
end
end Go.Proofs.Ytkpejmpnbdblbaa
