/- A table of numbers of 64 bits: rows behind a row of slices. No conditions. -/
import Derived.Test.YthfgbgmkiggjmabDoorMat
namespace Go.Proofs.YthfgbgmkiggjmabDoor
open Go.RowKit

set_option maxRecDepth 100000 in
theorem infoInt64 : (Tryd.prog.info? 2).map (fun i => (i.zero, i.size, i.bytes)) = some (some (.int .i64 0), 1, 8) := by kernel_rfl
set_option maxRecDepth 100000 in
theorem infoInts64 : (Tryd.prog.info? 98).map (fun i => (i.zero, i.size, i.bytes)) = some (some (.slice none 0 0), 1, 24) := by kernel_rfl
/-- Block b begins with these numbers. -/
def RowL (w : World) (b m : Nat) (f : Nat → Int) : Prop := ∃ cur : Array Value, w.heap[b]? = some (.cells cur 2 (0, 0)) ∧ ∀ j, j < m → cur[j]? = some (.int .i64 (f j))
theorem RowL.lt {w : World} {b m : Nat} {f : Nat → Int} (h : RowL w b m f) : b < w.heap.size := by obtain ⟨cur, h, _⟩ := h; exact (Array.getElem?_eq_some_iff.1 h).1
theorem RowL.cell {w : World} {b m : Nat} {f : Nat → Int} (h : RowL w b m f) {j : Nat} (hj : j < m) : w.cell? ⟨b, j, none⟩ = some (.int .i64 (f j)) := by
  obtain ⟨cur, h, hc⟩ := h
  simp [World.cell?, h, hc j hj]
theorem RowL.frozen {w : World} {b m : Nat} {f : Nat → Int} (h : RowL w b m f) (j : Nat) : w.frozen? ⟨b, j, none⟩ = false := by
  obtain ⟨cur, h, hc⟩ := h
  simp [World.frozen?, h]
theorem RowL.of_block {w w' : World} {b m : Nat} {f : Nat → Int} (h : RowL w b m f) (hb : w'.heap[b]? = w.heap[b]?) : RowL w' b m f := by
  obtain ⟨cur, h, hc⟩ := h
  exact ⟨cur, hb.trans h, hc⟩
theorem RowL.congr {w : World} {b m : Nat} {f f' : Nat → Int} (h : RowL w b m f) (he : ∀ j, j < m → f j = f' j) : RowL w b m f' := by
  obtain ⟨cur, h, hc⟩ := h
  exact ⟨cur, h, fun j hj => by rw [hc j hj, he j hj]⟩
theorem RowL.set_ {w : World} {b m : Nat} {f : Nat → Int} (h : RowL w b m f) (j : Nat) (x : Int) : RowL (w.setCell ⟨b, j, none⟩ (.int .i64 x)) b m (updF f j x) := by
  obtain ⟨cur, hc, hv⟩ := h
  refine ⟨cur.setIfInBounds j (.int .i64 x), ?_, fun y hy => ?_⟩
  · simp [World.setCell, Array.getElem?_modify, hc]
  · rw [Array.getElem?_setIfInBounds]
    by_cases hyj : j = y
    · subst hyj
      have hlt : j < cur.size := (Array.getElem?_eq_some_iff.1 (hv j hy)).1
      simp [hlt, updF]
    · rw [if_neg hyj, hv y hy, updF, if_neg (by omega)]
set_option maxRecDepth 100000 in
theorem RowL.of_own {w : World} {base m g cap : Nat} {f : Nat → Int} (h : w.ownsRow base 2 1 (.slice (some ⟨g, 0, none⟩) m cap) m ((List.range m).map fun j => .int .i64 (f j))) : base ≤ g ∧ RowL w g m f := by
  rcases h.2 with ⟨hv, _⟩ | ⟨g', cap', cur, hv, hb, hg, _, _, _, htake⟩
  · cases hv
  · injection hv with hv
    injection hv with hv
    injection hv with hv
    subst hv
    refine ⟨hb, cur, hg, fun j hj => ?_⟩
    have h1 : (cur.toList.take (m * 1))[j]? = some (.int .i64 (f j)) := by rw [htake]; simp [hj]
    rw [List.getElem?_take, if_pos (by omega)] at h1
    simpa using h1

def updG (f : Nat → Nat → Int) (k j : Nat) (x : Int) : Nat → Nat → Int := fun a b => if a = k ∧ b = j then x else f a b
/-- R rows of m numbers, behind a row of slices in block g. -/
structure Tbl (w : World) (base g m R : Nat) (bs cs : Nat → Nat) (f : Nat → Nat → Int) : Prop where
  low : base ≤ g
  top : ∃ cur : Array Value, w.heap[g]? = some (.cells cur 98 (0, 0)) ∧ ∀ k, k < R → cur[k]? = some (.slice (some ⟨bs k, 0, none⟩) m (cs k))
  row : ∀ k, k < R → base ≤ bs k ∧ RowL w (bs k) m (f k)
  inj : ∀ k l, k < R → l < R → bs k = bs l → k = l
section
variable {w w' : World} {base g m R : Nat} {bs cs : Nat → Nat} {f : Nat → Nat → Int}
theorem Tbl.apart (h : Tbl w base g m R bs cs f) {k : Nat} (hk : k < R) : g ≠ bs k := fun he => by
  obtain ⟨cur, h1, _⟩ := h.top
  obtain ⟨cur', h2, _⟩ := (h.row k hk).2
  rw [← he, h1] at h2
  injection h2 with h2
  injection h2 with _ ht
  exact absurd ht (by decide)
theorem Tbl.tcell (h : Tbl w base g m R bs cs f) {k : Nat} (hk : k < R) : w.cell? ⟨g, k, none⟩ = some (.slice (some ⟨bs k, 0, none⟩) m (cs k)) := by
  obtain ⟨cur, h1, h2⟩ := h.top
  simp [World.cell?, h1, h2 k hk]
theorem Tbl.tlt (h : Tbl w base g m R bs cs f) : g < w.heap.size := by obtain ⟨cur, h1, _⟩ := h.top; exact (Array.getElem?_eq_some_iff.1 h1).1
theorem Tbl.cell (h : Tbl w base g m R bs cs f) {k j : Nat} (hk : k < R) (hj : j < m) : w.cell? ⟨bs k, j, none⟩ = some (.int .i64 (f k j)) := (h.row k hk).2.cell hj
theorem Tbl.frozen (h : Tbl w base g m R bs cs f) {k : Nat} (hk : k < R) (j : Nat) : w.frozen? ⟨bs k, j, none⟩ = false := (h.row k hk).2.frozen j
theorem Tbl.rlt (h : Tbl w base g m R bs cs f) {k : Nat} (hk : k < R) : bs k < w.heap.size := (h.row k hk).2.lt
theorem Tbl.congr {f' : Nat → Nat → Int} (h : Tbl w base g m R bs cs f) (he : ∀ k j, k < R → j < m → f k j = f' k j) : Tbl w base g m R bs cs f' :=
  ⟨h.low, h.top, fun k hk => ⟨(h.row k hk).1, (h.row k hk).2.congr fun j hj => he k j hk hj⟩, h.inj⟩
theorem Tbl.drew (h : Tbl w base g m R bs cs f) : Tbl w.drew base g m R bs cs f := ⟨h.low, h.top, h.row, h.inj⟩
theorem Tbl.drewN (h : Tbl w base g m R bs cs f) (n : Nat) : Tbl (w.drewN n) base g m R bs cs f := ⟨h.low, h.top, h.row, h.inj⟩
theorem Tbl.keep (h : Tbl w base g m R bs cs f) (hb : ∀ b, base ≤ b → b < w.heap.size → w'.heap[b]? = w.heap[b]?) : Tbl w' base g m R bs cs f := by
  obtain ⟨cur, h1, h2⟩ := h.top
  exact ⟨h.low, ⟨cur, (hb g h.low h.tlt).trans h1, h2⟩, fun k hk => ⟨(h.row k hk).1, (h.row k hk).2.of_block (hb _ (h.row k hk).1 (h.rlt hk))⟩, h.inj⟩
theorem Tbl.alloc (h : Tbl w base g m R bs cs f) (o : Obj) : Tbl (w.alloc o) base g m R bs cs f := h.keep fun b _ hb => Below.heap_alloc w o b hb
theorem Tbl.below (h : Tbl w base g m R bs cs f) (hb : Below w.heap.size w w') : Tbl w' base g m R bs cs f := h.keep fun b _ hbl => hb.block b hbl
theorem Tbl.set_ (h : Tbl w base g m R bs cs f) {k j : Nat} (hk : k < R) (x : Int) : Tbl (w.setCell ⟨bs k, j, none⟩ (.int .i64 x)) base g m R bs cs (updG f k j x) := by
  have far : ∀ b, b ≠ bs k → (w.setCell ⟨bs k, j, none⟩ (.int .i64 x)).heap[b]? = w.heap[b]? := fun b hb => Below.heap_setCell w _ _ b hb
  obtain ⟨cur, h1, h2⟩ := h.top
  refine ⟨h.low, ⟨cur, (far g (h.apart hk)).trans h1, h2⟩, fun l hl => ⟨(h.row l hl).1, ?_⟩, h.inj⟩
  by_cases hlk : l = k
  · subst hlk
    exact ((h.row l hl).2.set_ j x).congr fun b _ => by unfold updF updG; simp
  · exact ((h.row l hl).2.of_block (far _ fun he => hlk (h.inj l k hl hk he))).congr fun b _ => by unfold updG; rw [if_neg (fun hh => hlk hh.1)]
end

section
open Go.RowKit

def rowSL (m : Nat) (bs cs : Nat → Nat) (k : Nat) : Value := .slice (some ⟨bs k, 0, none⟩) m (cs k)
/-- The first i rows of a matrix. -/
structure RowsL (w : World) (base m i : Nat) (v : Value) (bs cs : Nat → Nat) (f : Nat → Nat → Int) : Prop where
  own : w.ownsRow base 98 1 v i ((List.range i).map (rowSL m bs cs))
  row : ∀ k, k < i → base ≤ bs k ∧ RowL w (bs k) m (f k)
  inc : ∀ k l, k < l → l < i → bs k < bs l

section
variable {w w' : World} {base m i : Nat} {v : Value} {bs cs : Nat → Nat} {f : Nat → Nat → Int}
theorem RowsL.nil (w : World) (base m : Nat) (bs cs : Nat → Nat) (f : Nat → Nat → Int) : RowsL w base m 0 (.slice none 0 0) bs cs f :=
  ⟨World.ownsRow_nil .., fun k hk => by omega, fun k l _ hl => by omega⟩
theorem RowsL.keep (h : RowsL w base m i v bs cs f) (hb : Below w.heap.size w w') : RowsL w' base m i v bs cs f :=
  ⟨h.own.kept (grown_of_below hb none) (Classical.em _), fun k hk => ⟨(h.row k hk).1, (h.row k hk).2.of_block (hb.block _ (h.row k hk).2.lt)⟩, h.inc⟩
theorem RowsL.low {base' : Nat} (h : RowsL w base m i v bs cs f) (hb : base' ≤ base) : RowsL w base' m i v bs cs f := by
  refine ⟨⟨h.own.1, ?_⟩, fun k hk => ⟨by have := (h.row k hk).1; omega, (h.row k hk).2⟩, h.inc⟩
  rcases h.own.2 with h0 | ⟨g, cap, cur, hv, hg, hr⟩
  · exact .inl h0
  · exact .inr ⟨g, cap, cur, hv, by omega, hr⟩
theorem RowsL.drewN (h : RowsL w base m i v bs cs f) (n : Nat) : RowsL (w.drewN n) base m i v bs cs f := ⟨h.own, h.row, h.inc⟩
theorem RowsL.drew (h : RowsL w base m i v bs cs f) : RowsL w.drew base m i v bs cs f := ⟨h.own, h.row, h.inc⟩
theorem RowsL.congr {f' : Nat → Nat → Int} (h : RowsL w base m i v bs cs f) (he : ∀ k j, k < i → j < m → f k j = f' k j) : RowsL w base m i v bs cs f' :=
  ⟨h.own, fun k hk => ⟨(h.row k hk).1, (h.row k hk).2.congr fun j hj => he k j hk hj⟩, h.inc⟩
/-- The block of the rows is none of the rows. -/
theorem RowsL.apart (h : RowsL w base m i v bs cs f) {k : Nat} (hk : k < i) : v.ownBlock ≠ some (bs k) := fun he => by
  rcases h.own.2 with ⟨rfl, _⟩ | ⟨g, cap, cur, rfl, _, hg, _⟩
  · simp [Value.ownBlock] at he
  · simp only [Value.ownBlock, Option.some.injEq] at he
    obtain ⟨cur', hc, _⟩ := (h.row k hk).2
    rw [← he, hg] at hc
    injection hc with hc
    injection hc with _ ht
    exact absurd ht (by decide)
set_option maxRecDepth 100000 in
theorem RowsL.next {x w2 : World} {g cap : Nat} {v' : Value} (h : RowsL w base m i v bs cs f) (hx : Below w.heap.size w x)
    (hr : x.ownsRow w.heap.size 2 1 (.slice (some ⟨g, 0, none⟩) m cap) m ((List.range m).map fun j => .int .i64 (f i j))) (hb : base ≤ w.heap.size)
    (hg : x.grownBy w2 v.ownBlock) (ho : w2.ownsRow base 98 1 v' (i + 1) ((List.range i).map (rowSL m bs cs) ++ [.slice (some ⟨g, 0, none⟩) m cap])) :
    RowsL w2 base m (i + 1) v' (fun k => if k = i then g else bs k) (fun k => if k = i then cap else cs k) f := by
  obtain ⟨hgb, hrow⟩ := RowL.of_own hr
  have hvlt : ∀ k, v.ownBlock = some k → k < w.heap.size := fun k hk => (h.own.lt k hk).2
  refine ⟨?_, fun k hk => ?_, fun k l hkl hl => ?_⟩
  · have e : (List.range (i + 1)).map (rowSL m (fun k => if k = i then g else bs k) (fun k => if k = i then cap else cs k)) = (List.range i).map (rowSL m bs cs) ++ [.slice (some ⟨g, 0, none⟩) m cap] := by
      rw [List.range_succ, List.map_append]
      congr 1
      · refine List.map_congr_left fun k hk => ?_
        have : k ≠ i := by have := List.mem_range.1 hk; omega
        simp [rowSL, this]
      · simp [rowSL]
    rw [e]; exact ho
  · by_cases hki : k = i
    · subst hki
      simp only [if_true]
      refine ⟨by omega, hrow.of_block (hg.block _ hrow.lt fun he => ?_)⟩
      have := hvlt _ he.symm
      omega
    · simp only [if_neg hki]
      have hk' : k < i := by omega
      obtain ⟨p1, p2⟩ := h.row k hk'
      have hlt := p2.lt
      exact ⟨p1, p2.of_block ((hg.block _ (Nat.lt_of_lt_of_le hlt hx.size) (fun he => h.apart hk' he.symm)).trans (hx.block _ hlt))⟩
  · have hk' : k ≠ i := by omega
    simp only [if_neg hk']
    by_cases hli : l = i
    · subst hli
      simp only [if_true]
      have := (h.row k (by omega)).2.lt
      omega
    · simp only [if_neg hli]
      exact h.inc k l hkl (by omega)
theorem RowsL.top (h : RowsL w base m m v bs cs f) (hm : 0 < m) : ∃ g cap, v = .slice (some ⟨g, 0, none⟩) m cap ∧ base ≤ g ∧ g < w.heap.size ∧ ∀ i, i < m → w.cell? ⟨g, i, none⟩ = some (.slice (some ⟨bs i, 0, none⟩) m (cs i)) := by
  rcases h.own.2 with ⟨_, h0⟩ | ⟨g, cap, cur, rfl, hb, hg, _, _, _, htake⟩
  · omega
  · refine ⟨g, cap, rfl, hb, (Array.getElem?_eq_some_iff.1 hg).1, fun i hi => ?_⟩
    have h1 : (cur.toList.take (m * 1))[i]? = some (rowSL m bs cs i) := by rw [htake]; simp [hi]
    rw [List.getElem?_take, if_pos (by omega)] at h1
    have h2 : cur[i]? = some (rowSL m bs cs i) := by simpa using h1
    simp [World.cell?, hg, h2, rowSL]
/-- What was grown reads as a table. -/
theorem RowsL.tbl (h : RowsL w base m i v bs cs f) (hi : 0 < i) : ∃ g cap, v = .slice (some ⟨g, 0, none⟩) i cap ∧ i ≤ cap ∧ cap ≤ maxLen ∧ Tbl w base g m i bs cs f := by
  rcases h.own.2 with ⟨_, h0⟩ | ⟨g, cap, cur, rfl, hb, hg, h1, h2, _, htake⟩
  · omega
  · refine ⟨g, cap, rfl, h1, h2, hb, ⟨cur, hg, fun k hk => ?_⟩, h.row, fun k l hk hl he => ?_⟩
    · have h1 : (cur.toList.take (i * 1))[k]? = some (rowSL m bs cs k) := by rw [htake]; simp [hk]
      rw [List.getElem?_take, if_pos (by omega)] at h1
      simpa [rowSL] using h1
    · rcases Nat.lt_trichotomy k l with h1 | h1 | h1
      · have := h.inc k l h1 hl; omega
      · exact h1
      · have := h.inc l k h1 hk; omega
end
/-! Those of a range that are kept. -/
def cntP (p : Nat → Bool) (k : Nat) : Nat := ((List.range k).filter p).length
theorem cntP_succ (p : Nat → Bool) (k : Nat) : cntP p (k + 1) = cntP p k + if p k = true then 1 else 0 := by
  unfold cntP
  rw [List.range_succ, List.filter_append, List.length_append]
  by_cases h : p k = true <;> simp [h]
theorem cntP_mono (p : Nat → Bool) {k n : Nat} (h : k ≤ n) : cntP p k ≤ cntP p n := by
  induction h with
  | refl => exact Nat.le_refl _
  | step _ ih => rw [cntP_succ]; omega
theorem cntP_le (p : Nat → Bool) : ∀ k, cntP p k ≤ k
  | 0 => Nat.le_refl _
  | k + 1 => by rw [cntP_succ]; have := cntP_le p k; split <;> omega
theorem cntP_get {p : Nat → Bool} {k n : Nat} (hk : k < n) (hp : p k = true) : ((List.range n).filter p).getD (cntP p k) 0 = k := by
  have key : ∀ n, k < n → ((List.range n).filter p)[cntP p k]? = some k := by
    intro n
    induction n with
    | zero => intro h; omega
    | succ n ih =>
      intro h
      rw [List.range_succ, List.filter_append]
      rcases Nat.lt_or_ge k n with h1 | h1
      · rw [List.getElem?_append_left (by
          have h2 := cntP_mono p (k := k + 1) (n := n) h1
          rw [cntP_succ, if_pos hp] at h2
          exact h2)]
        exact ih h1
      · obtain rfl : k = n := by omega
        unfold cntP
        rw [List.getElem?_append_right (Nat.le_refl _)]
        simp [hp]
  rw [List.getD_eq_getElem?_getD, key n hk]; rfl
end
end Go.Proofs.YthfgbgmkiggjmabDoor
