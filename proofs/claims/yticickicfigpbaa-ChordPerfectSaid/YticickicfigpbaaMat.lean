/- Lists of lists of integers that a call grew by append: how they lie, and a number that is stored. No conditions. -/
import Derived.Test.YticickicfigpbaaOwn
import Derived.Test.YticickicfigpbaaFloyd
namespace Go.Proofs.Yticickicfigpbaa
open Go.RowKit

set_option maxRecDepth 100000 in
theorem infoInts : (Try.prog.info? 25).map (fun i => (i.zero, i.size, i.bytes)) = some (some (.slice none 0 0), 1, 24) := by kernel_rfl

/-- Block b begins with these integers. -/
def RowC (w : World) (b m : Nat) (f : Nat → Int) : Prop := ∃ cur : Array Value, w.heap[b]? = some (.cells cur 3 (0, 0)) ∧ ∀ j, j < m → cur[j]? = some (.int .i64 (f j))
theorem RowC.lt {w : World} {b m : Nat} {f : Nat → Int} (h : RowC w b m f) : b < w.heap.size := by obtain ⟨cur, h, _⟩ := h; exact (Array.getElem?_eq_some_iff.1 h).1
theorem RowC.cell {w : World} {b m : Nat} {f : Nat → Int} (h : RowC w b m f) {j : Nat} (hj : j < m) : w.cell? ⟨b, j, none⟩ = some (.int .i64 (f j)) := by
  obtain ⟨cur, h, hc⟩ := h
  simp [World.cell?, h, hc j hj]
theorem RowC.frozen {w : World} {b m : Nat} {f : Nat → Int} (h : RowC w b m f) (j : Nat) : w.frozen? ⟨b, j, none⟩ = false := by
  obtain ⟨cur, h, hc⟩ := h
  simp [World.frozen?, h]
theorem RowC.of_block {w w' : World} {b m : Nat} {f : Nat → Int} (h : RowC w b m f) (hb : w'.heap[b]? = w.heap[b]?) : RowC w' b m f := by
  obtain ⟨cur, h, hc⟩ := h
  exact ⟨cur, hb.trans h, hc⟩
set_option maxRecDepth 100000 in
theorem RowC.of_own {w : World} {base m g cap : Nat} {f : Nat → Int} (h : w.ownsRow base 3 1 (.slice (some ⟨g, 0, none⟩) m cap) m ((List.range m).map fun j => .int .i64 (f j))) : base ≤ g ∧ RowC w g m f := by
  rcases h.2 with ⟨hv, _⟩ | ⟨g', cap', cur, hv, hb, hg, _, _, _, htake⟩
  · cases hv
  · injection hv with hv
    injection hv with hv
    injection hv with hv
    subst hv
    refine ⟨hb, cur, hg, fun j hj => ?_⟩
    have h1 : (cur.toList.take (m * 1))[j]? = some (.int .i64 (f j)) := by rw [htake]; simp [hj]
    rw [List.getElem?_take, if_pos (by omega)] at h1
    simpa using h1
theorem RowC.congr {w : World} {b m : Nat} {f f' : Nat → Int} (h : RowC w b m f) (he : ∀ j, j < m → f j = f' j) : RowC w b m f' := by
  obtain ⟨cur, h, hc⟩ := h
  exact ⟨cur, h, fun j hj => by rw [hc j hj, he j hj]⟩

def updF (f : Nat → Int) (i : Nat) (v : Int) : Nat → Int := fun j => if j = i then v else f j
theorem RowC.set_ {w : World} {b m : Nat} {f : Nat → Int} (h : RowC w b m f) (j : Nat) (x : Int) : RowC (w.setCell ⟨b, j, none⟩ (.int .i64 x)) b m (updF f j x) := by
  obtain ⟨cur, hc, hv⟩ := h
  refine ⟨cur.setIfInBounds j (.int .i64 x), ?_, fun y hy => ?_⟩
  · simp [World.setCell, Array.getElem?_modify, hc]
  · rw [Array.getElem?_setIfInBounds]
    by_cases hyj : j = y
    · subst hyj
      have hlt : j < cur.size := (Array.getElem?_eq_some_iff.1 (hv j hy)).1
      simp [hlt, updF]
    · rw [if_neg hyj, hv y hy, updF, if_neg (by omega)]
theorem RowC.drew {w : World} {b m : Nat} {f : Nat → Int} (h : RowC w b m f) : RowC w.drew b m f := h
theorem RowC.drewN {w : World} {b m : Nat} {f : Nat → Int} (h : RowC w b m f) (n : Nat) : RowC (w.drewN n) b m f := h

def rowS (m : Nat) (bs cs : Nat → Nat) (k : Nat) : Value := .slice (some ⟨bs k, 0, none⟩) m (cs k)
/-- The first i rows of a matrix. -/
structure Rows1 (w : World) (base m i : Nat) (v : Value) (bs cs : Nat → Nat) (f : Nat → Nat → Int) : Prop where
  own : w.ownsRow base 25 1 v i ((List.range i).map (rowS m bs cs))
  row : ∀ k, k < i → base ≤ bs k ∧ RowC w (bs k) m (f k)
  inc : ∀ k l, k < l → l < i → bs k < bs l

section
variable {w w' : World} {base m i : Nat} {v : Value} {bs cs : Nat → Nat} {f : Nat → Nat → Int}
theorem Rows1.nil (w : World) (base m : Nat) (bs cs : Nat → Nat) (f : Nat → Nat → Int) : Rows1 w base m 0 (.slice none 0 0) bs cs f :=
  ⟨World.ownsRow_nil .., fun k hk => by omega, fun k l _ hl => by omega⟩
theorem Rows1.keep (h : Rows1 w base m i v bs cs f) (hb : Below w.heap.size w w') : Rows1 w' base m i v bs cs f :=
  ⟨h.own.kept (grown_of_below hb none) (Classical.em _), fun k hk => ⟨(h.row k hk).1, (h.row k hk).2.of_block (hb.block _ (h.row k hk).2.lt)⟩, h.inc⟩
theorem Rows1.low {base' : Nat} (h : Rows1 w base m i v bs cs f) (hb : base' ≤ base) : Rows1 w base' m i v bs cs f := by
  refine ⟨⟨h.own.1, ?_⟩, fun k hk => ⟨by have := (h.row k hk).1; omega, (h.row k hk).2⟩, h.inc⟩
  rcases h.own.2 with h0 | ⟨g, cap, cur, hv, hg, hr⟩
  · exact .inl h0
  · exact .inr ⟨g, cap, cur, hv, by omega, hr⟩
theorem Rows1.drewN (h : Rows1 w base m i v bs cs f) (n : Nat) : Rows1 (w.drewN n) base m i v bs cs f := ⟨h.own, h.row, h.inc⟩
theorem Rows1.drew (h : Rows1 w base m i v bs cs f) : Rows1 w.drew base m i v bs cs f := ⟨h.own, h.row, h.inc⟩
theorem Rows1.congr {f' : Nat → Nat → Int} (h : Rows1 w base m i v bs cs f) (he : ∀ k j, k < i → j < m → f k j = f' k j) : Rows1 w base m i v bs cs f' :=
  ⟨h.own, fun k hk => ⟨(h.row k hk).1, (h.row k hk).2.congr fun j hj => he k j hk hj⟩, h.inc⟩
/-- The block of the rows is none of the rows. -/
theorem Rows1.apart (h : Rows1 w base m i v bs cs f) {k : Nat} (hk : k < i) : v.ownBlock ≠ some (bs k) := fun he => by
  rcases h.own.2 with ⟨rfl, _⟩ | ⟨g, cap, cur, rfl, _, hg, _⟩
  · simp [Value.ownBlock] at he
  · simp only [Value.ownBlock, Option.some.injEq] at he
    obtain ⟨cur', hc, _⟩ := (h.row k hk).2
    rw [← he, hg] at hc
    injection hc with hc
    injection hc with _ ht
    exact absurd ht (by decide)
set_option maxRecDepth 100000 in
theorem Rows1.next {x w2 : World} {g cap : Nat} {v' : Value} (h : Rows1 w base m i v bs cs f) (hx : Below w.heap.size w x)
    (hr : x.ownsRow w.heap.size 3 1 (.slice (some ⟨g, 0, none⟩) m cap) m ((List.range m).map fun j => .int .i64 (f i j))) (hb : base ≤ w.heap.size)
    (hg : x.grownBy w2 v.ownBlock) (ho : w2.ownsRow base 25 1 v' (i + 1) ((List.range i).map (rowS m bs cs) ++ [.slice (some ⟨g, 0, none⟩) m cap])) :
    Rows1 w2 base m (i + 1) v' (fun k => if k = i then g else bs k) (fun k => if k = i then cap else cs k) f := by
  obtain ⟨hgb, hrow⟩ := RowC.of_own hr
  have hvlt : ∀ k, v.ownBlock = some k → k < w.heap.size := fun k hk => (h.own.lt k hk).2
  refine ⟨?_, fun k hk => ?_, fun k l hkl hl => ?_⟩
  · have e : (List.range (i + 1)).map (rowS m (fun k => if k = i then g else bs k) (fun k => if k = i then cap else cs k)) = (List.range i).map (rowS m bs cs) ++ [.slice (some ⟨g, 0, none⟩) m cap] := by
      rw [List.range_succ, List.map_append]
      congr 1
      · refine List.map_congr_left fun k hk => ?_
        have : k ≠ i := by have := List.mem_range.1 hk; omega
        simp [rowS, this]
      · simp [rowS]
    rw [e]; exact ho
  · by_cases hki : k = i
    · subst hki
      simp only [if_true]
      refine ⟨by omega, hrow.of_block (hg.block _ hrow.lt fun he => ?_)⟩
      have := hvlt _ he.symm
      omega
    · simp only [if_neg hki]
      have hk' : k < i := by omega
      obtain ⟨p1, p2⟩ := h.row k hk'
      have hlt := p2.lt
      exact ⟨p1, p2.of_block ((hg.block _ (Nat.lt_of_lt_of_le hlt hx.size) (fun he => h.apart hk' he.symm)).trans (hx.block _ hlt))⟩
  · have hk' : k ≠ i := by omega
    simp only [if_neg hk']
    by_cases hli : l = i
    · subst hli
      simp only [if_true]
      have := (h.row k (by omega)).2.lt
      omega
    · simp only [if_neg hli]
      exact h.inc k l hkl (by omega)
theorem Rows1.top (h : Rows1 w base m m v bs cs f) (hm : 0 < m) : ∃ g cap, v = .slice (some ⟨g, 0, none⟩) m cap ∧ base ≤ g ∧ g < w.heap.size ∧ ∀ i, i < m → w.cell? ⟨g, i, none⟩ = some (.slice (some ⟨bs i, 0, none⟩) m (cs i)) := by
  rcases h.own.2 with ⟨_, h0⟩ | ⟨g, cap, cur, rfl, hb, hg, _, _, _, htake⟩
  · omega
  · refine ⟨g, cap, rfl, hb, (Array.getElem?_eq_some_iff.1 hg).1, fun i hi => ?_⟩
    have h1 : (cur.toList.take (m * 1))[i]? = some (rowS m bs cs i) := by rw [htake]; simp [hi]
    rw [List.getElem?_take, if_pos (by omega)] at h1
    have h2 : cur[i]? = some (rowS m bs cs i) := by simpa using h1
    simp [World.cell?, hg, h2, rowS]
theorem Rows1.cell (h : Rows1 w base m i v bs cs f) {k j : Nat} (hk : k < i) (hj : j < m) : w.cell? ⟨bs k, j, none⟩ = some (.int .i64 (f k j)) := (h.row k hk).2.cell hj
theorem Rows1.inj (h : Rows1 w base m i v bs cs f) {k l : Nat} (hk : k < i) (hl : l < i) (he : bs k = bs l) : k = l := by
  rcases Nat.lt_trichotomy k l with h1 | h1 | h1
  · have := h.inc k l h1 hl; omega
  · exact h1
  · have := h.inc l k h1 hk; omega
theorem Rows1.set_ (h : Rows1 w base m i v bs cs f) {k j : Nat} (hk : k < i) (_hj : j < m) (x : Int) : Rows1 (w.setCell ⟨bs k, j, none⟩ (.int .i64 x)) base m i v bs cs (upd f k j x) := by
  have far : ∀ b, b ≠ bs k → (w.setCell ⟨bs k, j, none⟩ (.int .i64 x)).heap[b]? = w.heap[b]? := fun b hb => Below.heap_setCell w _ _ b hb
  refine ⟨⟨h.own.1, ?_⟩, fun l hl => ⟨(h.row l hl).1, ?_⟩, h.inc⟩
  · rcases h.own.2 with h0 | ⟨g, cap, cur, rfl, hb, hg, hr⟩
    · exact .inl h0
    · refine .inr ⟨g, cap, cur, rfl, hb, (far g fun he => h.apart hk ?_).trans hg, hr⟩
      simp [Value.ownBlock, he]
  · by_cases hlk : l = k
    · subst hlk
      obtain ⟨cur, hc, hv⟩ := (h.row l hl).2
      refine ⟨cur.setIfInBounds j (.int .i64 x), ?_, fun y hy => ?_⟩
      · simp [World.setCell, Array.getElem?_modify, hc]
      · rw [Array.getElem?_setIfInBounds]
        by_cases hyj : j = y
        · subst hyj
          have hlt : j < cur.size := (Array.getElem?_eq_some_iff.1 (hv j hy)).1
          simp [hlt, upd]
        · rw [if_neg hyj, hv y hy, upd_other (by omega)]
    · have hne : bs l ≠ bs k := fun he => hlk (h.inj hl hk he)
      exact ((h.row l hl).2.of_block (far _ hne)).congr fun y _ => (upd_other (by omega)).symm
end
end Go.Proofs.Yticickicfigpbaa
