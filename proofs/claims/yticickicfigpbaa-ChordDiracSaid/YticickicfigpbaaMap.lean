/- The map of met pairs: what its block holds, and what a look-up, an entry and a store do. No conditions. -/
import Derived.Test.YticickicfigpbaaWalkA
import Derived.Test.YticickicfigpbaaRefCheck
import Derived.WideKeyEntry
import Derived.DeepKeys4
import Derived.MapViews
import Derived.Lib.SmallJoins
namespace Go.Proofs.Yticickicfigpbaa
open Go.RowKit Go.MapKept Go.ChangeMaps Go.Joins Go.WideElems

set_option maxRecDepth 100000 in
theorem laidOutP : laidOutB Try.prog = true := by kernel_rfl
set_option maxRecDepth 100000 in
theorem rowPair : (73 : TypeId) < Try.prog.types.size := of_decide_eq_true (by kernel_rfl)
set_option maxRecDepth 100000 in
theorem cellsPair : Try.prog.cellsOf 73 = 2 := by kernel_rfl
set_option maxRecDepth 100000 in
theorem deepPair : Try.prog.keyTypeAt (Try.prog.types.size + 1) 73 = true := by kernel_rfl
set_option maxRecDepth 100000 in
theorem widePair : (match Try.prog.underlying 73 with | some (.array _ _) | some (.struct _) => true | _ => false) = true := by kernel_rfl
set_option maxRecDepth 100000 in
theorem lawPair : WideMaps.KeyLaw Try.prog 73 := deep_law_laid laidOutP (m := 2) (by omega) rowPair (by kernel_rfl) widePair

def keyV (p : Int × Int) : Value := .agg #[.int .i64 p.1, .int .i64 p.2]
def okM (p : Int × Int) : Prop := 0 ≤ p.1 ∧ p.1 ≤ 10 ∧ 0 ≤ p.2 ∧ p.2 ≤ 10
theorem keyV_inj {p q : Int × Int} (h : keyV p = keyV q) : p = q := by
  obtain ⟨a, b⟩ := p
  obtain ⟨c, d⟩ := q
  simpa [keyV] using h

set_option maxRecDepth 100000 in
theorem key_of (p : Int × Int) (h : okM p) : ∃ l, keyOf Try.prog 73 (keyV p) = some l := by
  obtain ⟨h0, h1, h2, h3⟩ := h
  have w0 : (Lit.int .i64 p.1).wf = true := WalkArith.wf_i64 (by omega)
  have w1 : (Lit.int .i64 p.2).wf = true := WalkArith.wf_i64 (by omega)
  exact ⟨_, (keyOf_asKey (H := Unit) (enc := fun _ => ()) (w := default) (base := 0) (sp := fun _ => true) (held := true) deepPair widePair (by simp [Value.formed, Try.underlying73, cellsPair])
    (shut_agg2 (y0 := (.lit (.int .i64 p.1), [])) (y1 := (.lit (.int .i64 p.2), [])) Try.underlying73 (by kernel_rfl) cellsPair ⟨1, by simp [DataW.trod, Try.underlying3, w0]⟩ ⟨1, by simp [DataW.trod, Try.underlying3, w1]⟩)).1⟩

def entL (ps : List (Int × Int)) : List MapEntry := ps.zipIdx.map fun x => ⟨keyV x.1, .int .i64 1, x.2⟩
def MapIs (w : World) (b : Nat) (ps : List (Int × Int)) : Prop := w.heap[b]? = some (.map (entL ps).toArray ps.length) ∧ ∀ p ∈ ps, okM p
/-- .. with one entry more that still holds zero. -/
def MapMid (w : World) (b : Nat) (ps : List (Int × Int)) (p : Int × Int) : Prop := w.heap[b]? = some (.map ((entL ps).toArray.push ⟨keyV p, .int .i64 0, ps.length⟩) (ps.length + 1))

theorem entL_snoc (ps : List (Int × Int)) (p : Int × Int) : entL (ps ++ [p]) = entL ps ++ [⟨keyV p, .int .i64 1, ps.length⟩] := by simp [entL, List.zipIdx_append]
theorem entL_length (ps : List (Int × Int)) : (entL ps).length = ps.length := by simp [entL]
theorem mem_entL {ps : List (Int × Int)} {x : MapEntry} (h : x ∈ entL ps) : ∃ p ∈ ps, x.key = keyV p ∧ x.val = .int .i64 1 ∧ x.born < ps.length := by
  simp only [entL, List.mem_map] at h
  obtain ⟨⟨p, i⟩, hpi, rfl⟩ := h
  obtain ⟨h1, h2⟩ := List.mem_zipIdx' hpi
  exact ⟨p, by simp [h2], rfl, rfl, h1⟩
theorem of_mem {ps : List (Int × Int)} {p : Int × Int} (h : p ∈ ps) : ∃ x ∈ entL ps, x.key = keyV p := by
  obtain ⟨i, hi, rfl⟩ := List.getElem_of_mem h
  exact ⟨⟨keyV ps[i], .int .i64 1, i⟩, List.mem_map.2 ⟨(ps[i], i), List.mk_mem_zipIdx_iff_getElem?.2 (by simp), rfl⟩, rfl⟩
set_option maxRecDepth 100000 in
theorem keys_entL {ps : List (Int × Int)} (hok : ∀ p ∈ ps, okM p) : ∀ e ∈ entL ps, ∃ l, keyOf Try.prog 73 e.key = some l := fun e he => by
  obtain ⟨p, hp, hk, _, _⟩ := mem_entL he
  rw [hk]
  exact key_of p (hok p hp)
theorem born_entL (ps : List (Int × Int)) : (entL ps).map (·.born) = List.range ps.length := by
  apply List.ext_getElem
  · simp [entL]
  · intro i h1 h2
    simp [entL]

section
variable {w : World} {b : Nat} {ps : List (Int × Int)} {p : Int × Int}
set_option maxRecDepth 100000 in
theorem look_in (hm : MapIs w b ps) (hp : okM p) (h : p ∈ ps) : (Instr.lookup 70 (.map (some b)) (keyV p) false).run Try.prog w = .ok (.int .i64 1) w := by
  obtain ⟨hb, hok⟩ := hm
  obtain ⟨l, hl⟩ := key_of p hp
  rcases lawPair.find w hl (entL ps) (keys_entL hok) with ⟨h1, h2⟩ | ⟨j, e, h1, h2, h3⟩
  · obtain ⟨x, hx, hk⟩ := of_mem h
    exact absurd hk (h2 x hx)
  · obtain ⟨q, _, _, hv, _⟩ := mem_entL (List.mem_of_getElem? h2)
    rw [hv] at h1
    simp [Instr.lookup, run_underlying Try.underlying70, MapKept.run_getObj_map hb, lawPair.check w _ hl, h1, Result.andThen]
set_option maxRecDepth 100000 in
theorem look_out (hm : MapIs w b ps) (hp : okM p) (h : p ∉ ps) : (Instr.lookup 70 (.map (some b)) (keyV p) false).run Try.prog w = .ok (.int .i64 0) w := by
  obtain ⟨hb, hok⟩ := hm
  obtain ⟨l, hl⟩ := key_of p hp
  rcases lawPair.find w hl (entL ps) (keys_entL hok) with ⟨h1, h2⟩ | ⟨j, e, h1, h2, h3⟩
  · simp [Instr.lookup, run_underlying Try.underlying70, MapKept.run_getObj_map hb, lawPair.check w _ hl, h1, Result.andThen]
  · obtain ⟨q, hq, hk, _, _⟩ := mem_entL (List.mem_of_getElem? h2)
    rw [hk] at h3
    exact absurd (keyV_inj h3 ▸ hq) h
set_option maxRecDepth 100000 in
theorem look_mid (hm : MapMid w b ps p) (hok : ∀ q ∈ ps, okM q) (hp : okM p) (h : p ∉ ps) : (Instr.lookup 70 (.map (some b)) (keyV p) false).run Try.prog w = .ok (.int .i64 0) w := by
  obtain ⟨l, hl⟩ := key_of p hp
  unfold MapMid at hm
  rcases lawPair.find w hl (entL ps ++ [⟨keyV p, .int .i64 0, ps.length⟩]) (fun e he => by
    rcases List.mem_append.1 he with he | he
    · exact keys_entL hok e he
    · simp only [List.mem_singleton] at he
      subst he
      exact ⟨l, hl⟩) with ⟨h1, h2⟩ | ⟨j, e, h1, h2, h3⟩
  · exact absurd rfl (h2 ⟨keyV p, .int .i64 0, ps.length⟩ (by simp))
  · have hv : e.val = .int .i64 0 := by
      rcases List.mem_append.1 (List.mem_of_getElem? h2) with he | he
      · obtain ⟨q, hq, hk, _, _⟩ := mem_entL he
        rw [hk] at h3
        exact absurd (keyV_inj h3 ▸ hq) h
      · simp only [List.mem_singleton] at he
        subst he
        rfl
    rw [hv] at h1
    simp [Instr.lookup, run_underlying Try.underlying70, MapKept.run_getObj_map hm, lawPair.check w _ hl, h1, Result.andThen]
set_option maxRecDepth 100000 in
theorem entry_out (hm : MapIs w b ps) (hp : okM p) (h : p ∉ ps) : ∃ w', (Instr.mapEntry 70 (.map (some b)) (keyV p)).run Try.prog w = .ok (.tuple #[.int .i64 0, .int .i64 ps.length]) w' ∧ MapMid w' b ps p ∧ w.grownBy w' (some b) := by
  obtain ⟨hb, hok⟩ := hm
  obtain ⟨l, hl⟩ := key_of p hp
  rcases lawPair.find w hl (entL ps) (keys_entL hok) with ⟨h1, h2⟩ | ⟨j, e, h1, h2, h3⟩
  · refine ⟨setBlock w b (.map ((entL ps).toArray.push ⟨keyV p, .int .i64 0, ps.length⟩) (ps.length + 1)), ?_, heap_setBlock_same hb _, ⟨rfl, rfl, rfl, by simp [setBlock], fun i _ hi => heap_setBlock_other hb _ (fun e => hi (by rw [e]))⟩⟩
    simp [Instr.mapEntry, run_underlying Try.underlying70, MapKept.run_getObj_map hb, lawPair.check w _ hl, h1, MapKept.run_setObj_map _ hb, Result.andThen, setBlock, goInt]
  · obtain ⟨q, hq, hk, _, _⟩ := mem_entL (List.mem_of_getElem? h2)
    rw [hk] at h3
    exact absurd (keyV_inj h3 ▸ hq) h
set_option maxRecDepth 100000 in
theorem store_mid (hm : MapMid w b ps p) (hok : ∀ q ∈ ps, okM q) (hp : okM p) : ∃ w', (Instr.entryStore 70 (.map (some b)) (.int .i64 ps.length) (.int .i64 1)).run Try.prog w = .ok () w' ∧ MapIs w' b (ps ++ [p]) ∧ w.grownBy w' (some b) := by
  unfold MapMid at hm
  refine ⟨setBlock w b (.map (entL (ps ++ [p])).toArray (ps.length + 1)), ?_, ⟨by simpa using heap_setBlock_same hm _, fun q hq => ?_⟩, ⟨rfl, rfl, rfl, by simp [setBlock], fun i _ hi => heap_setBlock_other hm _ (fun e => hi (by rw [e]))⟩⟩
  · have hidx : ((entL ps).toArray.push ⟨keyV p, .int .i64 0, ps.length⟩).findIdx? (fun e => ((e.born : Nat) : Int) == ((ps.length : Nat) : Int)) = some ps.length := by
      rw [findIdx_arr]
      have := findIdx_born (l := ((entL ps).toArray.push ⟨keyV p, .int .i64 0, ps.length⟩).toList) (j := ps.length) (e0 := ⟨keyV p, .int .i64 0, ps.length⟩) (by
        simp only [Array.toList_push, List.map_append, List.map_cons, List.map_nil, born_entL, ← List.range_succ]
        exact List.nodup_range) (by
        simp only [Array.toList_push]
        rw [List.getElem?_append_right (by simp [entL_length])]
        simp [entL_length])
      exact this
    have hmod : ((entL ps).toArray.push ⟨keyV p, .int .i64 0, ps.length⟩).modify ps.length (fun e => { e with val := .int .i64 1 }) = (entL (ps ++ [p])).toArray := by
      apply Array.ext'
      rw [Array.toList_modify, Array.toList_push, ← entL_length ps, modify_last, entL_snoc, entL_length]
    generalize (entL ps).toArray.push ⟨keyV p, .int .i64 0, ps.length⟩ = M at hm hidx hmod
    simp [Instr.entryStore, MapKept.run_getObj_map hm, asInt, asIntOf, hidx, hmod, MapKept.run_setObj_map _ hm, Result.andThen, setBlock]
  · rcases List.mem_append.1 hq with h | h
    · exact hok q h
    · simp only [List.mem_singleton] at h
      subst h
      exact hp
end
theorem MapIs.below {w w' : World} {B b : Nat} {ps : List (Int × Int)} (h : MapIs w b ps) (hb : Below B w w') (hlt : b < B) : MapIs w' b ps := ⟨(hb.block b hlt).trans h.1, h.2⟩
theorem MapIs.lt {w : World} {b : Nat} {ps : List (Int × Int)} (h : MapIs w b ps) : b < w.heap.size := (Array.getElem?_eq_some_iff.1 h.1).1
theorem MapIs.alloc {w : World} {b : Nat} {ps : List (Int × Int)} (h : MapIs w b ps) (o : Obj) : MapIs (w.alloc o) b ps := ⟨(Below.heap_alloc w o b h.lt).trans h.1, h.2⟩
end Go.Proofs.Yticickicfigpbaa
