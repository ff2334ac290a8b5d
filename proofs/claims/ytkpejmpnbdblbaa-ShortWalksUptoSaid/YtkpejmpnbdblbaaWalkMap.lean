/- A map of walks, one of each node that can be come to: how it reads; the laws at its operations. -/
import Derived.Test.YtkpejmpnbdblbaaWithGo
import Derived.Test.YtkpejmpnbdblbaaBoxN
import Derived.Maps.OwnOps
import Derived.Maps.OwnSet
import Derived.Maps.RangeWalk
namespace Go.Proofs.Ytkpejmpnbdblbaa
open Go.RowKit Go.Maps

def wkV (x : Int) (A : Option Addr) (n c : Nat) : Value := .agg #[.int .i64 x, .slice A n c]
open Classical in
/-- How a walk in a map reads: as it is. -/
noncomputable def rdW (v : Value) : Option (DataW Value × List MemPlace) := if ∃ x A n c, v = wkV x A n c then some (.held v, []) else none
theorem rdW_mk (x : Int) (A : Option Addr) (n c : Nat) : rdW (wkV x A n c) = some (.held (wkV x A n c), []) := if_pos ⟨x, A, n, c, rfl⟩
theorem rdW_inv {v : Value} {y : DataW Value × List MemPlace} (h : rdW v = some y) : (∃ x A n c, v = wkV x A n c) ∧ y = (.held v, []) := by
  unfold rdW at h
  split at h
  · rename_i e
    injection h with h
    exact ⟨e, h.symm⟩
  · cases h
theorem key_int (x : Int) : WideAt.IsKeyLit (.int .i64 x) := trivial
set_option maxRecDepth 100000 in
theorem keyedI : Keyed Try.prog 3 := int_keyed Try.underlying3
set_option maxRecDepth 100000 in
theorem zeroW (w : World) : (zeroValue 65).run Try.prog w = .ok (wkV 0 none 0 0) w := by kernel_rfl
/-- What stands in the map is what is known. -/
structure MapRead (N : ArcsF) (D : Nat → Option (List Nat)) (w : World) (Dd : DataW Value) : Prop where
  key : ∀ kl, Maps.has Dd kl = true → ∃ t : Nat, kl = .int .i64 t
  has : ∀ t : Nat, Maps.has Dd (.int .i64 t) = (D t).isSome
  val : ∀ (t : Nat) l, D t = some l → ∃ A n c, (∀ zd, Dd.atKey (.int .i64 t) zd = .held (wkV (lenL N l) A n c)) ∧ PlAt w w.heap.size A n c l
def WMap (N : ArcsF) (D : Nat → Option (List Nat)) (w : World) (b cnt : Nat) : Prop := ∃ Dd : DataW Value, w.ownsMap Try.prog 3 rdW b cnt Dd ∧ MapRead N D w Dd
/-- Block b is a map. -/
def IsM (w : World) (b : Nat) : Prop := ∃ es clock, w.heap[b]? = some (.map es clock)
section
variable {N : ArcsF} {D : Nat → Option (List Nat)} {w w' : World} {b cnt cnt' n c : Nat} {A : Option Addr} {l : List Nat}
theorem IsM.lt (h : IsM w b) : b < w.heap.size := by obtain ⟨es, clock, h⟩ := h; exact (Array.getElem?_eq_some_iff.1 h).1
theorem IsM.cell (h : IsM w b) (o : Nat) : w.cell? ⟨b, o, none⟩ = none := by obtain ⟨es, clock, h⟩ := h; simp [World.cell?, h]
theorem WMap.isM (h : WMap N D w b cnt) : IsM w b := by obtain ⟨Dd, ⟨es, clock, h, _⟩, _⟩ := h; exact ⟨es, clock, h⟩
theorem WMap.lt (h : WMap N D w b cnt) : b < w.heap.size := h.isM.lt
theorem WMap.more (h : WMap N D w b cnt) (hc : cnt ≤ cnt') : WMap N D w b cnt' := by obtain ⟨Dd, h1, h2⟩ := h; exact ⟨Dd, h1.mono hc, h2⟩
/-- What lies in rows of cells lies there still, when a map has changed. -/
theorem PlAt.grown (h : PlAt w w.heap.size A n c l) (hm : IsM w b) (hg : w.grownBy w' (some b)) : PlAt w' w'.heap.size A n c l := by
  refine ⟨⟨h.ints.1, fun h0 => ?_⟩, h.nil⟩
  obtain ⟨g, off, e, hlt, hc⟩ := h.ints.2 h0
  have hne : g ≠ b := fun he => by
    have hx : (lI l)[0]? = some _ := List.getElem?_eq_getElem (by have := h.ints.1; omega)
    have := hc 0 _ hx
    rw [he, hm.cell] at this
    cases this
  exact ⟨g, off, e, by have := hg.size; omega, fun i x hx => (World.cell?_of_block (w := w) (hg.block g hlt (fun he => hne (by injection he)))).trans (hc i x hx)⟩
theorem ArcsAt.grown {es : List A4} {len : Nat} (h : ArcsAt w w.heap.size A len es) (hm : IsM w b) (hg : w.grownBy w' (some b)) : ArcsAt w' w'.heap.size A len es := by
  refine ⟨h.1, fun h0 => ?_⟩
  obtain ⟨g, off, e, hlt, hc⟩ := h.2 h0
  have hne : g ≠ b := fun he => by
    have hx : es[0]? = some _ := List.getElem?_eq_getElem (by have := h.1; omega)
    have := (hc 0 _ hx).1
    rw [he, hm.cell] at this
    cases this
  have hk : ∀ o, w'.cell? ⟨g, o, none⟩ = w.cell? ⟨g, o, none⟩ := fun o => World.cell?_of_block (w := w) (hg.block g hlt (fun he => hne (by injection he)))
  refine ⟨g, off, e, by have := hg.size; omega, fun i x hx => ?_⟩
  obtain ⟨h1, h2, h3, h4⟩ := hc i x hx
  exact ⟨(hk _).trans h1, (hk _).trans h2, (hk _).trans h3, (hk _).trans h4⟩
theorem IsM.keep (h : IsM w b) (hb : Below w.heap.size w w') : IsM w' b := by
  obtain ⟨es, clock, h1⟩ := h
  exact ⟨es, clock, (hb.block b (Array.getElem?_eq_some_iff.1 h1).1).trans h1⟩
theorem WMap.keep (h : WMap N D w b cnt) (hb : Below w.heap.size w w') : WMap N D w' b cnt := by
  obtain ⟨Dd, h1, h2⟩ := h
  refine ⟨Dd, h1.kept (grown_of_below hb none) (by simp), h2.key, h2.has, fun t l hl => ?_⟩
  obtain ⟨A, n, c, h3, h4⟩ := h2.val t l hl
  exact ⟨A, n, c, h3, h4.go_ hb⟩
theorem key_ne {s t : Nat} (h : s ≠ t) : (Lit.int .i64 (s : Int)) ≠ Lit.int .i64 (t : Int) := fun e => h (by injection e; omega)
theorem MapRead.put {Dd : DataW Value} (h : MapRead N D w Dd) (hm : IsMap Dd) (hM : IsM w b) (hg : w.grownBy w' (some b)) (t : Nat) (hp : PlAt w w.heap.size A n c l) :
    MapRead N (updD D t l) w' (Dd.put (.int .i64 t) (.held (wkV (lenL N l) A n c))) := by
  refine ⟨fun kl hkl => ?_, fun s => ?_, fun s m hs => ?_⟩
  · by_cases e : kl = .int .i64 t
    · exact ⟨t, e⟩
    · rw [has_put_other e] at hkl
      exact h.key kl hkl
  · unfold updD
    by_cases e : s = t
    · subst e; rw [if_pos rfl, has_put_same hm (key_int _)]; rfl
    · rw [if_neg e, has_put_other (key_ne e)]; exact h.has s
  · unfold updD at hs
    by_cases e : s = t
    · subst e
      rw [if_pos rfl] at hs
      injection hs with hs
      subst hs
      exact ⟨A, n, c, fun zd => atKey_put_same hm (key_int _) _ _, hp.grown hM hg⟩
    · rw [if_neg e] at hs
      obtain ⟨A', n', c', h1, h2⟩ := h.val s m hs
      exact ⟨A', n', c', fun zd => by rw [atKey_put_other (key_ne e)]; exact h1 zd, h2.grown hM hg⟩
end
/-! At the operations. -/
section
variable {N : ArcsF} {D : Nat → Option (List Nat)} {b cnt : Nat} {w : World} {ops : Array Oper} {rest : List Oper} {o : Oper} {a : Act} {Q : Exit → Act → World → Prop}
set_option maxRecDepth 100000 in
theorem look_some (hg : o.guard = none) (m x : Operand) (hop : o.op = Op.lookup 61 m x true) (hm : a.eval m = .map (some b)) (h : WMap N D w b cnt) {t : Nat} (ht : (Lit.int .i64 (t : Int)).wf = true) (hx : a.eval x = .int .i64 t) {l : List Nat} (hD : D t = some l)
    (hK : ∀ A n c, PlAt w w.heap.size A n c l → wpList Try.prog ops Q rest (a.put o.dst (.tuple #[.agg #[.int .i64 (lenL N l), .slice A n c], .bool true])) w) :
    wpList Try.prog ops Q (o :: rest) a w := by
  obtain ⟨Dd, h1, h2⟩ := h
  refine wpList_lookup_own_ok w hg m x 61 hop 3 65 keyedI Try.underlying61 rdW (zeroW w) (.held (wkV 0 none 0 0)) [] (rdW_mk _ _ _ _) b cnt Dd hm h1 _ (.int .i64 t) hx (keyOf_int_mk Try.underlying3 ht) (fun v ps hv => ?_)
  obtain ⟨A, n, c, h3, h4⟩ := h2.val t l hD
  rw [h3] at hv
  obtain ⟨_, h6⟩ := rdW_inv hv
  injection h6 with h6 _
  injection h6 with h6
  subst h6
  have e : Maps.has Dd (.int .i64 t) = true := by rw [h2.has, hD]; rfl
  rw [e]
  exact hK A n c h4
set_option maxRecDepth 100000 in
theorem look_none (hg : o.guard = none) (m x : Operand) (hop : o.op = Op.lookup 61 m x true) (hm : a.eval m = .map (some b)) (h : WMap N D w b cnt) {t : Nat} (ht : (Lit.int .i64 (t : Int)).wf = true) (hx : a.eval x = .int .i64 t) (hD : D t = none)
    (hK : wpList Try.prog ops Q rest (a.put o.dst (.tuple #[.agg #[.int .i64 0, .slice none 0 0], .bool false])) w) :
    wpList Try.prog ops Q (o :: rest) a w := by
  obtain ⟨Dd, h1, h2⟩ := h
  have e : Maps.has Dd (.int .i64 t) = false := by rw [h2.has, hD]; rfl
  refine wpList_lookup_own_ok w hg m x 61 hop 3 65 keyedI Try.underlying61 rdW (zeroW w) (.held (wkV 0 none 0 0)) [] (rdW_mk _ _ _ _) b cnt Dd hm h1 _ (.int .i64 t) hx (keyOf_int_mk Try.underlying3 ht) (fun v ps hv => ?_)
  rw [atKey_of_not_has e] at hv
  obtain ⟨_, h6⟩ := rdW_inv hv
  injection h6 with h6 _
  injection h6 with h6
  subst h6
  rw [e]
  exact hK
set_option maxRecDepth 100000 in
theorem store_walk (hg : o.guard = none) (m x v : Operand) (hop : o.op = Op.mapUpdate 61 m x v) (hm : a.eval m = .map (some b)) (h : WMap N D w b cnt) (hc : cnt < 1000000) {t : Nat} (ht : (Lit.int .i64 (t : Int)).wf = true) (hx : a.eval x = .int .i64 t) {l : List Nat} {A : Option Addr} {n c : Nat}
    (hv : a.eval v = .agg #[.int .i64 (lenL N l), .slice A n c]) (hp : PlAt w w.heap.size A n c l)
    (hK : ∀ w', WMap N (updD D t l) w' b (cnt + 1) → w.grownBy w' (some b) → wpList Try.prog ops Q rest (a.put o.dst undef) w') :
    wpList Try.prog ops Q (o :: rest) a w := by
  have hM := h.isM
  obtain ⟨Dd, h1, h2⟩ := h
  refine wpList_mapUpdate_own w hg m x v 61 hop 3 65 keyedI Try.underlying61 rdW b cnt Dd hm h1 (by unfold maxLen; omega) _ _ (.int .i64 t) hx hv (keyOf_int_mk Try.underlying3 ht) _ _ (rdW_mk _ _ _ _) (fun w' h3 h4 => hK w' ⟨_, h3, h2.put ?_ hM h4 t hp⟩ h4)
  obtain ⟨es, clock, _, _, _, rfl⟩ := h1
  exact ⟨_, rfl⟩
end
/-- The map as it begins: of one node the walk without arcs. -/
theorem start_read (N : ArcsF) (w : World) (s : Nat) : MapRead N (startD s) w ((DataW.map []).put (.int .i64 s) (.held (wkV 0 none 0 0))) := by
  refine ⟨fun kl hkl => ?_, fun t => ?_, fun t l ht => ?_⟩
  · by_cases e : kl = .int .i64 s
    · exact ⟨s, e⟩
    · rw [has_put_other e] at hkl
      cases hkl
  · unfold startD
    by_cases e : t = s
    · subst e; rw [if_pos rfl, has_put_same isMap_empty (key_int _)]; rfl
    · rw [if_neg e, has_put_other (key_ne e)]; rfl
  · unfold startD at ht
    by_cases e : t = s
    · subst e
      rw [if_pos rfl] at ht
      injection ht with ht
      subst ht
      exact ⟨none, 0, 0, fun zd => atKey_put_same isMap_empty (key_int _) _ _, .start _ _⟩
    · rw [if_neg e] at ht; cases ht
set_option maxRecDepth 100000 in
theorem insert_start (N : ArcsF) (w : World) (s : Nat) (hs : (Lit.int .i64 (s : Int)).wf = true) : ∃ w3, (Instr.mapUpdate 61 (.map (some w.heap.size)) (.int .i64 s) (.agg #[.int .i64 0, .slice none 0 0])).run Try.prog (w.alloc (.map #[] 0)) = .ok () w3 ∧ WMap N (startD s) w3 w.heap.size 1 ∧ (w.alloc (.map #[] 0)).grownBy w3 (some w.heap.size) := by
  obtain ⟨w3, h1, h2, h3⟩ := World.ownsMap.update (t := 61) (e := 65) (World.ownsMap_made (H := Value) w Try.prog 3 rdW) keyedI Try.underlying61 (by unfold maxLen; omega) (keyOf_int_mk Try.underlying3 hs) (rdW_mk 0 none 0 0)
  exact ⟨w3, h1, ⟨_, h2, start_read N w3 s⟩, h3⟩
end Go.Proofs.Ytkpejmpnbdblbaa
