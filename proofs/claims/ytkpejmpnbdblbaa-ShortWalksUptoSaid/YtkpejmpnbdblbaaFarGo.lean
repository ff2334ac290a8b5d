/- short.farFrom: how far all are from some nodes, by the map of walks. -/
import Derived.Test.YtkpejmpnbdblbaaWalksGo
import Derived.Deep.Draws
import Derived.Deep.OwnRows
namespace Go.Proofs.Ytkpejmpnbdblbaa
open Go.RowKit Go.Maps

def farV (N : ArcsF) (D : Nat → Option (List Nat)) (t : Nat) : Int := match D t with | some l => lenL N l | none => 0
def farL (N : ArcsF) (D : Nat → Option (List Nat)) (m : Nat) : List Value := (List.range m).map fun t => .int .i64 (farV N D t)
def isL (D : Nat → Option (List Nat)) (m : Nat) : List Value := (List.range m).map fun t => .bool (D t).isSome
def rowsV (fb : Nat → Nat) (m k i : Nat) : List Value := (List.range k).map fun j => if j < i then .slice (some ⟨fb j, 0, none⟩) m m else .slice none 0 0
def parL (N : ArcsF) (D : Nat → Option (List Nat)) (left : Lit → Bool) (m : Nat) : List Value := (List.range m).map fun t : Nat => .int .i64 (if left (.int .i64 (t : Int)) = true then 0 else farV N D t)
def parI (D : Nat → Option (List Nat)) (left : Lit → Bool) (m : Nat) : List Value := (List.range m).map fun t : Nat => .bool (!left (.int .i64 (t : Int)) && (D t).isSome)
section
variable {N : ArcsF} {D : Nat → Option (List Nat)} {left : Lit → Bool} {m t : Nat} {l : List Nat}
theorem rowsV_zero (fb : Nat → Nat) (m k : Nat) : rowsV fb m k 0 = List.replicate k (.slice none 0 0) := by
  apply List.ext_getElem?
  intro j
  simp [rowsV, List.getElem?_replicate]
  by_cases h : j < k <;> simp [h]
theorem rowsV_set (fb : Nat → Nat) {m k i : Nat} (hi : i < k) (g : Nat) : (rowsV fb m k i).set i (.slice (some ⟨g, 0, none⟩) m m) = rowsV (fun j => if j = i then g else fb j) m k (i + 1) := by
  apply List.ext_getElem?
  intro j
  simp only [rowsV, List.getElem?_set, List.getElem?_map, List.length_map, List.length_range]
  by_cases h : i = j
  · subst h
    rw [if_pos rfl, if_pos hi, List.getElem?_range hi]
    simp
  · rw [if_neg h]
    rcases Nat.lt_or_ge j k with hj | hj
    · rw [List.getElem?_range hj]
      simp only [Option.map_some, Option.some.injEq]
      by_cases hji : j < i
      · rw [if_pos hji, if_pos (by omega), if_neg (by omega)]
      · rw [if_neg hji, if_neg (by omega)]
    · rw [List.getElem?_eq_none (by simpa using hj)]
      simp
theorem parL_start (h : ∀ t : Nat, left (.int .i64 (t : Int)) = (D t).isSome) : parL N D left m = List.replicate m (.int .i64 0) := by
  apply List.ext_getElem?
  intro j
  simp only [parL, List.getElem?_map, List.getElem?_replicate]
  rcases Nat.lt_or_ge j m with hj | hj
  · rw [List.getElem?_range hj, if_pos hj, Option.map_some, h j]
    unfold farV
    cases D j <;> simp
  · rw [List.getElem?_eq_none (by simpa using hj), if_neg (by omega)]; rfl
theorem parI_start (h : ∀ t : Nat, left (.int .i64 (t : Int)) = (D t).isSome) : parI D left m = List.replicate m (.bool false) := by
  apply List.ext_getElem?
  intro j
  simp only [parI, List.getElem?_map, List.getElem?_replicate]
  rcases Nat.lt_or_ge j m with hj | hj
  · rw [List.getElem?_range hj, if_pos hj, Option.map_some, h j]
    cases D j <;> simp
  · rw [List.getElem?_eq_none (by simpa using hj), if_neg (by omega)]; rfl
theorem parL_end (h : ∀ kl, left kl = false) : parL N D left m = farL N D m := by
  unfold parL farL
  apply List.map_congr_left
  intro t _
  rw [h, if_neg (by simp)]
theorem parI_end (h : ∀ kl, left kl = false) : parI D left m = isL D m := by
  unfold parI isL
  apply List.map_congr_left
  intro t _
  rw [h]; simp
theorem same_int (s t : Nat) : Lit.sameKey (.int .i64 (s : Int)) (.int .i64 (t : Int)) = decide (s = t) := by
  simp only [Lit.sameKey]
  by_cases h : s = t
  · subst h; simp
  · have : ¬ (s : Int) = (t : Int) := by omega
    simp [h, this]
theorem parL_step (hD : D t = some l) (ht : t < m) : (parL N D left m).set t (.int .i64 (lenL N l)) = parL N D (fun z => left z && !z.sameKey (.int .i64 (t : Int))) m := by
  apply List.ext_getElem?
  intro j
  simp only [parL, List.getElem?_set, List.getElem?_map, List.length_map, List.length_range]
  by_cases h : t = j
  · subst h
    rw [if_pos rfl, if_pos ht, List.getElem?_range ht]
    simp [same_int, farV, hD]
  · rw [if_neg h]
    rcases Nat.lt_or_ge j m with hj | hj
    · rw [List.getElem?_range hj]
      have hn : ¬ j = t := fun e => h e.symm
      simp [same_int, hn]
    · rw [List.getElem?_eq_none (by simpa using hj)]
      simp
theorem parI_step (hD : D t = some l) (ht : t < m) : (parI D left m).set t (.bool true) = parI D (fun z => left z && !z.sameKey (.int .i64 (t : Int))) m := by
  apply List.ext_getElem?
  intro j
  simp only [parI, List.getElem?_set, List.getElem?_map, List.length_map, List.length_range]
  by_cases h : t = j
  · subst h
    rw [if_pos rfl, if_pos ht, List.getElem?_range ht]
    simp [same_int, hD]
  · rw [if_neg h]
    rcases Nat.lt_or_ge j m with hj | hj
    · rw [List.getElem?_range hj]
      have hn : ¬ j = t := fun e => h e.symm
      simp [same_int, hn]
    · rw [List.getElem?_eq_none (by simpa using hj)]
      simp
end
/-! The step of a range over a map of walks. -/
section
variable {N : ArcsF} {D : Nat → Option (List Nat)} {b r n cnt : Nat} {w w0 : World} {ops : Array Oper} {rest : List Oper} {o : Oper} {a : Act} {Q : Exit → Act → World → Prop} {left : Lit → Bool} {Dd : DataW Value}
set_option maxRecDepth 100000 in
theorem next_walk (hg : o.guard = none) (it : Operand) (hop : o.op = Op.next it false) (hit : a.eval it = .pointer (some ⟨r, 0, none⟩)) (hM : MapRead N D w0 Dd) (h : w.ranges Try.prog 3 rdW b r n Dd left cnt)
    (hDone : (∀ kl, left kl = false) → wpList Try.prog ops Q rest (a.put o.dst (.tuple #[.bool false])) w)
    (hMore : ∀ (t : Nat) (l : List Nat) (A : Option Addr) (n' c : Nat) (w' : World) (cnt' : Nat), D t = some l → w'.ranges Try.prog 3 rdW b r n Dd (fun z => left z && !z.sameKey (.int .i64 (t : Int))) cnt' → cnt' < cnt →
      w.grownBy w' (some r) → w'.heap.size = w.heap.size → (Instr.entry (.pointer (some ⟨r, 0, none⟩))).run Try.prog w' = .ok (.tuple #[.int .i64 (t : Int), .agg #[.int .i64 (lenL N l), .slice A n' c]]) w' → wpList Try.prog ops Q rest (a.put o.dst (.tuple #[.bool true, .int .i64 (t : Int), .agg #[.int .i64 (lenL N l), .slice A n' c]])) w') :
    wpList Try.prog ops Q (o :: rest) a w :=
  wpList_next_ranges w hg it hop 3 keyedI rdW (Value.int .i64) (fun q : Int × Option Addr × Nat × Nat => wkV q.1 q.2.1 q.2.2.1 q.2.2.2) (fun key kl hkey => by obtain ⟨x, rfl, _⟩ := Maps.keyOf_int_inv Try.underlying3 hkey; exact ⟨x, rfl⟩) (fun v y hv => by
      obtain ⟨⟨x, A, n, c, rfl⟩, _⟩ := rdW_inv hv
      exact ⟨(x, A, n, c), rfl⟩)
    b r n Dd left cnt hit h (fun _ hl => hDone hl) (fun x c kl y w' cnt' hkey _ hv hat hrg hlt hgr hsz hen => by
      obtain ⟨x', ex, rfl, _⟩ := Maps.keyOf_int_inv Try.underlying3 hkey
      cases ex
      obtain ⟨t, ht⟩ := hM.key _ (Maps.has_true_of_atKey hat)
      injection ht with _ ht
      subst ht
      obtain ⟨l, hl⟩ : ∃ l, D t = some l := by
        have h1 := hM.has t
        rw [Maps.has_true_of_atKey hat] at h1
        exact Option.isSome_iff_exists.1 h1.symm
      obtain ⟨A, n', c', h2, _⟩ := hM.val t l hl
      obtain ⟨_, h3⟩ := rdW_inv hv
      have h4 := hat .nil
      rw [h2, h3] at h4
      injection h4 with h4
      rw [← h4] at hen ⊢
      exact hMore t l A n' c' w' cnt' hl hrg hlt hgr hsz hen)
end
/-- All lies as it lay, but for two blocks. -/
structure ButF (F I : Nat) (W W' : World) : Prop where
  os : W'.os = W.os
  tape : W'.tape = W.tape
  output : W'.output = W.output
  size : W.heap.size ≤ W'.heap.size
  block : ∀ q, q < W.heap.size → q ≠ F → q ≠ I → W'.heap[q]? = W.heap[q]?
theorem ButF.refl (F I : Nat) (W : World) : ButF F I W W := ⟨rfl, rfl, rfl, Nat.le_refl _, fun _ _ _ _ => rfl⟩
theorem ButF.grown {W W' : World} {r : Nat} (h : W.grownBy W' (some r)) (I : Nat) : ButF r I W W' := ⟨h.os, h.tape, h.output, h.size, fun q hq h1 _ => h.block q hq (fun e => h1 (by injection e))⟩
theorem ButF.of_below {F I : Nat} {W W' : World} (h : Below W.heap.size W W') : ButF F I W W' := ⟨h.os, h.tape, h.output, h.size, fun q hq _ _ => h.block q hq⟩
theorem ButF.trans {F I : Nat} {W W' W'' : World} (h : ButF F I W W') (k : ButF F I W' W'') : ButF F I W W'' :=
  ⟨k.os.trans h.os, k.tape.trans h.tape, k.output.trans h.output, Nat.le_trans h.size k.size, fun q hq h1 h2 => (k.block q (Nat.lt_of_lt_of_le hq h.size) h1 h2).trans (h.block q hq h1 h2)⟩
theorem ButF.alloc {F I : Nat} {W W' : World} (h : ButF F I W W') (o : Obj) : ButF F I W (W'.alloc o) := h.trans (.of_below ((Below.refl _ _).alloc (Nat.le_refl _) o))
theorem ButF.drew {F I : Nat} {W W' : World} (h : ButF F I W W') : ButF F I W W'.drew := h.trans (.of_below (Below.refl _ _).drew)
theorem ButF.setF {F I : Nat} {W W' : World} (h : ButF F I W W') (i : Nat) (v : Value) : ButF F I W (W'.setCell ⟨F, i, none⟩ v) := h.trans ⟨rfl, rfl, rfl, by simp, fun q _ h1 _ => Below.heap_setCell _ _ _ q h1⟩
theorem ButF.setI {F I : Nat} {W W' : World} (h : ButF F I W W') (i : Nat) (v : Value) : ButF F I W (W'.setCell ⟨I, i, none⟩ v) := h.trans ⟨rfl, rfl, rfl, by simp, fun q _ _ h2 => Below.heap_setCell _ _ _ q h2⟩
theorem ButF.row {F I : Nat} {W W' : World} (h : ButF F I W W') {g : Nat} {t : TypeId} {vs : List Value} (hr : RowOf W g t vs) (h1 : g ≠ F) (h2 : g ≠ I) : RowOf W' g t vs := (h.block g hr.lt h1 h2).trans hr
theorem ranges_of_blocks {H : Type} {P : Program} {k : TypeId} {R : Value → Option (DataW H × List MemPlace)} {w w' : World} {b r n : Nat} {D : DataW H} {left : Lit → Bool} {cnt : Nat} (h : w.ranges P k R b r n D left cnt) (h1 : w'.heap[b]? = w.heap[b]?) (h2 : w'.heap[r]? = w.heap[r]?) : w'.ranges P k R b r n D left cnt := by
  obtain ⟨es, clock, since, seen, c0, hb, F, hs, hD, hr, rest⟩ := h
  exact ⟨es, clock, since, seen, c0, h1.trans hb, F, hs, hD, h2.trans hr, rest⟩
theorem ranges_map_lt {H : Type} {P : Program} {k : TypeId} {R : Value → Option (DataW H × List MemPlace)} {w : World} {b r n : Nat} {D : DataW H} {left : Lit → Bool} {cnt : Nat} (h : w.ranges P k R b r n D left cnt) : b < w.heap.size := h.owns.lt
/-- The state of farFrom: i rows are done, i' are laid. -/
structure FarS (w : World) (m : Nat) (A : Option Addr) (len cap : Nat) (es : List A4) (xs : List Nat) (k F I : Nat) (fb ib : Nat → Nat) (i i' : Nat) (w1 : World) : Prop where
  box : w1.heap[w.heap.size]? = some (.cells #[.int .i64 (m : Int), .slice A len cap] 24 (0, 0))
  rowF : RowOf w1 F 25 (rowsV fb m k i')
  rowI : RowOf w1 I 26 (rowsV ib m k i')
  rows : ∀ j, j < i → ∃ x, xs[j]? = some x ∧ ¬ SinksP (netA m es) x ∧ RowOf w1 (fb j) 2 (farL (netA m es) (runD (netA m es) x m) m) ∧ RowOf w1 (ib j) 4 (isL (runD (netA m es) x m) m)
  fresh : ∀ j, j < i' → w.heap.size < fb j ∧ w.heap.size < ib j ∧ F ≠ fb j ∧ I ≠ fb j ∧ F ≠ ib j ∧ I ≠ ib j ∧ fb j ≠ ib j ∧ ∀ l, l < j → fb l < fb j ∧ fb l < ib j ∧ ib l < fb j ∧ ib l < ib j
  apart : w.heap.size < F ∧ w.heap.size < I ∧ F ≠ I
  below : Below w.heap.size w w1
section
variable {w w1 w2 : World} {m : Nat} {A : Option Addr} {len cap : Nat} {es : List A4} {xs : List Nat} {k F I : Nat} {fb ib : Nat → Nat} {i i' : Nat}
theorem FarS.lt (h : FarS w m A len cap es xs k F I fb ib i i' w1) : w.heap.size < w1.heap.size := (Array.getElem?_eq_some_iff.1 h.box).1
theorem FarS.k0 (h : FarS w m A len cap es xs k F I fb ib i i' w1) : w1.cell? ⟨w.heap.size, 0, none⟩ = some (.int .i64 (m : Int)) := by simp [World.cell?, h.box]
theorem FarS.k1 (h : FarS w m A len cap es xs k F I fb ib i i' w1) : w1.cell? ⟨w.heap.size, 1, none⟩ = some (.slice A len cap) := by simp [World.cell?, h.box]
theorem FarS.but {P Q : Nat} (h : FarS w m A len cap es xs k F I fb ib i i' w1) (hb : ButF P Q w1 w2) (hP : w.heap.size < P ∧ F ≠ P ∧ I ≠ P ∧ ∀ j, j < i → fb j ≠ P ∧ ib j ≠ P) (hQ : w.heap.size < Q ∧ F ≠ Q ∧ I ≠ Q ∧ ∀ j, j < i → fb j ≠ Q ∧ ib j ≠ Q) : FarS w m A len cap es xs k F I fb ib i i' w2 :=
  ⟨(hb.block _ h.lt (by omega) (by omega)).trans h.box, hb.row h.rowF hP.2.1 hQ.2.1, hb.row h.rowI hP.2.2.1 hQ.2.2.1, fun j hj => by
    obtain ⟨x, h1, h2, h3, h4⟩ := h.rows j hj
    exact ⟨x, h1, h2, hb.row h3 (hP.2.2.2 j hj).1 (hQ.2.2.2 j hj).1, hb.row h4 (hP.2.2.2 j hj).2 (hQ.2.2.2 j hj).2⟩, h.fresh, h.apart,
    ⟨hb.os.trans h.below.os, hb.tape.trans h.below.tape, hb.output.trans h.below.output, Nat.le_trans h.below.size hb.size, fun q hq => (hb.block q (by have := h.below.size; omega) (by omega) (by omega)).trans (h.below.block q hq)⟩⟩
theorem FarS.keep (h : FarS w m A len cap es xs k F I fb ib i i' w1) (hb : Below w1.heap.size w1 w2) : FarS w m A len cap es xs k F I fb ib i i' w2 :=
  ⟨(hb.block _ h.lt).trans h.box, h.rowF.keep hb, h.rowI.keep hb, fun j hj => by
    obtain ⟨x, h1, h2, h3, h4⟩ := h.rows j hj
    exact ⟨x, h1, h2, h3.keep hb, h4.keep hb⟩, h.fresh, h.apart, h.below.trans (hb.mono h.below.size)⟩
/-- Two rows more are laid. -/
theorem FarS.lay (h : FarS w m A len cap es xs k F I fb ib i i w1) (hi : i < k) {g1 g2 : Nat} (hg1 : w1.heap.size ≤ g1) (hg2 : w1.heap.size ≤ g2) (hne : g1 ≠ g2) (hb : ButF F I w1 w2) (hF : RowOf w2 F 25 ((rowsV fb m k i).set i (.slice (some ⟨g1, 0, none⟩) m m))) (hI : RowOf w2 I 26 ((rowsV ib m k i).set i (.slice (some ⟨g2, 0, none⟩) m m))) :
    FarS w m A len cap es xs k F I (fun j => if j = i then g1 else fb j) (fun j => if j = i then g2 else ib j) i (i + 1) w2 := by
  have hlt := h.lt
  have hF1 := h.rowF.lt
  have hI1 := h.rowI.lt
  refine ⟨(hb.block _ h.lt (by have := h.apart; omega) (by have := h.apart; omega)).trans h.box, by rw [← rowsV_set fb hi]; exact hF, by rw [← rowsV_set ib hi]; exact hI, fun j hj => ?_, fun j hj => ?_, h.apart, ⟨hb.os.trans h.below.os, hb.tape.trans h.below.tape, hb.output.trans h.below.output, Nat.le_trans h.below.size hb.size, fun q hq => (hb.block q (by have := h.below.size; omega) (by have := h.apart; omega) (by have := h.apart; omega)).trans (h.below.block q hq)⟩⟩
  · obtain ⟨x, h1, h2, h3, h4⟩ := h.rows j hj
    have hf := h.fresh j hj
    refine ⟨x, h1, h2, ?_, ?_⟩
    · rw [if_neg (show ¬ j = i by omega)]; exact hb.row h3 (by omega) (by omega)
    · rw [if_neg (show ¬ j = i by omega)]; exact hb.row h4 (by omega) (by omega)
  · by_cases e : j = i
    · subst e
      rw [if_pos rfl, if_pos rfl]
      refine ⟨by omega, by omega, by omega, by omega, by omega, by omega, hne, fun l hl => ?_⟩
      rw [if_neg (show ¬ l = j by omega), if_neg (show ¬ l = j by omega)]
      obtain ⟨_, _, _, h3, h4⟩ := h.rows l hl
      have := h3.lt
      have := (h.rows l hl).choose_spec.2.2.2.lt
      omega
    · rw [if_neg e, if_neg e]
      have hf := h.fresh j (by omega)
      refine ⟨hf.1, hf.2.1, hf.2.2.1, hf.2.2.2.1, hf.2.2.2.2.1, hf.2.2.2.2.2.1, hf.2.2.2.2.2.2.1, fun l hl => ?_⟩
      rw [if_neg (show ¬ l = i by omega), if_neg (show ¬ l = i by omega)]
      exact hf.2.2.2.2.2.2.2 l hl
/-- The row in hand is done. -/
theorem FarS.done {x : Nat} (h : FarS w m A len cap es xs k F I fb ib i (i + 1) w1) (hx : xs[i]? = some x) (hS : ¬ SinksP (netA m es) x) (h1 : RowOf w1 (fb i) 2 (farL (netA m es) (runD (netA m es) x m) m)) (h2 : RowOf w1 (ib i) 4 (isL (runD (netA m es) x m) m)) :
    FarS w m A len cap es xs k F I fb ib (i + 1) (i + 1) w1 :=
  ⟨h.box, h.rowF, h.rowI, fun j hj => by
    by_cases e : j = i
    · subst e; exact ⟨x, hx, hS, h1, h2⟩
    · exact h.rows j (by omega), h.fresh, h.apart, h.below⟩
end
/-- The state of the range over the map. -/
structure InS (w : World) (m : Nat) (A : Option Addr) (len cap : Nat) (es : List A4) (xs : List Nat) (k F I : Nat) (fb ib : Nat → Nat) (i g1 g2 b r n : Nat) (Dd : DataW Value) (N : ArcsF) (D : Nat → Option (List Nat)) (left : Lit → Bool) (cnt : Nat) (w1 : World) : Prop where
  far : FarS w m A len cap es xs k F I fb ib i (i + 1) w1
  row1 : RowOf w1 g1 2 (parL N D left m)
  row2 : RowOf w1 g2 4 (parI D left m)
  rng : w1.ranges Try.prog 3 rdW b r n Dd left cnt
theorem below_of_grown {w w' : World} (h : w.grownBy w' none) : Below w.heap.size w w' := ⟨h.os, h.tape, h.output, h.size, fun q hq => h.block q hq (by simp)⟩
theorem two_made (w : World) (o0 : Obj) (z1 z2 : Value) (k : Nat) (t1 t2 : TypeId) : (((w.alloc o0).alloc (.cells (madeCells #[z1] k) t1)).alloc (.cells (madeCells #[z2] k) t2)).drew.heap[w.heap.size]? = some o0 ∧ Below w.heap.size w (((w.alloc o0).alloc (.cells (madeCells #[z1] k) t1)).alloc (.cells (madeCells #[z2] k) t2)).drew ∧
    RowOf (((w.alloc o0).alloc (.cells (madeCells #[z1] k) t1)).alloc (.cells (madeCells #[z2] k) t2)).drew (w.heap.size + 1) t1 (List.replicate k z1) ∧ RowOf (((w.alloc o0).alloc (.cells (madeCells #[z1] k) t1)).alloc (.cells (madeCells #[z2] k) t2)).drew (w.heap.size + 1 + 1) t2 (List.replicate k z2) := by
  refine ⟨?_, ((((Below.refl _ _).alloc (Nat.le_refl _) _).alloc (by simp) _).alloc (by simp; omega) _).drew, ?_, ?_⟩
  · show (((w.alloc o0).alloc (.cells (madeCells #[z1] k) t1)).alloc (.cells (madeCells #[z2] k) t2)).heap[w.heap.size]? = _
    rw [Below.heap_alloc _ _ _ (by simp; omega), Below.heap_alloc _ _ _ (by simp)]; exact (MapKept.heap_alloc w _).1
  · have h := (RowOf.made (w.alloc o0) z1 k t1).alloc (.cells (madeCells #[z2] k) t2)
    rw [World.size_alloc] at h
    exact h.drew
  · have h := RowOf.made ((w.alloc o0).alloc (.cells (madeCells #[z1] k) t1)) z2 k t2
    rw [World.size_alloc, World.size_alloc] at h
    exact h.drew
/-- What farFrom tells. -/
def FarOut (w : World) (m : Nat) (A : Option Addr) (len cap : Nat) (es : List A4) (xs : List Nat) (k : Nat) (bad : Bool) (e : Ending) (w' : World) : Prop :=
  (bad = true → e = .returned (.tuple #[.slice none 0 0, .slice none 0 0, .int .i64 5])) ∧ (bad = false → ∃ F I fb ib, e = .returned (.tuple #[.slice (some ⟨F, 0, none⟩) k k, .slice (some ⟨I, 0, none⟩) k k, .int .i64 0]) ∧ FarS w m A len cap es xs k F I fb ib k k w')
set_option maxRecDepth 100000 in
set_option maxHeartbeats 4000000 in
theorem far_any (m : Nat) (A : Option Addr) (len cap : Nat) (es : List A4) (A2 : Option Addr) (k c2 : Nat) (xs : List Nat) (bad : Bool) (w : World) (hE : ArcsAt w w.heap.size A len es) (hG : GoodN (m : Int) es) (hF : FeeS es)
    (hI : IntsAt w w.heap.size A2 k (lI xs)) (hxs : ∀ x ∈ xs, x < m) (hk : k ≤ 10) (hbad : bad = true ↔ ∃ x ∈ xs, SinksP (netA m es) x) :
    Calls Try.prog 24 #[.agg #[.int .i64 (m : Int), .slice A len cap], .slice A2 k c2] w fun e w' =>
      FarOut w m A len cap es xs k bad e w' ∧ Below w.heap.size w w' := by
  have hl30 : len ≤ 30 := by have := hG.len; have := hE.1; omega
  have hm10 : m ≤ 10 := by have := hG.n1; omega
  have HOKD : Hid (∀ x r t l, x < m → runD (netA m es) x r t = some l → t < m) := Lib.hid fun x r t l hx hl => ((OkD.run (N := netA m es) (netA_ok hG) (show x < (netA m es).n from hx) r).1 t l hl).2.2
  have HXL : Hid (xs.length = k) := Lib.hid (by have := hI.1; rwa [lI_len] at this)
  have HW : Hid (∀ x W v, x < m → ArcsAt W W.heap.size A len es → (v = true ↔ SinksP (netA m es) x) → _) := Lib.hid fun x W v hx hW hv => walks_any m x A len cap es v W hW hG hF hx hv
  have hmk := fun W => run_make_row' (P := Try.prog) 36 25 (.slice none 0 0) 24 Try.underlying36 (by kernel_rfl) rfl .i64 .i64 k (by omega) (by omega) W
  have hmk2 := fun W => run_make_row' (P := Try.prog) 37 26 (.slice none 0 0) 24 Try.underlying37 (by kernel_rfl) rfl .i64 .i64 k (by omega) (by omega) W
  have hmk3 := fun W => run_make_row' (P := Try.prog) 25 2 (.int .i64 0) 8 Try.underlying25 (by kernel_rfl) rfl .i64 .i64 m (by omega) (by omega) W
  have hmk4 := fun W => run_make_row' (P := Try.prog) 26 4 (.bool false) 1 Try.underlying26 (by kernel_rfl) rfl .i64 .i64 m (by omega) (by omega) W
  have HMK3 := Lib.hid hmk3
  have HMK4 := Lib.hid hmk4
  clear hmk3 hmk4
  have HE := Lib.hid hE
  have HI := Lib.hid hI
  have HXS := Lib.hid hxs
  have HBAD := Lib.hid hbad
  clear hE hI hxs hbad hG hF
  go_enter Try.func24, Try.ntmps24
  go_wp2_with fail
  rename_i K1 hK1
  have TAIL : Hid (∀ (F I : Nat) (W : World), FarS w m A len cap es xs k F I (fun _ => 0) (fun _ => 0) 0 0 W → K1 { tmps := #[.agg #[.int .i64 (m : Int), .slice A len cap], .slice A2 k c2, .pointer (some ⟨w.heap.size, 0, none⟩), undef, .slice none 0 0, .slice none 0 0, .int .i64 0, .slice (some ⟨F, 0, none⟩) k k, .slice (some ⟨I, 0, none⟩) k k, undef, undef, undef, undef, undef, undef, .slice A2 k c2, .int .i64 k, .slice (some ⟨F, 0, none⟩) k k, .slice A2 k c2, .int .i64 k, .slice (some ⟨I, 0, none⟩) k k, undef, undef, undef, undef, undef, undef, undef, undef, undef, undef, undef, undef, undef, undef, undef, undef, undef, undef, undef, undef, undef, undef, undef, undef, undef, undef, undef, undef, undef, undef, undef, undef, undef, undef, undef, undef, undef, undef, undef, undef, undef, undef, undef, undef, undef, undef, undef, undef, undef, undef, undef, undef], defers := [] } W) := by
    refine Lib.hid fun F I W hW => hK1 _ _ ?_
    have HW0 := Lib.hid hW
    clear hK1 hW hmk hmk2
    go_wp2_with fail
    go_loopw [4, 5, 6, 9, 10, 11, 12, 13, 14, 23] (fun _ _ _ _ _ _ _ _ _ j wr => ∃ (i : Nat) (fb ib : Nat → Nat), i ≤ k ∧ j = .int .i64 i ∧ Hid (FarS w m A len cap es xs k F I fb ib i i wr)) (fun _ _ _ _ _ _ _ _ _ j _ => k - (intOf j).toNat)
    case atStart => exact ⟨0, _, _, Nat.zero_le _, rfl, HW0⟩
    case round =>
      clear HW0
      obtain ⟨i, fb, ib, hi, rfl, HS⟩ := hrel
      by_cases hlt : i < k
      · obtain ⟨bb, off, z, rfl, hbb, hz, hcz⟩ := (HI.out.go_ HS.out.below).at_ hlt
        obtain ⟨x, hx, rfl⟩ := lI_at hz
        have HXI : Hid (xs[i]? = some x) := Lib.hid hx
        have hxm : x < m := HXS.out x (List.mem_of_getElem? hx)
        have k0 := HS.out.k0
        have k1 := HS.out.k1
        have ik0 : (0 : Int) ≤ (i : Int) := by omega
        have ik1 : (i : Int) < (k : Int) := by omega
        obtain ⟨v, hv⟩ : ∃ v : Bool, v = true ↔ SinksP (netA m es) x := by
          classical
          exact ⟨decide (SinksP (netA m es) x), decide_eq_true_iff⟩
        have HV := Lib.hid hv
        clear hz hx hv
        go_wp2_with fail
        refine (HW.out x wr v hxm (HE.out.go_ HS.out.below) HV.out).mono ?_
        cases v with
        | true =>
          rintro e w3 ⟨rfl, hb3, _⟩
          have HBT : Hid (bad = true) := Lib.hid (HBAD.out.2 ⟨x, List.mem_of_getElem? HXI.out, HV.out.1 rfl⟩)
          have HBE := Lib.hid (HS.out.below.trans (hb3.mono HS.out.below.size))
          clear hb3 k0 k1 hcz
          go_wp2_with fail
          go_ret3
          exact ⟨⟨fun _ => rfl, fun h => by have := HBT.out; rw [h] at this; cases this⟩, HBE.out⟩
        | false =>
          rintro e w3 ⟨⟨rfl, hm3⟩, hb3, hs3⟩
          have HS3 := Lib.hid (HS.out.keep hb3)
          have HL3 : Hid (wr.heap.size + 1 < w3.heap.size ∧ ¬ SinksP (netA m es) x ∧ F < wr.heap.size + 1 ∧ I < wr.heap.size + 1) := Lib.hid ⟨hm3.lt, (fun h => by have := HV.out.2 h; cases this), by have := HS.out.rowF.lt; omega, by have := HS.out.rowI.lt; omega⟩
          obtain ⟨Dd, hown3, hrd3⟩ := hm3
          have HOW3 := Lib.hid hown3
          have HRD := Lib.hid hrd3
          generalize hbq : wr.heap.size + 1 = b at *
          clear hbq hown3 hrd3 hb3 hs3 k0 k1 hcz
          have k0 := HS3.out.k0
          have cF : w3.cell? ⟨F, i, none⟩ = some (.slice none 0 0) := HS3.out.rowF.cell (by simp [rowsV, hlt])
          have cI : w3.cell? ⟨I, i, none⟩ = some (.slice none 0 0) := HS3.out.rowI.cell (by simp [rowsV, hlt])
          have fF := HS3.out.rowF.frozen i
          have fI := HS3.out.rowI.frozen i
          have hmk3 := HMK3.out
          have hmk4 := HMK4.out
          have hlF : F < w3.heap.size := HS3.out.rowF.lt
          have hlI : I < w3.heap.size := HS3.out.rowI.lt
          have hwl : w.heap.size < w3.heap.size := HS3.out.lt
          have hFI : ¬ F = I := HS3.out.apart.2.2
          have hIF : ¬ I = F := fun e => hFI e.symm
          have hwF : ¬ w.heap.size = F := by have := HS3.out.apart.1; omega
          have hFw : ¬ F = w.heap.size := by have := HS3.out.apart.1; omega
          have hwI : ¬ w.heap.size = I := by have := HS3.out.apart.2.1; omega
          have hIw : ¬ I = w.heap.size := by have := HS3.out.apart.2.1; omega
          go_wp2_with fail
          rename_i K2 hK2
          have TAIL2 : Hid (∀ (g1 g2 : Nat) (fb ib : Nat → Nat) (W : World), fb i = g1 → ib i = g2 → FarS w m A len cap es xs k F I fb ib i (i + 1) W → RowOf W g1 2 (List.replicate m (.int .i64 0)) → RowOf W g2 4 (List.replicate m (.bool false)) → b ≠ g1 → b ≠ g2 → W.ownsMap Try.prog 3 rdW b (1 + m * len) Dd → K2 { tmps := #[.agg #[.int .i64 (m : Int), .slice A len cap], .slice (some ⟨bb, off, none⟩) k c2, .pointer (some ⟨w.heap.size, 0, none⟩), undef, u4, u5, u6, .slice (some ⟨F, 0, none⟩) k k, .slice (some ⟨I, 0, none⟩) k k, .int .i64 i, .int .i64 x, .map (some b), .int .i64 0, u13, u14, .slice (some ⟨bb, off, none⟩) k c2, .int .i64 k, .slice (some ⟨F, 0, none⟩) k k, .slice (some ⟨bb, off, none⟩) k c2, .int .i64 k, .slice (some ⟨I, 0, none⟩) k k, .slice (some ⟨bb, off, none⟩) k c2, .int .i64 k, .int .i64 i, .bool true, .int .i64 i, .pointer (some ⟨bb, off + i, none⟩), .int .i64 x, .tuple #[.map (some b), .int .i64 0], .agg #[.int .i64 (m : Int), .slice A len cap], .int .i64 x, .tuple #[.map (some b), .int .i64 0], .map (some b), .int .i64 0, .int .i64 0, .bool false, u36, .slice (some ⟨F, 0, none⟩) k k, .int .i64 i, .slice (some ⟨I, 0, none⟩) k k, .int .i64 i, .pointer (some ⟨w.heap.size, 0, none⟩), .int .i64 m, .slice (some ⟨g1, 0, none⟩) m m, .pointer (some ⟨w.heap.size, 0, none⟩), .int .i64 m, .slice (some ⟨g2, 0, none⟩) m m, .pointer (some ⟨F, i, none⟩), .pointer (some ⟨I, i, none⟩), u49, u50, u51, u52, u53, u54, u55, u56, u57, u58, u59, u60, u61, u62, u63, u64, u65, u66, u67, u68, u69, u70, undef, undef], defers := [] } W) := by
            refine Lib.hid fun g1 g2 fb ib W hg1 hg2 hS hR1 hR2 hb1 hb2 hown => hK2 _ _ ?_
            have HOW := Lib.hid hown
            have HP0 := Lib.hid (And.intro hS (And.intro hR1 hR2))
            have HGG := Lib.hid (And.intro hg1 hg2)
            clear hK2 hown hS hR1 hR2 hg1 hg2 cF cI fF fI hmk3 hmk4 k0 hlF hlI hwl hFI hIF hwF hFw hwI hIw HS3 HOW3
            go_wp2_with (at_range; refine wpList_range_own _ rfl _ 61 rfl 3 65 keyedI Try.underlying61 rdW b (1 + m * len) Dd rfl HOW.out ?_; intro w5 hrg5 hg5 hs5; have HRG5 := Lib.hid hrg5; have HG5 := Lib.hid hg5; have HS5 := Lib.hid hs5; clear hrg5 hg5 hs5)
            go_frame
            have HIN : Hid (InS w m A len cap es xs k F I fb ib i g1 g2 b W.heap.size (1 + m * len) Dd (netA m es) (runD (netA m es) x m) (Maps.has Dd) (Maps.size Dd) w5) := Lib.hid (by
              have hb5 := below_of_grown HG5.out
              refine ⟨HP0.out.1.keep hb5, ?_, ?_, HRG5.out⟩
              · rw [parL_start HRD.out.has]; exact HP0.out.2.1.keep hb5
              · rw [parI_start HRD.out.has]; exact HP0.out.2.2.keep hb5)
            have HRR : Hid (F < W.heap.size ∧ I < W.heap.size ∧ g1 < W.heap.size ∧ g2 < W.heap.size ∧ w.heap.size < W.heap.size ∧ ∀ j, j < i → fb j < W.heap.size ∧ ib j < W.heap.size) := Lib.hid ⟨HP0.out.1.rowF.lt, HP0.out.1.rowI.lt, HP0.out.2.1.lt, HP0.out.2.2.lt, HP0.out.1.lt, fun j hj => by
              obtain ⟨_, _, _, h3, h4⟩ := HP0.out.1.rows j hj
              exact ⟨h3.lt, h4.lt⟩⟩
            clear HG5 HS5 HRG5 HP0 HOW
            generalize hrq : W.heap.size = r at *
            clear hrq
            go_loopw [13] (fun _ wr => ∃ (left : Lit → Bool) (cnt : Nat), Hid (InS w m A len cap es xs k F I fb ib i g1 g2 b r (1 + m * len) Dd (netA m es) (runD (netA m es) x m) left cnt wr)) (fun _ wr => wr.rangeLeft b r)
            case atStart => exact ⟨_, _, HIN⟩
            case round =>
              clear HIN
              obtain ⟨left, cnt, HR⟩ := hrel
              go_wp2_with (at_next; refine next_walk rfl _ rfl rfl HRD.out HR.out.rng ?_ ?_)
              · intro hl0
                have HN : Hid (FarS w m A len cap es xs k F I fb ib (i + 1) (i + 1) wr) := Lib.hid (HR.out.far.done HXI.out HL3.out.2.1 (by rw [HGG.out.1, ← parL_end hl0]; exact HR.out.row1) (by rw [HGG.out.2, ← parI_end hl0]; exact HR.out.row2))
                clear hl0 HR
                go_wp2_with fail
                go_roundw
                case rel => exact ⟨i + 1, fb, ib, by omega, by go_num, HN⟩
                case measure => simp [intOf]; omega
              · intro t l A' n' c' w7 cnt' hD hrg hlt7 hg7 hs7 hen
                have htm : t < m := HOKD.out x m t l hxm hD
                have HL7 : Hid (wr.rangeLeft b r = cnt ∧ cnt' < cnt) := Lib.hid ⟨HR.out.rng.left_eq, hlt7⟩
                have HB7 : Hid (ButF r r wr w7) := Lib.hid (.grown hg7 r)
                have HI7 : Hid (InS w m A len cap es xs k F I fb ib i g1 g2 b r (1 + m * len) Dd (netA m es) (runD (netA m es) x m) left cnt wr ∧ FarS w m A len cap es xs k F I fb ib i (i + 1) w7 ∧ RowOf w7 g1 2 (parL (netA m es) (runD (netA m es) x m) left m) ∧ RowOf w7 g2 4 (parI (runD (netA m es) x m) left m)) := Lib.hid (by
                  obtain ⟨r1, r2, r3, r4, r5, r6⟩ := HRR.out
                  have hc : w.heap.size < r ∧ F ≠ r ∧ I ≠ r ∧ ∀ j, j < i → fb j ≠ r ∧ ib j ≠ r := ⟨r5, by omega, by omega, fun j hj => by have := r6 j hj; omega⟩
                  exact ⟨HR.out, HR.out.far.but HB7.out hc hc, HB7.out.row HR.out.row1 (by omega) (by omega), HB7.out.row HR.out.row2 (by omega) (by omega)⟩)
                have HRG := Lib.hid hrg
                have HDD := Lib.hid hD
                have HS7 := Lib.hid hs7
                clear hlt7 hg7 hD hrg HR
                go_wp2_with fail
                clear hen hs7
                obtain ⟨W6, hW6⟩ : ∃ W6, W6 = w7.alloc (.cells #[.int .i64 (lenL (netA m es) l), .slice A' n' c'] 65) := ⟨_, rfl⟩
                rw [← hW6]
                have HB6 : Hid (Below w7.heap.size w7 W6) := Lib.hid (by rw [hW6]; exact (Below.refl _ _).alloc (Nat.le_refl _) _)
                have HQ6 : Hid (W6.heap[wr.heap.size]? = some (.cells #[.int .i64 (lenL (netA m es) l), .slice A' n' c'] 65 (0, 0))) := Lib.hid (by rw [hW6, ← HS7.out]; exact (MapKept.heap_alloc w7 _).1)
                have HF6 := Lib.hid (HI7.out.2.1.keep HB6.out)
                have HR1 := Lib.hid (HI7.out.2.2.1.keep HB6.out)
                have HR2 := Lib.hid (HI7.out.2.2.2.keep HB6.out)
                have HRG6 : Hid (W6.ranges Try.prog 3 rdW b r (1 + m * len) Dd (fun z => left z && !z.sameKey (.int .i64 (t : Int))) cnt') := Lib.hid (ranges_of_blocks HRG.out (HB6.out.block _ HRG.out.owns.lt) (HB6.out.block _ HRG.out.lt))
                have cb : W6.cell? ⟨wr.heap.size, 0, none⟩ = some (.int .i64 (lenL (netA m es) l)) := by simp [World.cell?, HQ6.out]
                have cF : W6.cell? ⟨F, i, none⟩ = some (.slice (some ⟨g1, 0, none⟩) m m) := HF6.out.rowF.cell (by simp [rowsV, hlt, HGG.out.1])
                have cI : W6.cell? ⟨I, i, none⟩ = some (.slice (some ⟨g2, 0, none⟩) m m) := HF6.out.rowI.cell (by simp [rowsV, hlt, HGG.out.2])
                obtain ⟨v1, c1⟩ : ∃ v1, W6.cell? ⟨g1, t, none⟩ = some v1 := ⟨_, HR1.out.cell (List.getElem?_eq_getElem (by simp [parL, htm]))⟩
                obtain ⟨v2, c2'⟩ : ∃ v2, W6.cell? ⟨g2, t, none⟩ = some v2 := ⟨_, HR2.out.cell (List.getElem?_eq_getElem (by simp [parI, htm]))⟩
                have f1 := HR1.out.frozen t
                have f2 := HR2.out.frozen t
                obtain ⟨n1, n2, n3, n4, n5⟩ : ¬ F = g1 ∧ ¬ I = g1 ∧ ¬ F = g2 ∧ ¬ I = g2 ∧ ¬ g1 = g2 := by
                  have h := HF6.out.fresh i (Nat.lt_succ_self i)
                  rw [HGG.out.1, HGG.out.2] at h
                  exact ⟨h.2.2.1, h.2.2.2.1, h.2.2.2.2.1, h.2.2.2.2.2.1, h.2.2.2.2.2.2.1⟩
                have n6 : ¬ g1 = F := fun e => n1 e.symm
                have n7 : ¬ g1 = I := fun e => n2 e.symm
                have n8 : ¬ g2 = F := fun e => n3 e.symm
                have n9 : ¬ g2 = I := fun e => n4 e.symm
                have n10 : ¬ g2 = g1 := fun e => n5 e.symm
                have hs1 : g1 < wr.heap.size := HI7.out.1.row1.lt
                have hs2 : g2 < wr.heap.size := HI7.out.1.row2.lt
                have n11 : ¬ g1 = wr.heap.size := by omega
                have n12 : ¬ wr.heap.size = g1 := by omega
                have n13 : ¬ g2 = wr.heap.size := by omega
                have n14 : ¬ wr.heap.size = g2 := by omega
                have it0 : (0 : Int) ≤ (t : Int) := by omega
                have it1 : (t : Int) < (m : Int) := by omega
                have HFIN : Hid (∀ W8, ButF g1 g2 W6 W8 → RowOf W8 g1 2 ((parL (netA m es) (runD (netA m es) x m) left m).set t (.int .i64 (lenL (netA m es) l))) → RowOf W8 g2 4 ((parI (runD (netA m es) x m) left m).set t (.bool true)) → InS w m A len cap es xs k F I fb ib i g1 g2 b r (1 + m * len) Dd (netA m es) (runD (netA m es) x m) (fun z => left z && !z.sameKey (.int .i64 (t : Int))) cnt' W8) := Lib.hid fun W8 hB8 h1 h2 => by
                  obtain ⟨r1, r2, r3, r4, r5, r6⟩ := HRR.out
                  have hfr := HF6.out.fresh i (Nat.lt_succ_self i)
                  rw [HGG.out.1, HGG.out.2] at hfr
                  refine ⟨HF6.out.but hB8 ⟨hfr.1, n1, n2, fun j hj => by have := hfr.2.2.2.2.2.2.2 j hj; omega⟩ ⟨hfr.2.1, n3, n4, fun j hj => by have := hfr.2.2.2.2.2.2.2 j hj; omega⟩, ?_, ?_, ?_⟩
                  · rw [← parL_step HDD.out htm]; exact h1
                  · rw [← parI_step HDD.out htm]; exact h2
                  · exact ranges_of_blocks HRG6.out (hB8.block _ HRG6.out.owns.lt hb1 hb2) (hB8.block _ HRG6.out.lt (by omega) (by omega))
                clear hW6 HB7 HRG HDD
                go_region
                have HN8 := Lib.hid (HFIN.out _ (((ButF.refl g1 g2 W6).setF t (.int .i64 (lenL (netA m es) l))).setI t (.bool true)).drew ((HR1.out.set_ t _).far (p := ⟨g2, t, none⟩) n5 _).drew ((HR2.out.far (p := ⟨g1, t, none⟩) n10 _).set_ t _).drew)
                go_wp2
                go_roundw
                case rel => exact ⟨_, _, HN8⟩
                case measure => rw [HN8.out.rng.left_eq, HL7.out.1]; exact HL7.out.2
          have HFB : Hid (b ≠ F ∧ b ≠ I ∧ b < w3.heap.size) := Lib.hid ⟨by have := HL3.out.2.2.1; omega, by have := HL3.out.2.2.2; omega, HL3.out.1⟩
          have HOWN : Hid (∀ W : World, W.heap[b]? = w3.heap[b]? → W.ownsMap Try.prog 3 rdW b (1 + m * len) Dd) := Lib.hid fun W h => by
            obtain ⟨es0, clock, h1, h2⟩ := HOW3.out
            exact ⟨es0, clock, h.trans h1, h2⟩
          go_region
          · have hB : ButF F I w3 ((((w3.setCell ⟨F, i, none⟩ (.slice (some ⟨w3.heap.size, 0, none⟩) m m)).setCell ⟨I, i, none⟩ (.slice (some ⟨w3.heap.size + 1, 0, none⟩) m m)).alloc (.cells (madeCells #[.int .i64 0] m) 2)).alloc (.cells (madeCells #[.bool false] m) 4)).drew := (((((ButF.refl F I w3).setF i _).setI i _).alloc _).alloc _).drew
            refine TAIL2.out w3.heap.size (w3.heap.size + 1) (fun j => if j = i then w3.heap.size else fb j) (fun j => if j = i then w3.heap.size + 1 else ib j) _ (if_pos rfl) (if_pos rfl) (HS3.out.lay hlt (Nat.le_refl _) (Nat.le_succ _) (by omega) hB ((((HS3.out.rowF.set_ i _).far (p := ⟨I, i, none⟩) hFI _).alloc _).alloc _).drew ((((HS3.out.rowI.far (p := ⟨F, i, none⟩) hIF _).set_ i _).alloc _).alloc _).drew) ?_ ?_ (by have := HFB.out.2.2; omega) (by have := HFB.out.2.2; omega) (HOWN.out _ (hB.block b HFB.out.2.2 HFB.out.1 HFB.out.2.1))
            · have h := (RowOf.made ((w3.setCell ⟨F, i, none⟩ (.slice (some ⟨w3.heap.size, 0, none⟩) m m)).setCell ⟨I, i, none⟩ (.slice (some ⟨w3.heap.size + 1, 0, none⟩) m m)) (.int .i64 0) m 2).alloc (.cells (madeCells #[.bool false] m) 4)
              have e : ((w3.setCell ⟨F, i, none⟩ (.slice (some ⟨w3.heap.size, 0, none⟩) m m)).setCell ⟨I, i, none⟩ (.slice (some ⟨w3.heap.size + 1, 0, none⟩) m m)).heap.size = w3.heap.size := by simp
              rw [e] at h
              exact h.drew
            · have h := RowOf.made (((w3.setCell ⟨F, i, none⟩ (.slice (some ⟨w3.heap.size, 0, none⟩) m m)).setCell ⟨I, i, none⟩ (.slice (some ⟨w3.heap.size + 1, 0, none⟩) m m)).alloc (.cells (madeCells #[.int .i64 0] m) 2)) (.bool false) m 4
              have e : (((w3.setCell ⟨F, i, none⟩ (.slice (some ⟨w3.heap.size, 0, none⟩) m m)).setCell ⟨I, i, none⟩ (.slice (some ⟨w3.heap.size + 1, 0, none⟩) m m)).alloc (.cells (madeCells #[.int .i64 0] m) 2)).heap.size = w3.heap.size + 1 := by simp
              rw [e] at h
              exact h.drew
          · have hB : ButF F I w3 ((((w3.setCell ⟨F, i, none⟩ (.slice (some ⟨w3.heap.size + 1, 0, none⟩) m m)).setCell ⟨I, i, none⟩ (.slice (some ⟨w3.heap.size, 0, none⟩) m m)).alloc (.cells (madeCells #[.bool false] m) 4)).alloc (.cells (madeCells #[.int .i64 0] m) 2)).drew := (((((ButF.refl F I w3).setF i _).setI i _).alloc _).alloc _).drew
            refine TAIL2.out (w3.heap.size + 1) w3.heap.size (fun j => if j = i then w3.heap.size + 1 else fb j) (fun j => if j = i then w3.heap.size else ib j) _ (if_pos rfl) (if_pos rfl) (HS3.out.lay hlt (Nat.le_succ _) (Nat.le_refl _) (by omega) hB ((((HS3.out.rowF.set_ i _).far (p := ⟨I, i, none⟩) hFI _).alloc _).alloc _).drew ((((HS3.out.rowI.far (p := ⟨F, i, none⟩) hIF _).set_ i _).alloc _).alloc _).drew) ?_ ?_ (by have := HFB.out.2.2; omega) (by have := HFB.out.2.2; omega) (HOWN.out _ (hB.block b HFB.out.2.2 HFB.out.1 HFB.out.2.1))
            · have h := RowOf.made (((w3.setCell ⟨F, i, none⟩ (.slice (some ⟨w3.heap.size + 1, 0, none⟩) m m)).setCell ⟨I, i, none⟩ (.slice (some ⟨w3.heap.size, 0, none⟩) m m)).alloc (.cells (madeCells #[.bool false] m) 4)) (.int .i64 0) m 2
              have e : (((w3.setCell ⟨F, i, none⟩ (.slice (some ⟨w3.heap.size + 1, 0, none⟩) m m)).setCell ⟨I, i, none⟩ (.slice (some ⟨w3.heap.size, 0, none⟩) m m)).alloc (.cells (madeCells #[.bool false] m) 4)).heap.size = w3.heap.size + 1 := by simp
              rw [e] at h
              exact h.drew
            · have h := (RowOf.made ((w3.setCell ⟨F, i, none⟩ (.slice (some ⟨w3.heap.size + 1, 0, none⟩) m m)).setCell ⟨I, i, none⟩ (.slice (some ⟨w3.heap.size, 0, none⟩) m m)) (.bool false) m 4).alloc (.cells (madeCells #[.int .i64 0] m) 2)
              have e : ((w3.setCell ⟨F, i, none⟩ (.slice (some ⟨w3.heap.size + 1, 0, none⟩) m m)).setCell ⟨I, i, none⟩ (.slice (some ⟨w3.heap.size, 0, none⟩) m m)).heap.size = w3.heap.size := by simp
              rw [e] at h
              exact h.drew
      · obtain rfl : i = k := by omega
        have HBF : Hid (bad = true → False) := Lib.hid fun h => by
          obtain ⟨x, hx, hS⟩ := HBAD.out.1 h
          obtain ⟨j, hj⟩ := List.getElem?_of_mem hx
          obtain ⟨y, hy, hn, _⟩ := HS.out.rows j (by have := (List.getElem?_eq_some_iff.1 hj).1; have := HXL.out; omega)
          rw [hj] at hy
          injection hy with hy
          subst hy
          exact hn hS
        go_wp2_with fail
        go_ret3
        exact ⟨⟨fun h => (HBF.out h).elim, fun _ => ⟨F, I, fb, ib, rfl, HS.out⟩⟩, HS.out.below⟩
  have HR0 : Hid (∀ W : World, W.heap[w.heap.size]? = some (.cells #[.int .i64 (m : Int), .slice A len cap] 24 (0, 0)) → Below w.heap.size w W → ∀ F I, w.heap.size < F → w.heap.size < I → F ≠ I → RowOf W F 25 (List.replicate k (.slice none 0 0)) → RowOf W I 26 (List.replicate k (.slice none 0 0)) → FarS w m A len cap es xs k F I (fun _ => 0) (fun _ => 0) 0 0 W) := Lib.hid fun W h1 h2 F I h3 h4 h5 h6 h7 =>
    ⟨h1, by rw [rowsV_zero]; exact h6, by rw [rowsV_zero]; exact h7, fun j hj => by omega, fun j hj => by omega, ⟨h3, h4, h5⟩, h2⟩
  go_region
  · have h := two_made w (.cells #[.int .i64 (m : Int), .slice A len cap] 24) (.slice none 0 0) (.slice none 0 0) k 25 26
    exact TAIL.out _ _ _ (HR0.out _ h.1 h.2.1 _ _ (by omega) (by omega) (by omega) h.2.2.1 h.2.2.2)
  · have h := two_made w (.cells #[.int .i64 (m : Int), .slice A len cap] 24) (.slice none 0 0) (.slice none 0 0) k 26 25
    exact TAIL.out _ _ _ (HR0.out _ h.1 h.2.1 _ _ (by omega) (by omega) (by omega) h.2.2.2 h.2.2.1)
end Go.Proofs.Ytkpejmpnbdblbaa
