/- append onto a row of the call's own, of a slice that may be nil: at a step of a region that draws its order. And what blocks a call laid. -/
import Derived.Test.YtpcealcghglopaaMat
import Derived.Deep.AppendLies
import Derived.Laws.OwnMore
import Derived.Lib.SliceRun
namespace Go.Proofs.Ytpcealcghglopaa
open Go.RowKit

theorem own_form1 {w : World} {base : Nat} {t : TypeId} {v : Value} {n : Nat} {xs : List Value} (h : w.ownsRow base t 1 v n xs) : ∃ A cap, v = .slice A n cap := by
  rcases h.2 with ⟨rfl, rfl⟩ | ⟨g, cap, cur, rfl, _⟩
  · exact ⟨none, 0, rfl⟩
  · exact ⟨_, cap, rfl⟩
theorem step_app {P : Program} {ops : Array Oper} {o : Oper} {a : Act} {w : World} {K : Act → World → Prop} {Q : Exit → Act → World → Prop} {E : Prop} (hgd : o.guard = none) (s x : Operand) (t : TypeId)
    (ho : o.op = .call { callee := .builtin .append, args := #[s, x], argTypes := #[t, t] })
    (base : Nat) (e : TypeId) (i : TypeInfo) (z : Value) (bytes : Nat) (ht : P.underlying t = some (.slice e)) (hi : P.info? e = some i) (hz : i.zero = some z)
    (hsize : i.size = 1) (hby : i.bytes = bytes) (hzs : z.cells.size = 1)
    (v : Value) (n : Nat) (xs : List Value) (hs : a.eval s = v) (hown : w.ownsRow base e 1 v n xs)
    (A : Option Addr) (m c : Nat) (ys : List Value) (hx : a.eval x = .slice A m c) (hA : A = none → m = 0 ∧ c = 0) (hl : ys.length = m)
    (hc : ∀ ad, A = some ad → ∀ j u, ys[j]? = some u → w.cell? (ad.add j) = some u) (h1 : ∀ u ∈ ys, u.oneCell' = true)
    (h63 : n + m ≤ maxLen) (hbytes : (n + m) * bytes ≤ 140737488355328) (hbase : base ≤ w.heap.size)
    (h : ∀ A' c' w', w'.ownsRow base e 1 (.slice A' (n + m) c') (n + m) (xs ++ ys) → w.grownBy w' v.ownBlock → K (a.put o.dst (.slice A' (n + m) c')) w') :
    if Region.wanted o (yielded ops a.tmps) = true then Oper.wp P o a w K Q else E := by
  have hw : Region.wanted o (yielded ops a.tmps) = true := by simp [Region.wanted, hgd]
  rw [if_pos hw]
  cases A with
  | none =>
    obtain ⟨rfl, rfl⟩ := hA rfl
    obtain rfl : ys = [] := List.length_eq_zero_iff.1 hl
    obtain ⟨A', c', rfl⟩ := own_form1 hown
    have hrun := run_append_owned_none (P := P) (w := w) base t o.type e i 1 ht hi _ n xs hown
    unfold Oper.wp
    simp [execOp, ho, resolve, invoke, builtin, hs, hx, hrun, Result.andThen]
    have := h A' c' w (by simpa using hown) ⟨rfl, rfl, rfl, Nat.le_refl _, fun _ _ _ => rfl⟩
    rw [Nat.add_zero] at this
    exact this
  | some ad =>
    exact wp_append_own w s x t ho base e i z 1 bytes ht hi hz hsize hby hzs (by decide) v n xs hs hown ad m c ys hx (by rw [hl, Nat.mul_one]) (hc ad rfl) h1 h63 hbytes hbase fun v' w' h2 h3 _ => by
      obtain ⟨A', c', rfl⟩ := own_form1 h2
      exact h A' c' w' h2 h3
/-- An empty block as a row of the call's own. -/
theorem own_empty {w : World} {base z : Nat} {t : TypeId} (hz : w.heap[z]? = some (.cells #[] t (0, 0))) (hb : base ≤ z) : w.ownsRow base t 1 (.slice (some ⟨z, 0, none⟩) 0 0) 0 [] :=
  ⟨rfl, .inr ⟨z, 0, #[], rfl, hb, hz, Nat.le_refl _, Nat.zero_le _, rfl, rfl⟩⟩
theorem heap_two_new (W : World) (o1 o2 : Obj) : ((W.alloc o1).alloc o2).heap[W.heap.size + 1]? = some o2 := by
  have := heap_alloc_new (W.alloc o1) o2
  rwa [show (W.alloc o1).heap.size = W.heap.size + 1 by simp] at this
theorem heap_two_old (W : World) (o1 o2 : Obj) : ((W.alloc o1).alloc o2).heap[W.heap.size]? = some o1 :=
  (Below.heap_alloc (W.alloc o1) o2 _ (by simp)).trans (heap_alloc_new W o1)
theorem below_two (W : World) (o1 o2 : Obj) : Below W.heap.size W ((W.drew.alloc o1).alloc o2) := ((Below.refl _ W).drew.alloc (Nat.le_refl _) o1).alloc (by simp) o2
theorem keep_alloc {W : World} {o : Obj} {a1 a2 : Addr} {v1 v2 : Value} (h : W.cell? a1 = some v1 ∧ W.cell? a2 = some v2) : (W.alloc o).cell? a1 = some v1 ∧ (W.alloc o).cell? a2 = some v2 :=
  ⟨Lib.cell?_alloc_some _ h.1, Lib.cell?_alloc_some _ h.2⟩

/-- A list of numbers as a slice at the head of a block, or nil. -/
def ArgAt (w : World) (A : Option Addr) (m cap : Nat) (pre : List Int) : Prop := pre.length = m ∧ ((A = none ∧ m = 0 ∧ cap = 0) ∨ ∃ g, A = some ⟨g, 0, none⟩ ∧ RowC w g m (fun j => pre.getD j (-1)))
section
variable {w w' : World} {A : Option Addr} {m cap : Nat} {pre : List Int}
theorem ArgAt.keep (h : ArgAt w A m cap pre) (hb : Below w.heap.size w w') : ArgAt w' A m cap pre := by
  refine ⟨h.1, h.2.imp id ?_⟩
  rintro ⟨g, e, hr⟩
  exact ⟨g, e, hr.of_block (hb.block _ hr.lt)⟩
theorem ArgAt.nil (w : World) : ArgAt w none 0 0 [] := ⟨rfl, .inl ⟨rfl, rfl, rfl⟩⟩
theorem ArgAt.none_ (h : ArgAt w A m cap pre) : A = none → m = 0 ∧ cap = 0 := fun e => by
  rcases h.2 with ⟨_, h2⟩ | ⟨g, e2, _⟩
  · exact h2
  · rw [e] at e2; cases e2
theorem ArgAt.ints (h : ArgAt w A m cap pre) : IntsAt w w.heap.size A m pre := by
  refine ⟨h.1, fun hp => ?_⟩
  rcases h.2 with ⟨_, h2, _⟩ | ⟨g, e, hr⟩
  · omega
  · refine ⟨g, 0, e, hr.lt, fun j x hj => ?_⟩
    have hlt := (List.getElem?_eq_some_iff.1 hj).1
    rw [Nat.zero_add, hr.cell (by have := h.1; omega), List.getD_eq_getElem?_getD, hj]; rfl
theorem ArgAt.cells (h : ArgAt w A m cap pre) : ∀ ad, A = some ad → ∀ j u, (pre.map (Value.int .i64))[j]? = some u → w.cell? (ad.add j) = some u := by
  intro ad ha j u hu
  rcases h.2 with ⟨h0, _⟩ | ⟨g, e, hr⟩
  · rw [ha] at h0; cases h0
  · rw [ha] at e
    injection e with e
    subst e
    have hl := (List.getElem?_eq_some_iff.1 hu).1
    rw [List.length_map, h.1] at hl
    rw [List.getElem?_map] at hu
    cases hq : pre[j]? with
    | none => rw [hq] at hu; cases hu
    | some x =>
      rw [hq] at hu
      simp only [Option.map_some, Option.some.injEq] at hu
      subst hu
      rw [Addr.add_lit, Nat.zero_add, hr.cell hl, List.getD_eq_getElem?_getD, hq]; rfl
set_option maxRecDepth 100000 in
theorem ArgAt.of_own {base : Nat} (h : w.ownsRow base 3 1 (.slice A m cap) m (pre.map (Value.int .i64))) : ArgAt w A m cap pre := by
  have hl : pre.length = m := by have := h.1; simpa using this
  refine ⟨hl, ?_⟩
  rcases h.2 with ⟨hv, h0⟩ | ⟨g, cap', cur, hv, _, hg, _, _, _, htake⟩
  · injection hv with h1 h2 h3
    exact .inl ⟨h1, h0, h3⟩
  · injection hv with h1
    refine .inr ⟨g, h1, cur, hg, fun j hj => ?_⟩
    have h2 : (cur.toList.take (m * 1))[j]? = some (.int .i64 (pre.getD j (-1))) := by
      rw [htake, List.getElem?_map, List.getD_eq_getElem?_getD, List.getElem?_eq_getElem (by omega)]; rfl
    rw [List.getElem?_take, if_pos (by omega)] at h2
    simpa using h2
set_option maxRecDepth 100000 in
/-- A row grows elsewhere. -/
theorem ArgAt.grown {base k : Nat} {v : Value} {us : List Value} (h : ArgAt w A m cap pre) (hown : w.ownsRow base 25 1 v k us) (hg : w.grownBy w' v.ownBlock) : ArgAt w' A m cap pre := by
  refine ⟨h.1, h.2.imp id ?_⟩
  rintro ⟨g, e, hr⟩
  refine ⟨g, e, hr.of_block (hg.block _ hr.lt fun he => ?_)⟩
  rcases hown.2 with ⟨rfl, _⟩ | ⟨g', cap', cur, rfl, _, hg', _⟩
  · simp [Value.ownBlock] at he
  · simp only [Value.ownBlock, Option.some.injEq] at he
    obtain ⟨cur', hc, _⟩ := hr
    rw [he, hg'] at hc
    injection hc with hc
    injection hc with _ ht
    exact absurd ht (by decide)
end
/-- Lists of n numbers each, as a slice that the call built. -/
structure RowsV (w : World) (base n : Nat) (v : Value) (us : List Value) (xss : List (List Int)) : Prop where
  own : w.ownsRow base 25 1 v xss.length us
  row : ∀ (k : Nat) (xs : List Int), xss[k]? = some xs → ∃ A c, us[k]? = some (.slice A n c) ∧ ArgAt w A n c xs
section
variable {w w' : World} {base base2 n : Nat} {v v2 v' : Value} {us us2 : List Value} {xss xss2 : List (List Int)}
theorem RowsV.nil (w : World) (base n : Nat) : RowsV w base n (.slice none 0 0) [] [] := ⟨World.ownsRow_nil .., fun k xs hk => by simp at hk⟩
theorem RowsV.keep (h : RowsV w base n v us xss) (hb : Below w.heap.size w w') : RowsV w' base n v us xss :=
  ⟨h.own.kept (grown_of_below hb none) (Classical.em _), fun k xs hk => by
    obtain ⟨A, c, h1, h2⟩ := h.row k xs hk
    exact ⟨A, c, h1, h2.keep hb⟩⟩
set_option maxRecDepth 100000 in
theorem RowsV.one {A : Option Addr} {c : Nat} {xs : List Int} (h : ArgAt w A n c xs) : RowsV (w.alloc (.cells #[.slice A n c] 25)) w.heap.size n (.slice (some ⟨w.heap.size, 0, none⟩) 1 1) [.slice A n c] [xs] :=
  ⟨⟨rfl, .inr ⟨w.heap.size, 1, #[.slice A n c], rfl, Nat.le_refl _, heap_alloc_new w _, Nat.le_refl _, by unfold maxLen; omega, rfl, rfl⟩⟩, fun k ys hk => by
    cases k with
    | zero =>
      injection hk with hk
      subst hk
      exact ⟨A, c, rfl, h.keep ((Below.refl _ _).alloc (Nat.le_refl _) _)⟩
    | succ k => simp at hk⟩
set_option maxRecDepth 100000 in
theorem RowsV.app (h : RowsV w base n v us xss) (h2 : RowsV w base2 n v2 us2 xss2) (hg : w.grownBy w' v.ownBlock) (ho : w'.ownsRow base 25 1 v' (xss.length + xss2.length) (us ++ us2)) : RowsV w' base n v' (us ++ us2) (xss ++ xss2) := by
  have hl : us.length = xss.length := by have := h.own.1; simpa using this
  refine ⟨by rw [List.length_append]; exact ho, fun k xs hk => ?_⟩
  rcases Nat.lt_or_ge k xss.length with hk2 | hk2
  · rw [List.getElem?_append_left hk2] at hk
    obtain ⟨A, c, h3, h4⟩ := h.row k xs hk
    exact ⟨A, c, by rw [List.getElem?_append_left (by omega)]; exact h3, h4.grown h.own hg⟩
  · rw [List.getElem?_append_right hk2] at hk
    obtain ⟨A, c, h3, h4⟩ := h2.row _ xs hk
    exact ⟨A, c, by rw [List.getElem?_append_right (by omega), hl]; exact h3, h4.grown h.own hg⟩
theorem RowsV.cells {A : Option Addr} {m c : Nat} (h : RowsV w base n (.slice A m c) us xss) : (A = none → xss.length = 0 ∧ c = 0) ∧ us.length = xss.length ∧ (∀ ad, A = some ad → ∀ j u, us[j]? = some u → w.cell? (ad.add j) = some u) ∧ (∀ u ∈ us, u.oneCell' = true) := by
  have hl : us.length = xss.length := by have := h.own.1; simpa using this
  refine ⟨fun e => ?_, hl, fun ad ha j u hu => ?_, fun u hu => ?_⟩
  · rcases h.own.2 with ⟨hv, h0⟩ | ⟨g, cap, cur, hv, _⟩
    · injection hv with _ _ h3
      exact ⟨h0, h3⟩
    · injection hv with h1
      rw [e] at h1; cases h1
  · rcases h.own.2 with ⟨hv, h0⟩ | ⟨g, cap, cur, hv, _⟩
    · injection hv with h1
      rw [ha] at h1; cases h1
    · injection hv with h1
      subst ha
      injection h1 with h1
      subst h1
      exact h.own.cells (g := g) (by simp [Value.ownBlock]) j u hu
  · obtain ⟨k, hk⟩ := List.getElem?_of_mem hu
    have hkl : k < xss.length := by have := (List.getElem?_eq_some_iff.1 hk).1; omega
    obtain ⟨A', c', h3, _⟩ := h.row k _ (List.getElem?_eq_getElem hkl)
    rw [h3] at hk
    injection hk with hk
    rw [← hk]; rfl
theorem RowsV.low (h : RowsV w base n v us xss) (hb : base2 ≤ base) : RowsV w base2 n v us xss :=
  ⟨⟨h.own.1, h.own.2.imp id fun ⟨g, cap, cur, h1, h2, h3⟩ => ⟨g, cap, cur, h1, Nat.le_trans hb h2, h3⟩⟩, h.row⟩
/-- The same, whichever its cells are. -/
def OutV (w : World) (base n : Nat) (v : Value) (xss : List (List Int)) : Prop := ∃ us, RowsV w base n v us xss
end
section
variable {ops : Array Oper} {o : Oper} {a : Act} {w : World} {K : Act → World → Prop} {Q : Exit → Act → World → Prop} {E : Prop}
set_option maxRecDepth 100000 in
/-- append([]int{}, l...). -/
theorem step_app_new (hgd : o.guard = none) (s x : Operand) (ho : o.op = .call { callee := .builtin .append, args := #[s, x], argTypes := #[25, 25] })
    (w0 : World) (z : Nat) (A : Option Addr) (m c : Nat) (pre : List Int) (hs : a.eval s = .slice (some ⟨z, 0, none⟩) 0 0) (hx : a.eval x = .slice A m c) (hb : Below w0.heap.size w0 w) (hz0 : w0.heap.size ≤ z) (hz : w.heap[z]? = some (.cells #[] 3 (0, 0)))
    (hA : ArgAt w0 A m c pre) (hm : m ≤ 100000)
    (h : ∀ A' c' w', w'.ownsRow w0.heap.size 3 1 (.slice A' m c') m (pre.map (Value.int .i64)) → Below w0.heap.size w0 w' → w.heap.size ≤ w'.heap.size → (∀ k, k < w.heap.size → k ≠ z → w'.heap[k]? = w.heap[k]?) → K (a.put o.dst (.slice A' m c')) w') :
    if Region.wanted o (yielded ops a.tmps) = true then Oper.wp Try.prog o a w K Q else E := by
  obtain ⟨i0, hi0, hz0', hz1, hz2⟩ := info_parts infoInt
  have hAw : ∀ ad, A = some ad → ∀ j u, (pre.map (Value.int .i64))[j]? = some u → w.cell? (ad.add j) = some u := (show ArgAt w A m c pre from hA.keep hb).cells
  refine step_app hgd s x 25 ho w0.heap.size 3 i0 (.int .i64 0) 8 Try.underlying25 hi0 hz0' hz1 hz2 rfl _ 0 [] hs (own_empty hz hz0) A m c (pre.map (Value.int .i64)) hx hA.none_ (by rw [List.length_map]; exact hA.1) hAw (fun u hu => by obtain ⟨y, _, rfl⟩ := List.mem_map.1 hu; rfl) (by unfold maxLen; omega) (by omega) hb.size ?_
  intro A' c' w' hown hgr
  rw [Nat.zero_add, List.nil_append] at hown
  have hzz : ∀ k, (Value.slice (some ⟨z, 0, none⟩) 0 0).ownBlock = some k → k = z := fun k hk => by simpa [Value.ownBlock] using hk.symm
  have := h A' c' w' hown (hb.grown hgr hb.size fun k hk => by rw [hzz k hk]; exact hz0) hgr.size fun k hk hne => hgr.block k hk fun e => hne (hzz k e.symm)
  rw [Nat.zero_add]; exact this
set_option maxRecDepth 100000 in
/-- append(l, x). -/
theorem step_app_one (hgd : o.guard = none) (s x : Operand) (ho : o.op = .call { callee := .builtin .append, args := #[s, x], argTypes := #[25, 25] })
    (w0 : World) (y : Nat) (A : Option Addr) (m c : Nat) (pre : List Int) (j : Int) (hs : a.eval s = .slice A m c) (hx : a.eval x = .slice (some ⟨y, 0, none⟩) 1 1) (hb : Below w0.heap.size w0 w) (hown : w.ownsRow w0.heap.size 3 1 (.slice A m c) m (pre.map (Value.int .i64)))
    (hy : w.heap[y]? = some (.cells #[.int .i64 j] 3 (0, 0))) (hm : m ≤ 100000)
    (h : ∀ A' c' w', ArgAt w' A' (m + 1) c' (pre ++ [j]) → Below w0.heap.size w0 w' → K (a.put o.dst (.slice A' (m + 1) c')) w') :
    if Region.wanted o (yielded ops a.tmps) = true then Oper.wp Try.prog o a w K Q else E := by
  obtain ⟨i0, hi0, hz0, hz1, hz2⟩ := info_parts infoInt
  refine step_app hgd s x 25 ho w0.heap.size 3 i0 (.int .i64 0) 8 Try.underlying25 hi0 hz0 hz1 hz2 rfl _ m _ hs hown (some ⟨y, 0, none⟩) 1 1 [.int .i64 j] hx (fun e => by cases e) rfl (fun ad ha => by injection ha with ha; subst ha; exact World.news_of_block hy) (fun u hu => by rw [List.mem_singleton.1 hu]; rfl) (by unfold maxLen; omega) (by omega) hb.size ?_
  intro A' c' w' ho2 hgr
  exact h A' c' w' (ArgAt.of_own (base := w0.heap.size) (by rw [List.map_append]; exact ho2)) (hb.grown hgr hb.size fun k hk => own_base hown k hk)
end
end Go.Proofs.Ytpcealcghglopaa
