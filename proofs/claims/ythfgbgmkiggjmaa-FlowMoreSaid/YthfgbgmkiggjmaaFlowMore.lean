/- FlowMore, walked: with more room on one arc the greatest value is no less, and greater by that at most. -/
import Derived.Test.YthfgbgmkiggjmaaFlowLaws
import Derived.Test.YthfgbgmkiggjmaaArcsOwn
import Derived.Deep.RegionHeld3
import Derived.Deep.AppendLies
import Derived.Laws.OwnMore
namespace Go.Proofs.Ythfgbgmkiggjmaa
open Go.RowKit

/-- More room on an arc. -/
def moreA (es : List A4) (i : Nat) (d : Int) : List A4 := es.modify i fun a => (a.1, a.2.1, a.2.2.1 + d, a.2.2.2)

theorem moreA_get (es : List A4) (i k : Nat) (d : Int) : (moreA es i d)[k]? = if i = k then (es[k]?).map fun a => (a.1, a.2.1, a.2.2.1 + d, a.2.2.2) else es[k]? := by
  unfold moreA
  rw [List.getElem?_modify]
  by_cases h : i = k
  · subst h; simp
  · simp [h]
theorem moreA_length (es : List A4) (i : Nat) (d : Int) : (moreA es i d).length = es.length := by simp [moreA]
theorem RowA.more {w : World} {b : Nat} {es : List A4} (h : RowA w b es) {i : Nat} {a : A4} (ha : es[i]? = some a) (d : Int) : RowA (w.setCell ⟨b, i * 4 + 2, none⟩ (.int .i64 (a.2.2.1 + d))) b (moreA es i d) := by
  obtain ⟨cur, hc, hT⟩ := h
  have hs : i * 4 + 2 < cur.size := by
    have := hT i a ha 2 (by omega)
    exact (Array.getElem?_eq_some_iff.1 (this.trans (show (cells4 a)[2]? = some _ from rfl))).1
  refine ⟨cur.setIfInBounds (i * 4 + 2) (.int .i64 (a.2.2.1 + d)), by simp [World.setCell, Array.getElem?_modify, hc], fun k e he j hj => ?_⟩
  rw [moreA_get] at he
  by_cases hik : i = k
  · subst hik
    rw [if_pos rfl, ha] at he
    simp only [Option.map_some, Option.some.injEq] at he
    subst he
    by_cases hj2 : j = 2
    · subst hj2
      rw [Array.getElem?_setIfInBounds, if_pos rfl, if_pos hs]; rfl
    · rw [Array.getElem?_setIfInBounds_ne (by omega), hT i a ha j hj]
      rcases (show j = 0 ∨ j = 1 ∨ j = 3 by omega) with rfl | rfl | rfl <;> rfl
  · rw [if_neg hik] at he
    rw [Array.getElem?_setIfInBounds_ne (by omega)]
    exact hT k e he j hj
theorem own_empty4 {w : World} {base z : Nat} {t : TypeId} (hz : w.heap[z]? = some (.cells #[] t (0, 0))) (hb : base ≤ z) : w.ownsRow base t 4 (.slice (some ⟨z, 0, none⟩) 0 0) 0 [] :=
  ⟨rfl, .inr ⟨z, 0, #[], rfl, hb, hz, Nat.le_refl _, Nat.zero_le _, rfl, rfl⟩⟩
theorem heap_two_new4 (W : World) (o1 o2 : Obj) : ((W.alloc o1).alloc o2).heap[W.heap.size + 1]? = some o2 := by
  have := (MapKept.heap_alloc (W.alloc o1) o2).1
  rwa [show (W.alloc o1).heap.size = W.heap.size + 1 by simp] at this
theorem heap_two_old4 (W : World) (o1 o2 : Obj) : ((W.alloc o1).alloc o2).heap[W.heap.size]? = some o1 :=
  (Below.heap_alloc (W.alloc o1) o2 _ (by simp)).trans (MapKept.heap_alloc W o1).1
theorem below_two4 (W : World) (o1 o2 : Obj) : Below W.heap.size W ((W.drew.alloc o1).alloc o2) := ((Below.refl _ W).drew.alloc (Nat.le_refl _) o1).alloc (by simp) o2
theorem keep_alloc4 {W : World} {o : Obj} {a1 a2 : Addr} {v1 v2 : Value} (h : W.cell? a1 = some v1 ∧ W.cell? a2 = some v2) : (W.alloc o).cell? a1 = some v1 ∧ (W.alloc o).cell? a2 = some v2 :=
  ⟨Lib.cell?_alloc_some _ h.1, Lib.cell?_alloc_some _ h.2⟩
section
variable {ops : Array Oper} {o : Oper} {a : Act} {w : World} {K : Act → World → Prop} {Q : Exit → Act → World → Prop} {E : Prop}
set_option maxRecDepth 100000 in
/-- append([]api.Arc{}, l...). -/
theorem step_app4 (hgd : o.guard = none) (s x : Operand) (ho : o.op = .call { callee := .builtin .append, args := #[s, x], argTypes := #[47, 47] })
    (w0 : World) (z : Nat) (A : Option Addr) (m c : Nat) (es : List A4) (hs : a.eval s = .slice (some ⟨z, 0, none⟩) 0 0) (hx : a.eval x = .slice A m c) (hb : Below w0.heap.size w0 w) (hz0 : w0.heap.size ≤ z) (hz : w.heap[z]? = some (.cells #[] 67 (0, 0)))
    (hA : ArcsAt w0 w0.heap.size A m es) (hm : m ≤ 30) (hpos : 0 < m)
    (h : ∀ b c' w', RowA w' b es → w0.heap.size ≤ b → Below w0.heap.size w0 w' → w.heap.size ≤ w'.heap.size → (∀ k, k < w.heap.size → k ≠ z → w'.heap[k]? = w.heap[k]?) → K (a.put o.dst (.slice (some ⟨b, 0, none⟩) m c')) w') :
    if Region.wanted o (yielded ops a.tmps) = true then Oper.wp Try.prog o a w K Q else E := by
  have hw : Region.wanted o (yielded ops a.tmps) = true := by simp [Region.wanted, hgd]
  rw [if_pos hw]
  obtain ⟨i0, hi0, hz0', hz1, hz2⟩ := info_parts infoArc
  have hAw := hA.below hb
  obtain ⟨b0, off, rfl, hb0, hc⟩ := hAw.2 hpos
  have hlen := hA.1
  refine wp_append_own w s x 47 ho w0.heap.size 67 i0 _ 4 32 Try.underlying47 hi0 hz0' hz1 hz2 rfl (by decide) _ 0 [] hs (own_empty4 hz hz0) ⟨b0, off, none⟩ m c (cellsA es) hx (by rw [cellsA_length, hlen]) (fun j u hu => ?_) (fun u hu => ?_) (by unfold maxLen; omega) (by omega) hb.size fun v' w' h2 h3 _ => ?_
  · obtain ⟨i, j', e, rfl, hj, he, hv⟩ := cellsA_at hu
    obtain ⟨q0, q1, q2, q3⟩ := hc i e he
    rw [Addr.add_lit]
    rcases (show j' = 0 ∨ j' = 1 ∨ j' = 2 ∨ j' = 3 by omega) with rfl | rfl | rfl | rfl
    · simp [cells4] at hv; subst hv; exact q0
    · simp [cells4] at hv; subst hv; exact q1
    · simp [cells4] at hv; subst hv; exact q2
    · simp [cells4] at hv; subst hv; exact q3
  · obtain ⟨k, hk⟩ := List.getElem?_of_mem hu
    obtain ⟨i, j', e, rfl, hj, he, hv⟩ := cellsA_at hk
    rcases (show j' = 0 ∨ j' = 1 ∨ j' = 2 ∨ j' = 3 by omega) with rfl | rfl | rfl | rfl <;> (simp [cells4] at hv; subst hv; rfl)
  · rw [Nat.zero_add, List.nil_append] at h2
    rcases h2.2 with ⟨_, h0⟩ | ⟨g, cap, cur, rfl, hbg, hg, _, _, _, htake⟩
    · omega
    · have hzz : ∀ k, (Value.slice (some ⟨z, 0, none⟩) 0 0).ownBlock = some k → k = z := fun k hk => by simpa [Value.ownBlock] using hk.symm
      refine h g cap w' ⟨cur, hg, fun i e he j hj => ?_⟩ hbg (hb.grown h3 hb.size fun k hk => by rw [hzz k hk]; exact hz0) h3.size fun k hk hne => h3.block k hk fun e => hne (hzz k e.symm)
      have hi := (List.getElem?_eq_some_iff.1 he).1
      have h4 : (cur.toList.take (m * 4))[i * 4 + j]? = (cells4 e)[j]? := by rw [htake]; exact cellsA_get es i j e he hj
      rw [List.getElem?_take, if_pos (by omega)] at h4
      simpa using h4
end
theorem keep_set4 {W : World} {b c : Nat} {u0 u1 v1 v2 : Value} (h : W.cell? ⟨c, 0, none⟩ = some v1 ∧ W.cell? ⟨c, 1, none⟩ = some v2) (hne : c ≠ b) : ((W.setCell ⟨b, 0, none⟩ u0).setCell ⟨b, 1, none⟩ u1).cell? ⟨c, 0, none⟩ = some v1 ∧ ((W.setCell ⟨b, 0, none⟩ u0).setCell ⟨b, 1, none⟩ u1).cell? ⟨c, 1, none⟩ = some v2 := by
  have e : ((W.setCell ⟨b, 0, none⟩ u0).setCell ⟨b, 1, none⟩ u1).heap[c]? = W.heap[c]? := (Below.heap_setCell _ _ _ c hne).trans (Below.heap_setCell _ _ _ c hne)
  have hc : ∀ o, ((W.setCell ⟨b, 0, none⟩ u0).setCell ⟨b, 1, none⟩ u1).cell? ⟨c, o, none⟩ = W.cell? ⟨c, o, none⟩ := fun o => by simp only [World.cell?]; rw [e]
  exact ⟨(hc 0).trans h.1, (hc 1).trans h.2⟩
set_option maxRecDepth 100000 in
theorem net_box {w : World} {b : Nat} {v0 v1 : Value} (h : w.heap[b]? = some (.cells #[v0, v1] 49 (0, 0))) : w.cell? ⟨b, 0, none⟩ = some v0 ∧ w.cell? ⟨b, 1, none⟩ = some v1 ∧ w.frozen? ⟨b, 0, none⟩ = false ∧ w.frozen? ⟨b, 1, none⟩ = false :=
  ⟨by simp [World.cell?, h], by simp [World.cell?, h], by simp [World.frozen?, h], by simp [World.frozen?, h]⟩
/-- The copy of a net, and what is behind it. -/
structure MoreW (w2 : World) (m len : Nat) (es : List A4) (X b c' : Nat) (Wm : World) : Prop where
  below : Below w2.heap.size w2 Wm
  box0 : Wm.cell? ⟨X, 0, none⟩ = some (.int .i64 m)
  box1 : Wm.cell? ⟨X, 1, none⟩ = some (.slice (some ⟨b, 0, none⟩) len c')
  row : RowA Wm b es
  lo : w2.heap.size ≤ b
  loX : w2.heap.size ≤ X
  ne : X ≠ b
  lt : X < Wm.heap.size

set_option maxRecDepth 100000 in
theorem MoreW.of_alloc {w2 w4 : World} {m len b c' : Nat} {es : List A4} (hB : Below w2.heap.size w2 w4) (hr : RowA w4 b es) (hlo : w2.heap.size ≤ b) :
    MoreW w2 m len es w4.heap.size b c' (w4.alloc (.cells #[.int .i64 m, .slice (some ⟨b, 0, none⟩) len c'] 49)) := by
  have hx := (MapKept.heap_alloc w4 (.cells #[.int .i64 m, .slice (some ⟨b, 0, none⟩) len c'] 49)).1
  obtain ⟨n0, n1, _, _⟩ := net_box hx
  exact ⟨hB.alloc hB.size _, n0, n1, hr.of_block (Below.heap_alloc _ _ _ hr.lt), hlo, hB.size, by have := hr.lt; omega, by simp⟩
set_option maxRecDepth 100000 in
theorem MoreW.of_set {w2 w4 : World} {m len X b c' : Nat} {es : List A4} {v0 v1 : Value} (hB : Below w2.heap.size w2 w4) (hr : RowA w4 b es) (hlo : w2.heap.size ≤ b) (hx : w4.heap[X]? = some (.cells #[v0, v1] 49 (0, 0))) (hX : w2.heap.size ≤ X) :
    MoreW w2 m len es X b c' ((w4.setCell ⟨X, 0, none⟩ (.int .i64 m)).setCell ⟨X, 1, none⟩ (.slice (some ⟨b, 0, none⟩) len c')) := by
  have hne : X ≠ b := fun e => by
    obtain ⟨cur, h, _⟩ := hr
    rw [← e, hx] at h
    injection h with h
    injection h with _ ht
    exact absurd ht (by decide)
  have hlt : X < w4.heap.size := (Array.getElem?_eq_some_iff.1 hx).1
  have hh : ((w4.setCell ⟨X, 0, none⟩ (.int .i64 m)).setCell ⟨X, 1, none⟩ (.slice (some ⟨b, 0, none⟩) len c')).heap[X]? = some (.cells #[.int .i64 m, .slice (some ⟨b, 0, none⟩) len c'] 49 (0, 0)) := by
    simp [World.setCell, Array.getElem?_modify, hx]
  obtain ⟨n0, n1, _, _⟩ := net_box hh
  exact ⟨(hB.setCell (p := ⟨X, 0, none⟩) hX _).setCell (p := ⟨X, 1, none⟩) hX _, n0, n1, hr.of_block ((Below.heap_setCell _ _ _ _ (fun e => hne e.symm)).trans (Below.heap_setCell _ _ _ _ (fun e => hne e.symm))), hlo, hX, hne, by simpa using hlt⟩

theorem MoreW.more {w2 Wm : World} {m len X b c' i : Nat} {es : List A4} {a : A4} (h : MoreW w2 m len es X b c' Wm) (ha : es[i]? = some a) (d : Int) : MoreW w2 m len (moreA es i d) X b c' ((Wm.setCell ⟨b, i * 4 + 2, none⟩ (.int .i64 (a.2.2.1 + d))).drew) := by
  have hx : (Wm.setCell ⟨b, i * 4 + 2, none⟩ (.int .i64 (a.2.2.1 + d))).heap[X]? = Wm.heap[X]? := Below.heap_setCell _ _ _ _ h.ne
  have hc : ∀ o, (Wm.setCell ⟨b, i * 4 + 2, none⟩ (.int .i64 (a.2.2.1 + d))).drew.cell? ⟨X, o, none⟩ = Wm.cell? ⟨X, o, none⟩ := fun o => by
    show World.cell? (Wm.setCell ⟨b, i * 4 + 2, none⟩ (.int .i64 (a.2.2.1 + d))) ⟨X, o, none⟩ = _
    simp only [World.cell?]; rw [hx]
  exact ⟨(h.below.setCell (p := ⟨b, i * 4 + 2, none⟩) h.lo _).drew, (hc 0).trans h.box0, (hc 1).trans h.box1, (h.row.more ha d).of_block rfl, h.lo, h.loX, h.ne, by simpa using h.lt⟩
theorem scanA_of_all {n : Int} : ∀ {es : List A4}, (∀ a ∈ es, arcErr n a = 0) → scanA n es = 0
  | [], _ => rfl
  | a :: r, h => by
    simp only [scanA]
    rw [if_pos (h a (List.mem_cons_self ..))]
    exact scanA_of_all fun b hb => h b (List.mem_cons_of_mem _ hb)
theorem ends_more_bad {n s t d : Int} {es : List A4} {i : Nat} {a : A4} (ha : es[i]? = some a) (hd : 1048576 < a.2.2.1 + d) : endsF n (moreA es i d) s t ≠ 0 := fun h0 => by
  obtain ⟨h1, _⟩ := endsF_zero h0
  have h2 : (moreA es i d)[i]? = some (a.1, a.2.1, a.2.2.1 + d, a.2.2.2) := by rw [moreA_get, if_pos rfl, ha]; rfl
  have h3 := (good_of_netF h1).arc _ (List.mem_of_getElem? h2)
  simp only at h3
  omega
theorem ends_more_ok {n s t d : Int} {es : List A4} {i : Nat} {a : A4} (h : endsF n es s t = 0) (ha : es[i]? = some a) (hd : a.2.2.1 + d ≤ 1048576) (h0 : 0 ≤ d) : endsF n (moreA es i d) s t = 0 := by
  obtain ⟨h1, h2⟩ := endsF_zero h
  have hL : ¬ largeN n es.length := fun hL => by rw [netF_large hL] at h1; omega
  refine endsF_ok ?_ (by omega)
  rw [netF_small (by rw [moreA_length]; exact hL)]
  rw [netF_small hL] at h1
  refine scanA_of_all fun e he => ?_
  obtain ⟨k, hk⟩ := List.getElem?_of_mem he
  rw [moreA_get] at hk
  by_cases hik : i = k
  · subst hik
    rw [if_pos rfl, ha] at hk
    simp only [Option.map_some, Option.some.injEq] at hk
    subst hk
    have h3 := arcErr_zero (scanA_all h1 a (List.mem_of_getElem? ha))
    exact arcErr_ok (by simp only; omega) (by simp only; omega) (by simp only; omega)
  · rw [if_neg hik] at hk
    exact scanA_all h1 e (List.mem_of_getElem? hk)
theorem more_cut {n d : Int} {es : List A4} {i : Nat} {a : A4} (ha : es[i]? = some a) (hd : 0 ≤ d) (W : Nat → Bool) : cutP (netP n es) W ≤ cutP (netP n (moreA es i d)) W ∧ cutP (netP n (moreA es i d)) W ≤ cutP (netP n es) W + d := by
  have hi : i < (netP n es).K := (List.getElem?_eq_some_iff.1 ha).1
  have e : cutP (netP n (moreA es i d)) W = cutP { netP n es with mo := updI (netP n es).mo i ((netP n es).mo i + d) } W := by
    unfold cutP
    show sumI _ (moreA es i d).length = sumI _ es.length
    rw [moreA_length]
    refine sumI_congr _ fun k hk => ?_
    have hg : (moreA es i d).getD k default = if i = k then (((es.getD k default).1, (es.getD k default).2.1, (es.getD k default).2.2.1 + d, (es.getD k default).2.2.2) : A4) else es.getD k default := by
      rw [List.getD_eq_getElem?_getD, moreA_get, List.getD_eq_getElem?_getD, List.getElem?_eq_getElem hk]
      by_cases hik : i = k
      · rw [if_pos hik, if_pos hik]; rfl
      · rw [if_neg hik, if_neg hik]
    by_cases hik : i = k
    · subst hik
      rw [if_pos rfl] at hg
      simp only [netP, hg, updI, if_true]
    · rw [if_neg hik] at hg
      have hki : k ≠ i := fun e => hik e.symm
      simp only [netP, hg, updI, if_neg hki]
  rw [e]
  exact cut_more hi hd W
theorem flow_more {N N' : NetP} {s t : Nat} {f f' : Nat → Int} {v v' d : Int} (hN : N.ok) (hN' : N'.ok) (hs : s < N.n) (F : FlowP N s t f v) (hc : ¬ ComeP N f s t) (F' : FlowP N' s t f' v') (hc' : ¬ ComeP N' f' s t) (hcut : ∀ W, cutP N W ≤ cutP N' W ∧ cutP N' W ≤ cutP N W + d) (hs' : s < N'.n := by exact hs) : v ≤ v' ∧ v' ≤ v + d := by
  classical
  have e1 := flow_eq (W := fun i => decide (ComeP N f s i)) hN hs F (by simpa using ComeP.here) (by simpa using hc) fun i j hi hst => by simpa using (of_decide_eq_true hi).step hst
  have e2 := flow_eq (W := fun i => decide (ComeP N' f' s i)) hN' hs' F' (by simpa using ComeP.here) (by simpa using hc') fun i j hi hst => by simpa using (of_decide_eq_true hi).step hst
  have l1 := flow_le (W := fun i => decide (ComeP N f s i)) hN' hs' F' (by simpa using ComeP.here) (by simpa using hc)
  have l2 := flow_le (W := fun i => decide (ComeP N' f' s i)) hN hs F (by simpa using ComeP.here) (by simpa using hc')
  have c1 := hcut fun i => decide (ComeP N f s i)
  have c2 := hcut fun i => decide (ComeP N' f' s i)
  omega

set_option maxRecDepth 100000 in
set_option maxHeartbeats 4000000 in
theorem flowMore_any (n : Int) (A : Option Addr) (len cap : Nat) (es : List A4) (s t q by_ : Int) (w : World) (hE : ArcsAt w w.heap.size A len es) (_ : len ≤ cap) (_ : ∀ e ∈ es, WfA e) (_ : (Lit.int .i64 n).wf = true) (_ : (Lit.int .i64 s).wf = true) (_ : (Lit.int .i64 t).wf = true) (hq : (Lit.int .u8 q).wf = true) (hby : (Lit.int .u16 by_).wf = true) :
    Calls Try.prog 14 #[.agg #[.int .i64 n, .slice A len cap], .int .i64 s, .int .i64 t, .int .u8 q, .int .u16 by_] w fun e w' => e = .returned (.bool true) ∧ Below w.heap.size w w' := by
  have hq0 : 0 ≤ q ∧ q < 256 := by simp [Lit.wf] at hq; have e1 : IntKind.u8.min = 0 := by decide
                                   have e2 : IntKind.u8.max = 255 := by decide
                                   omega
  have hb0 : 0 ≤ by_ ∧ by_ < 65536 := by simp [Lit.wf] at hby; have e1 : IntKind.u16.min = 0 := by decide
                                         have e2 : IntKind.u16.max = 65535 := by decide
                                         omega
  obtain ⟨hq1, hq2⟩ := hq0
  obtain ⟨hb1, hb2⟩ := hb0
  have HX := Lib.hid (BoxN.start (n := n) (cap := cap) hE)
  have hl := Lib.hid hE.1
  clear hE hq hby
  have k0 := HX.out.k0
  have k1 := HX.out.k1
  obtain ⟨x, hx⟩ : ∃ x, endsF n es s t = x := ⟨_, rfl⟩
  by_cases h0 : x = 0
  · subst h0
    obtain ⟨hg, h1, h2, h3, h4, h5⟩ := endsF_zero hx
    have HG0 := good_of_netF hg
    obtain ⟨m, rfl⟩ := Int.eq_ofNat_of_zero_le HG0.n0
    obtain ⟨s, rfl⟩ := Int.eq_ofNat_of_zero_le h1
    obtain ⟨t, rfl⟩ := Int.eq_ofNat_of_zero_le h3
    have HG := Lib.hid HG0
    have HV := Lib.hid hx
    have hs : s < m := by omega
    have ht : t < m := by omega
    have hst : s ≠ t := by omega
    have hl30 : len ≤ 30 := by have := HG0.len; have := hl.out; omega
    clear hx hg h1 h2 h3 h4 h5 HG0
    go_enter Try.func14, Try.ntmps14
    go_wp2_with fail
    refine (mostF_good m A len cap es s t _ (by exact HX.out.arcs) HV.out).mono ?_
    rintro e w1 ⟨g, f, v, rfl, hfl, hn, hr, hgl, hB⟩
    have HX1 := Lib.hid (HX.out.next hB)
    have j0 := HX1.out.k0
    have j1 := HX1.out.k1
    have HFL := Lib.hid hfl
    have HNC := Lib.hid hn
    clear k0 k1 hfl hn hr hB
    go_wp2_with fail
    refine (endsCheck_v (m : Int) 0 A len cap es s t _ (by exact HX1.out.arcs) HV.out).mono ?_
    rintro e w2 ⟨rfl, hB⟩
    have HX2 := Lib.hid (HX1.out.next hB)
    have i0 := HX2.out.k0
    have i1 := HX2.out.k1
    clear j0 j1 hB
    rcases Nat.eq_zero_or_pos len with h0 | hpos
    · subst h0
      have HV0 : Hid (v = 0) := Lib.hid (by
        rw [← HFL.out.val, outP_eq]
        show sumI _ es.length = 0
        rw [hl.out]; rfl)
      have hv0 : (v == 0) = true := by simpa using HV0.out
      go_wp2
      go_ret
      exact ⟨rfl, HX2.out.below⟩
    · have hlp : ((len : Int) == 0) = false := by simp; omega
      have HARC := Lib.hid HX2.out.arcs
      have hszw : w.heap.size < w2.heap.size := HX2.out.lt
      have HXd := Lib.hid HX2.out.drew
      go_wp2_with fail
      rename_i Q1 K1 hK1
      have TAIL : Hid (∀ (z X b c' : Nat) (Wm : World), MoreW w2 m len es X b c' Wm → K1 { tmps := #[.agg #[.int .i64 m, .slice A len cap], .int .i64 s, .int .i64 t, .int .u8 q, .int .u16 by_, .pointer (some ⟨w.heap.size, 0, none⟩), undef, undef, undef, undef, .bool false, .int .i64 v, .slice (some ⟨g, 0, none⟩) len len, .int .i64 0, .pointer (some ⟨X, 0, none⟩), undef, undef, undef, .tuple #[.int .i64 v, .slice (some ⟨g, 0, none⟩) len len, .int .i64 0], .agg #[.int .i64 m, .slice A len cap], .int .i64 s, .int .i64 t, .tuple #[.int .i64 v, .slice (some ⟨g, 0, none⟩) len len, .int .i64 0], .int .i64 v, .slice (some ⟨g, 0, none⟩) len len, .int .i64 0, .agg #[.int .i64 m, .slice A len cap], .int .i64 s, .int .i64 t, .int .i64 0, .bool false, undef, undef, .int .i64 0, .bool false, .pointer (some ⟨w.heap.size, 1, none⟩), .slice A len cap, .int .i64 len, .bool false, undef, undef, .pointer (some ⟨w.heap.size, 0, none⟩), .int .i64 m, .slice (some ⟨z, 0, none⟩) 0 0, .pointer (some ⟨w.heap.size, 1, none⟩), .slice A len cap, .slice (some ⟨b, 0, none⟩) len c', .agg #[.int .i64 m, .slice (some ⟨b, 0, none⟩) len c'], undef, undef, undef, undef, undef, undef, undef, undef, undef, undef, undef, undef, undef, undef, undef, undef, undef, undef, undef, undef, undef, undef, undef, undef, undef, undef, undef, undef, undef, undef, undef, undef, undef, undef, undef, undef, undef, undef, undef, undef, undef, undef, undef, undef, undef, undef, undef, undef, undef, undef, undef, undef, undef, undef, undef, undef], defers := [] } Wm) := by
        refine Lib.hid fun z X b c' Wm hW => hK1 _ _ ?_
        have HW := Lib.hid hW
        clear hK1
        have q0 := hW.box0
        have q1 := hW.box1
        have qX := hW.lt
        have hin : q.toNat % len < len := Nat.mod_lt _ hpos
        obtain ⟨i, hi⟩ : ∃ i, i = q.toNat % len := ⟨_, rfl⟩
        rw [← hi] at hin
        have hrem : Int.tmod q (len : Int) = (i : Int) := by
          rw [hi, ← Int.toNat_of_nonneg hq1]
          simp [Int.tmod]
        have hlz : ((len : Int) == 0) = false := hlp
        have HI := Lib.hid hi
        clear hi
        obtain ⟨⟨a0, a1, a2, a3⟩, ha⟩ : ∃ a, es[i]? = some a := ⟨es[i]'(by have := hl.out; omega), List.getElem?_eq_getElem _⟩
        obtain ⟨_, _, q4, _⟩ := hW.row.cell ha
        have q5 := hW.row.frozen (i * 4 + 2)
        have hG0 := HG.out.arc _ (List.mem_of_getElem? ha)
        obtain ⟨_, _, _, _, _, ha2, ha3⟩ := hG0
        have ii0 : (0 : Int) ≤ (i : Int) := by omega
        have ii1 : (i : Int) < (len : Int) := by omega
        have HA := Lib.hid ha
        have HW2 : Hid (MoreW w2 m len (moreA es i by_) X b c' ((Wm.setCell ⟨b, i * 4 + 2, none⟩ (.int .i64 (a2 + by_))).drew)) := Lib.hid (hW.more ha by_)
        have hmod : (moreA es i by_)[i]? = some (a0, a1, a2 + by_, a3) := by rw [moreA_get, if_pos rfl, ha]; rfl
        have HMOD := Lib.hid hmod
        simp only at ha2 ha3 q4
        clear hW ha hmod
        go_wp2_with fail
        go_region
        all_goals
          generalize hWn : ((Wm.setCell ⟨b, i * 4 + 2, none⟩ (.int .i64 (a2 + by_))).drew) = Wn at HW2 ⊢
          clear hWn
          have p0 := HW2.out.box0
          have p1 := HW2.out.box1
          have HAR := Lib.hid (HW2.out.row.arcs (n := len) (by rw [moreA_length]; exact hl.out))
          by_cases hbig : 1048576 < a2 + by_
          · obtain ⟨x', hx'⟩ : ∃ x', endsF (m : Int) (moreA es i by_) s t = x' := ⟨_, rfl⟩
            have hx0 : x' ≠ 0 := by rw [← hx']; exact ends_more_bad HA.out (by exact hbig)
            have HV' := Lib.hid hx'
            have hx0b : (x' != 0) = true := by simpa using hx0
            clear hx'
            go_wp2_with fail
            refine (mostF_bad (m : Int) x' (some ⟨b, 0, none⟩) len c' (moreA es i by_) s t _ HAR.out HV'.out hx0).mono ?_
            rintro e w5 ⟨rfl, hB⟩
            have c1 : w5.cell? ⟨X, 1, none⟩ = some (.slice (some ⟨b, 0, none⟩) len c') := (hB.cell (p := ⟨X, 1, none⟩) HW2.out.lt).trans p1
            have c2 : w5.cell? ⟨b, i * 4 + 2, none⟩ = some (.int .i64 (a2 + by_)) := (hB.cell (p := ⟨b, i * 4 + 2, none⟩) HW2.out.row.lt).trans (HW2.out.row.cell HMOD.out).2.2.1
            have HBE : Hid (Below w.heap.size w w5) := Lib.hid ((HX2.out.below.trans (HW2.out.below.mono (by omega))).trans (hB.mono (by have := HW2.out.below.size; omega)))
            clear hB p0 p1 hx0
            go_wp2
            go_ret
            exact ⟨rfl, HBE.out⟩
          · have HV' : Hid (endsF (m : Int) (moreA es i by_) s t = 0) := Lib.hid (ends_more_ok HV.out HA.out (by simp only; omega) hb1)
            go_wp2_with fail
            refine (mostF_good m (some ⟨b, 0, none⟩) len c' (moreA es i by_) s t _ HAR.out HV'.out).mono ?_
            rintro e w5 ⟨g', f', v', rfl, hfl, hn, hr, hgl, hB⟩
            have hG' := good_of_netF (endsF_zero HV'.out).1
            obtain ⟨hv1, hv2⟩ := flow_more (d := by_) (netP_ok HG.out.big) (netP_ok hG'.big) (by simpa [netP] using hs) HFL.out HNC.out hfl hn (fun W => more_cut HA.out hb1 W)
            have c1 : w5.cell? ⟨X, 1, none⟩ = some (.slice (some ⟨b, 0, none⟩) len c') := (hB.cell (p := ⟨X, 1, none⟩) HW2.out.lt).trans p1
            have c2 : w5.cell? ⟨b, i * 4 + 2, none⟩ = some (.int .i64 (a2 + by_)) := (hB.cell (p := ⟨b, i * 4 + 2, none⟩) HW2.out.row.lt).trans (HW2.out.row.cell HMOD.out).2.2.1
            have HBE : Hid (Below w.heap.size w w5) := Lib.hid ((HX2.out.below.trans (HW2.out.below.mono (by omega))).trans (hB.mono (by have := HW2.out.below.size; omega)))
            obtain ⟨s1, s2⟩ := outTo_abs HG.out HFL.out.may s (Nat.le_refl _)
            have s3 : -31457280 ≤ v := by rw [← HFL.out.val]; exact s1
            have s4 : v ≤ 31457280 := by rw [← HFL.out.val]; exact s2
            clear hB p0 p1 hfl hn hr hgl hG' s1 s2
            go_wp2
            go_ret
            exact ⟨rfl, HBE.out⟩
      clear hK1
      go_region_held3 (fun W => W.cell? ⟨w.heap.size, 0, none⟩ = some (.int .i64 m) ∧ W.cell? ⟨w.heap.size, 1, none⟩ = some (.slice A len cap))
        (first | exact ⟨i0, i1⟩ | exact keep_alloc4 (by assumption) | exact hq4.out | exact keep_set4 hq4.out (by show w.heap.size ≠ _; omega) | exact keep_alloc4 hq4.out)
        (first
          | (refine step_app4 rfl (.tmp 43) (.tmp 45) rfl w2 w2.heap.size A len cap es rfl rfl (below_two4 w2 _ _) (Nat.le_refl _) (heap_two_old4 w2.drew _ _) HARC.out hl30 hpos ?_; intro b4 c4 w4 hr4 hlo4 hb4 hs4 hk4; have HR4 := Lib.hid hr4; have HLO4 := Lib.hid hlo4; have HB4 := Lib.hid hb4; have HS4 := Lib.hid hs4; have hbx := (hk4 (w2.heap.size + 1) (by simp) (by omega)).trans (heap_two_new4 w2.drew _ _); obtain ⟨n0, n1, n2, n3⟩ := net_box hbx; have HBX := Lib.hid hbx; clear hbx; have hq4 := Lib.hid (And.intro (HX2.out.next hb4).k0 (HX2.out.next hb4).k1); clear hr4 hlo4 hb4 hs4 hk4)
          | (refine step_app4 rfl (.tmp 43) (.tmp 45) rfl w2 (w2.heap.size + 1) A len cap es rfl rfl (below_two4 w2 _ _) (Nat.le_succ _) (heap_two_new4 w2.drew _ _) HARC.out hl30 hpos ?_; intro b4 c4 w4 hr4 hlo4 hb4 hs4 hk4; have HR4 := Lib.hid hr4; have HLO4 := Lib.hid hlo4; have HB4 := Lib.hid hb4; have HS4 := Lib.hid hs4; have hbx := (hk4 (w2.heap.size) (by simp; omega) (by omega)).trans (heap_two_old4 w2.drew _ _); obtain ⟨n0, n1, n2, n3⟩ := net_box hbx; have HBX := Lib.hid hbx; clear hbx; have hq4 := Lib.hid (And.intro (HX2.out.next hb4).k0 (HX2.out.next hb4).k1); clear hr4 hlo4 hb4 hs4 hk4)
          | (refine step_app4 rfl (.tmp 43) (.tmp 45) rfl w2 w2.heap.size A len cap es rfl rfl ((Below.refl _ w2).drew.alloc (Nat.le_refl _) _) (Nat.le_refl _) ((MapKept.heap_alloc w2.drew _).1) HARC.out hl30 hpos ?_; intro b4 c4 w4 hr4 hlo4 hb4 hs4 hk4; have HR4 := Lib.hid hr4; have HLO4 := Lib.hid hlo4; have HB4 := Lib.hid hb4; have HS4 := Lib.hid hs4; have hq4 := Lib.hid (And.intro (HX2.out.next hb4).k0 (HX2.out.next hb4).k1); clear hr4 hlo4 hb4 hs4 hk4))
      all_goals
        first
          | exact TAIL.out _ _ _ _ _ (MoreW.of_alloc HB4.out HR4.out HLO4.out)
          | exact TAIL.out _ _ _ _ _ (MoreW.of_set HB4.out HR4.out HLO4.out HBX.out (by omega))
  · have HV := Lib.hid hx
    have hx0 : (x != 0) = true := by simpa using h0
    have hH0 := Lib.hid h0
    clear hx h0
    go_enter Try.func14, Try.ntmps14
    go_wp2_with fail
    refine (mostF_bad n x A len cap es s t _ (by exact HX.out.arcs) HV.out hH0.out).mono ?_
    rintro e w1 ⟨rfl, hB⟩
    have HX1 := Lib.hid (HX.out.next hB)
    have j0 := HX1.out.k0
    have j1 := HX1.out.k1
    clear k0 k1 hB
    go_wp2_with fail
    refine (endsCheck_v n x A len cap es s t _ (by exact HX1.out.arcs) HV.out).mono ?_
    rintro e w2 ⟨rfl, hB⟩
    have HX2 := Lib.hid (HX1.out.next hB)
    clear j0 j1 hB
    go_wp2
    go_ret
    exact ⟨rfl, HX2.out.below⟩
end Go.Proofs.Ythfgbgmkiggjmaa
