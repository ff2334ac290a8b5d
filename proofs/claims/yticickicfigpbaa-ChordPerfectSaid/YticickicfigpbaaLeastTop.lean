/- colour.Least: what it tells of any graph. -/
import Derived.Test.YticickicfigpbaaPaintGo
import Derived.Test.YticickicfigpbaaLeastC
import Derived.Laws.EntriesVeiled
import Derived.Deep.QuietTactic
import Derived.Laws.NewBlocks
namespace Go.Proofs.Yticickicfigpbaa
open Go.RowKit

/-- Two rows and two boxes that hold them, made in whatever order. -/
structure LeastMade (W3 : World) (m gC gS gCb gSb : Nat) (W : World) : Prop where
  col : W.heap[gC]? = some (.cells (madeCells #[.int .i64 0] m) 3 (0, 0))
  set : W.heap[gS]? = some (.cells (madeCells #[.int .u32 0] m) 38 (0, 0))
  colb : RowOf W gCb 25 [.slice (some ⟨gC, 0, none⟩) m m]
  setb : RowOf W gSb 46 [.slice (some ⟨gS, 0, none⟩) m m]
  ne : gC ≠ gS ∧ gC ≠ gCb ∧ gC ≠ gSb ∧ gS ≠ gCb ∧ gS ≠ gSb ∧ gCb ≠ gSb
  ge : W3.heap.size ≤ gC ∧ W3.heap.size ≤ gS ∧ W3.heap.size ≤ gCb ∧ W3.heap.size ≤ gSb
  env : W.os = W3.os ∧ W.tape = W3.tape ∧ W.output = W3.output ∧ W3.heap.size ≤ W.heap.size
  old : ∀ k, k < W3.heap.size → W.heap[k]? = W3.heap[k]?
def putB (v : Value) : Obj → Obj
  | .cells c elem frozen => .cells (c.setIfInBounds 0 v) elem frozen
  | o => o
theorem al_new (W : World) (o : Obj) (k : Nat) (h : k = W.heap.size) : (W.alloc o).heap[k]? = some o := by
  show (W.heap.push o)[k]? = _
  rw [Array.getElem?_push, if_pos h]
theorem al_old (W : World) (o : Obj) (k : Nat) (h : k ≠ W.heap.size) : (W.alloc o).heap[k]? = W.heap[k]? := by
  show (W.heap.push o)[k]? = _
  rw [Array.getElem?_push, if_neg h]
theorem mkI_new (m : Nat) (W : World) (k : Nat) (h : k = W.heap.size) : (mkI m W).heap[k]? = some (.cells (madeCells #[.int .i64 0] m) 3 (0, 0)) := al_new W _ k h
theorem mkI_old (m : Nat) (W : World) (k : Nat) (h : k ≠ W.heap.size) : (mkI m W).heap[k]? = W.heap[k]? := al_old W _ k h
theorem mkU_new (m : Nat) (W : World) (k : Nat) (h : k = W.heap.size) : (mkU m W).heap[k]? = some (.cells (madeCells #[.int .u32 0] m) 38 (0, 0)) := al_new W _ k h
theorem mkU_old (m : Nat) (W : World) (k : Nat) (h : k ≠ W.heap.size) : (mkU m W).heap[k]? = W.heap[k]? := al_old W _ k h
theorem setB_old (W : World) (b : Nat) (v : Value) (k : Nat) (h : b ≠ k) : (W.setCell ⟨b, 0, none⟩ v).heap[k]? = W.heap[k]? := by
  show (W.heap.modify b _)[k]? = _
  rw [Array.getElem?_modify, if_neg h]
theorem setB_at (W : World) (b : Nat) (v : Value) (k : Nat) (h : b = k) : (W.setCell ⟨b, 0, none⟩ v).heap[k]? = (W.heap[k]?).map (putB v) := by
  show (W.heap.modify b _)[k]? = _
  rw [Array.getElem?_modify, if_pos h]
  congr 1
theorem dr_old (W : World) (k : Nat) : W.drew.heap[k]? = W.heap[k]? := rfl
theorem heap_dr (W : World) : W.drew.heap = W.heap := rfl
theorem made_rep (m : Nat) (z : Value) : madeCells #[z] m = (List.replicate m z).toArray := by
  apply Array.ext
  · simp [size_madeCells]
  · intro i h1 h2
    simp [madeCells, Nat.mod_one]
theorem results_tmp3 {fn : Func} {t u v : Tmp} (h : fn.results = #[.tmp t, .tmp u, .tmp v]) (tmps : Array Value) (P : Program) (w : World) :
    (results fn tmps).run P w = .ok (.tuple #[tmps.getD t undef, tmps.getD u undef, tmps.getD v undef]) w := by
  simp [results, h]
set_option maxRecDepth 100000 in
set_option maxHeartbeats 4000000 in
theorem leastTop_any (n : Int) (A : Option Addr) (len cap : Nat) (es : List E3) (w : World) (hE : EdgesAt w w.heap.size A len es) :
    Calls Try.prog 18 #[.agg #[.int .i64 n, .slice A len cap]] w (LeastTop w n es) := by
  have HX := Lib.hid (BoxG.start (n := n) (cap := cap) hE)
  have k0 := HX.out.c0
  have k1 := HX.out.c1
  obtain ⟨x, hx⟩ : ∃ x, gcheck n es = x := ⟨_, rfl⟩
  by_cases h0 : x = 0
  · subst h0
    obtain ⟨hn0, hn1, hl, hg⟩ := good_of_gcheck hx
    obtain ⟨m, rfl⟩ := Int.eq_ofNat_of_zero_le hn0
    have hm10 : m ≤ 10 := by omega
    have HNB := Lib.hid (fun W hW => neighbours_any m A len cap es W hW hx)
    have HXX := Lib.hid hx
    clear hE hx hn0 hn1 hl
    go_enter Try.func18, Try.ntmps18
    go_wp2_with fail
    refine (HNB.out _ HX.out.edges).mono ?_
    rintro e w1 ⟨g, rfl, hrow, hg0, hB⟩
    have HX1 := Lib.hid (HX.out.next hB)
    have HR := Lib.hid hrow
    have HX2 := Lib.hid (HX1.out.next ((Below.refl _ w1).alloc (Nat.le_refl _) (.cells #[.slice (some ⟨g, 0, none⟩) m m] 46)))
    have q0 := HX2.out.c0
    have x1 : IntKind.i64.wrap ((m : Int) + 1) = (m : Int) + 1 := IntWalk.i64_in _ (by omega)
    clear hB k0 k1 HNB hrow
    go_wp2_with fail
    have hmk1 := fun W => mkI_run m (by omega) W
    have hmk2 := fun W => mkU_run m (by omega) W
    have hsz1 := fun W => mkI_size m W
    have hsz2 := fun W => mkU_size m W
    have hHX3 : Hid (BoxG w (m : Int) A len cap es (((w1.alloc (.cells #[.slice (some ⟨g, 0, none⟩) m m] 46)).alloc (.cells #[.int .i64 ((m : Int) + 1)] 3)).alloc (.cells #[.slice none 0 0] 25))) := Lib.hid ((HX2.out.next ((Below.refl _ _).alloc (Nat.le_refl _) _)).next ((Below.refl _ _).alloc (Nat.le_refl _) _))
    have HB3 : Hid (RowOf (((w1.alloc (.cells #[.slice (some ⟨g, 0, none⟩) m m] 46)).alloc (.cells #[.int .i64 ((m : Int) + 1)] 3)).alloc (.cells #[.slice none 0 0] 25)) w1.heap.size 46 [.slice (some ⟨g, 0, none⟩) m m] ∧ RowOf (((w1.alloc (.cells #[.slice (some ⟨g, 0, none⟩) m m] 46)).alloc (.cells #[.int .i64 ((m : Int) + 1)] 3)).alloc (.cells #[.slice none 0 0] 25)) (w1.heap.size + 1) 3 [.int .i64 ((m : Int) + 1)] ∧ RowOf (((w1.alloc (.cells #[.slice (some ⟨g, 0, none⟩) m m] 46)).alloc (.cells #[.int .i64 ((m : Int) + 1)] 3)).alloc (.cells #[.slice none 0 0] 25)) (w1.heap.size + 1 + 1) 25 [.slice none 0 0] ∧ RowOf (((w1.alloc (.cells #[.slice (some ⟨g, 0, none⟩) m m] 46)).alloc (.cells #[.int .i64 ((m : Int) + 1)] 3)).alloc (.cells #[.slice none 0 0] 25)) g 38 ((nbL m es).map u32V) ∧ g < w1.heap.size ∧ w.heap.size < w1.heap.size ∧ (((w1.alloc (.cells #[.slice (some ⟨g, 0, none⟩) m m] 46)).alloc (.cells #[.int .i64 ((m : Int) + 1)] 3)).alloc (.cells #[.slice none 0 0] 25)).heap.size = w1.heap.size + 1 + 1 + 1) := Lib.hid (by
      refine ⟨((box_new w1 _ _).alloc _).alloc _, (box_next w1 _ _ _).alloc _, ?_, ((HR.out.alloc _).alloc _).alloc _, HR.out.lt, HX1.out.lt, by simp⟩
      have h := box_next (w1.alloc (.cells #[.slice (some ⟨g, 0, none⟩) m m] 46)) (.cells #[.int .i64 ((m : Int) + 1)] 3) (.slice none 0 0) 25
      rw [World.size_alloc] at h
      exact h)
    generalize (((w1.alloc (.cells #[.slice (some ⟨g, 0, none⟩) m m] 46)).alloc (.cells #[.int .i64 ((m : Int) + 1)] 3)).alloc (.cells #[.slice none 0 0] 25)) = W3 at hHX3 HB3 ⊢
    have q3 := hHX3.out.c0
    have hwl := hHX3.out.lt
    have hl0 : w.heap.size < W3.heap.size := by omega
    have hl1 : w.heap.size < W3.heap.size + 1 := by omega
    have hl2 : w.heap.size < W3.heap.size + 1 + 1 := by omega
    have hl3 : w.heap.size < W3.heap.size + 1 + 1 + 1 := by omega
    have hq0 : ∀ (W : World) (o : Obj) (p : Addr), p.block < W.heap.size → (W.alloc o).cell? p = W.cell? p := fun W o p h => World.cell?_of_block (Below.heap_alloc W o p.block h)
    have hq1 : ∀ (W : World) (p : Addr), p.block < W.heap.size → (mkI m W).cell? p = W.cell? p := fun W p h => (mkI_below m W).cell h
    have hq2 : ∀ (W : World) (p : Addr), p.block < W.heap.size → (mkU m W).cell? p = W.cell? p := fun W p h => (mkU_below m W).cell h
    have hq3 : ∀ (W : World) (p : Addr), (mkI m W).frozen? p = W.frozen? p := fun W p => frozen?_alloc_cells W _ _ p
    have hq4 : ∀ (W : World) (p : Addr), (mkU m W).frozen? p = W.frozen? p := fun W p => frozen?_alloc_cells W _ _ p
    have hq5 : W3.drew.heap.size = W3.heap.size := rfl
    rename_i K1 hK1
    have TAIL : Hid (∀ (gC gS gCb gSb : Nat) (W : World), LeastMade W3 m gC gS gCb gSb W →
        K1 { tmps := #[.agg #[.int .i64 m, .slice A len cap], .pointer (some ⟨w.heap.size, 0, none⟩), .int .i64 0, .slice none 0 0, .int .i64 0, .pointer (some ⟨w1.heap.size, 0, none⟩), .int .i64 0, .pointer (some ⟨w1.heap.size + 1, 0, none⟩), .pointer (some ⟨w1.heap.size + 1 + 1, 0, none⟩), .pointer (some ⟨gCb, 0, none⟩), .pointer (some ⟨gSb, 0, none⟩), undef, .tuple #[.slice (some ⟨g, 0, none⟩) m m, .int .i64 0], .agg #[.int .i64 m, .slice A len cap], .tuple #[.slice (some ⟨g, 0, none⟩) m m, .int .i64 0], .slice (some ⟨g, 0, none⟩) m m, .int .i64 0, .int .i64 0, .bool false, undef, .pointer (some ⟨w.heap.size, 0, none⟩), .int .i64 m, .int .i64 ((m : Int) + 1), .pointer (some ⟨w.heap.size, 0, none⟩), .int .i64 m, .slice (some ⟨gC, 0, none⟩) m m, .pointer (some ⟨w.heap.size, 0, none⟩), .int .i64 m, .slice (some ⟨gS, 0, none⟩) m m, undef, undef, undef, undef, undef], defers := [] } W) := by
      refine Lib.hid fun gC gS gCb gSb W HM => hK1 _ _ ?_
      have HMM := Lib.hid HM
      clear hK1 HM hq0 hq1 hq2 hq3 hq4 hq5 hmk1 hmk2 hsz1 hsz2 hl0 hl1 hl2 hl3 q3 q0 x1 hwl
      go_wp2_with fail
      obtain ⟨V, hV⟩ : ∃ V : Value, V = .func (.func 33) #[] #[.pointer (some ⟨w1.heap.size + 1, 0, none⟩), .pointer (some ⟨w.heap.size, 0, none⟩), .pointer (some ⟨gCb, 0, none⟩), .pointer (some ⟨w1.heap.size + 1 + 1, 0, none⟩), .pointer (some ⟨gSb, 0, none⟩), .pointer (some ⟨w1.heap.size, 0, none⟩), .pointer (some ⟨W.heap.size, 0, none⟩)] := ⟨_, rfl⟩
      rw [← hV]
      have hbW : Below W3.heap.size W3 W := ⟨HMM.out.env.1, HMM.out.env.2.1, HMM.out.env.2.2.1, HMM.out.env.2.2.2, HMM.out.old⟩
      obtain ⟨W5, hW5⟩ : ∃ W5, W.alloc (.cells #[V] 61) = W5 := ⟨_, rfl⟩
      have hb5 : Below W.heap.size W W5 := by rw [← hW5]; exact (Below.refl _ _).alloc (Nat.le_refl _) _
      have hb35 : Below W3.heap.size W3 W5 := hbW.trans (hb5.mono hbW.size)
      have rF : RowOf W5 W.heap.size 61 [V] := by rw [← hW5]; exact box_new W _ _
      rw [hW5]
      obtain ⟨rA, rL, rB, rN, hgl, hwl, hs3⟩ := HB3.out
      have n1 := HMM.out.ne
      have n2 := HMM.out.ge
      have hCl : gC < W.heap.size := (Array.getElem?_eq_some_iff.1 HMM.out.col).1
      have hSl : gS < W.heap.size := (Array.getElem?_eq_some_iff.1 HMM.out.set).1
      have hCbl := HMM.out.colb.lt
      have hSbl := HMM.out.setb.lt
      have hsz5 := hb5.size
      have hRC : RowOf W5 gC 3 (List.replicate m (.int .i64 0)) := by
        have h := hb5.block gC hCl
        rw [HMM.out.col, made_rep] at h
        exact h
      have hRS : RowOf W5 gS 38 (List.replicate m (.int .u32 0)) := by
        have h := hb5.block gS hSl
        rw [HMM.out.set, made_rep] at h
        exact h
      have HLW : Hid (LeaW W5 m (w1.heap.size + 1) (w1.heap.size + 1 + 1) gC gS [] (fun _ => 0) (m + 1) [] W5) := Lib.hid ⟨Below.refl _ _, fun _ _ _ _ _ _ => rfl, rL.below hb35 (by omega), ⟨none, 0, rB.below hb35 (by omega), Nat.le_refl _, fun h => absurd h (by simp)⟩, ⟨List.replicate m 0, by simp, by simpa [natG] using hRC⟩, by
        rw [show ((List.range m).map fun _ => 0).map u32V = List.replicate m (Value.int .u32 0) by simp [List.map_const', u32V]]
        exact hRS⟩
      have HCALL := Lib.hid (paintGo_any W5 m (w1.heap.size + 1) w.heap.size gCb (w1.heap.size + 1 + 1) gSb w1.heap.size W.heap.size gC gS g m (fun b => (nbL m es).getD b 0) (adjE es) hm10 (fun b i hb => nb_bit hg hb i) (adjE_symm es) (fun b => pow10 hm10 (nbL_words hg b))
        ((hHX3.out.next (hb35)).c0) ((HMM.out.colb.keep hb5).cell (i := 0) rfl) ((HMM.out.setb.keep hb5).cell (i := 0) rfl) ((rA.below hb35 (by omega)).cell (i := 0) rfl) (fun i hi => (rN.below hb35 (by omega)).cell (by rw [List.getElem?_map, nbL_get es hi, List.getD_eq_getElem?_getD, nbL_get es hi]; rfl)) (by rw [← hV]; exact rF.cell (i := 0) rfl)
        (fun b hb => by rcases hb with rfl | rfl | rfl | rfl | rfl | rfl <;> refine ⟨?_, ?_, ?_, ?_⟩ <;> omega) (by omega) (by omega) (by omega) (by omega) (by omega) (by omega) (by omega) (by omega) (by omega) n1.1
        m 0 [] 0 (fun _ => 0) (m + 1) [] W5 rfl (by omega) PartL.nil (Nat.le_refl _) ClsP.nil (Nat.le_refl _) HLW.out)
      have HBB := Lib.hid (And.intro (hHX3.out.next hb35).below (And.intro hwl (And.intro hs3 (And.intro hsz5 (And.intro hbW.size n2)))))
      clear hV hbW hW5 hb5 hb35 rF rA rL rB rN hgl hwl hs3 n1 n2 hCl hSl hCbl hSbl hsz5 hRC hRS HLW
      refine HCALL.out.mono ?_
      rintro e W6 ⟨rfl, K', B', hfs, hk, h6⟩
      have HLC := Lib.hid hfs.least
      have HML : Hid (B'.length = m) := Lib.hid hfs.least.part.2
      have H6 := Lib.hid h6
      obtain ⟨Ab, cb, hbr, hbc, hbi⟩ := h6.best
      have cL := h6.least.cell (i := 0) rfl
      have cB := hbr.cell (i := 0) rfl
      rw [HML.out] at cB
      have HIN : Hid (IntsAt W6 W6.heap.size Ab m (natG B')) := Lib.hid ⟨by rw [← HML.out]; simp [natG], fun hp => by
        obtain ⟨q, e, _, hr⟩ := hbi (by rw [HML.out]; exact hp)
        refine ⟨q, 0, e, hr.lt, fun i x hx => ?_⟩
        obtain ⟨y, hy, rfl⟩ := natG_get hx
        have hl := (List.getElem?_eq_some_iff.1 hy).1
        rw [Nat.zero_add, hr.cell hl, List.getD_eq_getElem?_getD, hy]; rfl⟩
      have HCB : Hid (m ≤ cb) := Lib.hid (by rw [← HML.out]; exact hbc)
      have HBE : Hid (Below w.heap.size w W6) := Lib.hid (by
        obtain ⟨b1, b2, b3, b4, b5, b6, b7, _⟩ := HBB.out
        exact b1.trans ⟨H6.out.low.os, H6.out.low.tape, H6.out.low.output, H6.out.low.size, fun b hb => H6.out.blk b (by omega) (by omega) (by omega) (by omega) (by omega)⟩)
      clear hfs hk h6 hbr hbc hbi HCALL
      go_wp2_with fail
      go_quiet (fail)
      go_wp2_with fail
      refine bodyPost_ret (results_tmp3 rfl _ _ _) rfl ?_
      exact ⟨fun h => absurd HXX.out h, fun _ => ⟨K', B', Ab, cb, HLC.out, rfl, HIN.out.drewN nq, HCB.out⟩, below_drewN HBE.out nq⟩
    clear hK1
    go_region
    all_goals
      refine TAIL.out _ _ _ _ _ ⟨?_, ?_, ?_, ?_, ?_, ?_, ?_, ?_⟩
      · repeat (first | rw [dr_old] | rw [mkI_old _ _ _ (by first | omega | (simp only [mkU_size, World.size_alloc, heap_dr]; done) | (simp only [mkU_size, World.size_alloc, heap_dr]; omega))] | rw [mkU_old _ _ _ (by first | omega | (simp only [mkI_size, World.size_alloc, World.size_setCell, heap_dr]; done) | (simp only [mkI_size, World.size_alloc, World.size_setCell, heap_dr]; omega))] | rw [al_old _ _ _ (by first | omega | (simp only [mkI_size, mkU_size, World.size_alloc, World.size_setCell, heap_dr]; done) | (simp only [mkI_size, mkU_size, World.size_alloc, World.size_setCell, heap_dr]; omega))] | rw [setB_old _ _ _ _ (by first | omega | (simp only [mkI_size, mkU_size, World.size_alloc, World.size_setCell, heap_dr]; done) | (simp only [mkI_size, mkU_size, World.size_alloc, World.size_setCell, heap_dr]; omega))] | rw [mkI_new _ _ _ (by first | omega | (simp only [mkU_size, World.size_alloc, heap_dr]; done) | (simp only [mkI_size, mkU_size, World.size_alloc, World.size_setCell, heap_dr]; omega))] | rw [mkU_new _ _ _ (by first | omega | (simp only [mkI_size, mkU_size, World.size_alloc, World.size_setCell, heap_dr]; done) | (simp only [mkI_size, mkU_size, World.size_alloc, World.size_setCell, heap_dr]; omega))] | rw [al_new _ _ _ (by first | omega | (simp only [mkI_size, mkU_size, World.size_alloc, World.size_setCell, heap_dr]; done) | (simp only [mkI_size, mkU_size, World.size_alloc, World.size_setCell, heap_dr]; omega))] | rw [setB_at _ _ _ _ (by first | omega | (simp only [mkI_size, mkU_size, World.size_alloc, World.size_setCell, heap_dr]; done) | (simp only [mkI_size, mkU_size, World.size_alloc, World.size_setCell, heap_dr]; omega))])
      · repeat (first | rw [dr_old] | rw [mkI_old _ _ _ (by first | omega | (simp only [mkU_size, World.size_alloc, heap_dr]; done) | (simp only [mkU_size, World.size_alloc, heap_dr]; omega))] | rw [mkU_old _ _ _ (by first | omega | (simp only [mkI_size, World.size_alloc, World.size_setCell, heap_dr]; done) | (simp only [mkI_size, World.size_alloc, World.size_setCell, heap_dr]; omega))] | rw [al_old _ _ _ (by first | omega | (simp only [mkI_size, mkU_size, World.size_alloc, World.size_setCell, heap_dr]; done) | (simp only [mkI_size, mkU_size, World.size_alloc, World.size_setCell, heap_dr]; omega))] | rw [setB_old _ _ _ _ (by first | omega | (simp only [mkI_size, mkU_size, World.size_alloc, World.size_setCell, heap_dr]; done) | (simp only [mkI_size, mkU_size, World.size_alloc, World.size_setCell, heap_dr]; omega))] | rw [mkI_new _ _ _ (by first | omega | (simp only [mkI_size, mkU_size, World.size_alloc, World.size_setCell, heap_dr]; done) | (simp only [mkI_size, mkU_size, World.size_alloc, World.size_setCell, heap_dr]; omega))] | rw [mkU_new _ _ _ (by first | omega | (simp only [mkI_size, World.size_alloc, World.size_setCell, heap_dr]; done) | (simp only [mkI_size, mkU_size, World.size_alloc, World.size_setCell, heap_dr]; omega))] | rw [al_new _ _ _ (by first | omega | (simp only [mkI_size, mkU_size, World.size_alloc, World.size_setCell, heap_dr]; done) | (simp only [mkI_size, mkU_size, World.size_alloc, World.size_setCell, heap_dr]; omega))] | rw [setB_at _ _ _ _ (by first | omega | (simp only [mkI_size, mkU_size, World.size_alloc, World.size_setCell, heap_dr]; done) | (simp only [mkI_size, mkU_size, World.size_alloc, World.size_setCell, heap_dr]; omega))])
      · unfold RowOf
        repeat (first | rw [dr_old] | rw [mkI_old _ _ _ (by first | omega | (simp only [mkU_size, World.size_alloc, heap_dr]; done) | (simp only [mkU_size, World.size_alloc, heap_dr]; omega))] | rw [mkU_old _ _ _ (by first | omega | (simp only [mkI_size, World.size_alloc, World.size_setCell, heap_dr]; done) | (simp only [mkI_size, World.size_alloc, World.size_setCell, heap_dr]; omega))] | rw [al_old _ _ _ (by first | omega | (simp only [mkI_size, mkU_size, World.size_alloc, World.size_setCell, heap_dr]; done) | (simp only [mkI_size, mkU_size, World.size_alloc, World.size_setCell, heap_dr]; omega))] | rw [setB_old _ _ _ _ (by first | omega | (simp only [mkI_size, mkU_size, World.size_alloc, World.size_setCell, heap_dr]; done) | (simp only [mkI_size, mkU_size, World.size_alloc, World.size_setCell, heap_dr]; omega))] | rw [mkI_new _ _ _ (by first | omega | (simp only [mkI_size, mkU_size, World.size_alloc, World.size_setCell, heap_dr]; done) | (simp only [mkI_size, mkU_size, World.size_alloc, World.size_setCell, heap_dr]; omega))] | rw [mkU_new _ _ _ (by first | omega | (simp only [mkI_size, mkU_size, World.size_alloc, World.size_setCell, heap_dr]; done) | (simp only [mkI_size, mkU_size, World.size_alloc, World.size_setCell, heap_dr]; omega))] | rw [al_new _ _ _ (by first | omega | (simp only [mkI_size, mkU_size, World.size_alloc, World.size_setCell, heap_dr]; done) | (simp only [mkI_size, mkU_size, World.size_alloc, World.size_setCell, heap_dr]; omega))] | rw [setB_at _ _ _ _ (by first | omega | (simp only [mkI_size, mkU_size, World.size_alloc, World.size_setCell, heap_dr]; done) | (simp only [mkI_size, mkU_size, World.size_alloc, World.size_setCell, heap_dr]; omega))])
        try rfl
      · unfold RowOf
        repeat (first | rw [dr_old] | rw [mkI_old _ _ _ (by first | omega | (simp only [mkU_size, World.size_alloc, heap_dr]; done) | (simp only [mkU_size, World.size_alloc, heap_dr]; omega))] | rw [mkU_old _ _ _ (by first | omega | (simp only [mkI_size, World.size_alloc, World.size_setCell, heap_dr]; done) | (simp only [mkI_size, World.size_alloc, World.size_setCell, heap_dr]; omega))] | rw [al_old _ _ _ (by first | omega | (simp only [mkI_size, mkU_size, World.size_alloc, World.size_setCell, heap_dr]; done) | (simp only [mkI_size, mkU_size, World.size_alloc, World.size_setCell, heap_dr]; omega))] | rw [setB_old _ _ _ _ (by first | omega | (simp only [mkI_size, mkU_size, World.size_alloc, World.size_setCell, heap_dr]; done) | (simp only [mkI_size, mkU_size, World.size_alloc, World.size_setCell, heap_dr]; omega))] | rw [mkI_new _ _ _ (by first | omega | (simp only [mkI_size, mkU_size, World.size_alloc, World.size_setCell, heap_dr]; done) | (simp only [mkI_size, mkU_size, World.size_alloc, World.size_setCell, heap_dr]; omega))] | rw [mkU_new _ _ _ (by first | omega | (simp only [mkI_size, mkU_size, World.size_alloc, World.size_setCell, heap_dr]; done) | (simp only [mkI_size, mkU_size, World.size_alloc, World.size_setCell, heap_dr]; omega))] | rw [al_new _ _ _ (by first | omega | (simp only [mkI_size, mkU_size, World.size_alloc, World.size_setCell, heap_dr]; done) | (simp only [mkI_size, mkU_size, World.size_alloc, World.size_setCell, heap_dr]; omega))] | rw [setB_at _ _ _ _ (by first | omega | (simp only [mkI_size, mkU_size, World.size_alloc, World.size_setCell, heap_dr]; done) | (simp only [mkI_size, mkU_size, World.size_alloc, World.size_setCell, heap_dr]; omega))])
        try rfl
      · refine ⟨?_, ?_, ?_, ?_, ?_, ?_⟩ <;> omega
      · refine ⟨?_, ?_, ?_, ?_⟩ <;> omega
      · exact ⟨rfl, rfl, rfl, by simp [heap_dr, mkI_size, mkU_size] <;> omega⟩
      · intro k hk
        repeat (first | rw [dr_old] | rw [mkI_old _ _ _ (by first | omega | (simp only [mkU_size, World.size_alloc, heap_dr]; done) | (simp only [mkU_size, World.size_alloc, heap_dr]; omega))] | rw [mkU_old _ _ _ (by first | omega | (simp only [mkI_size, World.size_alloc, World.size_setCell, heap_dr]; done) | (simp only [mkI_size, World.size_alloc, World.size_setCell, heap_dr]; omega))] | rw [al_old _ _ _ (by first | omega | (simp only [mkI_size, mkU_size, World.size_alloc, World.size_setCell, heap_dr]; done) | (simp only [mkI_size, mkU_size, World.size_alloc, World.size_setCell, heap_dr]; omega))] | rw [setB_old _ _ _ _ (by first | omega | (simp only [mkI_size, mkU_size, World.size_alloc, World.size_setCell, heap_dr]; done) | (simp only [mkI_size, mkU_size, World.size_alloc, World.size_setCell, heap_dr]; omega))] | rw [mkI_new _ _ _ (by first | omega | (simp only [mkI_size, mkU_size, World.size_alloc, World.size_setCell, heap_dr]; done) | (simp only [mkI_size, mkU_size, World.size_alloc, World.size_setCell, heap_dr]; omega))] | rw [mkU_new _ _ _ (by first | omega | (simp only [mkI_size, mkU_size, World.size_alloc, World.size_setCell, heap_dr]; done) | (simp only [mkI_size, mkU_size, World.size_alloc, World.size_setCell, heap_dr]; omega))] | rw [al_new _ _ _ (by first | omega | (simp only [mkI_size, mkU_size, World.size_alloc, World.size_setCell, heap_dr]; done) | (simp only [mkI_size, mkU_size, World.size_alloc, World.size_setCell, heap_dr]; omega))] | rw [setB_at _ _ _ _ (by first | omega | (simp only [mkI_size, mkU_size, World.size_alloc, World.size_setCell, heap_dr]; done) | (simp only [mkI_size, mkU_size, World.size_alloc, World.size_setCell, heap_dr]; omega))])
  · have hx1 : (x != 0) = true := by simpa using h0
    have HNB := Lib.hid (fun W hW => neighbours_bad n A len cap es x W hW hx h0)
    have HXX := Lib.hid (show gcheck n es ≠ 0 by rw [hx]; exact h0)
    have HXE := Lib.hid hx
    clear hE hx h0
    go_enter Try.func18, Try.ntmps18
    go_wp2_with fail
    refine (HNB.out _ HX.out.edges).mono ?_
    rintro e w1 ⟨rfl, hB⟩
    have HX1 := Lib.hid (HX.out.next hB)
    have HX2 := Lib.hid (HX1.out.next ((Below.refl _ w1).alloc (Nat.le_refl _) (.cells #[.slice none 0 0] 46)))
    clear hB k0 k1 HNB
    go_wp2_with fail
    refine bodyPost_ret (results_tmp3 rfl _ _ _) rfl ?_
    exact ⟨fun _ => by rw [HXE.out]; rfl, fun h => absurd h HXX.out, HX2.out.below⟩
end Go.Proofs.Yticickicfigpbaa
