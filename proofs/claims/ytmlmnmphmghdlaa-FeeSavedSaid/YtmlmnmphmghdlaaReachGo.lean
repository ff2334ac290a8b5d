/- The program's reach: where steps lead to from a node, and by which one comes there. -/
import Derived.Test.YtmlmnmphmghdlaaStepsGo
import Derived.Test.YtmlmnmphmghdlaaHasNode
import Derived.Laws.MakeOwn
import Derived.Laws.OwnMore
namespace Go.Proofs.Ytmlmnmphmghdlaa
open Go.RowKit Go.Shelf
attribute [local go_sem] Oper.semAt_some

/-- Block L holds m steps. -/
def LastAt (w : World) (L m : Nat) (T : Nat → St) : Prop :=
  ∃ cur : Array Value, w.heap[L]? = some (.cells cur 71 (0, 0)) ∧ ∀ v, v < m → cur[v * 5]? = some (.int .i64 (T v).fr) ∧ cur[v * 5 + 1]? = some (.int .i64 (T v).to) ∧ cur[v * 5 + 2]? = some (.int .i64 (T v).arc) ∧ cur[v * 5 + 3]? = some (.int .i64 (T v).room) ∧ cur[v * 5 + 4]? = some (.int .i64 (T v).sign)

set_option maxRecDepth 100000 in
theorem infoStep : (Try.prog.info? 71).map (fun i => (i.zero, i.size, i.bytes)) = some (some (.agg #[.int .i64 0, .int .i64 0, .int .i64 0, .int .i64 0, .int .i64 0]), 5, 40) := by kernel_rfl
def stepsObj (m : Nat) : Obj := .cells (madeCells #[.int .i64 0, .int .i64 0, .int .i64 0, .int .i64 0, .int .i64 0] (m * 5)) 71
set_option maxRecDepth 100000 in
theorem make_steps (m : Nat) (hm : m ≤ 20) (W : World) : (Instr.makeSlice 67 (.int .i64 m) (.int .i64 m)).run Try.prog W = .ok (.slice (some ⟨W.heap.size, 0, none⟩) m m) (W.alloc (stepsObj m)) := by
  obtain ⟨i0, hi, hz0, hz1, hz2⟩ := info_parts infoStep
  have := run_make (P := Try.prog) W 67 71 i0 _ Try.underlying67 hi hz0 .i64 .i64 m m (by omega) (by omega) (by rw [hz2]; omega) (by omega)
  rw [hz1] at this
  simpa [stepsObj, Value.cells] using this
def zeroT : Nat → St := fun _ => ⟨0, 0, 0, 0, 0⟩
theorem last_start (m : Nat) (W : World) : LastAt (W.alloc (stepsObj m)) W.heap.size m zeroT := by
  refine ⟨_, (MapKept.heap_alloc W _).1, fun v hv => ?_⟩
  have hm : ∀ k j, k < m * 5 → k % 5 = j → j < 5 → (madeCells #[Value.int .i64 0, .int .i64 0, .int .i64 0, .int .i64 0, .int .i64 0] (m * 5))[k]? = some (.int .i64 0) := fun k j hk hj hj5 => by
    rcases (show j = 0 ∨ j = 1 ∨ j = 2 ∨ j = 3 ∨ j = 4 by omega) with rfl | rfl | rfl | rfl | rfl <;> simp [madeCells, hk, hj]
  exact ⟨hm _ 0 (by omega) (by omega) (by omega), hm _ 1 (by omega) (by omega) (by omega), hm _ 2 (by omega) (by omega) (by omega), hm _ 3 (by omega) (by omega) (by omega), hm _ 4 (by omega) (by omega) (by omega)⟩
theorem LastAt.of_block {w w' : World} {L m : Nat} {T : Nat → St} (h : LastAt w L m T) (hb : w'.heap[L]? = w.heap[L]?) : LastAt w' L m T := by
  obtain ⟨cur, h, hc⟩ := h
  exact ⟨cur, hb.trans h, hc⟩
theorem LastAt.cells {w : World} {L m : Nat} {T : Nat → St} (h : LastAt w L m T) {v : Nat} (hv : v < m) :
    (w.cell? ⟨L, v * 5, none⟩ = some (.int .i64 (T v).fr) ∧ w.cell? ⟨L, v * 5 + 1, none⟩ = some (.int .i64 (T v).to) ∧ w.cell? ⟨L, v * 5 + 2, none⟩ = some (.int .i64 (T v).arc) ∧ w.cell? ⟨L, v * 5 + 3, none⟩ = some (.int .i64 (T v).room) ∧ w.cell? ⟨L, v * 5 + 4, none⟩ = some (.int .i64 (T v).sign)) ∧
      w.frozen? ⟨L, v * 5, none⟩ = false ∧ w.frozen? ⟨L, v * 5 + 1, none⟩ = false ∧ w.frozen? ⟨L, v * 5 + 2, none⟩ = false ∧ w.frozen? ⟨L, v * 5 + 3, none⟩ = false ∧ w.frozen? ⟨L, v * 5 + 4, none⟩ = false := by
  obtain ⟨cur, h, hc⟩ := h
  obtain ⟨h0, h1, h2, h3, h4⟩ := hc v hv
  exact ⟨⟨by simp [World.cell?, h, h0], by simp [World.cell?, h, h1], by simp [World.cell?, h, h2], by simp [World.cell?, h, h3], by simp [World.cell?, h, h4]⟩, by simp [World.frozen?, h], by simp [World.frozen?, h], by simp [World.frozen?, h], by simp [World.frozen?, h], by simp [World.frozen?, h]⟩
theorem LastAt.lt {w : World} {L m : Nat} {T : Nat → St} (h : LastAt w L m T) : L < w.heap.size := by
  obtain ⟨cur, h, _⟩ := h
  exact (Array.getElem?_eq_some_iff.1 h).1
theorem boxed_far {W : World} {B : Nat} {t : TypeId} {v : Value} {p : Addr} (h : Boxed W B t v) (hne : B ≠ p.block) (u : Value) : Boxed (W.setCell p u) B t v := (Below.heap_setCell W p u B hne).trans h
theorem boxed_drew {W : World} {B : Nat} {t : TypeId} {v : Value} (h : Boxed W B t v) : Boxed W.drew B t v := h
theorem LastAt.drew {w : World} {L m : Nat} {T : Nat → St} (h : LastAt w L m T) : LastAt w.drew L m T := h
/-- The world with a step laid. -/
def putS (w : World) (L v : Nat) (x : St) : World := ((((w.setCell ⟨L, v * 5, none⟩ (.int .i64 x.fr)).setCell ⟨L, v * 5 + 1, none⟩ (.int .i64 x.to)).setCell ⟨L, v * 5 + 2, none⟩ (.int .i64 x.arc)).setCell ⟨L, v * 5 + 3, none⟩ (.int .i64 x.room)).setCell ⟨L, v * 5 + 4, none⟩ (.int .i64 x.sign)
theorem LastAt.put {w : World} {L m : Nat} {T : Nat → St} (h : LastAt w L m T) {v : Nat} (hv : v < m) (x : St) : LastAt (putS w L v x) L m (updT T v x) := by
  obtain ⟨cur, hc, hT⟩ := h
  have hs : v * 5 + 4 < cur.size := (Array.getElem?_eq_some_iff.1 (hT v hv).2.2.2.2).1
  refine ⟨((((cur.setIfInBounds (v * 5) (.int .i64 x.fr)).setIfInBounds (v * 5 + 1) (.int .i64 x.to)).setIfInBounds (v * 5 + 2) (.int .i64 x.arc)).setIfInBounds (v * 5 + 3) (.int .i64 x.room)).setIfInBounds (v * 5 + 4) (.int .i64 x.sign), by simp [putS, World.setCell, Array.getElem?_modify, hc], fun u hu => ?_⟩
  by_cases huv : u = v
  · subst huv
    have e : updT T u x u = x := if_pos rfl
    rw [e]
    refine ⟨?_, ?_, ?_, ?_, ?_⟩ <;> simp [Array.getElem?_setIfInBounds] <;> omega
  · have e : updT T v x u = T u := if_neg huv
    rw [e]
    obtain ⟨h0, h1, h2, h3, h4⟩ := hT u hu
    have g : ∀ i j, i < 5 → j < 5 → v * 5 + j ≠ u * 5 + i := fun i j hi hj => by omega
    have g0 : ∀ i, i < 5 → v * 5 ≠ u * 5 + i := fun i hi => by omega
    refine ⟨?_, ?_, ?_, ?_, ?_⟩
    · rw [Array.getElem?_setIfInBounds_ne (by omega), Array.getElem?_setIfInBounds_ne (by omega), Array.getElem?_setIfInBounds_ne (by omega), Array.getElem?_setIfInBounds_ne (by omega), Array.getElem?_setIfInBounds_ne (by omega)]; exact h0
    · rw [Array.getElem?_setIfInBounds_ne (by omega), Array.getElem?_setIfInBounds_ne (by omega), Array.getElem?_setIfInBounds_ne (by omega), Array.getElem?_setIfInBounds_ne (by omega), Array.getElem?_setIfInBounds_ne (by omega)]; exact h1
    · rw [Array.getElem?_setIfInBounds_ne (by omega), Array.getElem?_setIfInBounds_ne (by omega), Array.getElem?_setIfInBounds_ne (by omega), Array.getElem?_setIfInBounds_ne (by omega), Array.getElem?_setIfInBounds_ne (by omega)]; exact h2
    · rw [Array.getElem?_setIfInBounds_ne (by omega), Array.getElem?_setIfInBounds_ne (by omega), Array.getElem?_setIfInBounds_ne (by omega), Array.getElem?_setIfInBounds_ne (by omega), Array.getElem?_setIfInBounds_ne (by omega)]; exact h3
    · rw [Array.getElem?_setIfInBounds_ne (by omega), Array.getElem?_setIfInBounds_ne (by omega), Array.getElem?_setIfInBounds_ne (by omega), Array.getElem?_setIfInBounds_ne (by omega), Array.getElem?_setIfInBounds_ne (by omega)]; exact h4
theorem But.putS {S : Nat → Prop} {W W' : World} (h : But S W W') {L : Nat} (hL : S L) (v : Nat) (x : St) : But S W (putS W' L v x) := ((((h.set_ hL _).set_ hL _).set_ hL _).set_ hL _).set_ hL _
theorem boxed_putS {W : World} {B : Nat} {t : TypeId} {u : Value} (h : Boxed W B t u) {L : Nat} (hne : B ≠ L) (v : Nat) (x : St) : Boxed (putS W L v x) B t u := boxed_far (boxed_far (boxed_far (boxed_far (boxed_far h hne _) hne _) hne _) hne _) hne _
/-- The marks that a function's ranges over functions left. -/
def Marks (B : Nat) (w : World) (ds : List Deferred) : Prop :=
  ∃ Ds : List Nat, ds = Ds.map (fun D => { target := .collected D, args := #[] }) ∧ Ds.Nodup ∧ ∀ D ∈ Ds, B ≤ D ∧ w.heap[D]? = some (.deferred (some []))
theorem Marks.nil (B : Nat) (w : World) : Marks B w [] := ⟨[], rfl, List.nodup_nil, fun D h => by cases h⟩
theorem Marks.keep {B : Nat} {w w' : World} {ds : List Deferred} (h : Marks B w ds) (hk : ∀ b, B ≤ b → b < w.heap.size → w'.heap[b]? = w.heap[b]?) : Marks B w' ds := by
  obtain ⟨Ds, e, hn, hm⟩ := h
  exact ⟨Ds, e, hn, fun D hD => ⟨(hm D hD).1, (hk D (hm D hD).1 (Array.getElem?_eq_some_iff.1 (hm D hD).2).1).trans (hm D hD).2⟩⟩
theorem Marks.cons {B D : Nat} {w w' : World} {ds : List Deferred} (h : Marks B w ds) (hk : ∀ b, B ≤ b → b < w.heap.size → w'.heap[b]? = w.heap[b]?) (hB : B ≤ w.heap.size) (hD : w.heap.size ≤ D) (hd : w'.heap[D]? = some (.deferred (some []))) :
    Marks B w' ({ target := .collected D, args := #[] } :: ds) := by
  obtain ⟨Ds, e, hn, hm⟩ := h.keep hk
  obtain ⟨Ds', e', _, hm'⟩ := h
  refine ⟨D :: Ds, by rw [e]; rfl, List.nodup_cons.2 ⟨fun hi => ?_, hn⟩, fun E hE => ?_⟩
  · have he : Ds = Ds' := by
      have := e.symm.trans e'
      exact List.map_inj_right (fun a b hab => by injection hab with hab; injection hab) |>.1 this
    rw [he] at hi
    have := (Array.getElem?_eq_some_iff.1 (hm' D hi).2).1
    omega
  · rcases List.mem_cons.1 hE with rfl | hE
    · exact ⟨by omega, hd⟩
    · exact hm E hE
theorem Marks.leaves {B : Nat} {P : Program} {n : Nat} {fn : Func} {tmps : Array Value} {R : Ending → World → Prop} {v : Value} (hv : ∀ w, (results fn tmps).run P w = .ok v w) :
    ∀ (Ds : List Nat) (w : World), Ds.Nodup → (∀ D ∈ Ds, B ≤ D ∧ w.heap[D]? = some (.deferred (some []))) → (∀ w', Below B w w' → R (.returned v) w') →
      LeavesInM Fence.wide n P fn tmps R (Ds.map fun D => { target := .collected D, args := #[] }) .returning w
  | [], w, _, _, hR => ⟨v, hv w, hR w (Below.refl _ _)⟩
  | D :: Ds, w, hn, hm, hR => by
    obtain ⟨hB, hD⟩ := hm D (List.mem_cons_self ..)
    have hlt := (Array.getElem?_eq_some_iff.1 hD).1
    have hb : Below B w (w.putObj D (.deferred none)) := (below_put w D _).mono hB
    refine ⟨by simp, .inl ⟨D, _, rfl, run_takeDeferred hD, Marks.leaves hv Ds _ (List.nodup_cons.1 hn).2 (fun E hE => ⟨(hm E (List.mem_cons_of_mem _ hE)).1, ?_⟩) fun w' h => hR w' (hb.trans h)⟩⟩
    rw [World.putObj_heap_other (by rintro rfl; exact (List.nodup_cons.1 hn).1 hE)]
    exact (hm E (List.mem_cons_of_mem _ hE)).2
/-- What holds between two rounds. -/
structure ReachW (m L : Nat) (N : NetP) (f : Nat → Int) (s : Nat) (w : World) (met layer : Nat) (T : Nat → St) (ds : List Deferred) (wr : World) : Prop where
  below : Below L w wr
  size : L + 4 ≤ wr.heap.size
  last : LastAt wr L m T
  box1 : Boxed wr (L + 1) 67 (.slice (some ⟨L, 0, none⟩) m m)
  box2 : Boxed wr (L + 1 + 1) 32 (.int .u32 (layer : Int))
  box3 : Boxed wr (L + 1 + 1 + 1) 32 (.int .u32 (met : Int))
  marks : Marks (L + 4) wr ds
  loop : LoopR N f s met layer T
  llt : layer < 1048576
  mlt : met < 1048576
theorem ReachW.next {m L : Nat} {N : NetP} {f : Nat → Int} {s : Nat} {w : World} {met layer : Nat} {T : Nat → St} {ds : List Deferred} {wr W : World} (h : ReachW m L N f s w met layer T ds wr) (hb : Below wr.heap.size wr W) : ReachW m L N f s w met layer T ds W := by
  have hs := h.size
  exact ⟨h.below.trans (hb.mono (by omega)), Nat.le_trans hs hb.size, h.last.of_block (hb.block _ (by omega)), (hb.block _ (by omega)).trans h.box1, (hb.block _ (by omega)).trans h.box2, (hb.block _ (by omega)).trans h.box3, h.marks.keep fun b _ hl => hb.block b hl, h.loop, h.llt, h.mlt⟩
/-- What holds between two steps of a round. -/
structure RoundW (S : Nat → Prop) (W0 : World) (L nb m : Nat) (N : NetP) (f : Nat → Int) (s met layer : Nat) (pre : List St) (W : World) : Prop where
  but : But S W0 W
  here : ∃ (nx : Nat) (T : Nat → St), Boxed W nb 32 (.int .u32 (nx : Int)) ∧ LastAt W L m T ∧ RoundR N f s met layer pre nx T
theorem RoundW.below {S : Nat → Prop} {W0 : World} {L nb m : Nat} {N : NetP} {f : Nat → Int} {s met layer : Nat} {pre : List St} {W W' : World} (h : RoundW S W0 L nb m N f s met layer pre W) (hL : ∀ b, b = L ∨ b = nb → b < W0.heap.size) (hb : Below W0.heap.size W W') : RoundW S W0 L nb m N f s met layer pre W' := by
  obtain ⟨hbut, nx, T, h1, h2, h3⟩ := h
  exact ⟨⟨hb.os.trans hbut.os, hb.tape.trans hbut.tape, hb.output.trans hbut.output, Nat.le_trans hbut.size hb.size, fun b hbl hs => (hb.block b hbl).trans (hbut.block b hbl hs)⟩, nx, T, (hb.block _ (hL _ (.inr rfl))).trans h1, h2.of_block (hb.block _ (hL _ (.inl rfl))), h3⟩
/-- How many nodes are still to be met. -/
def wordAt (w : World) (b : Nat) : Nat := match w.cell? ⟨b, 0, none⟩ with
  | some (.int _ x) => x.toNat
  | _ => 0
def measR (w : World) (L : Nat) : Nat := 2 * (1048576 - wordAt w (L + 1 + 1 + 1)) + (if wordAt w (L + 1 + 1) = 0 then 0 else 1)
set_option maxRecDepth 100000 in
theorem wordAt_box {w : World} {b x : Nat} (h : Boxed w b 32 (.int .u32 (x : Int))) : wordAt w b = x := by
  unfold wordAt; rw [h.cell]; simp
theorem or_gt {a b : Nat} (hb : b ≠ 0) (h : ∀ v, b.testBit v = true → a.testBit v = false) : a < a ||| b := by
  rcases Nat.lt_or_ge a (a ||| b) with h1 | h1
  · exact h1
  · have h2 : a ≤ a ||| b := Nat.left_le_or
    have e : a ||| b = a := by omega
    obtain ⟨v, hv⟩ := Nat.exists_testBit_of_ne_zero hb
    have h3 := h v hv
    rw [← e, Nat.testBit_or, hv] at h3
    simp at h3
set_option maxRecDepth 100000 in
set_option maxHeartbeats 2000000 in
theorem reach_any (F g B m : Nat) (A : Option Addr) (len cap : Nat) (es : List A4) (f : Nat → Int) (s : Nat) (w : World)
    (hF : FillAt w F g B (m : Int) A len cap es f) (hG : BigN (m : Int) es) (hM : MayP (netP (m : Int) es) f) (hs : s < m) :
    Calls Try.prog 38 #[.pointer (some ⟨F, 0, none⟩), .int .i64 s] w fun e w' => ∃ (M L : Nat) (T : Nat → St),
      e = .returned (.tuple #[.int .u32 M, .slice (some ⟨L, 0, none⟩) m m]) ∧ ReachE (netP (m : Int) es) f s M T ∧ LastAt w' L m T ∧ w.heap.size ≤ L ∧ Below w.heap.size w w' := by
  have HF := Lib.hid hF
  have HG := Lib.hid hG
  have HM := Lib.hid hM
  have c0 := hF.c0
  have hFlt := hF.lt
  have hm10 : m ≤ 20 := by have := hG.n1; omega
  have hs32 : (s : Int) < 32 := by omega
  have hmk := make_steps m hm10
  have hpm := pow_mod s (by have := Nat.pow_lt_pow_right (a := 2) (by decide) (show s < 20 by omega); omega)
  obtain ⟨Q, hQ0⟩ : ∃ Q : Nat, Q = 2 ^ s := ⟨_, rfl⟩
  rw [← hQ0] at hpm
  have hQ := Lib.hid hQ0
  clear hQ0
  clear hF hG hM
  refine (callsIn_wide (n := 10)).1 ?_
  refine callsIn_of_wp_marks Try.func38 rfl trivial ?_ rfl
  simp only [Try.ntmps38, List.size_toArray, List.length_cons, List.length_nil, Nat.reduceAdd, Nat.reduceSub, Array.replicate_succ, Array.replicate_zero, List.push_toArray, List.append_toArray, List.nil_append, List.cons_append]
  gi_wp2
  clear hmk hpm c0
  obtain ⟨W0, hW0⟩ : ∃ W0, ((((w.alloc (stepsObj m)).alloc (.cells #[.slice (some ⟨w.heap.size, 0, none⟩) m m] 67)).alloc (.cells #[.int .u32 (Q : Int)] 32)).alloc (.cells #[.int .u32 (Q : Int)] 32)) = W0 := ⟨_, rfl⟩
  rw [hW0]
  have HI0 : Hid (ReachW m w.heap.size (netP (m : Int) es) f s w Q Q zeroT [] W0) := by
    have hs1 : W0.heap.size = w.heap.size + 4 := by rw [← hW0]; simp
    have hpl : 2 ^ s < 1048576 := Nat.pow_lt_pow_right (a := 2) (n := 20) (m := s) (by decide) (by omega)
    have hb1 := (Below.refl (w.heap.size + 1) (w.alloc (stepsObj m))).alloc (by simp) (.cells #[.slice (some ⟨w.heap.size, 0, none⟩) m m] 67)
    refine ⟨?_, by omega, ?_, ?_, ?_, ?_, Marks.nil _ _, ?_, by have := hQ.out; omega, by have := hQ.out; omega⟩
    · rw [← hW0]
      exact ((((Below.refl _ _).alloc (Nat.le_refl _) _).alloc (by simp) _).alloc (by simp; omega) _).alloc (by simp; omega) _
    · rw [← hW0]
      refine (last_start m w).of_block ?_
      rw [Below.heap_alloc _ _ _ (by simp; omega), Below.heap_alloc _ _ _ (by simp; omega), Below.heap_alloc _ _ _ (by simp)]
    · rw [← hW0]
      have := ((Boxed.new (w.alloc (stepsObj m)) 67 (.slice (some ⟨w.heap.size, 0, none⟩) m m)).alloc (.cells #[.int .u32 (Q : Int)] 32)).alloc (.cells #[.int .u32 (Q : Int)] 32)
      rwa [World.size_alloc] at this
    · rw [← hW0]
      have := (Boxed.new ((w.alloc (stepsObj m)).alloc (.cells #[.slice (some ⟨w.heap.size, 0, none⟩) m m] 67)) 32 (.int .u32 (Q : Int))).alloc (.cells #[.int .u32 (Q : Int)] 32)
      rwa [World.size_alloc, World.size_alloc] at this
    · rw [← hW0]
      have := Boxed.new (((w.alloc (stepsObj m)).alloc (.cells #[.slice (some ⟨w.heap.size, 0, none⟩) m m] 67)).alloc (.cells #[.int .u32 (Q : Int)] 32)) 32 (.int .u32 (Q : Int))
      rwa [World.size_alloc, World.size_alloc, World.size_alloc] at this
    · rw [hQ.out]; exact LoopR.start _ (by simpa [netP] using hs)
  clear hW0
  refine wpIn_loop (fun a wr => ∃ (u9 u20 u21 u22 u23 u46 u47 u48 u49 : Value) (ds : List Deferred), Hid (∃ met layer T, ReachW m w.heap.size (netP (m : Int) es) f s w met layer T ds wr) ∧ a = { tmps := #[.pointer (some ⟨F, 0, none⟩), .int .i64 s, undef, undef, .int .u32 0, .slice none 0 0, .pointer (some ⟨w.heap.size + 1, 0, none⟩), .pointer (some ⟨w.heap.size + 1 + 1, 0, none⟩), .pointer (some ⟨w.heap.size + 1 + 1 + 1, 0, none⟩), u9, undef, .pointer (some ⟨F, 0, none⟩), .pointer (some ⟨F, 0, none⟩), .pointer (some ⟨F, 0, none⟩), .pointer (some ⟨F, 0, none⟩), .int .i64 m, .slice (some ⟨w.heap.size, 0, none⟩) m m, .int .i64 s, .int .u32 ((2 : Int) ^ s % 4294967296), .int .u32 (Q : Int), u20, u21, u22, u23, undef, undef, undef, undef, undef, undef, undef, undef, undef, undef, undef, undef, undef, undef, undef, undef, undef, undef, undef, undef, undef, undef, u46, u47, u48, u49, undef, undef], defers := ds }) (fun _ wr => measR wr w.heap.size) ⟨undef, undef, undef, undef, undef, undef, undef, undef, undef, [], Lib.hid ⟨_, _, _, HI0.out⟩, rfl⟩ ?round
  rintro a wr ⟨u9, u20, u21, u22, u23, u46, u47, u48, u49, ds, HI, rfl⟩
  obtain ⟨met, layer, T, HX⟩ : ∃ met layer T, Hid (ReachW m w.heap.size (netP (m : Int) es) f s w met layer T ds wr) := by
    obtain ⟨met, layer, T, h⟩ := HI.out
    exact ⟨met, layer, T, Lib.hid h⟩
  have k1 := HX.out.box1.cell
  have k2 := HX.out.box2.cell
  have k3 := HX.out.box3.cell
  have hlL := HX.out.llt
  have hlM := HX.out.mlt
  have hsz : w.heap.size + 4 ≤ wr.heap.size := HX.out.size
  have hm32 : m < 32 := by omega
  by_cases hl0 : layer = 0
  · subst hl0
    gi_wp2
    gi_region
    all_goals
      gi_wp2
      obtain ⟨Ds, rfl, hn, hm⟩ := HX.out.marks
      exact Marks.leaves (B := w.heap.size + 4) (fun w => results_tmp2 rfl _ _ w) Ds _ hn (fun D hD => hm D hD) (fun w' hb => ⟨met, w.heap.size, T, rfl, HX.out.loop.end_, HX.out.last.of_block (hb.block _ (by omega)), Nat.le_refl _, HX.out.below.drew.trans (hb.mono (by omega))⟩)
  · have hl1 : ((layer : Int) != 0) = true := by simp; omega
    gi_wp2
    obtain ⟨W0, hW0⟩ : ∃ W0, wr.alloc (.cells #[.int .u32 0] 32) = W0 := ⟨_, rfl⟩
    have hB0 : Below wr.heap.size wr W0 := by rw [← hW0]; exact (Below.refl _ _).alloc (Nat.le_refl _) _
    have hs0 : W0.heap.size = wr.heap.size + 1 := by rw [← hW0]; simp
    have HX0 := Lib.hid (HX.out.next hB0)
    have HN : Hid (RoundW (fun b => b = w.heap.size ∨ b = wr.heap.size) W0 w.heap.size wr.heap.size m (netP (m : Int) es) f s met layer [] W0) := Lib.hid ⟨But.refl _ _, 0, T, by rw [← hW0]; exact Boxed.new _ _ _, HX0.out.last, RoundR.start HX.out.loop⟩
    rw [hW0]
    clear hW0
    refine rangeAll (gf := 41) (recv := .pointer (some ⟨F, 0, none⟩)) rfl (enters_of Try.func41 (by kernel_rfl) rfl) encS (OkSt (netP (m : Int) es) f) (stepsTo (netP (m : Int) es) f len) (fun b => b = w.heap.size ∨ b = wr.heap.size) (fun b hb => by rcases hb with rfl | rfl <;> omega) rfl
      (RoundW (fun b => b = w.heap.size ∨ b = wr.heap.size) W0 w.heap.size wr.heap.size m (netP (m : Int) es) f s met layer) (fun pre W W' h _ hb => h.below (fun b hb => by rcases hb with rfl | rfl <;> omega) hb)
      (fun l J W hs hB hJ hY h0 => steps_any 8 F g B m A len cap es f l _ J W (HF.out.below (HX0.out.below.trans (hB.mono (by omega))) hFlt) HG.out HM.out (fun b hb => by rcases hb with rfl | rfl <;> omega) hJ hY h0)
      HN.out
      (fun x a' W => ∃ Bx, W0.heap.size ≤ Bx ∧ W.heap[Bx]? = some (.cells #[.int .i64 x.fr, .int .i64 x.to, .int .i64 x.arc, .int .i64 x.room, .int .i64 x.sign] 71 (0, 0)) ∧ a' = { tmps := #[.pointer (some ⟨F, 0, none⟩), .int .i64 s, undef, undef, .int .u32 0, .slice none 0 0, .pointer (some ⟨w.heap.size + 1, 0, none⟩), .pointer (some ⟨w.heap.size + 1 + 1, 0, none⟩), .pointer (some ⟨w.heap.size + 1 + 1 + 1, 0, none⟩), .pointer (some ⟨wr.heap.size, 0, none⟩), .pointer (some ⟨Bx, 0, none⟩), .pointer (some ⟨F, 0, none⟩), .pointer (some ⟨F, 0, none⟩), .pointer (some ⟨F, 0, none⟩), .pointer (some ⟨F, 0, none⟩), .int .i64 m, .slice (some ⟨w.heap.size, 0, none⟩) m m, .int .i64 s, .int .u32 ((2 : Int) ^ s % 4294967296), .int .u32 (Q : Int), .int .u32 (layer : Int), .bool true, .pointer (some ⟨F, 0, none⟩), .func (.func 41) #[.pointer (some ⟨F, 0, none⟩)] #[], encS x, undef, undef, undef, undef, undef, undef, undef, undef, undef, undef, undef, undef, undef, undef, undef, undef, undef, undef, undef, undef, undef, u46, u47, u48, u49, undef, undef], defers := [] })
      (fun x a' W l r o h hl => by
        obtain ⟨Bx, h1, h2, h3⟩ := h
        refine ⟨Bx, h1, ?_, h3⟩
        rw [World.putObj_heap_other (fun e => by rw [e, hl] at h2; cases h2)]
        exact h2)
      ?assign ?body ?done
    case assign =>
      intro l pre x W K hok hi hsW hK
      simp only [encS]
      gi_wp2
      exact hK _ _ ((But.refl _ _).alloc _) (hi.below (fun b hb => by rcases hb with rfl | rfl <;> omega) ((Below.refl _ _).alloc hsW _)) ⟨W.heap.size, hsW, World.alloc_heap_new _ _, rfl⟩
    case body =>
      rintro l pre x a' W hok hsW hi ⟨Bx, hBx, hcx, rfl⟩
      obtain ⟨hbut, nx, T', hb4, hlast, hR⟩ := hi
      obtain ⟨hxf, hxt, _⟩ := hok.lt (netP_ok HG.out)
      have HOK := Lib.hid hok
      obtain ⟨xf, xt, xa, xr, xs⟩ := x
      have hxf : xf < m := by simpa [netP] using hxf
      have hxt : xt < m := by simpa [netP] using hxt
      have hnS : ∀ b, b < W0.heap.size → b ≠ w.heap.size → b ≠ wr.heap.size → W.heap[b]? = W0.heap[b]? := fun b hb h1 h2 => hbut.block b hb (fun h => h.elim h1 h2)
      have b1 : Boxed W (w.heap.size + 1) 67 (.slice (some ⟨w.heap.size, 0, none⟩) m m) := (hnS _ (by omega) (by omega) (by omega)).trans HX0.out.box1
      have b2 : Boxed W (w.heap.size + 1 + 1) 32 (.int .u32 (layer : Int)) := (hnS _ (by omega) (by omega) (by omega)).trans HX0.out.box2
      have b3 : Boxed W (w.heap.size + 1 + 1 + 1) 32 (.int .u32 (met : Int)) := (hnS _ (by omega) (by omega) (by omega)).trans HX0.out.box3
      have q0 : W.cell? ⟨Bx, 0, none⟩ = some (.int .i64 xf) := by simp [World.cell?, hcx]
      have q1 : W.cell? ⟨Bx, 1, none⟩ = some (.int .i64 xt) := by simp [World.cell?, hcx]
      have q2 : W.cell? ⟨Bx, 2, none⟩ = some (.int .i64 xa) := by simp [World.cell?, hcx]
      have q3 : W.cell? ⟨Bx, 3, none⟩ = some (.int .i64 xr) := by simp [World.cell?, hcx]
      have q4 : W.cell? ⟨Bx, 4, none⟩ = some (.int .i64 xs) := by simp [World.cell?, hcx]
      have g1 := b1.cell
      have g2 := b2.cell
      have g3 := b3.cell
      have g4 := hb4.cell
      have gf4 := hb4.frozen
      have hlW : w.heap.size < W.heap.size := by omega
      have HB := Lib.hid hbut
      have HR := Lib.hid hR
      have HL := Lib.hid hlast
      have H4 := Lib.hid hb4
      have hnx : nx < 1048576 := Nat.lt_of_lt_of_le hR.lt (by rw [show 1048576 = 2 ^ 20 from rfl]; exact Nat.pow_le_pow_right (by decide) (by simpa [netP] using hm10))
      clear hbut hR hlast hb4 hok hnS b1 b2 b3 hcx
      cases hf : layer.testBit xf
      · have HF1 := Lib.hid hf
        clear hf
        gi_wp2_with fail
        refine ⟨trivial, ?_⟩
        refine (CallsIn.inRound l (callsIn_wide.2 (hasNode_any layer xf false (by omega) (by omega) HF1.out _))).mono ?_
        rintro e w' ⟨rfl, rfl⟩
        gi_wp2_with fail
        refine ⟨trivial, ?_⟩
        gi_wp2
        exact ⟨But.refl _ _, HB.out, nx, T', H4.out, HL.out, HR.out.skip (.inl HF1.out)⟩
      · have HF1 := Lib.hid hf
        clear hf
        cases ht : met.testBit xt
        · have HF2 := Lib.hid ht
          clear ht
          gi_wp2_with fail
          refine ⟨trivial, ?_⟩
          refine (CallsIn.inRound l (callsIn_wide.2 (hasNode_any layer xf true (by omega) (by omega) HF1.out _))).mono ?_
          rintro e w' ⟨rfl, rfl⟩
          gi_wp2_with fail
          refine ⟨trivial, ?_⟩
          refine (CallsIn.inRound l (callsIn_wide.2 (hasNode_any met xt false (by omega) (by omega) HF2.out _))).mono ?_
          rintro e w' ⟨rfl, rfl⟩
          have hpl : 2 ^ xt < 1048576 := Nat.pow_lt_pow_right (a := 2) (n := 20) (m := xt) (by decide) (by omega)
          have hpx := pow_mod xt (by omega)
          have hpw : IntKind.u32.wrap ((2 : Int) ^ xt) = ((2 ^ xt : Nat) : Int) := by rw [wrap_u32n, hpx]
          obtain ⟨p, hp0⟩ : ∃ p : Nat, p = 2 ^ xt := ⟨_, rfl⟩
          rw [← hp0] at hpx hpl hpw
          have HP := Lib.hid hp0
          clear hp0
          have hxt32 : (xt : Int) < 32 := by omega
          have hor := or_u32 nx p (by omega) (by omega)
          obtain ⟨⟨y0, y1, y2, y3, y4⟩, z0, z1, z2, z3, z4⟩ := HL.out.cells hxt
          have hne : w.heap.size ≠ wr.heap.size := by omega
          have hfo : Try.prog.follows .mixedOrders = true := by kernel_rfl
          gi_wp2_with fail
          gi_region_with_o fail
          all_goals
            gi_wp2
            have hE : But (fun b => b = w.heap.size ∨ b = wr.heap.size) w' (putS (w'.setCell ⟨wr.heap.size, 0, none⟩ (.int .u32 ((nx ||| p : Nat) : Int))) w.heap.size xt ⟨xf, xt, xa, xr, xs⟩).drew := (((But.refl _ _).set_ (p := ⟨wr.heap.size, 0, none⟩) (.inr rfl) _).putS (.inl rfl) xt ⟨xf, xt, xa, xr, xs⟩).drew
            have hE4 : Boxed (putS (w'.setCell ⟨wr.heap.size, 0, none⟩ (.int .u32 ((nx ||| p : Nat) : Int))) w.heap.size xt ⟨xf, xt, xa, xr, xs⟩).drew wr.heap.size 32 (.int .u32 ((nx ||| p : Nat) : Int)) := boxed_drew (boxed_putS (H4.out.set _) (fun e => hne e.symm) _ _)
            have hEL : LastAt (putS (w'.setCell ⟨wr.heap.size, 0, none⟩ (.int .u32 ((nx ||| p : Nat) : Int))) w.heap.size xt ⟨xf, xt, xa, xr, xs⟩).drew w.heap.size m (updT T' xt ⟨xf, xt, xa, xr, xs⟩) := ((HL.out.of_block (Below.heap_setCell _ _ _ _ hne)).put hxt _).drew
            have hER : RoundR (netP (m : Int) es) f s met layer (pre ++ [⟨xf, xt, xa, xr, xs⟩]) (nx ||| p) (updT T' xt ⟨xf, xt, xa, xr, xs⟩) := by rw [HP.out]; exact HR.out.take (netP_ok HG.out) HOK.out HF1.out HF2.out
            exact ⟨hE, HB.out.trans hE, nx ||| p, _, hE4, hEL, hER⟩
        · have HF2 := Lib.hid ht
          clear ht
          gi_wp2_with fail
          refine ⟨trivial, ?_⟩
          refine (CallsIn.inRound l (callsIn_wide.2 (hasNode_any layer xf true (by omega) (by omega) HF1.out _))).mono ?_
          rintro e w' ⟨rfl, rfl⟩
          gi_wp2_with fail
          refine ⟨trivial, ?_⟩
          refine (CallsIn.inRound l (callsIn_wide.2 (hasNode_any met xt true (by omega) (by omega) HF2.out _))).mono ?_
          rintro e w' ⟨rfl, rfl⟩
          gi_wp2_with fail
          exact ⟨But.refl _ _, HB.out, nx, T', H4.out, HL.out, HR.out.skip (.inr HF2.out)⟩
    case done =>
      rintro D W hD ⟨hbut, nx, T', hb4, hlast, hR⟩ hK
      have hnx : nx < 1048576 := Nat.lt_of_lt_of_le hR.lt (by rw [show 1048576 = 2 ^ 20 from rfl]; exact Nat.pow_le_pow_right (by decide) (by simpa [netP] using hm10))
      have hsW := hbut.size
      have hnS : ∀ b, b < W0.heap.size → b ≠ w.heap.size → b ≠ wr.heap.size → W.heap[b]? = W0.heap[b]? := fun b hb h1 h2 => hbut.block b hb (fun h => h.elim h1 h2)
      have b1 : Boxed W (w.heap.size + 1) 67 (.slice (some ⟨w.heap.size, 0, none⟩) m m) := (hnS _ (by omega) (by omega) (by omega)).trans HX0.out.box1
      have b2 : Boxed W (w.heap.size + 1 + 1) 32 (.int .u32 (layer : Int)) := (hnS _ (by omega) (by omega) (by omega)).trans HX0.out.box2
      have b3 : Boxed W (w.heap.size + 1 + 1 + 1) 32 (.int .u32 (met : Int)) := (hnS _ (by omega) (by omega) (by omega)).trans HX0.out.box3
      have g2 := b2.cell
      have g3 := b3.cell
      have g4 := hb4.cell
      have f2 := b2.frozen
      have f3 := b3.frozen
      have hor := or_u32 met nx (by omega) (by omega)
      have HB := Lib.hid hbut
      have HR := Lib.hid hR
      have HL := Lib.hid hlast
      have H1 := Lib.hid b1
      have H2 := Lib.hid b2
      have H3 := Lib.hid b3
      have H4 := Lib.hid hb4
      have HK := Lib.hid hK
      have HD := Lib.hid hD
      have HnS := Lib.hid hnS
      have hne2 : wr.heap.size ≠ w.heap.size + 1 + 1 + 1 := by omega
      have hne3 : wr.heap.size ≠ w.heap.size + 1 + 1 := by omega
      clear hbut hR hlast hb4 hK hD hnS b1 b2 b3
      gi_wp2
      have hB0' : Below w.heap.size w W := HX0.out.below.trans (HB.out.below (by omega) (fun b hb => by rcases hb with rfl | rfl <;> omega))
      have hfar : ∀ b, b ≠ w.heap.size + 1 + 1 → b ≠ w.heap.size + 1 + 1 + 1 → ((W.setCell ⟨w.heap.size + 1 + 1 + 1, 0, none⟩ (.int .u32 ((met ||| nx : Nat) : Int))).setCell ⟨w.heap.size + 1 + 1, 0, none⟩ (.int .u32 (nx : Int))).heap[b]? = W.heap[b]? := fun b h2 h3 =>
        (Below.heap_setCell _ _ _ _ h2).trans (Below.heap_setCell _ _ _ _ h3)
      have hX3 : Boxed ((W.setCell ⟨w.heap.size + 1 + 1 + 1, 0, none⟩ (.int .u32 ((met ||| nx : Nat) : Int))).setCell ⟨w.heap.size + 1 + 1, 0, none⟩ (.int .u32 (nx : Int))) (w.heap.size + 1 + 1 + 1) 32 (.int .u32 ((met ||| nx : Nat) : Int)) := boxed_far (H3.out.set _) (by simp) _
      have hX2 : Boxed ((W.setCell ⟨w.heap.size + 1 + 1 + 1, 0, none⟩ (.int .u32 ((met ||| nx : Nat) : Int))).setCell ⟨w.heap.size + 1 + 1, 0, none⟩ (.int .u32 (nx : Int))) (w.heap.size + 1 + 1) 32 (.int .u32 (nx : Int)) := Boxed.set _ (boxed_far H2.out (by simp) _)
      have hX1 : Boxed ((W.setCell ⟨w.heap.size + 1 + 1 + 1, 0, none⟩ (.int .u32 ((met ||| nx : Nat) : Int))).setCell ⟨w.heap.size + 1 + 1, 0, none⟩ (.int .u32 (nx : Int))) (w.heap.size + 1) 67 (.slice (some ⟨w.heap.size, 0, none⟩) m m) := (hfar _ (by omega) (by omega)).trans H1.out
      have hXL : LastAt ((W.setCell ⟨w.heap.size + 1 + 1 + 1, 0, none⟩ (.int .u32 ((met ||| nx : Nat) : Int))).setCell ⟨w.heap.size + 1 + 1, 0, none⟩ (.int .u32 (nx : Int))) w.heap.size m T' := HL.out.of_block (hfar _ (by omega) (by omega))
      have hlen : len = (netP (m : Int) es).K := HF.out.arcs.1.symm
      have hRd : LoopR (netP (m : Int) es) f s (met ||| nx) nx T' := by
        have h := HR.out
        rw [hlen] at h
        exact h.done
      have hM : Marks (w.heap.size + 4) ((W.setCell ⟨w.heap.size + 1 + 1 + 1, 0, none⟩ (.int .u32 ((met ||| nx : Nat) : Int))).setCell ⟨w.heap.size + 1 + 1, 0, none⟩ (.int .u32 (nx : Int))) ({ target := .collected D, args := #[] } :: ds) :=
        HX.out.marks.cons (fun b h1 h2 => (hfar _ (by omega) (by omega)).trans ((HnS.out _ (by omega) (by omega) (by omega)).trans (hB0.block _ h2))) hsz (by have := HD.out; omega) ((hfar _ (by have := HD.out; omega) (by have := HD.out; omega)).trans HK.out)
      refine ⟨⟨_, _, _, _, _, _, _, _, _, _, Lib.hid ⟨met ||| nx, nx, T', ⟨(hB0'.setCell (p := ⟨w.heap.size + 1 + 1 + 1, 0, none⟩) (by simp; omega) _).setCell (p := ⟨w.heap.size + 1 + 1, 0, none⟩) (by simp; omega) _, by simp; omega, hXL, hX1, hX2, hX3, hM, hRd, hnx, Nat.or_lt_two_pow (n := 20) hlM hnx⟩⟩, rfl⟩, ?_⟩
      unfold measR
      rw [wordAt_box hX3, wordAt_box hX2, wordAt_box HX.out.box3, wordAt_box HX.out.box2, if_neg hl0]
      by_cases h0 : nx = 0
      · subst h0
        simp
      · rw [if_neg h0]
        have hgt := or_gt h0 HR.out.new
        omega
end Go.Proofs.Ytmlmnmphmghdlaa
