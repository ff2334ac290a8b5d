/- A range over a closure whose rounds all go on, and slices.Backward of a row of integers: from its last to its first. -/
import Derived.Test.YthjhndbhebnmjaaRangeAll
import Derived.Test.YthjhndbhebnmjaaRefOrder
namespace Go.Proofs.Ythjhndbhebnmjaa
open Go.RowKit Go.Shelf
attribute [local go_sem] Oper.semAt_some

theorem rangeCap {α : Type} {P : Program} {n : Nat} {g : Operand} {ps : Array Tmp} {assign body : Code} {Q : Exit → Act → World → Prop} {a : Act} {w : World} {gf : Nat} {lb : Array Value}
    (hg : a.eval g = .func (.func gf) #[] lb) (eg : ∀ args w, (callFunc gf args).run P w = .ok (.enter gf args) w)
    (enc : α → Array Value) (ok : List α → α → Prop) (xs : List α) (S : Nat → Prop) (hS : ∀ b, S b → b < w.heap.size) (hps : ∀ x, ps.size = (enc x).size)
    (I : List α → World → Prop) (hI : ∀ pre W W', I pre W → w.heap.size ≤ W.heap.size → Below w.heap.size W W' → I pre W')
    (hseq : ∀ (l : Nat) (J : List α → World → Prop) (W : World), w.heap.size ≤ W.heap.size → Below w.heap.size w W → (∀ pre W W', J pre W → Below W.heap.size W W' → J pre W') →
      (∀ pre x W1, ok pre x → J pre W1 → YieldAt Fence.wide (n - 1 - 1) P l (enc x) W1 fun e W' => e = .returned (.bool true) ∧ J (pre ++ [x]) W' ∧ But S W1 W') → J [] W →
      CallsIn Fence.wide (n - 1) P gf (#[.func (.yield l) #[] #[]] ++ lb) W fun e W' => (∃ v, e = .returned v) ∧ J xs W')
    (h0 : I [] w) (Ax : α → Act → World → Prop) (hAx : ∀ x a' W l r o, Ax x a' W → W.heap[l]? = some (.loop r) → Ax x a' (W.putObj l o))
    (hassign : ∀ (l : Nat) (pre : List α) (x : α) (W : World) (K : Act → World → Prop), ok pre x → I pre W → w.heap.size ≤ W.heap.size → (∀ a' W', But S W W' → I pre W' → Ax x a' W' → K a' W') →
      assign.wpIn (Fence.wide.inRound l) (n - 1 - 1) P (Exit.then K (fun _ _ _ => False)) { tmps := (ps.zip (enc x)).foldl (fun t (p, v) => t.setIfInBounds p v) a.tmps, defers := [] } W)
    (hbody : ∀ (l : Nat) (pre : List α) (x : α) (a' : Act) (W : World), ok pre x → w.heap.size ≤ W.heap.size → I pre W → Ax x a' W → body.wpIn (Fence.wide.inRound l) (n - 1 - 1) P (roundB S I (pre ++ [x]) W) a' W)
    (hdone : ∀ (D : Nat) (W : World), w.heap.size ≤ D → I xs W → W.heap[D]? = some (.deferred (some [])) → Q .normal { a with defers := { target := .collected D, args := #[] } :: a.defers } W) :
    (Code.rangeFunc g ps assign body).wpIn Fence.wide n P Q a w := by
  refine wpIn_rangeFunc ?_
  intro fn hfn
  obtain ⟨rec, hrec⟩ : ∃ rec : LoopState → Loop, rec = fun st => { state := st, pending := none, fn, tmps := a.tmps, params := ps, assign, body, defers := w.heap.size } := ⟨_, rfl⟩
  obtain ⟨W1, hW1⟩ : ∃ W1, (w.alloc (.deferred (some []))).alloc (.loop (rec .ready)) = W1 := ⟨_, rfl⟩
  have hb1 : Below w.heap.size w W1 := by rw [← hW1]; exact ((Below.refl _ _).alloc (Nat.le_refl _) _).alloc (by simp) _
  have hsz1 : W1.heap.size = w.heap.size + 2 := by rw [← hW1]; simp
  have hL1 : W1.heap[w.heap.size + 1]? = some (.loop (rec .ready)) := by
    rw [← hW1]; have := World.alloc_heap_new (w.alloc (.deferred (some []))) (.loop (rec .ready)); rwa [World.size_alloc] at this
  have hK1 : W1.heap[w.heap.size]? = some (.deferred (some [])) := by
    rw [← hW1]; exact (Below.heap_alloc _ _ _ (by simp)).trans (World.alloc_heap_new w _)
  refine ⟨w.heap.size + 1, [{ target := .collected w.heap.size, args := #[] }], W1, { target := .fn (.func gf) lb, args := #[.func (.yield (w.heap.size + 1)) #[] #[]] }, W1, gf,
    #[.func (.yield (w.heap.size + 1)) #[] #[]] ++ lb, W1, ?_, ?_, ?_, ?_, fun h => by simp [Fence.wide] at h, ?_⟩
  · rw [← hW1, hrec]; exact run_enterLoop_outer _ _ _ _ _
  · simp only [resolve, hg]
    simp [go_sem]
  · intro f' _; trivial
  · simp [invoke, go_sem, eg]
  · refine (hseq (w.heap.size + 1) (fun pre W => (I pre W ∧ w.heap.size + 2 ≤ W.heap.size) ∧ W.heap[w.heap.size + 1]? = some (.loop (rec .ready)) ∧ W.heap[w.heap.size]? = some (.deferred (some []))) W1 (by omega) hb1 ?_ ?_ ?_).mono ?_
    · rintro pre W W' ⟨⟨hi, hs⟩, hl, hk⟩ hb
      exact ⟨⟨hI pre W W' hi (by omega) (hb.mono (by omega)), Nat.le_trans hs hb.size⟩, (hb.block _ (by omega)).trans hl, (hb.block _ (by omega)).trans hk⟩
    · rintro pre x W hok ⟨⟨hi, hs⟩, hl, hk⟩
      have hy := run_yield (P := P) (args := (enc x)) hl (by rw [hrec]; exact (hps x).symm)
      rw [hrec] at hy
      refine ⟨fn, _, assign, body, hy, roundIn_of_wpIn hfn (hassign _ pre x W _ hok hi (by omega) ?_)⟩
      clear hy
      intro a' Wa hka hia hax
      have hns1 : ¬ S (w.heap.size + 1) := fun h => by have := hS _ h; omega
      have hns0 : ¬ S w.heap.size := fun h => by have := hS _ h; omega
      have hla : Wa.heap[w.heap.size + 1]? = some (.loop (rec .ready)) := (hka.block _ (by omega) hns1).trans hl
      have hsa := hka.size
      refine ⟨_, run_beginRound hla (by rw [hrec]), ?_⟩
      obtain ⟨Wb, hWb⟩ : ∃ Wb, Wa.putObj (w.heap.size + 1) (.loop { rec .ready with state := .busy }) = Wb := ⟨_, rfl⟩
      have hlb : Wb.heap[w.heap.size + 1]? = some (.loop { rec .ready with state := .busy }) := by rw [← hWb]; exact World.putObj_heap_same (by omega)
      have hsb : Wb.heap.size = Wa.heap.size := by rw [← hWb]; simp
      have hbb : ∀ k, k ≠ w.heap.size + 1 → Wb.heap[k]? = Wa.heap[k]? := fun k hk => by rw [← hWb]; exact World.putObj_heap_other hk
      have hib : I pre Wb := by rw [← hWb]; exact hI pre Wa _ hia (by omega) ((below_put _ _ _).mono (by omega))
      have haxb : Ax x a' Wb := by rw [← hWb]; exact hAx _ _ _ _ _ _ hax hla
      have hob : Wb.os = Wa.os ∧ Wb.tape = Wa.tape ∧ Wb.output = Wa.output := by rw [← hWb]; exact ⟨rfl, rfl, rfl⟩
      rw [hWb]
      refine wpIn_mono (hbody (w.heap.size + 1) pre x a' Wb hok (by omega) hib haxb) ?_
      rintro e a3 W3 hp
      cases e with
      | normal =>
        obtain ⟨hk3, hi3⟩ := hp
        have hs3 := hk3.size
        have hl3 : W3.heap[w.heap.size + 1]? = some (.loop { rec .ready with state := .busy }) := (hk3.block _ (by omega) hns1).trans hlb
        have hr := run_endRound (P := P) none hl3
        have he : ({ { rec .ready with state := .busy } with state := if (none : Option Code).isNone then LoopState.ready else .done, pending := none } : Loop) = rec .ready := by rw [hrec]; rfl
        rw [he] at hr
        refine ⟨_, _, hr, rfl, ⟨⟨hI _ W3 _ hi3 (by omega) ((below_put _ _ _).mono (by omega)), by simp; omega⟩, World.putObj_heap_same (by omega), ?_⟩, ?_⟩
        · rw [World.putObj_heap_other (by omega), hk3.block _ (by omega) hns0, hbb _ (by omega), hka.block _ (by omega) hns0]; exact hk
        · refine ⟨hk3.os.trans (hob.1.trans hka.os), hk3.tape.trans (hob.2.1.trans hka.tape), hk3.output.trans (hob.2.2.trans hka.output), by simp; omega, fun b hb hnb => ?_⟩
          by_cases hbl : b = w.heap.size + 1
          · subst hbl
            rw [World.putObj_heap_same (by omega), hl]
          · rw [World.putObj_heap_other hbl, hk3.block _ (by omega) hnb, hbb _ hbl, hka.block _ hb hnb]
      | ret => exact hp.elim
      | exit id => exact hp.elim
      | goto t => exact hp.elim
      | panic ch => exact hp.elim
      | outgrown => exact hp.elim
    · exact ⟨⟨hI [] w W1 h0 (Nat.le_refl _) hb1, by omega⟩, hL1, hK1⟩
    · rintro e W2 ⟨⟨v, rfl⟩, ⟨hi, hs⟩, hl, hk⟩
      refine ⟨none, _, by have := run_endLoop (P := P) hl (by rw [hrec]; simp); rw [hrec] at this; exact this, ?_⟩
      exact hdone _ _ (Nat.le_refl _) (hI _ W2 _ hi (by omega) ((below_put _ _ _).mono (by omega))) ((World.putObj_heap_other (by omega)).trans hk)

/-- The places from the last one of n down to i. -/
def downTo (n i : Nat) : List Nat := (List.range' i (n - i)).reverse
theorem downTo_all (n : Nat) : downTo n n = [] := by unfold downTo; rw [Nat.sub_self]; rfl
theorem downTo_next {n i : Nat} (h : i < n) : downTo n i = downTo n (i + 1) ++ [i] := by
  unfold downTo
  rw [show n - i = (n - (i + 1)) + 1 by omega, List.range'_succ, List.reverse_cons]
def encD (xs : List Int) (i : Nat) : Array Value := #[.int .i64 (i : Int), .int .i64 (xs.getD i 0)]
set_option maxRecDepth 100000 in
set_option maxHeartbeats 1000000 in
theorem backward_any (m n c Bs B : Nat) (A : Option Addr) (xs : List Int) (l : Nat) (S : Nat → Prop) (J : List Nat → World → Prop) (w : World) (hn : n ≤ 1000000)
    (hc : w.cell? ⟨Bs, 0, none⟩ = some (.slice A n c)) (hlt : Bs < w.heap.size) (hBs : ¬ S Bs) (hA : IntsAt w B A n xs) (hB : B ≤ w.heap.size) (hS : ∀ b, S b → B ≤ b)
    (hY : ∀ pre x W1, (x < n ∧ pre = downTo n (x + 1)) → J pre W1 → YieldAt Fence.wide m Try.prog l (encD xs x) W1 fun e W' => e = .returned (.bool true) ∧ J (pre ++ [x]) W' ∧ But S W1 W')
    (h0 : J [] w) :
    CallsIn Fence.wide (m + 1) Try.prog 31 #[.func (.yield l) #[] #[], .pointer (some ⟨Bs, 0, none⟩)] w fun e W' => (∃ v, e = .returned v) ∧ J (downTo n 0) W' := by
  have HC := Lib.hid hc
  have HA := Lib.hid hA
  have HS := Lib.hid hS
  have HY := Lib.hid hY
  have H0 := Lib.hid h0
  have HBs := Lib.hid hBs
  have hw0 : IntKind.i64.wrap ((n : Int) - 1) = (n : Int) - 1 := IntWalk.i64_in _ (by omega)
  clear hA hS hY h0 hBs
  refine callsIn_of_wp Try.func31 rfl trivial ?_ rfl
  simp only [Try.ntmps31, List.size_toArray, List.length_cons, List.length_nil, Nat.reduceAdd, Nat.reduceSub, Array.replicate_succ, Array.replicate_zero, List.push_toArray, List.append_toArray, List.nil_append, List.cons_append]
  gi_wp2
  clear hc
  gi_loopw [3] (fun y wr => ∃ i : Nat, i ≤ n ∧ y = .int .i64 (prevI i) ∧ Hid (J (downTo n i) wr) ∧ Hid (But S w wr)) (fun y _ => (intOf y + 1).toNat)
  case atStart => exact ⟨n, Nat.le_refl _, by rw [← prevI_sub], by rw [downTo_all]; exact H0, Lib.hid (But.refl _ _)⟩
  case round =>
    obtain ⟨i, hi, rfl, HJ, HB⟩ := hrel
    cases i with
    | zero =>
      rw [show prevI 0 = -1 from rfl]
      gi_wp2
      go_end0
      exact ⟨⟨_, rfl⟩, HJ.out⟩
    | succ i =>
      rw [show prevI (i + 1) = (i : Int) from rfl]
      have hcr : wr.cell? ⟨Bs, 0, none⟩ = some (.slice A n c) := (World.cell?_of_block (w := w) (HB.out.block Bs hlt HBs.out)).trans HC.out
      obtain ⟨b, off, x, rfl, hb, hx, hcx⟩ := HA.out.at_ (show i < n by omega)
      have hcw : wr.cell? ⟨b, off + i, none⟩ = some (.int .i64 x) := (World.cell?_of_block (w := w) (HB.out.block b (by omega) (fun h => by have := HS.out b h; omega))).trans hcx
      have HX : Hid (xs.getD i 0 = x) := Lib.hid (by rw [List.getD_eq_getElem?_getD, hx]; rfl)
      have hiw : IntKind.i64.wrap ((i : Int) - 1) = (i : Int) - 1 := IntWalk.i64_in _ (by omega)
      have ii0 : (0 : Int) ≤ (i : Int) := by omega
      have ii1 : (i : Int) < (n : Int) := by omega
      obtain ⟨fn, tmps, assign, body, hy, hR⟩ := HY.out (downTo n (i + 1)) i wr ⟨by omega, rfl⟩ HJ.out
      simp only [encD] at hy
      rw [HX.out] at hy
      clear hx hcx
      gi_wp2
      refine hR.mono ?_
      clear hy hR
      rintro e W2 ⟨rfl, hJ2, hk2⟩
      have HJ2 : Hid (J (downTo n i) W2) := Lib.hid (by rw [downTo_next (by omega)]; exact hJ2)
      have HB2 : Hid (But S w W2) := Lib.hid (HB.out.trans hk2)
      clear hJ2 hk2
      gi_wp2
      go_roundw
      case rel => exact ⟨i, by omega, by rw [← prevI_sub], HJ2, HB2⟩
      case measure => simp [intOf]
end Go.Proofs.Ythjhndbhebnmjaa
