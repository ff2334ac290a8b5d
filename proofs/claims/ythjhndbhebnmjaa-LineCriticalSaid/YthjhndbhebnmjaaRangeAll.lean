/- A range over a method value whose rounds all go on: one law, of no function of the program. -/
import Derived.Test.YthjhndbhebnmjaaMem
import Derived.RangeFuncNested
import Derived.RangeFuncCalls
import Derived.RangeFuncLeaves
import Derived.Shelf.Abstract
import Derived.Shelf.RegionOpen
import Derived.OwnWalkIn
import Derived.TacticsInMore
import Derived.LoopNIn
import Derived.LoopIn
namespace Go.Proofs.Ythjhndbhebnmjaa
open Go.RowKit

/-- All that lay lies as it lay, but for some blocks. -/
structure But (S : Nat → Prop) (W W' : World) : Prop where
  os : W'.os = W.os
  tape : W'.tape = W.tape
  output : W'.output = W.output
  size : W.heap.size ≤ W'.heap.size
  block : ∀ b, b < W.heap.size → ¬ S b → W'.heap[b]? = W.heap[b]?
section
variable {S : Nat → Prop} {W W' W'' : World}
theorem But.refl (S : Nat → Prop) (W : World) : But S W W := ⟨rfl, rfl, rfl, Nat.le_refl _, fun _ _ _ => rfl⟩
theorem But.trans (h : But S W W') (k : But S W' W'') : But S W W'' :=
  ⟨k.os.trans h.os, k.tape.trans h.tape, k.output.trans h.output, Nat.le_trans h.size k.size, fun b hb hs => (k.block b (Nat.lt_of_lt_of_le hb h.size) hs).trans (h.block b hb hs)⟩
theorem But.of_below (h : Below W.heap.size W W') : But S W W' := ⟨h.os, h.tape, h.output, h.size, fun b hb _ => h.block b hb⟩
theorem But.alloc (h : But S W W') (o : Obj) : But S W (W'.alloc o) := h.trans (.of_below ((Below.refl _ _).alloc (Nat.le_refl _) o))
theorem But.below {B : Nat} (h : But S W W') (hB : B ≤ W.heap.size) (hS : ∀ b, S b → B ≤ b) : Below B W W' :=
  ⟨h.os, h.tape, h.output, h.size, fun b hb => h.block b (by omega) fun hs => by have := hS b hs; omega⟩
theorem But.set_ (h : But S W W') {p : Addr} (hp : S p.block) (v : Value) : But S W (W'.setCell p v) :=
  ⟨h.os, h.tape, h.output, by simpa using h.size, fun b hb hs => (Below.heap_setCell W' p v b fun e => hs (e ▸ hp)).trans (h.block b hb hs)⟩
theorem But.drew (h : But S W W') : But S W W'.drew := ⟨h.os, h.tape, h.output, h.size, h.block⟩
end
theorem below_put (W : World) (l : Nat) (o : Obj) : Below l W (W.putObj l o) :=
  ⟨rfl, rfl, rfl, by simp, fun k hk => World.putObj_heap_other (by omega)⟩

def roundB {α : Type} (S : Nat → Prop) (I : List α → World → Prop) (xs : List α) (W : World) : Exit → Act → World → Prop
  | .normal, _, W' => But S W W' ∧ I xs W'
  | _, _, _ => False

theorem rangeAll {α : Type} {P : Program} {n : Nat} {g : Operand} {ps : Array Tmp} {assign body : Code} {Q : Exit → Act → World → Prop} {a : Act} {w : World} {gf : Nat} {recv : Value}
    (hg : a.eval g = .func (.func gf) #[recv] #[]) (eg : ∀ args w, (callFunc gf args).run P w = .ok (.enter gf args) w)
    (enc : α → Value) (ok : α → Prop) (xs : List α) (S : Nat → Prop) (hS : ∀ b, S b → b < w.heap.size) (hps : ps.size = 1)
    (I : List α → World → Prop) (hI : ∀ pre W W', I pre W → w.heap.size ≤ W.heap.size → Below w.heap.size W W' → I pre W')
    (hseq : ∀ (l : Nat) (J : List α → World → Prop) (W : World), w.heap.size ≤ W.heap.size → Below w.heap.size w W → (∀ pre W W', J pre W → Below W.heap.size W W' → J pre W') →
      (∀ pre x W1, ok x → J pre W1 → YieldAt Fence.wide (n - 1 - 1) P l #[enc x] W1 fun e W' => e = .returned (.bool true) ∧ J (pre ++ [x]) W' ∧ But S W1 W') → J [] W →
      CallsIn Fence.wide (n - 1) P gf #[recv, .func (.yield l) #[] #[]] W fun e W' => (∃ v, e = .returned v) ∧ J xs W')
    (h0 : I [] w) (Ax : α → Act → World → Prop) (hAx : ∀ x a' W l r o, Ax x a' W → W.heap[l]? = some (.loop r) → Ax x a' (W.putObj l o))
    (hassign : ∀ (l : Nat) (pre : List α) (x : α) (W : World) (K : Act → World → Prop), ok x → I pre W → w.heap.size ≤ W.heap.size → (∀ a' W', But S W W' → I pre W' → Ax x a' W' → K a' W') →
      assign.wpIn (Fence.wide.inRound l) (n - 1 - 1) P (Exit.then K (fun _ _ _ => False)) { tmps := (ps.zip #[enc x]).foldl (fun t (p, v) => t.setIfInBounds p v) a.tmps, defers := [] } W)
    (hbody : ∀ (l : Nat) (pre : List α) (x : α) (a' : Act) (W : World), ok x → w.heap.size ≤ W.heap.size → I pre W → Ax x a' W → body.wpIn (Fence.wide.inRound l) (n - 1 - 1) P (roundB S I (pre ++ [x]) W) a' W)
    (hdone : ∀ (D : Nat) (W : World), w.heap.size ≤ D → I xs W → W.heap[D]? = some (.deferred (some [])) → Q .normal { a with defers := { target := .collected D, args := #[] } :: a.defers } W) :
    (Code.rangeFunc g ps assign body).wpIn Fence.wide n P Q a w := by
  refine wpIn_rangeFunc ?_
  intro fn hfn
  obtain ⟨rec, hrec⟩ : ∃ rec : LoopState → Loop, rec = fun st => { state := st, pending := none, fn, tmps := a.tmps, params := ps, assign, body, defers := w.heap.size } := ⟨_, rfl⟩
  obtain ⟨W1, hW1⟩ : ∃ W1, (w.alloc (.deferred (some []))).alloc (.loop (rec .ready)) = W1 := ⟨_, rfl⟩
  have hb1 : Below w.heap.size w W1 := by rw [← hW1]; exact ((Below.refl _ _).alloc (Nat.le_refl _) _).alloc (by simp) _
  have hsz1 : W1.heap.size = w.heap.size + 2 := by rw [← hW1]; simp
  have hL1 : W1.heap[w.heap.size + 1]? = some (.loop (rec .ready)) := by
    rw [← hW1]; have := World.alloc_heap_new (w.alloc (.deferred (some []))) (.loop (rec .ready)); rwa [World.size_alloc] at this
  have hK1 : W1.heap[w.heap.size]? = some (.deferred (some [])) := by
    rw [← hW1]; exact (Below.heap_alloc _ _ _ (by simp)).trans (World.alloc_heap_new w _)
  refine ⟨w.heap.size + 1, [{ target := .collected w.heap.size, args := #[] }], W1, { target := .fn (.func gf) #[], args := #[recv, .func (.yield (w.heap.size + 1)) #[] #[]] }, W1, gf,
    #[recv, .func (.yield (w.heap.size + 1)) #[] #[]], W1, ?_, ?_, ?_, ?_, fun h => by simp [Fence.wide] at h, ?_⟩
  · rw [← hW1, hrec]; exact run_enterLoop_outer _ _ _ _ _
  · simp only [resolve, hg]
    simp [go_sem]
  · intro f' _; trivial
  · simp [invoke, go_sem, eg]
  · refine (hseq (w.heap.size + 1) (fun pre W => (I pre W ∧ w.heap.size + 2 ≤ W.heap.size) ∧ W.heap[w.heap.size + 1]? = some (.loop (rec .ready)) ∧ W.heap[w.heap.size]? = some (.deferred (some []))) W1 (by omega) hb1 ?_ ?_ ?_).mono ?_
    · rintro pre W W' ⟨⟨hi, hs⟩, hl, hk⟩ hb
      exact ⟨⟨hI pre W W' hi (by omega) (hb.mono (by omega)), Nat.le_trans hs hb.size⟩, (hb.block _ (by omega)).trans hl, (hb.block _ (by omega)).trans hk⟩
    · rintro pre x W hok ⟨⟨hi, hs⟩, hl, hk⟩
      have hy := run_yield (P := P) (args := #[enc x]) hl (by rw [hrec]; simp [hps])
      rw [hrec] at hy
      refine ⟨fn, _, assign, body, hy, roundIn_of_wpIn hfn (hassign _ pre x W _ hok hi (by omega) ?_)⟩
      clear hy
      intro a' Wa hka hia hax
      have hns1 : ¬ S (w.heap.size + 1) := fun h => by have := hS _ h; omega
      have hns0 : ¬ S w.heap.size := fun h => by have := hS _ h; omega
      have hla : Wa.heap[w.heap.size + 1]? = some (.loop (rec .ready)) := (hka.block _ (by omega) hns1).trans hl
      have hsa := hka.size
      refine ⟨_, run_beginRound hla (by rw [hrec]), ?_⟩
      obtain ⟨Wb, hWb⟩ : ∃ Wb, Wa.putObj (w.heap.size + 1) (.loop { rec .ready with state := .busy }) = Wb := ⟨_, rfl⟩
      have hlb : Wb.heap[w.heap.size + 1]? = some (.loop { rec .ready with state := .busy }) := by rw [← hWb]; exact World.putObj_heap_same (by omega)
      have hsb : Wb.heap.size = Wa.heap.size := by rw [← hWb]; simp
      have hbb : ∀ k, k ≠ w.heap.size + 1 → Wb.heap[k]? = Wa.heap[k]? := fun k hk => by rw [← hWb]; exact World.putObj_heap_other hk
      have hib : I pre Wb := by rw [← hWb]; exact hI pre Wa _ hia (by omega) ((below_put _ _ _).mono (by omega))
      have haxb : Ax x a' Wb := by rw [← hWb]; exact hAx _ _ _ _ _ _ hax hla
      have hob : Wb.os = Wa.os ∧ Wb.tape = Wa.tape ∧ Wb.output = Wa.output := by rw [← hWb]; exact ⟨rfl, rfl, rfl⟩
      rw [hWb]
      refine wpIn_mono (hbody (w.heap.size + 1) pre x a' Wb hok (by omega) hib haxb) ?_
      rintro e a3 W3 hp
      cases e with
      | normal =>
        obtain ⟨hk3, hi3⟩ := hp
        have hs3 := hk3.size
        have hl3 : W3.heap[w.heap.size + 1]? = some (.loop { rec .ready with state := .busy }) := (hk3.block _ (by omega) hns1).trans hlb
        have hr := run_endRound (P := P) none hl3
        have he : ({ { rec .ready with state := .busy } with state := if (none : Option Code).isNone then LoopState.ready else .done, pending := none } : Loop) = rec .ready := by rw [hrec]; rfl
        rw [he] at hr
        refine ⟨_, _, hr, rfl, ⟨⟨hI _ W3 _ hi3 (by omega) ((below_put _ _ _).mono (by omega)), by simp; omega⟩, World.putObj_heap_same (by omega), ?_⟩, ?_⟩
        · rw [World.putObj_heap_other (by omega), hk3.block _ (by omega) hns0, hbb _ (by omega), hka.block _ (by omega) hns0]; exact hk
        · refine ⟨hk3.os.trans (hob.1.trans hka.os), hk3.tape.trans (hob.2.1.trans hka.tape), hk3.output.trans (hob.2.2.trans hka.output), by simp; omega, fun b hb hnb => ?_⟩
          by_cases hbl : b = w.heap.size + 1
          · subst hbl
            rw [World.putObj_heap_same (by omega), hl]
          · rw [World.putObj_heap_other hbl, hk3.block _ (by omega) hnb, hbb _ hbl, hka.block _ hb hnb]
      | ret => exact hp.elim
      | exit id => exact hp.elim
      | goto t => exact hp.elim
      | panic ch => exact hp.elim
      | outgrown => exact hp.elim
    · exact ⟨⟨hI [] w W1 h0 (Nat.le_refl _) hb1, by omega⟩, hL1, hK1⟩
    · rintro e W2 ⟨⟨v, rfl⟩, ⟨hi, hs⟩, hl, hk⟩
      refine ⟨none, _, by have := run_endLoop (P := P) hl (by rw [hrec]; simp); rw [hrec] at this; exact this, ?_⟩
      exact hdone _ _ (Nat.le_refl _) (hI _ W2 _ hi (by omega) ((below_put _ _ _).mono (by omega))) ((World.putObj_heap_other (by omega)).trans hk)
end Go.Proofs.Ythjhndbhebnmjaa
