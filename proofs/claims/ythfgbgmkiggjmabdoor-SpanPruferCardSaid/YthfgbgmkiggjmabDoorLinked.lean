/- graph.Linked: the word of all layers together. -/
import Derived.Test.YthfgbgmkiggjmabDoorLayers
namespace Go.Proofs.YthfgbgmkiggjmabDoor
open Go.RowKit Go.Shelf
attribute [local go_sem] Oper.semAt_some

def allTo (m : Nat) (pre : List (Nat × Fin (2 ^ m))) : Nat := pre.foldl (fun acc x => acc ||| x.2.val) 0
theorem allTo_snoc (m : Nat) (pre : List (Nat × Fin (2 ^ m))) (x : Nat × Fin (2 ^ m)) : allTo m (pre ++ [x]) = allTo m pre ||| x.2.val := by simp [allTo]
theorem allTo_lt (m : Nat) (pre : List (Nat × Fin (2 ^ m))) : allTo m pre < 2 ^ m := by
  unfold allTo
  have : ∀ (l : List (Nat × Fin (2 ^ m))) (a : Nat), a < 2 ^ m → l.foldl (fun acc x => acc ||| x.2.val) a < 2 ^ m := by
    intro l
    induction l with
    | nil => intro a ha; exact ha
    | cons x l ih => intro a ha; exact ih _ (Nat.or_lt_two_pow ha x.2.isLt)
  exact this pre 0 (Nat.two_pow_pos m)
def linkedN (m : Nat) (ar : List Nat) (s : Nat) : Nat := allTo m (layN m ar 1025 0 (2 ^ s) (2 ^ s))
def linkedW (m : Nat) (ar : List Nat) (wi s : Nat) : Nat := allTo m (layW m ar wi 1025 0 (2 ^ s) (2 ^ s))
theorem linkedW_all {m : Nat} {ar : List Nat} (hm : m ≤ 10) (h : Words m ar) (s : Nat) : linkedW m ar 4294967295 s = linkedN m ar s := by unfold linkedW linkedN; rw [layW_all hm h]

set_option maxRecDepth 100000 in
set_option maxHeartbeats 1000000 in
theorem linkedW_in (n m s : Nat) (hn : 7 ≤ n) (hm : m ≤ 10) (hs : s < m) (A : Option Addr) (cap : Nat) (ar : List Nat) (har : Words m ar) (wi : Nat) (hwi : wi < 4294967296) (w : World) (hA : WordsAt w w.heap.size A m ar) (hT : Tab w) :
    CallsIn Fence.wide n Tryd.prog 43 #[.slice A m cap, .int .i64 s, .int .u32 wi] w fun e w' => e = .returned (.int .u32 (linkedW m ar wi s)) ∧ Below w.heap.size w w' := by
  have h1 : 1 ≤ n := by omega
  have f1 := wide_fn 70
  refine callsIn_of_wp_marks Tryd.func43 rfl (wide_fn _) ?_ wide_round
  simp only [Tryd.ntmps43, List.size_toArray, List.length_cons, List.length_nil, Nat.reduceAdd, Nat.reduceSub, Array.replicate_succ, Array.replicate_zero, List.push_toArray, List.append_toArray, List.nil_append, List.cons_append]
  gi_wp2_with (gi_at_call 70; refine (layers_in (n - 1) A m cap s wi _).mono ?_; rintro e w' ⟨rfl, rfl⟩)
  have bP := (((Boxed.new w 59 (.int .u32 0)).alloc (.cells #[.slice A m cap] 55)).alloc (.cells #[.int .i64 s] 3)).alloc (.cells #[.int .u32 wi] 59)
  have bA := ((Boxed.new (w.alloc (.cells #[.int .u32 0] 59)) 55 (.slice A m cap)).alloc (.cells #[.int .i64 s] 3)).alloc (.cells #[.int .u32 wi] 59)
  have bS := (Boxed.new ((w.alloc (.cells #[.int .u32 0] 59)).alloc (.cells #[.slice A m cap] 55)) 3 (.int .i64 s)).alloc (.cells #[.int .u32 wi] 59)
  have bW := Boxed.new (((w.alloc (.cells #[.int .u32 0] 59)).alloc (.cells #[.slice A m cap] 55)).alloc (.cells #[.int .i64 s] 3)) 59 (.int .u32 wi)
  simp only [World.size_alloc] at bA bS bW
  have hB0 : Below w.heap.size w ((((w.alloc (.cells #[.int .u32 0] 59)).alloc (.cells #[.slice A m cap] 55)).alloc (.cells #[.int .i64 s] 3)).alloc (.cells #[.int .u32 wi] 59)) := ((((Below.refl _ w).alloc (Nat.le_refl _) _).alloc (by simp) _).alloc (by simp; omega) _).alloc (by simp; omega) _
  have hsz : ((((w.alloc (.cells #[.int .u32 0] 59)).alloc (.cells #[.slice A m cap] 55)).alloc (.cells #[.int .i64 s] 3)).alloc (.cells #[.int .u32 wi] 59)).heap.size = w.heap.size + 4 := by simp
  obtain ⟨W0, hW0⟩ : ∃ W0, (((w.alloc (.cells #[.int .u32 0] 59)).alloc (.cells #[.slice A m cap] 55)).alloc (.cells #[.int .i64 s] 3)).alloc (.cells #[.int .u32 wi] 59) = W0 := ⟨_, rfl⟩
  rw [hW0] at bP bA bS bW hB0 hsz ⊢
  clear hW0
  refine wpIn_rangeFunc_ownF wide_round h1 (gf := 81) (lb := #[.pointer (some ⟨w.heap.size + 1 + 1, 0, none⟩), .pointer (some ⟨w.heap.size + 1, 0, none⟩), .pointer (some ⟨w.heap.size + 1 + 1 + 1, 0, none⟩)]) rfl (wide_fn _) (enters_of Tryd.func81 (by kernel_rfl) rfl)
    (layers_stops (n - 1) m s (by omega) hm hs A cap ar har wi hwi (w.heap.size + 1 + 1) (w.heap.size + 1) (w.heap.size + 1 + 1 + 1) w.heap.size hT.1 W0 (by omega) (by omega) (by omega) bS.cell bA.cell bW.cell (hA.below hB0) (by omega) (hT.go_ hB0)) kpL_t (kpL_b (by omega) (by omega) (by omega)) (Below.refl _ _) (fun _ => rfl)
    (fun pre W => Boxed W w.heap.size 59 (.int .u32 (allTo m pre : Nat)) ∧ Below w.heap.size w W)
    (fun _ _ _ => False)
    (OwnFrom.and (Own.from (boxed_own _ _ _) _) (ownFrom_below (Nat.le_refl _) (by omega)))
    (fun _ _ _ _ _ hs _ _ => hs)
    ⟨bP, hB0⟩
    (fun x => { tmps := #[.slice A m cap, .int .i64 s, .int .u32 wi, undef, undef, undef, .int .u32 0, .pointer (some ⟨w.heap.size, 0, none⟩), undef, .int .u32 (x.2.val : Int), .slice A m cap, .int .i64 s, .int .u32 wi, .func (.func 81) #[] #[.pointer (some ⟨w.heap.size + 1 + 1, 0, none⟩), .pointer (some ⟨w.heap.size + 1, 0, none⟩), .pointer (some ⟨w.heap.size + 1 + 1 + 1, 0, none⟩)], .int .i64 (x.1 : Int), .int .u32 (x.2.val : Int), undef, undef, undef, undef], defers := [] }) ?assign ?body ?done ?stop
  case assign =>
    intro l x W K hK
    dsimp only [encL]
    gi_wp2
    exact hK
  case body =>
    rintro l pre x W ⟨bP1, hB1⟩ _
    have cP := bP1.cell
    have fP := bP1.frozen
    have hor := or_u32 (allTo m pre) x.2.val (Nat.lt_of_lt_of_le (pow10 hm (allTo_lt m pre)) (by decide)) (Nat.lt_of_lt_of_le (pow10 hm x.2.isLt) (by decide))
    have HO := Lib.hid (allTo_snoc m pre x)
    generalize x.2.val = v at hor HO
    generalize allTo m pre = o at cP hor HO
    gi_wp2
    exact ⟨KeepsOthers.setCell _ _ _, ⟨(Below.refl w.heap.size W).setCell (p := ⟨w.heap.size, 0, none⟩) (Nat.le_refl _) _, World.cell?_setCell_other _ _ _ _ (by simp), World.cell?_setCell_other _ _ _ _ (by simp)⟩,
      by rw [HO.out]; exact bP1.set _, hB1.setCell (p := ⟨w.heap.size, 0, none⟩) (Nat.le_refl _) _⟩
  case done =>
    rintro D ys W hD rfl ⟨bP1, hB1⟩ hK
    have cP := bP1.cell
    gi_wp2
    refine ⟨by simp, .inl ⟨_, _, rfl, run_takeDeferred hK, ?_⟩⟩
    exact ⟨_, results_tmp rfl _ _ _, rfl, hB1.trans (belowK_b (w := w) (Nat.le_refl _) W D _ _ (by omega) hK rfl rfl)⟩
  case stop =>
    rintro D c pre W _ _ h _
    exact h.elim
set_option maxRecDepth 100000 in
theorem linkedW_any (m s : Nat) (hm : m ≤ 10) (hs : s < m) (A : Option Addr) (cap : Nat) (ar : List Nat) (har : Words m ar) (wi : Nat) (hwi : wi < 4294967296) (w : World) (hA : WordsAt w w.heap.size A m ar) (hT : Tab w) :
    Calls Tryd.prog 43 #[.slice A m cap, .int .i64 s, .int .u32 wi] w fun e w' => e = .returned (.int .u32 (linkedW m ar wi s)) ∧ Below w.heap.size w w' :=
  callsIn_wide.1 (linkedW_in 7 m s (by omega) hm hs A cap ar har wi hwi w hA hT)
set_option maxRecDepth 100000 in
theorem linked_any (m s : Nat) (hm : m ≤ 10) (hs : s < m) (A : Option Addr) (cap : Nat) (ar : List Nat) (har : Words m ar) (w : World) (hA : WordsAt w w.heap.size A m ar) (hT : Tab w) :
    Calls Tryd.prog 43 #[.slice A m cap, .int .i64 s, .int .u32 4294967295] w fun e w' => e = .returned (.int .u32 (linkedN m ar s)) ∧ Below w.heap.size w w' := by
  have h := linkedW_any m s hm hs A cap ar har 4294967295 (by omega) w hA hT
  rw [linkedW_all hm har] at h
  exact h
end Go.Proofs.YthfgbgmkiggjmabDoor
