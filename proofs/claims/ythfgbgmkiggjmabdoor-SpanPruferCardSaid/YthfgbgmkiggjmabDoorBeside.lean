/- graph.beside: the word of the nodes that have an edge with a node of a word. -/
import Derived.Test.YthfgbgmkiggjmabDoorNodes
import Derived.Test.YthfgbgmkiggjmabDoorNbP
import Derived.Test.YthfgbgmkiggjmabDoorWordsAt
namespace Go.Proofs.YthfgbgmkiggjmabDoor
open Go.RowKit Go.Shelf
attribute [local go_sem] Oper.semAt_some

/-- All words of a list together. -/
def orTo (m : Nat) (ar : List Nat) (pre : List (Fin m)) : Nat := pre.foldl (fun acc i => acc ||| ar.getD i.val 0) 0
def besideN (m : Nat) (ar : List Nat) (r : Nat) : Nat := orTo m ar (nodesL m r)
theorem orTo_snoc (m : Nat) (ar : List Nat) (pre : List (Fin m)) (x : Fin m) : orTo m ar (pre ++ [x]) = orTo m ar pre ||| ar.getD x.val 0 := by simp [orTo]
theorem orTo_lt {m : Nat} {ar : List Nat} (h : Words m ar) (pre : List (Fin m)) : orTo m ar pre < 2 ^ m := by
  unfold orTo
  have : ∀ (l : List (Fin m)) (a : Nat), a < 2 ^ m → l.foldl (fun acc i => acc ||| ar.getD i.val 0) a < 2 ^ m := by
    intro l
    induction l with
    | nil => intro a ha; exact ha
    | cons x l ih => intro a ha; exact ih _ (Nat.or_lt_two_pow ha (h _))
  exact this pre 0 (Nat.two_pow_pos m)

set_option maxRecDepth 100000 in
set_option maxHeartbeats 1000000 in
theorem beside_in (n m r : Nat) (hn : 3 ≤ n) (hm : m ≤ 10) (hr : r < 2 ^ m) (A : Option Addr) (cap : Nat) (ar : List Nat) (har : Words m ar) (w : World) (hA : WordsAt w w.heap.size A m ar) (hT : Tab w) :
    CallsIn Fence.wide n Tryd.prog 82 #[.slice A m cap, .int .u32 r] w fun e w' => e = .returned (.int .u32 (besideN m ar r)) ∧ Below w.heap.size w w' := by
  have h1 : 1 ≤ n := by omega
  have f1 := wide_fn 71
  refine callsIn_of_wp_marks Tryd.func82 rfl (wide_fn _) ?_ wide_round
  simp only [Tryd.ntmps82, List.size_toArray, List.length_cons, List.length_nil, Nat.reduceAdd, Nat.reduceSub, Array.replicate_succ, Array.replicate_zero, List.push_toArray, List.append_toArray, List.nil_append, List.cons_append]
  gi_wp2_with (gi_at_call 71; refine (nodesOf_in (n - 1) r _).mono ?_; rintro e w' ⟨rfl, rfl⟩)
  have bA := ((Boxed.new w 55 (.slice A m cap)).alloc (.cells #[.int .u32 0] 59)).alloc (.cells #[.int .u32 r] 59)
  have bR := (Boxed.new (w.alloc (.cells #[.slice A m cap] 55)) 59 (.int .u32 0)).alloc (.cells #[.int .u32 r] 59)
  have bW := Boxed.new ((w.alloc (.cells #[.slice A m cap] 55)).alloc (.cells #[.int .u32 0] 59)) 59 (.int .u32 r)
  simp only [World.size_alloc] at bR bW
  have hB0 : Below w.heap.size w (((w.alloc (.cells #[.slice A m cap] 55)).alloc (.cells #[.int .u32 0] 59)).alloc (.cells #[.int .u32 r] 59)) := (((Below.refl _ w).alloc (Nat.le_refl _) _).alloc (by simp) _).alloc (by simp; omega) _
  have hsz : (((w.alloc (.cells #[.slice A m cap] 55)).alloc (.cells #[.int .u32 0] 59)).alloc (.cells #[.int .u32 r] 59)).heap.size = w.heap.size + 3 := by simp
  obtain ⟨W0, hW0⟩ : ∃ W0, ((w.alloc (.cells #[.slice A m cap] 55)).alloc (.cells #[.int .u32 0] 59)).alloc (.cells #[.int .u32 r] 59) = W0 := ⟨_, rfl⟩
  rw [hW0] at bA bR bW hB0 hsz ⊢
  clear hW0
  refine wpIn_rangeFunc_ownF wide_round h1 (gf := 83) (lb := #[.pointer (some ⟨w.heap.size + 1 + 1, 0, none⟩)]) rfl (wide_fn _) (enters_of Tryd.func83 (by kernel_rfl) rfl)
    (nodes_stops (n - 1) m r (by omega) hm hr (w.heap.size + 1 + 1) w.heap.size hT.1 W0 (by omega) bW.cell (hT.go_ hB0)) belowK_t (belowK_b (by omega)) (Below.refl _ _) (fun _ => rfl)
    (fun pre W => (Boxed W (w.heap.size + 1) 59 (.int .u32 (orTo m ar pre : Nat)) ∧ Boxed W w.heap.size 55 (.slice A m cap)) ∧ Below w.heap.size w W)
    (fun _ _ _ => False)
    (OwnFrom.and (OwnFrom.and (Own.from (boxed_own _ _ _) _) (Own.from (boxed_own _ _ _) _)) (ownFrom_below (Nat.le_refl _) (by omega)))
    (fun _ _ _ _ _ hs _ _ => hs)
    ⟨⟨bR, bA⟩, hB0⟩
    (fun x => { tmps := #[.slice A m cap, .int .u32 r, .pointer (some ⟨w.heap.size, 0, none⟩), undef, .int .u32 0, .pointer (some ⟨w.heap.size + 1, 0, none⟩), .int .i64 (x.val : Int), .int .u32 r, .func (.func 83) #[] #[.pointer (some ⟨w.heap.size + 1 + 1, 0, none⟩)], .int .i64 (x.val : Int), undef, undef, undef, undef, undef, undef, undef], defers := [] }) ?assign ?body ?done ?stop
  case assign =>
    intro l x W K hK
    dsimp only [encN]
    gi_wp2
    exact hK
  case body =>
    rintro l pre x W ⟨⟨bR1, bA1⟩, hB1⟩ _
    obtain ⟨b, off, rfl, hb, hc⟩ := (hA.below hB1).at_ x.isLt
    have cR := bR1.cell
    have fR := bR1.frozen
    have cA := bA1.cell
    have hx0 : (0 : Int) ≤ (x.val : Int) := by omega
    have hxm : (x.val : Int) < (m : Int) := by have := x.isLt; omega
    have hor := or_u32 (orTo m ar pre) (ar.getD x.val 0) (Nat.lt_of_lt_of_le (pow10 hm (orTo_lt har pre)) (by decide)) (Nat.lt_of_lt_of_le (pow10 hm (har _)) (by decide))
    have HO := Lib.hid (orTo_snoc m ar pre x)
    generalize ar.getD x.val 0 = v at hc hor HO
    generalize orTo m ar pre = o at cR hor HO
    have mx : Tryd.prog.follows .mixedOrders = true := by kernel_rfl
    gi_wp2
    gi_region_with_o (fail)
    all_goals
      gi_wp2
      exact ⟨(KeepsOthers.setCell _ _ _).trans (KeepsOthers.drew _), ((Below.refl w.heap.size W).setCell (p := ⟨w.heap.size + 1, 0, none⟩) (by simp) _).drew,
        ⟨⟨by rw [HO.out]; exact bR1.set _, bA1.other (by omega) _⟩, (hB1.setCell (p := ⟨w.heap.size + 1, 0, none⟩) (by simp) _).drew⟩⟩
  case done =>
    rintro D ys W hD rfl ⟨⟨bR1, bA1⟩, hB1⟩ hK
    have cR := bR1.cell
    gi_wp2
    refine ⟨by simp, .inl ⟨_, _, rfl, run_takeDeferred hK, ?_⟩⟩
    exact ⟨_, results_tmp rfl _ _ _, rfl, hB1.trans (belowK_b (w := w) (Nat.le_refl _) W D _ _ (by omega) hK rfl rfl)⟩
  case stop =>
    rintro D c pre W _ _ h _
    exact h.elim
end Go.Proofs.YthfgbgmkiggjmabDoor
