/- graph.distFrom: of each node how far it is. -/
import Derived.Test.YthfgbgmkiggjmabDoorLinked
import Derived.Test.YthfgbgmkiggjmabDoorRows2
namespace Go.Proofs.YthfgbgmkiggjmabDoor
open Go.RowKit Go.Shelf
attribute [local go_sem] Oper.semAt_some

def setAll {m : Nat} (row : List Int) (far : Nat) (nodes : List (Fin m)) : List Int := nodes.foldl (fun r i => r.set i.val (far : Int)) row
theorem setAll_snoc {m : Nat} (row : List Int) (far : Nat) (nodes : List (Fin m)) (x : Fin m) : setAll row far (nodes ++ [x]) = (setAll row far nodes).set x.val far := by simp [setAll]
theorem setAll_length {m : Nat} (far : Nat) : ∀ (nodes : List (Fin m)) (row : List Int), (setAll row far nodes).length = row.length
  | [], _ => rfl
  | x :: r, row => by
    show (setAll (row.set x.val far) far r).length = _
    rw [setAll_length far r, List.length_set]
def rowTo (m : Nat) (pre : List (Nat × Fin (2 ^ m))) : List Int := pre.foldl (fun row x => setAll row x.1 (nodesL m x.2.val)) (List.replicate m (-1))
theorem rowTo_snoc (m : Nat) (pre : List (Nat × Fin (2 ^ m))) (x : Nat × Fin (2 ^ m)) : rowTo m (pre ++ [x]) = setAll (rowTo m pre) x.1 (nodesL m x.2.val) := by simp [rowTo]
theorem rowTo_length (m : Nat) (pre : List (Nat × Fin (2 ^ m))) : (rowTo m pre).length = m := by
  unfold rowTo
  have : ∀ (l : List (Nat × Fin (2 ^ m))) (row : List Int), row.length = m → (l.foldl (fun row x => setAll row x.1 (nodesL m x.2.val)) row).length = m := by
    intro l
    induction l with
    | nil => intro row h; exact h
    | cons x l ih => intro row h; exact ih _ (by rw [setAll_length]; exact h)
  exact this pre _ (by simp)
def distRow (m : Nat) (ar : List Nat) (s : Nat) : List Int := rowTo m (layN m ar 1025 0 (2 ^ s) (2 ^ s))

theorem rowOf_own {β : Type} (B : Nat) (t : TypeId) (f : β → List Value) : Own (fun s W => RowOf W B t (f s)) := fun s X Y row hs hg hrow =>
  (hg.block B hs.lt (fun e' => by obtain ⟨o, ho, hc⟩ := hrow B e'.symm; rw [show X.heap[B]? = _ from hs] at ho; cases ho; cases hc)).trans hs

theorem Boxed.other_ {W : World} {B : Nat} {t : TypeId} {v : Value} {p : Addr} (h : Boxed W B t v) (hne : B ≠ p.block) (u : Value) : Boxed (W.setCell p u) B t v := (Below.heap_setCell W p u B hne).trans h
theorem fill_next (m k : Nat) (h : k < m) : (List.replicate k (-1 : Int) ++ List.replicate (m - k) 0).set k (-1) = List.replicate (k + 1) (-1) ++ List.replicate (m - (k + 1)) 0 := by
  rw [List.set_append, if_neg (by simp), List.length_replicate, Nat.sub_self, show m - k = (m - (k + 1)) + 1 by omega, List.replicate_succ, List.set_cons_zero, List.replicate_succ']
  simp

set_option maxRecDepth 100000 in
set_option maxHeartbeats 4000000 in
theorem distFrom_in (n m s : Nat) (hn : 9 ≤ n) (hm : m ≤ 10) (hs : s < m) (A : Option Addr) (cap : Nat) (ar : List Nat) (har : Words m ar) (w : World) (hA : WordsAt w w.heap.size A m ar) (hT : Tab w) :
    CallsIn Fence.wide n Tryd.prog 44 #[.slice A m cap, .int .i64 s] w fun e w' => ∃ g, e = .returned (.slice (some ⟨g, 0, none⟩) m m) ∧ RowOf w' g 3 ((distRow m ar s).map (Value.int .i64)) ∧ w.heap.size ≤ g ∧ Below w.heap.size w w' := by
  have h1 : 1 ≤ n := by omega
  have f1 := wide_fn 70
  have hmk := fun W => run_make_row' (P := Tryd.prog) 25 3 (.int .i64 0) 8 Tryd.underlying25 (by kernel_rfl) rfl .i64 .i64 m (by omega) (by omega) W
  refine callsIn_of_wp_marks Tryd.func44 rfl (wide_fn _) ?_ wide_round
  simp only [Tryd.ntmps44, List.size_toArray, List.length_cons, List.length_nil, Nat.reduceAdd, Nat.reduceSub, Array.replicate_succ, Array.replicate_zero, List.push_toArray, List.append_toArray, List.nil_append, List.cons_append]
  gi_wp2
  clear hmk
  gi_loopw [15] (fun j wr => ∃ k : Nat, k ≤ m ∧ j = .int .i64 k ∧ Hid (RowOf wr w.heap.size 3 ((List.replicate k (-1) ++ List.replicate (m - k) 0).map (Value.int .i64)) ∧ Boxed wr (w.heap.size + 1) 25 (.slice (some ⟨w.heap.size, 0, none⟩) m m) ∧ Below w.heap.size w wr ∧ wr.heap.size = w.heap.size + 2)) (fun j _ => m - (intOf j).toNat)
  case atStart =>
    refine ⟨0, Nat.zero_le _, rfl, Lib.hid ⟨?_, ?_, ((Below.refl _ _).alloc (Nat.le_refl _) _).alloc (by simp) _, by simp⟩⟩
    · simpa using (RowOf.made w (.int .i64 0) m 3).alloc _
    · have := Boxed.new (w.alloc (.cells (madeCells #[.int .i64 0] m) 3)) 25 (.slice (some ⟨w.heap.size, 0, none⟩) m m)
      simpa using this
  case round =>
    obtain ⟨k, hk, rfl, HI⟩ := hrel
    obtain ⟨hR, hBx, hB, hsz⟩ := HI.out
    have cB := hBx.cell
    by_cases hlt : k < m
    · have hck : wr.cell? ⟨w.heap.size, k, none⟩ = some (.int .i64 0) := hR.cell (by
        rw [List.getElem?_map, List.getElem?_append_right (by simp), List.length_replicate, Nat.sub_self, List.getElem?_replicate, if_pos (by omega)]
        rfl)
      have hfk := hR.frozen k
      have HN := Lib.hid (fill_next m k hlt)
      have HR := Lib.hid hR
      have HBx := Lib.hid hBx
      have HB := Lib.hid hB
      have HSZ := Lib.hid hsz
      clear hR hBx hB hsz HI
      gi_wp2
      go_roundw
      case rel =>
        refine ⟨k + 1, by omega, by go_num, Lib.hid ⟨?_, Boxed.other_ HBx.out (by simp) _, HB.out.setCell (p := ⟨w.heap.size, k, none⟩) (Nat.le_refl _) _, by simpa using HSZ.out⟩⟩
        rw [← HN.out, List.map_set]
        exact HR.out.set_ k _
      case measure => simp [intOf]; omega
    · obtain rfl : k = m := by omega
      have hR2 : RowOf wr w.heap.size 3 ((rowTo k []).map (Value.int .i64)) := by simpa [rowTo] using hR
      have HR := Lib.hid hR2
      have HBx := Lib.hid hBx
      have HB := Lib.hid hB
      have HSZ := Lib.hid hsz
      clear hR hR2 hBx hB hsz HI
      gi_wp2_with (gi_at_call 70; refine (layers_in (n - 1) A k cap s 4294967295 _).mono ?_; rintro e w' ⟨rfl, rfl⟩)
      have hsz := HSZ.out
      have bA := ((Boxed.new wr 55 (.slice A k cap)).alloc (.cells #[.int .i64 s] 3)).alloc (.cells #[.int .u32 4294967295] 59)
      have bS := (Boxed.new (wr.alloc (.cells #[.slice A k cap] 55)) 3 (.int .i64 s)).alloc (.cells #[.int .u32 4294967295] 59)
      have bW := Boxed.new ((wr.alloc (.cells #[.slice A k cap] 55)).alloc (.cells #[.int .i64 s] 3)) 59 (.int .u32 4294967295)
      have bX := ((HBx.out.alloc (.cells #[.slice A k cap] 55)).alloc (.cells #[.int .i64 s] 3)).alloc (.cells #[.int .u32 4294967295] 59)
      have bG := ((HR.out.alloc (.cells #[.slice A k cap] 55)).alloc (.cells #[.int .i64 s] 3)).alloc (.cells #[.int .u32 4294967295] 59)
      have hB0 := ((HB.out.alloc HB.out.size (.cells #[.slice A k cap] 55)).alloc (by simp; omega) (.cells #[.int .i64 s] 3)).alloc (by simp; omega) (.cells #[.int .u32 4294967295] 59)
      simp only [World.size_alloc] at bS bW
      have hsW : (((wr.alloc (.cells #[.slice A k cap] 55)).alloc (.cells #[.int .i64 s] 3)).alloc (.cells #[.int .u32 4294967295] 59)).heap.size = w.heap.size + 5 := by simp; omega
      obtain ⟨W0, hW0⟩ : ∃ W0, ((wr.alloc (.cells #[.slice A k cap] 55)).alloc (.cells #[.int .i64 s] 3)).alloc (.cells #[.int .u32 4294967295] 59) = W0 := ⟨_, rfl⟩
      rw [hW0] at bA bS bW bX bG hB0 hsW ⊢
      rw [hsz] at bA bS bW ⊢
      clear hW0 HR HBx HB HSZ hsz cB
      refine wpIn_rangeFunc_ownH wide_round h1 (gf := 81) (lb := #[.pointer (some ⟨w.heap.size + 2 + 1, 0, none⟩), .pointer (some ⟨w.heap.size + 2, 0, none⟩), .pointer (some ⟨w.heap.size + 2 + 1 + 1, 0, none⟩)]) rfl (wide_fn _) (enters_of Tryd.func81 (by kernel_rfl) rfl)
        (layers_stops (n - 1) k s (by omega) hm hs A cap ar har 4294967295 (by omega) (w.heap.size + 2 + 1) (w.heap.size + 2) (w.heap.size + 2 + 1 + 1) w.heap.size hT.1 W0 (by omega) (by omega) (by omega) bS.cell bA.cell bW.cell (hA.below hB0) (by omega) (hT.go_ hB0)) kpL_t (kpL_b (by omega) (by omega) (by omega)) (Below.refl _ _) (fun _ => rfl)
        (fun pre W => (((RowOf W w.heap.size 3 ((rowTo k pre).map (Value.int .i64)) ∧ Boxed W (w.heap.size + 1) 25 (.slice (some ⟨w.heap.size, 0, none⟩) k k)) ∧ Boxed W (w.heap.size + 2) 55 (.slice A k cap)) ∧ Boxed W (w.heap.size + 2 + 1 + 1) 59 (.int .u32 4294967295)) ∧ Below w.heap.size w W)
        (fun _ _ _ => False)
        (OwnFrom.and (OwnFrom.and (OwnFrom.and (OwnFrom.and (Own.from (rowOf_own _ _ _) _) (Own.from (boxed_own _ _ _) _)) (Own.from (boxed_own _ _ _) _)) (Own.from (boxed_own _ _ _) _)) (ownFrom_below (Nat.le_refl _) (by omega)))
        (fun _ _ _ _ _ hs _ _ => hs)
        ⟨⟨⟨⟨bG, bX⟩, bA⟩, bW⟩, hB0⟩
        (fun x a' W => ∃ Bx, w.heap.size + 2 + 1 + 1 < Bx ∧ Boxed W Bx 3 (.int .i64 (x.1 : Int)) ∧ a' = { tmps := #[.slice A k cap, .int .i64 s, undef, undef, .slice none 0 0, .pointer (some ⟨w.heap.size + 1, 0, none⟩), u6, .pointer (some ⟨Bx, 0, none⟩), .int .u32 (x.2.val : Int), undef, .slice A k cap, .int .i64 k, .slice (some ⟨w.heap.size, 0, none⟩) k k, .slice (some ⟨w.heap.size, 0, none⟩) k k, .int .i64 k, .int .i64 k, .bool false, u17, u18, u19, u20, u21, .slice A k cap, .int .i64 s, .func (.func 81) #[] #[.pointer (some ⟨w.heap.size + 2 + 1, 0, none⟩), .pointer (some ⟨w.heap.size + 2, 0, none⟩), .pointer (some ⟨w.heap.size + 2 + 1 + 1, 0, none⟩)], .int .i64 (x.1 : Int), .int .u32 (x.2.val : Int), undef, undef, undef, undef, undef, undef, undef, undef], defers := [] })
        (fun x a' _ X Y row hs hg hr => by obtain ⟨Bx, h1, h2, h3⟩ := hs; exact ⟨Bx, h1, boxed_own Bx 3 (fun (_ : Unit) => Value.int .i64 (x.1 : Int)) () X Y row h2 hg (fun r e => (hr r e).2), h3⟩)
        ?assign ?body ?done ?stop
      case assign =>
        rintro l pre x W K ⟨⟨⟨⟨bG1, bX1⟩, bA1⟩, bW1⟩, hB1⟩ hK
        dsimp only [encL]
        gi_wp2
        exact hK _ _ ((KeepsOthers.alloc _ _).from _) ⟨(Below.refl _ W).alloc hB1.size _, by rw [(bA1.alloc _).cell, bA1.cell], by rw [(bW1.alloc _).cell, bW1.cell]⟩ ⟨⟨⟨⟨bG1.alloc _, bX1.alloc _⟩, bA1.alloc _⟩, bW1.alloc _⟩, hB1.alloc hB1.size _⟩ ⟨W.heap.size, bW1.lt, Boxed.new W 3 _, rfl⟩
      case body =>
        rintro l pre x a' W hl ⟨r, hr⟩ ⟨⟨⟨⟨bG1, bX1⟩, bA1⟩, bW1⟩, hB1⟩ ⟨Bx, hBx, bF, rfl⟩ hlt
        have h1' : 1 ≤ n - 1 - 1 := by omega
        have f2 := wide_fn 71
        obtain ⟨far, layer⟩ := x
        simp only at bF ⊢
        gi_wp2_with (gi_at_call 71; refine (CallsIn.inRound l (nodesOf_in (n - 1 - 1 - 1) layer.val _)).mono ?_; rintro e w' ⟨rfl, rfl⟩)
        have hsW := hB1.size
        have hAlt := bA1.lt
        have bN := Boxed.new W 59 (.int .u32 (layer.val : Int))
        have hr' : (W.alloc (.cells #[.int .u32 (layer.val : Int)] 59)).heap[l]? = some (.loop r) := (Below.heap_alloc W _ l (Array.getElem?_eq_some_iff.1 hr).1).trans hr
        have hTW : Tab (W.alloc (.cells #[.int .u32 (layer.val : Int)] 59)) := (hT.go_ hB1).alloc _
        refine wpIn_rangeFunc_ownN (l₀ := l) (r₀ := r) rfl hr' h1' (gf := 83) (lb := #[.pointer (some ⟨W.heap.size, 0, none⟩)]) rfl (wide_fn 83) (enters_of Tryd.func83 (by kernel_rfl) rfl)
          ((nodes_stops (n - 1 - 1 - 1) k layer.val (by omega) hm layer.isLt W.heap.size w.heap.size hT.1 _ (by simp) bN.cell hTW).inRound l) belowK_t (belowK_b (by simp; omega)) (Below.refl _ _) (fun _ => rfl)
          (fun pre' W' => ((((RowOf W' w.heap.size 3 ((setAll (rowTo k pre) far pre').map (Value.int .i64)) ∧ Boxed W' (w.heap.size + 1) 25 (.slice (some ⟨w.heap.size, 0, none⟩) k k)) ∧ Boxed W' (w.heap.size + 2) 55 (.slice A k cap)) ∧ Boxed W' (w.heap.size + 2 + 1 + 1) 59 (.int .u32 4294967295)) ∧ Boxed W' Bx 3 (.int .i64 (far : Int))) ∧ (Below w.heap.size W W' ∧ KeepsFrom W0.heap.size W W'))
          (fun _ _ _ => False)
          (OwnFrom.and (OwnFrom.and (OwnFrom.and (OwnFrom.and (OwnFrom.and (Own.from (rowOf_own _ _ _) _) (Own.from (boxed_own _ _ _) _)) (Own.from (boxed_own _ _ _) _)) (Own.from (boxed_own _ _ _) _)) (Own.from (boxed_own _ _ _) _)) (OwnFrom.and (ownFrom_below hsW (by simp; omega)) (ownFrom_keepsFrom (by simp))))
          (fun _ _ _ _ _ hs _ _ => hs)
          ⟨⟨⟨⟨⟨bG1.alloc _, bX1.alloc _⟩, bA1.alloc _⟩, bW1.alloc _⟩, bF.alloc _⟩, (Below.refl _ W).alloc hsW _, (KeepsOthers.alloc _ _).from _⟩
          (fun y a'' _ => a'' = { tmps := #[.slice A k cap, .int .i64 s, undef, undef, .slice none 0 0, .pointer (some ⟨w.heap.size + 1, 0, none⟩), u6, .pointer (some ⟨Bx, 0, none⟩), .int .u32 (layer.val : Int), .int .i64 (y.val : Int), .slice A k cap, .int .i64 k, .slice (some ⟨w.heap.size, 0, none⟩) k k, .slice (some ⟨w.heap.size, 0, none⟩) k k, .int .i64 k, .int .i64 k, .bool false, u17, u18, u19, u20, u21, .slice A k cap, .int .i64 s, .func (.func 81) #[] #[.pointer (some ⟨w.heap.size + 2 + 1, 0, none⟩), .pointer (some ⟨w.heap.size + 2, 0, none⟩), .pointer (some ⟨w.heap.size + 2 + 1 + 1, 0, none⟩)], .int .i64 (far : Int), .int .u32 (layer.val : Int), .int .u32 (layer.val : Int), .func (.func 83) #[] #[.pointer (some ⟨W.heap.size, 0, none⟩)], .int .i64 (y.val : Int), undef, undef, undef, undef, undef], defers := [] })
          (fun _ _ _ _ _ _ hs _ _ => hs)
          ?assign2 ?body2 ?done2 ?stop2
        case assign2 =>
          rintro l2 pre' y W' K hi hK
          dsimp only [encN]
          gi_wp2
          exact hK _ _ (KeepsFrom.refl _ _) (Below.refl _ _) hi rfl
        case body2 =>
          rintro l2 pre' y a'' W' _ _ ⟨⟨⟨⟨⟨bG2, bX2⟩, bA2⟩, bW2⟩, bF2⟩, hBW, hKF⟩ rfl _
          have cX := bX2.cell
          have cF := bF2.cell
          have hlen : (setAll (rowTo k pre) far pre').length = k := by rw [setAll_length, rowTo_length]
          obtain ⟨z, hz⟩ : ∃ z, (setAll (rowTo k pre) far pre')[y.val]? = some z := ⟨_, List.getElem?_eq_getElem (by rw [hlen]; exact y.isLt)⟩
          have cG := bG2.cell (i := y.val) (v := .int .i64 z) (by rw [List.getElem?_map, hz]; rfl)
          have fG := bG2.frozen y.val
          have hy0 : (0 : Int) ≤ (y.val : Int) := by omega
          have hyk : (y.val : Int) < (k : Int) := by have := y.isLt; omega
          have HSN := Lib.hid (setAll_snoc (rowTo k pre) far pre' y)
          clear hlen hz
          gi_wp2
          refine ⟨(KeepsOthers.setCell _ _ _).from _, (Below.refl _ W').setCell (p := ⟨w.heap.size, y.val, none⟩) (Nat.le_refl _) _,
            ⟨⟨⟨⟨⟨?_, Boxed.other_ bX2 (by simp) _⟩, Boxed.other_ bA2 (by simp) _⟩, Boxed.other_ bW2 (by simp; omega) _⟩, Boxed.other_ bF2 (by simp; omega) _⟩, hBW.setCell (p := ⟨w.heap.size, y.val, none⟩) (Nat.le_refl _) _, hKF.trans ((KeepsOthers.setCell _ _ _).from _)⟩⟩
          rw [HSN.out, List.map_set]
          exact bG2.set_ _ _
        case done2 =>
          rintro ys' W' rfl ⟨⟨⟨⟨⟨bG2, bX2⟩, bA2⟩, bW2⟩, bF2⟩, hBW, hKF⟩
          gi_wp2
          exact ⟨hKF, ⟨hBW, by rw [bA2.cell, bA1.cell], by rw [bW2.cell, bW1.cell]⟩, ⟨⟨⟨by rw [rowTo_snoc]; exact bG2, bX2⟩, bA2⟩, bW2⟩, hB1.trans hBW⟩
        case stop2 =>
          rintro c pre' W' _ h
          exact h.elim
      case done =>
        rintro D ys W hD rfl ⟨⟨⟨⟨bG1, bX1⟩, bA1⟩, bW1⟩, hB1⟩ hK
        rw [layW_all hm har] at bG1
        have cX := bX1.cell
        gi_wp2
        refine ⟨by simp, .inl ⟨_, _, rfl, run_takeDeferred hK, ?_⟩⟩
        exact ⟨_, results_tmp rfl _ _ _, w.heap.size, rfl, rowOf_own w.heap.size 3 (fun (_ : Unit) => (distRow k ar s).map (Value.int .i64)) () W _ (some D) bG1 (grownBy_putObj' _ D _) (fun r e => by cases e; exact ⟨_, hK, rfl⟩), Nat.le_refl _, hB1.trans (belowK_b (w := w) (Nat.le_refl _) W D _ _ (by omega) hK rfl rfl)⟩
      case stop =>
        rintro D c pre W _ _ h _
        exact h.elim
set_option maxRecDepth 100000 in
theorem distFrom_any (m s : Nat) (hm : m ≤ 10) (hs : s < m) (A : Option Addr) (cap : Nat) (ar : List Nat) (har : Words m ar) (w : World) (hA : WordsAt w w.heap.size A m ar) (hT : Tab w) :
    Calls Tryd.prog 44 #[.slice A m cap, .int .i64 s] w fun e w' => ∃ g, e = .returned (.slice (some ⟨g, 0, none⟩) m m) ∧ RowOf w' g 3 ((distRow m ar s).map (Value.int .i64)) ∧ w.heap.size ≤ g ∧ Below w.heap.size w w' :=
  callsIn_wide.1 (distFrom_in 9 m s (by omega) hm hs A cap ar har w hA hT)
end Go.Proofs.YthfgbgmkiggjmabDoor
