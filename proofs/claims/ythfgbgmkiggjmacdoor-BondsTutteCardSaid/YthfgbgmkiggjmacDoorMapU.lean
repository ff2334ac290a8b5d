/- Maps of words to numbers: small facts. -/
import Derived.Test.YthfgbgmkiggjmacDoorWordsAt
import Derived.Maps.OwnOps
import Derived.Maps.OwnSet
import Derived.IntWalk
namespace Go.Proofs.YthfgbgmkiggjmacDoor
open Go.RowKit Go.Maps

set_option maxRecDepth 100000 in
theorem keyedU : Keyed Tryd.prog 38 := int_keyed Tryd.underlying38
set_option maxRecDepth 100000 in
theorem zeroI (w : World) : (zeroValue 3).run Tryd.prog w = .ok (.int .i64 0) w := by kernel_rfl
theorem grown_two {a b c : World} {row : Option Nat} (h : a.grownBy b row) (k : b.grownBy c row) : a.grownBy c row :=
  ⟨k.os.trans h.os, k.tape.trans h.tape, k.output.trans h.output, Nat.le_trans h.size k.size, fun i hi hne => (k.block i (Nat.lt_of_lt_of_le hi h.size) hne).trans (h.block i hi hne)⟩
theorem WordsAt.grown {w w' : World} {gm n : Nat} {A : Option Addr} {xs : List Nat} (h : WordsAt w gm A n xs) (hg : w.grownBy w' (some gm)) (hl : gm ≤ w.heap.size) : WordsAt w' gm A n xs :=
  h.keep fun p hp => World.cell?_of_block (w := w) (hg.block p.block (by omega) (fun e => by injection e; omega))
/-- What stands in a table of what was reckoned already is right; some keys stand there. -/
structure MemoD (K : Int → Prop) (val : Int → Int) (D : DataW Unit) : Prop where
  right : ∀ x : Int, Maps.has D (.int .u32 x) = true → D.atKey (.int .u32 x) (.lit (.int .i64 0)) = .lit (.int .i64 (val x))
  has : ∀ x : Int, K x → Maps.has D (.int .u32 x) = true
theorem key_lit (x : Int) : WideAt.IsKeyLit (.int .u32 x) := trivial
theorem MemoD.put {K : Int → Prop} {val : Int → Int} {D : DataW Unit} (h : MemoD K val D) (hD : IsMap D) (x : Int) : MemoD K val (D.put (.int .u32 x) (.lit (.int .i64 (val x)))) := by
  refine ⟨fun y hy => ?_, fun y hy => ?_⟩
  · by_cases he : y = x
    · subst he; rw [atKey_put_same hD (key_lit _)]
    · have hne : Lit.int .u32 y ≠ Lit.int .u32 x := fun e => he (by injection e)
      rw [has_put_other hne] at hy
      rw [atKey_put_other hne]
      exact h.right y hy
  · by_cases he : y = x
    · subst he; exact has_put_same hD (key_lit _) _
    · have hne : Lit.int .u32 y ≠ Lit.int .u32 x := fun e => he (by injection e)
      rw [has_put_other hne]
      exact h.has y hy
def Memo (K : Int → Prop) (val : Int → Int) (gm n : Nat) (w : World) : Prop := ∃ D : DataW Unit, w.ownsMap Tryd.prog 38 (plainElem Tryd.prog 3) gm n D ∧ MemoD K val D
section
variable {K : Int → Prop} {val : Int → Int} {gm n n' : Nat} {w w' : World}
theorem Memo.more (h : Memo K val gm n w) (hn : n ≤ n') : Memo K val gm n' w := by
  obtain ⟨D, h1, h2⟩ := h
  exact ⟨D, h1.mono hn, h2⟩
theorem Memo.kept {row : Option Nat} (h : Memo K val gm n w) (hg : w.grownBy w' row) (hr : some gm ≠ row) : Memo K val gm n w' := by
  obtain ⟨D, h1, h2⟩ := h
  exact ⟨D, h1.kept hg hr, h2⟩
theorem Memo.start (val : Int → Int) (w : World) : Memo (fun _ => False) val w.heap.size 0 (w.alloc (.map #[] 0)) :=
  ⟨.map [], World.ownsMap_made _ _ _ _, ⟨fun _ h => (by cases h), fun _ h => h.elim⟩⟩
theorem Memo.lt (h : Memo K val gm n w) : gm < w.heap.size := by
  obtain ⟨D, h1, _⟩ := h
  exact h1.lt
end
theorem own_keep_map {w w' : World} {base gm : Nat} {t : TypeId} {v : Value} {n : Nat} {xs : List Value} (h : w.ownsRow base t 1 v n xs) (hg : w.grownBy w' (some gm)) (hb : gm < base) : w'.ownsRow base t 1 v n xs := by
  refine ⟨h.1, ?_⟩
  rcases h.2 with h0 | ⟨g, cap, cur, hv, hge, hr, hrest⟩
  · exact .inl h0
  · exact .inr ⟨g, cap, cur, hv, hge, (hg.block g (Array.getElem?_eq_some_iff.1 hr).1 (fun e => by injection e; omega)).trans hr, hrest⟩
/-- Places of edges as values. -/
def bV (l : List Nat) : List Value := l.map fun k : Nat => .int .i64 (k : Int)
theorem bV_snoc (l : List Nat) (k : Nat) : bV (l ++ [k]) = bV l ++ [.int .i64 (k : Int)] := by simp [bV]
theorem Memo.below {K : Int → Prop} {val : Int → Int} {gm n B : Nat} {w w' : World} (h : Memo K val gm n w) (hb : Below B w w') (hg : gm < B) : Memo K val gm n w' := by
  obtain ⟨D, ⟨es, clock, h1, r⟩, h2⟩ := h
  exact ⟨D, ⟨es, clock, (hb.block _ hg).trans h1, r⟩, h2⟩
end Go.Proofs.YthfgbgmkiggjmacDoor
