/- graph.Dist: of each node, of each node how far it is. -/
import Derived.Test.YthfgbgmkiggjmabDoorDistFrom
import Derived.Test.YthfgbgmkiggjmabDoorParts
namespace Go.Proofs.YthfgbgmkiggjmabDoor
open Go.RowKit

def rowV (m b : Nat) : Value := .slice (some ⟨b, 0, none⟩) m m
/-- Block g holds the rows of a matrix, each in a block of its own behind it. -/
def MatAt (w : World) (g m : Nat) (mat : List (List Int)) : Prop :=
  ∃ gs : List Nat, gs.length = mat.length ∧ RowOf w g 25 (gs.map (rowV m)) ∧ ∀ (i b : Nat) (r : List Int), gs[i]? = some b → mat[i]? = some r → g < b ∧ RowOf w b 3 (r.map (Value.int .i64)) ∧ r.length = m
def distM (m : Nat) (ar : List Nat) : List (List Int) := (List.range m).map (distRow m ar)
theorem distM_length (m : Nat) (ar : List Nat) : (distM m ar).length = m := by simp [distM]

/-- .. as far as it is filled. -/
def MatTo (w : World) (g m : Nat) (mat : List (List Int)) (k : Nat) : Prop :=
  ∃ gs : List Nat, gs.length = k ∧ RowOf w g 25 (gs.map (rowV m) ++ List.replicate (m - k) (.slice none 0 0)) ∧ ∀ (i b : Nat) (r : List Int), gs[i]? = some b → mat[i]? = some r → g < b ∧ RowOf w b 3 (r.map (Value.int .i64)) ∧ r.length = m
theorem MatTo.keep {w w' : World} {g m k : Nat} {mat : List (List Int)} (h : MatTo w g m mat k) (hb : Below w.heap.size w w') : MatTo w' g m mat k := by
  obtain ⟨gs, h1, h2, h3⟩ := h
  exact ⟨gs, h1, h2.keep hb, fun i b r hi hr => ⟨(h3 i b r hi hr).1, (h3 i b r hi hr).2.1.keep hb, (h3 i b r hi hr).2.2⟩⟩
set_option maxRecDepth 100000 in
theorem MatTo.next {w : World} {g m k b : Nat} {mat : List (List Int)} {r : List Int} (h : MatTo w g m mat k) (hk : k < m) (hr : mat[k]? = some r) (hb : RowOf w b 3 (r.map (Value.int .i64))) (hg : g < b) (hl : r.length = m) :
    MatTo (w.setCell ⟨g, k, none⟩ (.slice (some ⟨b, 0, none⟩) m m)) g m mat (k + 1) := by
  obtain ⟨gs, h1, h2, h3⟩ := h
  refine ⟨gs ++ [b], by simp [h1], ?_, fun i b' r' hi hr' => ?_⟩
  · have hs := h2.set_ k (.slice (some ⟨b, 0, none⟩) m m)
    have e : (gs.map (rowV m) ++ List.replicate (m - k) (Value.slice none 0 0)).set k (.slice (some ⟨b, 0, none⟩) m m) = (gs ++ [b]).map (rowV m) ++ List.replicate (m - (k + 1)) (.slice none 0 0) := by
      rw [List.set_append, if_neg (by simp [h1]), List.length_map, h1, Nat.sub_self, show m - k = (m - (k + 1)) + 1 by omega, List.replicate_succ, List.set_cons_zero, List.map_append, List.append_assoc]
      rfl
    rw [e] at hs
    exact hs
  · rcases Nat.lt_or_ge i k with hik | hik
    · rw [List.getElem?_append_left (by omega)] at hi
      obtain ⟨q1, q2, q3⟩ := h3 i b' r' hi hr'
      exact ⟨q1, q2.far (by show b' ≠ g; omega) _, q3⟩
    · rw [List.getElem?_append_right (by omega)] at hi
      have hi0 : i = k := by
        rcases Nat.lt_or_ge (i - gs.length) 1 with h | h
        · omega
        · rw [List.getElem?_eq_none (by simp; omega)] at hi
          cases hi
      subst hi0
      rw [h1, Nat.sub_self] at hi
      simp only [List.getElem?_cons_zero, Option.some.injEq] at hi
      subst hi
      rw [hr] at hr'
      injection hr' with hr'
      subst hr'
      exact ⟨hg, hb.far (by show b ≠ g; omega) _, hl⟩

set_option maxRecDepth 100000 in
set_option maxHeartbeats 400000 in
theorem dist_bad (n : Int) (A : Option Addr) (len cap : Nat) (es : List E3) (v : Int) (w : World) (hE : EdgesAt w w.heap.size A len es) (hv : gcheck n es = v) (hv0 : v ≠ 0) :
    Calls Tryd.prog 19 #[.agg #[.int .i64 n, .slice A len cap]] w fun e w' => e = .returned (.tuple #[.slice none 0 0, .int .i64 v]) ∧ Below w.heap.size w w' := by
  have HE := Lib.hid (show EdgesAt (bx w n A len cap) (bx w n A len cap).heap.size A len es from (hE.alloc (Nat.le_refl _) _).more (by simp [bx]))
  have HV := Lib.hid hv
  have HV0 := Lib.hid hv0
  have hb0 : (v != 0) = true := by simpa using hv0
  clear hE hv hv0
  go_enter Tryd.func19, Tryd.ntmps19
  go_wp2_with (go_at_call 41; refine (neighbours_bad n A len cap es v _ (by exact HE.out) HV.out HV0.out).mono ?_; rintro e w1 ⟨rfl, hb1⟩)
  go_ret2
  exact ⟨rfl, ((Below.refl _ _).alloc (Nat.le_refl _) _).trans (hb1.mono (by simp))⟩

set_option maxRecDepth 100000 in
set_option maxHeartbeats 1000000 in
theorem dist_good (m : Nat) (A : Option Addr) (len cap : Nat) (es : List E3) (w : World) (hE : EdgesAt w w.heap.size A len es) (hv : gcheck m es = 0) (hT : Tab w) :
    Calls Tryd.prog 19 #[.agg #[.int .i64 m, .slice A len cap]] w fun e w' => ∃ g, e = .returned (.tuple #[.slice (some ⟨g, 0, none⟩) m m, .int .i64 0]) ∧ MatAt w' g m (distM m (nbL m es)) ∧ w.heap.size ≤ g ∧ Below w.heap.size w w' := by
  obtain ⟨_, hm10', hl45, hgood⟩ := good_of_gcheck hv
  have hm10 : m ≤ 10 := by omega
  have HE := Lib.hid (show EdgesAt (bx w m A len cap) (bx w m A len cap).heap.size A len es from (hE.alloc (Nat.le_refl _) _).more (by simp [bx]))
  have HV := Lib.hid hv
  have HW := Lib.hid (nbL_words hgood)
  have HT := Lib.hid hT
  clear hE hv hgood hl45 hT
  have hmk := fun W => run_make_row' (P := Tryd.prog) 33 25 (.slice none 0 0) 24 Tryd.underlying33 (by kernel_rfl) rfl .i64 .i64 m (by omega) (by omega) W
  go_enter Tryd.func19, Tryd.ntmps19
  go_wp2_with (go_at_call 41; refine (neighbours_any m A len cap es _ (by exact HE.out) HV.out).mono ?_; rintro e w2 ⟨gn, rfl, hrow, hgn, hb2⟩; have HR2 := Lib.hid hrow; have HB2 := Lib.hid hb2; have hby0 : w2.cell? ⟨w.heap.size, 0, none⟩ = some (.int .i64 m) := (by rw [hb2.cell (p := ⟨w.heap.size, 0, none⟩) (by simp)]; simp [go_sem]); have hs2 : w.heap.size < w2.heap.size := (by have := hb2.size; simp at this; omega); clear hrow hb2)
  clear hmk
  have hBw : Below w.heap.size w w2 := ((Below.refl _ _).alloc (Nat.le_refl _) _).trans (HB2.out.mono (by simp))
  have HW2 : Hid (WordsAt w2 w2.heap.size (some ⟨gn, 0, none⟩) m (nbL m es)) := Lib.hid (by
    have h := WordsAt.of_row HR2.out HR2.out.lt
    rw [nbL_length] at h
    exact h)
  have HBw := Lib.hid hBw
  have HT2 := Lib.hid (HT.out.go_ hBw)
  clear hBw hby0 hs2 HE HB2 HR2
  go_loopw [21] (fun j wr => ∃ k : Nat, k ≤ m ∧ j = .int .i64 k ∧ Hid (MatTo wr w2.heap.size m (distM m (nbL m es)) k) ∧ Below w2.heap.size w2 wr) (fun j _ => m - (intOf j).toNat)
  case atStart =>
    refine ⟨0, Nat.zero_le _, rfl, Lib.hid ⟨[], rfl, ?_, by simp⟩, (Below.refl _ _).alloc (Nat.le_refl _) _⟩
    simpa using RowOf.made w2 (.slice none 0 0) m 25
  case round =>
    obtain ⟨k, hk, rfl, HM, hB⟩ := hrel
    by_cases hlt : k < m
    · have HWr := Lib.hid (HW2.out.go_ hB)
      have HTr := Lib.hid (HT2.out.go_ hB)
      obtain ⟨gs, h1, hR, _⟩ := HM.out
      have hc0 : wr.cell? ⟨w2.heap.size, k, none⟩ = some (.slice none 0 0) := hR.cell (by
        rw [List.getElem?_append_right (by rw [List.length_map]; omega), List.length_map, h1, Nat.sub_self, List.getElem?_replicate, if_pos (by omega)])
      have hf0 := hR.frozen k
      have hgl := hR.lt
      clear hR h1
      go_wp2_with (go_at_call 44; refine (distFrom_any m k hm10 hlt (some ⟨gn, 0, none⟩) m (nbL m es) HW.out _ (by exact HWr.out) (by exact HTr.out)).mono ?_; rintro e w3 ⟨gk, rfl, hrow, hgk, hb3⟩; have HRk := Lib.hid hrow; have HB3 := Lib.hid hb3; have hc3 : w3.cell? ⟨w2.heap.size, k, none⟩ = some (.slice none 0 0) := ((hb3.cell (p := ⟨w2.heap.size, k, none⟩) hgl).trans hc0); have hf3 : w3.frozen? ⟨w2.heap.size, k, none⟩ = false := ((hb3.frozen (p := ⟨w2.heap.size, k, none⟩) hgl).trans hf0); clear hb3 hrow)
      go_roundw
      case rel => exact ⟨k + 1, by omega, by go_num, Lib.hid ((HM.out.keep HB3.out).next hlt (by simp [distM, hlt]) HRk.out (by omega) (rowTo_length m _)), (hB.trans (HB3.out.mono hB.size)).setCell (p := ⟨w2.heap.size, k, none⟩) (Nat.le_refl _) _⟩
      case measure => simp [intOf]; omega
    · obtain rfl : k = m := by omega
      have HM2 : Hid (MatAt wr w2.heap.size k (distM k (nbL k es))) := Lib.hid (by
        obtain ⟨gs, h1, h2, h3⟩ := HM.out
        rw [Nat.sub_self, List.replicate_zero, List.append_nil] at h2
        exact ⟨gs, by rw [h1, distM_length], h2, h3⟩)
      go_wp2
      go_ret2
      exact ⟨_, rfl, HM2.out, HBw.out.size, HBw.out.trans (hB.mono HBw.out.size)⟩
end Go.Proofs.YthfgbgmkiggjmabDoor
