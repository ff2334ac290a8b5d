/- graph.Degrees: of each node how many edges it has. -/
import Derived.Test.YthfgbgmkiggjmabDoorCheckGo
import Derived.Test.YthfgbgmkiggjmabDoorDegree
import Derived.Test.YthfgbgmkiggjmabDoorRows2
import Derived.Test.YthfgbgmkiggjmabDoorGood
namespace Go.Proofs.YthfgbgmkiggjmabDoor
open Go.RowKit

def degL (m : Nat) (es : List E3) : List Int := (List.range m).map fun i : Nat => (degN es (i : Int) : Int)
theorem degL_length (m : Nat) (es : List E3) : (degL m es).length = m := by simp [degL]
theorem degL_nil (m : Nat) : degL m [] = List.replicate m 0 := by
  apply List.ext_getElem
  · simp [degL]
  · intro i h1 h2
    simp [degL, degN]
theorem degL_get {m : Nat} (es : List E3) {i : Nat} (h : i < m) : (degL m es)[i]? = some (degN es (i : Int) : Int) := by simp [degL, h]

theorem degL_next (m : Nat) (es : List E3) (k i j : Nat) (c : Int) (h : es[k]? = some ((i : Int), (j : Int), c)) :
    ((degL m (es.take k)).set i ((degN (es.take k) (i : Int) : Int) + 1)).set j ((degN (es.take k) (j : Int) : Int) + 1) = degL m (es.take (k + 1)) := by
  apply List.ext_getElem
  · simp [degL]
  · intro x h1 h2
    simp only [List.length_set, degL_length] at h1
    rw [List.getElem_set, List.getElem_set]
    simp only [degL, List.getElem_map, List.getElem_range]
    rw [degN_next es k _ (x : Int) h]
    by_cases hx : j = x
    · subst hx; simp [touchB]
    · by_cases hx2 : i = x
      · subst hx2; simp [touchB, hx]
      · have : ¬ touchB (x : Int) ((i : Int), (j : Int), c) = true := by simp [touchB]; omega
        simp [hx, hx2, this]

set_option maxRecDepth 100000 in
set_option maxHeartbeats 400000 in
theorem degrees_bad (n : Int) (A : Option Addr) (len cap : Nat) (es : List E3) (v : Int) (w : World) (hE : EdgesAt w w.heap.size A len es) (hv : gcheck n es = v) (hv0 : v ≠ 0) :
    Calls Tryd.prog 28 #[.agg #[.int .i64 n, .slice A len cap]] w fun e w' => e = .returned (.tuple #[.slice none 0 0, .int .i64 v]) ∧ Below w.heap.size w w' := by
  have HE := Lib.hid (show EdgesAt (bx w n A len cap) (bx w n A len cap).heap.size A len es from (hE.alloc (Nat.le_refl _) _).more (by simp [bx]))
  have HV := Lib.hid hv
  have hb0 : (v != 0) = true := by simpa using hv0
  clear hE hv hv0
  go_enter Tryd.func28, Tryd.ntmps28
  go_wp2_with (go_at_call 54; refine ((check_any n A len cap es _ (by exact HE.out)).mono (R' := fun e w' => e = .returned (.int .i64 v) ∧ Below (bx w n A len cap).heap.size (bx w n A len cap) w') (fun e w' h => ⟨by rw [h.1, HV.out], h.2⟩)).mono ?_; rintro e w1 ⟨rfl, hb1⟩)
  go_ret2
  exact ⟨rfl, ((Below.refl _ _).alloc (Nat.le_refl _) _).trans (hb1.mono (by simp [bx]))⟩

set_option maxRecDepth 100000 in
set_option maxHeartbeats 1000000 in
theorem degrees_good (m : Nat) (A : Option Addr) (len cap : Nat) (es : List E3) (w : World) (hE : EdgesAt w w.heap.size A len es) (hv : gcheck m es = 0) :
    Calls Tryd.prog 28 #[.agg #[.int .i64 m, .slice A len cap]] w fun e w' => ∃ g, e = .returned (.tuple #[.slice (some ⟨g, 0, none⟩) m m, .int .i64 0]) ∧ RowOf w' g 3 ((degL m es).map (Value.int .i64)) ∧ w.heap.size ≤ g ∧ Below w.heap.size w w' := by
  obtain ⟨_, hm10, hl45, hgood⟩ := good_of_gcheck hv
  have hlen : len ≤ 45 := by have := hE.1; omega
  have HE := Lib.hid (show EdgesAt (bx w m A len cap) (bx w m A len cap).heap.size A len es from (hE.alloc (Nat.le_refl _) _).more (by simp [bx]))
  have HV := Lib.hid hv
  have HG := Lib.hid hgood
  have HL := Lib.hid hE.1
  clear hE hv hgood hl45
  have hmk := fun W => run_make_row' (P := Tryd.prog) 25 3 (.int .i64 0) 8 Tryd.underlying25 (by kernel_rfl) rfl .i64 .i64 m (by omega) (by omega) W
  go_enter Tryd.func28, Tryd.ntmps28
  go_wp2_with (go_at_call 54; refine ((check_any m A len cap es _ (by exact HE.out)).mono (R' := fun e w' => e = .returned (.int .i64 0) ∧ Below (bx w m A len cap).heap.size (bx w m A len cap) w') (fun e w' h => ⟨by rw [h.1, HV.out], h.2⟩)).mono ?_; rintro e w1 ⟨rfl, hb1⟩; have hbx0 : w1.cell? ⟨w.heap.size, 0, none⟩ = some (.int .i64 m) := (by rw [hb1.cell (p := ⟨w.heap.size, 0, none⟩) (by simp [bx])]; simp [bx, go_sem]); have hbx1 : w1.cell? ⟨w.heap.size, 1, none⟩ = some (.slice A len cap) := (by rw [hb1.cell (p := ⟨w.heap.size, 1, none⟩) (by simp [bx])]; simp [bx, go_sem]); have hs1 : w.heap.size < w1.heap.size := (by have := hb1.size; simp [bx] at this; omega))
  clear hmk
  have HE1 := Lib.hid (HE.out.go_ hb1)
  have hBw1 : Below w.heap.size w w1 := ((Below.refl _ _).alloc (Nat.le_refl _) _).trans (hb1.mono (by simp [bx]))
  clear HE hbx0 hbx1
  go_loopw [19] (fun j wr => ∃ k : Nat, k ≤ len ∧ j = .int .i64 k ∧ Hid (RowOf wr w1.heap.size 3 ((degL m (es.take k)).map (Value.int .i64))) ∧ Below w1.heap.size w1 wr) (fun j _ => len - (intOf j).toNat)
  case atStart =>
    refine ⟨0, Nat.zero_le _, rfl, Lib.hid ?_, (Below.refl _ _).alloc (Nat.le_refl _) _⟩
    rw [List.take_zero, degL_nil, List.map_replicate]
    exact RowOf.made w1 _ m _
  case round =>
    obtain ⟨k, hk, rfl, HR, hB⟩ := hrel
    by_cases hlt : k < len
    · obtain ⟨b, off, ⟨a0, a1, a2⟩, rfl, hb, hx, hc0, hc1, hc2⟩ := (HE1.out.below hB).at_ hlt
      obtain ⟨p0, p1, p2, p3, p4, _⟩ := edge_ok (HG.out k _ hx)
      simp only at p0 p1 p2 p3 p4
      obtain ⟨i, rfl⟩ := Int.eq_ofNat_of_zero_le p0
      obtain ⟨j, rfl⟩ := Int.eq_ofNat_of_zero_le p2
      have hi : i < m := by omega
      have hj : j < m := by omega
      have hij : ¬ j = i := by omega
      have hji : ¬ i = j := by omega
      have HN := Lib.hid (degL_next m es k i j a2 hx)
      have hci : wr.cell? ⟨w1.heap.size, i, none⟩ = some (.int .i64 (degN (es.take k) i)) := HR.out.cell (by rw [List.getElem?_map, degL_get _ hi]; rfl)
      have hcj : wr.cell? ⟨w1.heap.size, j, none⟩ = some (.int .i64 (degN (es.take k) j)) := HR.out.cell (by rw [List.getElem?_map, degL_get _ hj]; rfl)
      have hfi := HR.out.frozen i
      have hfj := HR.out.frozen j
      have hgl : w1.heap.size < wr.heap.size := HR.out.lt
      have hd1 := degN_le (es.take k) (i : Int)
      have hd2 := degN_le (es.take k) (j : Int)
      have htl : (es.take k).length ≤ k := List.length_take_le _ _
      have hbr : b < wr.heap.size := by omega
      clear hx p4 hij
      have hij : ¬ j = i := by omega
      go_wp2
      go_roundw
      case rel =>
        refine ⟨k + 1, by omega, by go_num, Lib.hid ?_, ((hB.setCell (p := ⟨w1.heap.size, i, none⟩) (Nat.le_refl _) _).setCell (p := ⟨w1.heap.size, j, none⟩) (Nat.le_refl _) _).alloc (by simp; omega) _⟩
        rw [← HN.out, List.map_set, List.map_set]
        exact ((HR.out.set_ i _).set_ j _).alloc _
      case measure => simp [intOf]; omega
    · have hke : es.take k = es := List.take_of_length_le (by have := HL.out; omega)
      have HR2 : Hid (RowOf wr w1.heap.size 3 ((degL m es).map (Value.int .i64))) := Lib.hid (by rw [← hke]; exact HR.out)
      clear hke
      go_wp2
      go_ret2
      exact ⟨_, rfl, HR2.out, by omega, hBw1.trans (hB.mono (by omega))⟩
end Go.Proofs.YthfgbgmkiggjmabDoor
