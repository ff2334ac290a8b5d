/- For every graph, graph.Parts tells with whom each node is linked; of a wrong graph, what is wrong. No conditions. -/
import Derived.Test.YthfgbgmkiggjmabDoorParts
import Derived.Test.YthfgbgmkiggjmabDoorRefParts
import Derived.Test.YthfgbgmkiggjmabDoorInts
import Derived.Test.YthfgbgmkiggjmabDoorOpen
namespace Go.Proofs.YthfgbgmkiggjmabDoor
open Go.RowKit

set_option maxRecDepth 100000 in
set_option maxHeartbeats 400000 in
theorem graphParts_bad (n : Int) (A : Option Addr) (len cap : Nat) (es : List E3) (v : Int) (w : World) (hE : EdgesAt w w.heap.size A len es) (hcap : len ≤ cap) (hv : gcheck n es = v) (hv0 : v ≠ 0) :
    Calls Tryd.prog 3 #[.agg #[.int .i64 n, .slice A len cap]] w fun e w' => e = .returned (.bool true) ∧ Below w.heap.size w w' := by
  have HE := Lib.hid (show EdgesAt (bx w n A len cap) (bx w n A len cap).heap.size A len es from (hE.alloc (Nat.le_refl _) _).more (by simp [bx]))
  have HV := Lib.hid hv
  have HV0 := Lib.hid hv0
  have hb0 : (v != 0) = true := by simpa using hv0
  clear hE hv hv0
  go_enter Tryd.func3, Tryd.ntmps3
  go_wp2_with (first
    | (go_at_call 15; refine (parts_bad n A len cap es v _ (by exact HE.out) HV.out HV0.out).mono ?_; rintro e w1 ⟨rfl, hb1⟩; obtain ⟨hcc, hff⟩ := bcell hb1; have HE1 := Lib.hid (EdgesAt.go_ HE.out hb1))
    | (go_at_call 16; refine ((graphCheck_any n A len cap es _ (by exact HE1.out) hcap).mono (R' := fun e w' => e = .returned (.int .i64 v) ∧ Below _ _ w') (fun e w' h => ⟨by rw [h.1, HV.out], h.2⟩)).mono ?_; rintro e w2 ⟨rfl, hb2⟩))
  go_ret
  exact ⟨rfl, (((Below.refl _ _).alloc (Nat.le_refl _) _).trans (hb1.mono (by simp))).trans (hb2.mono (by have := hb1.size; simp at this; omega))⟩

set_option maxRecDepth 100000 in
set_option maxHeartbeats 1000000 in
theorem graphParts_good (m : Nat) (A : Option Addr) (len cap : Nat) (es : List E3) (w : World) (hE : EdgesAt w w.heap.size A len es) (hcap : len ≤ cap) (hv : gcheck m es = 0) (hT : Tab w) :
    Calls Tryd.prog 3 #[.agg #[.int .i64 m, .slice A len cap]] w fun e w' => e = .returned (.bool true) ∧ Below w.heap.size w w' := by
  obtain ⟨_, hm10', hl45, hgood⟩ := good_of_gcheck hv
  have hm10 : m ≤ 10 := by omega
  have hlen : len ≤ 45 := by have := hE.1; omega
  have HE := Lib.hid (show EdgesAt (bx w m A len cap) (bx w m A len cap).heap.size A len es from (hE.alloc (Nat.le_refl _) _).more (by simp [bx]))
  have HT := Lib.hid (show Tab (bx w m A len cap) from hT.alloc _)
  have HV := Lib.hid hv
  have HG := Lib.hid hgood
  clear hE hv hl45 hT hgood
  go_enter Tryd.func3, Tryd.ntmps3
  go_wp2_with (first
    | (go_at_call 15; refine (parts_good m A len cap es _ (by exact HE.out) HV.out (by exact HT.out)).mono ?_; rintro e w1 ⟨gd, rfl, hmat, hgd, hb1⟩; have HM1 := Lib.hid hmat; have HB1 := Lib.hid hb1; have HE1 := Lib.hid (EdgesAt.go_ HE.out hb1); have hx0 : w1.cell? ⟨w.heap.size, 0, none⟩ = some (.int .i64 m) := (by rw [hb1.cell (p := ⟨w.heap.size, 0, none⟩) (by simp)]; simp [go_sem]); have hx1 : w1.cell? ⟨w.heap.size, 1, none⟩ = some (.slice A len cap) := (by rw [hb1.cell (p := ⟨w.heap.size, 1, none⟩) (by simp)]; simp [go_sem]); have hs1 : w.heap.size < w1.heap.size := (by have := hb1.size; simp at this; omega); clear hmat hb1)
    | (go_at_call 16; refine ((graphCheck_any m A len cap es _ (by exact HE1.out) hcap).mono (R' := fun e w' => e = .returned (.int .i64 0) ∧ Below _ _ w') (fun e w' h => ⟨by rw [h.1, HV.out], h.2⟩)).mono ?_; rintro e w2 ⟨rfl, hb2⟩; have HB2 := Lib.hid hb2; have hy0 : w2.cell? ⟨w.heap.size, 0, none⟩ = some (.int .i64 m) := ((hb2.cell (p := ⟨w.heap.size, 0, none⟩) hs1).trans hx0); have hy1 : w2.cell? ⟨w.heap.size, 1, none⟩ = some (.slice A len cap) := ((hb2.cell (p := ⟨w.heap.size, 1, none⟩) hs1).trans hx1); have HE2 := Lib.hid (EdgesAt.go_ HE1.out hb2); clear hb2 hx0 hx1)
    | (go_at_call 18; refine (refParts_any m A len cap es _ (by exact HE2.out) hm10 hlen HG.out).mono ?_; rintro e w3 ⟨ho, hb3⟩; have HB3 := Lib.hid hb3; clear hb3; obtain ⟨A3, cap3, HL3, rfl⟩ : ∃ A3 cap3, Hid (IntsAt w3 w3.heap.size A3 m (partsL m (nbL m es))) ∧ e = .returned (.slice A3 m cap3) := (by obtain ⟨v, he, hr⟩ := ho; obtain ⟨A3, cap3, hv⟩ := own_form hr; subst hv; exact ⟨A3, cap3, Lib.hid (IntsAt.of_own hr (Nat.le_refl _)), he⟩); clear ho; have HL1 : Hid (IntsAt w3 w3.heap.size (some ⟨gd, 0, none⟩) m (partsL m (nbL m es))) := Lib.hid (by have h := ((IntsAt.of_row HM1.out HM1.out.lt).go_ HB2.out).go_ HB3.out; rwa [partsL_length] at h))
    | (go_at_call 17; refine (ints_same (some ⟨gd, 0, none⟩) A3 m m cap3 (partsL m (nbL m es)) _ (by exact HL1.out) (by exact HL3.out) (by omega)).mono ?_; rintro e w4 ⟨rfl, q, rfl⟩))
  go_ret
  exact ⟨rfl, below_drewN ((((Below.refl _ _).alloc (Nat.le_refl _) _).trans (HB1.out.mono (by simp))).trans ((HB2.out.mono (by have := HB1.out.size; simp at this; omega)).trans (HB3.out.mono (by have h1 := HB1.out.size; have h2 := HB2.out.size; simp at h1; omega)))) q⟩

set_option maxRecDepth 100000 in
theorem graphParts_any (n : Int) (A : Option Addr) (len cap : Nat) (es : List E3) (w : World) (hE : EdgesAt w w.heap.size A len es) (hcap : len ≤ cap) (_ : ∀ e ∈ es, WfE e) (_ : (Lit.int .i64 n).wf = true) (hT : Tab w) :
    Calls Tryd.prog 3 #[.agg #[.int .i64 n, .slice A len cap]] w fun e w' => e = .returned (.bool true) ∧ Below w.heap.size w w' := by
  by_cases h : gcheck n es = 0
  · obtain ⟨m, rfl⟩ := Int.eq_ofNat_of_zero_le (good_of_gcheck h).1
    exact graphParts_good m A len cap es w hE hcap h hT
  · exact graphParts_bad n A len cap es _ w hE hcap rfl h
end Go.Proofs.YthfgbgmkiggjmabDoor
