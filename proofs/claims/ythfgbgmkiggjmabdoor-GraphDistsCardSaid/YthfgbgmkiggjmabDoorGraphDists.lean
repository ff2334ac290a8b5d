/- For every graph, graph.Dist tells how far each node is from each; of a wrong graph, what is wrong. No conditions. -/
import Derived.Test.YthfgbgmkiggjmabDoorBfs
import Derived.Test.YthfgbgmkiggjmabDoorDist
import Derived.Test.YthfgbgmkiggjmabDoorUnite
import Derived.Test.YthfgbgmkiggjmabDoorRefDist
import Derived.Test.YthfgbgmkiggjmabDoorLists
import Derived.Test.YthfgbgmkiggjmabDoorOpen
namespace Go.Proofs.YthfgbgmkiggjmabDoor
open Go.RowKit

noncomputable def distL (m : Nat) (es : List E3) : List (List Int) := (List.range m).map fun i => (List.range m).map fun j => distI (adjE es) i j
theorem distL_get {m : Nat} {es : List E3} {i : Nat} {xs : List Int} (h : (distL m es)[i]? = some xs) : i < m ∧ xs = (List.range m).map fun j => distI (adjE es) i j := by
  obtain ⟨hi, he⟩ := List.getElem?_eq_some_iff.1 h
  simp [distL] at hi he
  exact ⟨hi, he.symm⟩
theorem distM_eq {m : Nat} {es : List E3} (hm : m ≤ 10) (hg : goodE m es) : distM m (nbL m es) = distL m es := by
  apply List.ext_getElem
  · simp [distM, distL]
  · intro i h1 h2
    have hi : i < m := by simpa [distM] using h1
    simp only [distM, distL, List.getElem_map, List.getElem_range]
    apply List.ext_getElem
    · simp [distRow, rowTo_length]
    · intro j h3 h4
      have hj : j < m := by simpa using h4
      have h := distRow_get hm hg hi hj
      rw [List.getElem?_eq_getElem h3] at h
      injection h with h
      simpa using h
theorem MatAt.lists {w : World} {g m : Nat} {mat : List (List Int)} (h : MatAt w g m mat) (hl : mat.length = m) : ListsAt w w.heap.size (some ⟨g, 0, none⟩) m mat := by
  obtain ⟨gs, h1, h2, h3⟩ := h
  refine ⟨hl, fun _ => ⟨g, 0, rfl, h2.lt, fun i xs hx => ?_⟩⟩
  have hi : i < gs.length := by have := (List.getElem?_eq_some_iff.1 hx).1; omega
  obtain ⟨q1, q2, q3⟩ := h3 i gs[i] xs (List.getElem?_eq_getElem hi) hx
  refine ⟨some ⟨gs[i], 0, none⟩, m, ?_, IntsAt.of_row q2 q2.lt⟩
  rw [Nat.zero_add, h2.cell (by rw [List.getElem?_map, List.getElem?_eq_getElem hi]; rfl), q3]
  rfl
theorem Rows1.lists {w : World} {base m : Nat} {v : Value} {bs cs : Nat → Nat} {es : List E3} (h : Rows1 w base m m v bs cs (distI (adjE es))) : ∃ A cap, v = .slice A m cap ∧ ListsAt w w.heap.size A m (distL m es) := by
  obtain ⟨A, cap, rfl⟩ := own_form h.own
  refine ⟨A, cap, rfl, by simp [distL], fun hm => ?_⟩
  obtain ⟨g, cap', hv, _, hg, hc⟩ := h.top hm
  injection hv with hv _ _
  subst hv
  refine ⟨g, 0, rfl, hg, fun i xs hx => ?_⟩
  obtain ⟨hi, rfl⟩ := distL_get hx
  refine ⟨some ⟨bs i, 0, none⟩, cs i, ?_, rfl, fun _ => ⟨bs i, 0, rfl, (h.row i hi).2.lt, fun j x hj => ?_⟩⟩
  · rw [Nat.zero_add, hc i hi]; simp
  · obtain ⟨hj1, hj2⟩ := List.getElem?_eq_some_iff.1 hj
    simp at hj1 hj2
    rw [Nat.zero_add, h.cell hi hj1, hj2]

set_option maxRecDepth 100000 in
set_option maxHeartbeats 400000 in
theorem graphDists_bad (n : Int) (A : Option Addr) (len cap : Nat) (es : List E3) (v : Int) (w : World) (hE : EdgesAt w w.heap.size A len es) (hcap : len ≤ cap) (hv : gcheck n es = v) (hv0 : v ≠ 0) :
    Calls Tryd.prog 4 #[.agg #[.int .i64 n, .slice A len cap]] w fun e w' => e = .returned (.bool true) ∧ Below w.heap.size w w' := by
  have HE := Lib.hid (show EdgesAt (bx w n A len cap) (bx w n A len cap).heap.size A len es from (hE.alloc (Nat.le_refl _) _).more (by simp [bx]))
  have HV := Lib.hid hv
  have HV0 := Lib.hid hv0
  have hb0 : (v != 0) = true := by simpa using hv0
  clear hE hv hv0
  go_enter Tryd.func4, Tryd.ntmps4
  go_wp2_with (first
    | (go_at_call 19; refine (dist_bad n A len cap es v _ (by exact HE.out) HV.out HV0.out).mono ?_; rintro e w1 ⟨rfl, hb1⟩; obtain ⟨hcc, hff⟩ := bcell hb1; have HE1 := Lib.hid (EdgesAt.go_ HE.out hb1))
    | (go_at_call 16; refine ((graphCheck_any n A len cap es _ (by exact HE1.out) hcap).mono (R' := fun e w' => e = .returned (.int .i64 v) ∧ Below _ _ w') (fun e w' h => ⟨by rw [h.1, HV.out], h.2⟩)).mono ?_; rintro e w2 ⟨rfl, hb2⟩))
  go_ret
  exact ⟨rfl, (((Below.refl _ _).alloc (Nat.le_refl _) _).trans (hb1.mono (by simp))).trans (hb2.mono (by have := hb1.size; simp at this; omega))⟩

set_option maxRecDepth 100000 in
set_option maxHeartbeats 1000000 in
theorem graphDists_good (m : Nat) (A : Option Addr) (len cap : Nat) (es : List E3) (w : World) (hE : EdgesAt w w.heap.size A len es) (hcap : len ≤ cap) (hv : gcheck m es = 0) (hT : Tab w) :
    Calls Tryd.prog 4 #[.agg #[.int .i64 m, .slice A len cap]] w fun e w' => e = .returned (.bool true) ∧ Below w.heap.size w w' := by
  obtain ⟨_, hm10', hl45, hgood⟩ := good_of_gcheck hv
  have hm10 : m ≤ 10 := by omega
  have hlen : len ≤ 45 := by have := hE.1; omega
  have HE := Lib.hid (show EdgesAt (bx w m A len cap) (bx w m A len cap).heap.size A len es from (hE.alloc (Nat.le_refl _) _).more (by simp [bx]))
  have HT := Lib.hid (show Tab (bx w m A len cap) from hT.alloc _)
  have HV := Lib.hid hv
  have HIN := Lib.hid (InE.of_good hgood)
  have HD := Lib.hid (distM_eq hm10 hgood)
  clear hE hv hl45 hT hgood
  go_enter Tryd.func4, Tryd.ntmps4
  go_wp2_with (first
    | (go_at_call 19; refine (dist_good m A len cap es _ (by exact HE.out) HV.out (by exact HT.out)).mono ?_; rintro e w1 ⟨gd, rfl, hmat, hgd, hb1⟩; have HM1 := Lib.hid hmat; have HB1 := Lib.hid hb1; have HE1 := Lib.hid (EdgesAt.go_ HE.out hb1); have hx0 : w1.cell? ⟨w.heap.size, 0, none⟩ = some (.int .i64 m) := (by rw [hb1.cell (p := ⟨w.heap.size, 0, none⟩) (by simp)]; simp [go_sem]); have hx1 : w1.cell? ⟨w.heap.size, 1, none⟩ = some (.slice A len cap) := (by rw [hb1.cell (p := ⟨w.heap.size, 1, none⟩) (by simp)]; simp [go_sem]); have hs1 : w.heap.size < w1.heap.size := (by have := hb1.size; simp at this; omega); clear hmat hb1)
    | (go_at_call 16; refine ((graphCheck_any m A len cap es _ (by exact HE1.out) hcap).mono (R' := fun e w' => e = .returned (.int .i64 0) ∧ Below _ _ w') (fun e w' h => ⟨by rw [h.1, HV.out], h.2⟩)).mono ?_; rintro e w2 ⟨rfl, hb2⟩; have HB2 := Lib.hid hb2; have hy0 : w2.cell? ⟨w.heap.size, 0, none⟩ = some (.int .i64 m) := ((hb2.cell (p := ⟨w.heap.size, 0, none⟩) hs1).trans hx0); have hy1 : w2.cell? ⟨w.heap.size, 1, none⟩ = some (.slice A len cap) := ((hb2.cell (p := ⟨w.heap.size, 1, none⟩) hs1).trans hx1); have HE2 := Lib.hid (EdgesAt.go_ HE1.out hb2); clear hb2 hx0 hx1)
    | (go_at_call 21; refine (refDist_any m A len cap es _ (by exact HE2.out) hm10 hlen HIN.out).mono ?_; rintro e w3 ⟨ho, hb3⟩; have HB3 := Lib.hid hb3; clear hb3; obtain ⟨A3, cap3, HL3, rfl⟩ : ∃ A3 cap3, Hid (ListsAt w3 w3.heap.size A3 m (distL m es)) ∧ e = .returned (.slice A3 m cap3) := (by obtain ⟨v, bs, cs, he, hr⟩ := ho; obtain ⟨A3, cap3, hv, hl⟩ := hr.lists; exact ⟨A3, cap3, Lib.hid hl, by rw [he, hv]⟩); clear ho; have HL1 : Hid (ListsAt w3 w3.heap.size (some ⟨gd, 0, none⟩) m (distL m es)) := Lib.hid (by have h := ((HM1.out.lists (distM_length _ _)).go_ HB2.out).go_ HB3.out; rwa [HD.out] at h))
    | (go_at_call 20; refine (lists_same (some ⟨gd, 0, none⟩) A3 m m cap3 (distL m es) _ (by exact HL1.out) (by exact HL3.out) (by omega) (by intro xs hx; simp [distL] at hx; obtain ⟨a, _, rfl⟩ := hx; simp; omega)).mono ?_; rintro e w4 ⟨rfl, q, rfl⟩))
  go_ret
  exact ⟨rfl, below_drewN ((((Below.refl _ _).alloc (Nat.le_refl _) _).trans (HB1.out.mono (by simp))).trans ((HB2.out.mono (by have := HB1.out.size; simp at this; omega)).trans (HB3.out.mono (by have h1 := HB1.out.size; have h2 := HB2.out.size; simp at h1; omega)))) q⟩

set_option maxRecDepth 100000 in
theorem graphDists_any (n : Int) (A : Option Addr) (len cap : Nat) (es : List E3) (w : World) (hE : EdgesAt w w.heap.size A len es) (hcap : len ≤ cap) (_ : ∀ e ∈ es, WfE e) (_ : (Lit.int .i64 n).wf = true) (hT : Tab w) :
    Calls Tryd.prog 4 #[.agg #[.int .i64 n, .slice A len cap]] w fun e w' => e = .returned (.bool true) ∧ Below w.heap.size w w' := by
  by_cases h : gcheck n es = 0
  · obtain ⟨m, rfl⟩ := Int.eq_ofNat_of_zero_le (good_of_gcheck h).1
    exact graphDists_good m A len cap es w hE hcap h hT
  · exact graphDists_bad n A len cap es _ w hE hcap rfl h
end Go.Proofs.YthfgbgmkiggjmabDoor
