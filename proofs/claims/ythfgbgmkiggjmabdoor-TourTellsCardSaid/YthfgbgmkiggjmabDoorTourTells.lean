/- For every graph, tour.Tour tells the first tour that meets each edge once, or that there is none; of a wrong graph, what is wrong. No conditions. -/
import Derived.Test.YthfgbgmkiggjmabDoorRefTourNone
import Derived.Test.YthfgbgmkiggjmabDoorOpen
namespace Go.Proofs.YthfgbgmkiggjmabDoor
open Go.RowKit

set_option maxRecDepth 100000 in
set_option maxHeartbeats 400000 in
theorem tourTells_bad (n : Int) (A : Option Addr) (len cap : Nat) (es : List E3) (v : Int) (w : World) (hE : EdgesAt w w.heap.size A len es) (hcap : len ≤ cap) (hv : gcheck n es = v) (hv0 : v ≠ 0) :
    Calls Tryd.prog 7 #[.agg #[.int .i64 n, .slice A len cap]] w fun e w' => e = .returned (.bool true) ∧ Below w.heap.size w w' := by
  have HE := Lib.hid (show EdgesAt (bx w n A len cap) (bx w n A len cap).heap.size A len es from (hE.alloc (Nat.le_refl _) _).more (by simp [bx]))
  have HV := Lib.hid hv
  have HV0 := Lib.hid hv0
  have hb0 : (v != 0) = true := by simpa using hv0
  have hb1 : (v == 0) = false := by simpa using hv0
  clear hE hv hv0
  go_enter Tryd.func7, Tryd.ntmps7
  go_wp2_with (first
    | (go_at_call 26; refine (tour_bad n A len cap es v _ (by exact HE.out) HV.out HV0.out).mono ?_; rintro e w1 ⟨rfl, hb1⟩; obtain ⟨hcc, hff⟩ := bcell hb1; have HE1 := Lib.hid (EdgesAt.go_ HE.out hb1))
    | (go_at_call 16; refine ((graphCheck_any n A len cap es _ (by exact HE1.out) hcap).mono (R' := fun e w' => e = .returned (.int .i64 v) ∧ Below _ _ w') (fun e w' h => ⟨by rw [h.1, HV.out], h.2⟩)).mono ?_; rintro e w2 ⟨rfl, hb2⟩))
  go_ret
  exact ⟨rfl, (((Below.refl _ _).alloc (Nat.le_refl _) _).trans (hb1.mono (by simp))).trans (hb2.mono (by have := hb1.size; simp at this; omega))⟩

set_option maxRecDepth 100000 in
set_option maxHeartbeats 400000 in
theorem tourTells_zero (A : Option Addr) (len cap : Nat) (es : List E3) (w : World) (hE : EdgesAt w w.heap.size A len es) (hcap : len ≤ cap) (hv : gcheck ((0 : Nat) : Int) es = 0) :
    Calls Tryd.prog 7 #[.agg #[.int .i64 ((0 : Nat) : Int), .slice A len cap]] w fun e w' => e = .returned (.bool true) ∧ Below w.heap.size w w' := by
  have HE := Lib.hid (show EdgesAt (bx w ((0 : Nat) : Int) A len cap) (bx w ((0 : Nat) : Int) A len cap).heap.size A len es from (hE.alloc (Nat.le_refl _) _).more (by simp [bx]))
  have HV := Lib.hid hv
  clear hE hv
  go_enter Tryd.func7, Tryd.ntmps7
  go_wp2_with (first
    | (go_at_call 26; refine (tour_zero A len cap es _ (by exact HE.out) HV.out).mono ?_; rintro e w1 ⟨rfl, hb1⟩; have hx0 : w1.cell? ⟨w.heap.size, 0, none⟩ = some (.int .i64 ((0 : Nat) : Int)) := (by rw [hb1.cell (p := ⟨w.heap.size, 0, none⟩) (by simp)]; simp [go_sem]); have hx1 : w1.cell? ⟨w.heap.size, 1, none⟩ = some (.slice A len cap) := (by rw [hb1.cell (p := ⟨w.heap.size, 1, none⟩) (by simp)]; simp [go_sem]); have hs1 : w.heap.size < w1.heap.size := (by have := hb1.size; simp at this; omega); have HE1 := Lib.hid (EdgesAt.go_ HE.out hb1))
    | (go_at_call 16; refine ((graphCheck_any ((0 : Nat) : Int) A len cap es _ (by exact HE1.out) hcap).mono (R' := fun e w' => e = .returned (.int .i64 0) ∧ Below _ _ w') (fun e w' h => ⟨by rw [h.1, HV.out], h.2⟩)).mono ?_; rintro e w2 ⟨rfl, hb2⟩; have hy0 : w2.cell? ⟨w.heap.size, 0, none⟩ = some (.int .i64 ((0 : Nat) : Int)) := ((hb2.cell (p := ⟨w.heap.size, 0, none⟩) hs1).trans hx0)))
  go_ret
  exact ⟨rfl, (((Below.refl _ _).alloc (Nat.le_refl _) _).trans (hb1.mono (by simp))).trans (hb2.mono (by have := hb1.size; simp at this; omega))⟩

set_option maxRecDepth 100000 in
set_option maxHeartbeats 1000000 in
theorem tourTells_none (m : Nat) (A : Option Addr) (len cap : Nat) (es : List E3) (w : World) (hE : EdgesAt w w.heap.size A len es) (hcap : len ≤ cap) (hv : gcheck m es = 0) (hm : 0 < m) (hT : Tab w) (ht : ¬ Tg (prsE es) (tourS m es) (tourS m es)) :
    Calls Tryd.prog 7 #[.agg #[.int .i64 m, .slice A len cap]] w fun e w' => e = .returned (.bool true) ∧ Below w.heap.size w w' := by
  have HE := Lib.hid (show EdgesAt (bx w m A len cap) (bx w m A len cap).heap.size A len es from (hE.alloc (Nat.le_refl _) _).more (by simp [bx]))
  have HT := Lib.hid (show Tab (bx w m A len cap) from hT.alloc _)
  have HV := Lib.hid hv
  have HTg := Lib.hid ht
  have hm0 : ((m : Int) == 0) = false := by simp; omega
  clear hE hv hT ht
  go_enter Tryd.func7, Tryd.ntmps7
  go_wp2_with (first
    | (go_at_call 26; refine ((tour_good m A len cap es _ (by exact HE.out) HV.out hm (by exact HT.out)).mono (R' := fun e w' => e = .returned (.tuple #[.slice none 0 0, .int .i64 5]) ∧ Below _ _ w') (fun e w' h => ⟨h.1.2 HTg.out, h.2⟩)).mono ?_; rintro e w1 ⟨rfl, hb1⟩; have hx0 : w1.cell? ⟨w.heap.size, 0, none⟩ = some (.int .i64 (m : Int)) := (by rw [hb1.cell (p := ⟨w.heap.size, 0, none⟩) (by simp)]; simp [go_sem]); have hx1 : w1.cell? ⟨w.heap.size, 1, none⟩ = some (.slice A len cap) := (by rw [hb1.cell (p := ⟨w.heap.size, 1, none⟩) (by simp)]; simp [go_sem]); have hs1 : w.heap.size < w1.heap.size := (by have := hb1.size; simp at this; omega); have HE1 := Lib.hid (EdgesAt.go_ HE.out hb1); have HB1 : Hid (Below w.heap.size w w1) := Lib.hid (((Below.refl _ _).alloc (Nat.le_refl _) _).trans (hb1.mono (by simp))); clear hb1)
    | (go_at_call 16; refine ((graphCheck_any (m : Int) A len cap es _ (by exact HE1.out) hcap).mono (R' := fun e w' => e = .returned (.int .i64 0) ∧ Below _ _ w') (fun e w' h => ⟨by rw [h.1, HV.out], h.2⟩)).mono ?_; rintro e w2 ⟨rfl, hb2⟩; have hy0 : w2.cell? ⟨w.heap.size, 0, none⟩ = some (.int .i64 (m : Int)) := ((hb2.cell (p := ⟨w.heap.size, 0, none⟩) hs1).trans hx0); have hy1 : w2.cell? ⟨w.heap.size, 1, none⟩ = some (.slice A len cap) := ((hb2.cell (p := ⟨w.heap.size, 1, none⟩) hs1).trans hx1); have HE2 := Lib.hid (EdgesAt.go_ HE1.out hb2); have HB2 : Hid (Below w.heap.size w w2) := Lib.hid (HB1.out.trans (hb2.mono (by omega))); clear hb2)
    | (go_at_call 27; refine (refTour_none m A len cap es _ (by exact HE2.out) HV.out hm HTg.out).mono ?_; rintro e w3 ⟨rfl, hb3⟩))
  go_ret
  exact ⟨rfl, HB2.out.trans (hb3.mono HB2.out.size)⟩

set_option maxRecDepth 100000 in
set_option maxHeartbeats 1000000 in
theorem tourTells_some (m : Nat) (A : Option Addr) (len cap : Nat) (es : List E3) (w : World) (hE : EdgesAt w w.heap.size A len es) (hcap : len ≤ cap) (hv : gcheck m es = 0) (hm : 0 < m) (hT : Tab w) (ht : Tg (prsE es) (tourS m es) (tourS m es)) :
    Calls Tryd.prog 7 #[.agg #[.int .i64 m, .slice A len cap]] w fun e w' => e = .returned (.bool true) ∧ Below w.heap.size w w' := by
  have HE := Lib.hid (show EdgesAt (bx w m A len cap) (bx w m A len cap).heap.size A len es from (hE.alloc (Nat.le_refl _) _).more (by simp [bx]))
  have HT := Lib.hid (show Tab (bx w m A len cap) from hT.alloc _)
  have HV := Lib.hid hv
  have HTg := Lib.hid ht
  have HGL : Hid ((prsE es).length ≤ 45) := Lib.hid (by unfold prsE; rw [List.length_map]; exact (good_of_gcheck hv).2.2.1)
  have hm0 : ((m : Int) == 0) = false := by simp; omega
  clear hE hv hT ht
  go_enter Tryd.func7, Tryd.ntmps7
  go_wp2_with fail
  have HC1 := Lib.hid (tour_good m A len cap es _ HE.out HV.out hm HT.out)
  refine HC1.out.mono ?_
  rintro e w1 ⟨hend, hb1⟩
  obtain ⟨l, A1, cap1, HK, HI1, rfl⟩ : ∃ l A1 cap1, Hid (Wk (prsE es) (tourS m es) [] l) ∧ Hid (IntsAt w1 w1.heap.size A1 (l.length + 1) (natsI (tourS m es :: l))) ∧ e = .returned (.tuple #[.slice A1 (l.length + 1) cap1, .int .i64 0]) := by
    obtain ⟨l, A1, cap1, h1, h2, h3⟩ := hend.1 HTg.out
    exact ⟨l, A1, cap1, Lib.hid h1, Lib.hid h3, h2⟩
  have hx0 : w1.cell? ⟨w.heap.size, 0, none⟩ = some (.int .i64 (m : Int)) := by rw [hb1.cell (p := ⟨w.heap.size, 0, none⟩) (by simp [bx])]; simp [bx, go_sem]
  have hx1 : w1.cell? ⟨w.heap.size, 1, none⟩ = some (.slice A len cap) := by rw [hb1.cell (p := ⟨w.heap.size, 1, none⟩) (by simp [bx])]; simp [bx, go_sem]
  have hs1 : w.heap.size < w1.heap.size := by have := hb1.size; simp [bx] at this; omega
  have HE1 := Lib.hid (HE.out.go_ hb1)
  have HB1 : Hid (Below w.heap.size w w1) := Lib.hid (((Below.refl _ _).alloc (Nat.le_refl _) _).trans (hb1.mono (by simp [bx])))
  have hll : l.length ≤ 45 := by have h1 := HK.out.length; have h2 := HGL.out; omega
  have hl0 : ((l.length : Int) + 1 == 0) = false := by simp; omega
  clear hb1 hend HC1
  generalize hle : l.length = n at *
  have HLE := Lib.hid hle
  clear hle
  go_wp2_with (first
    | (go_at_call 16; refine ((graphCheck_any (m : Int) A len cap es _ (by exact HE1.out) hcap).mono (R' := fun e w' => e = .returned (.int .i64 0) ∧ Below _ _ w') (fun e w' h => ⟨by rw [h.1, HV.out], h.2⟩)).mono ?_; rintro e w2 ⟨rfl, hb2⟩; have hy0 : w2.cell? ⟨w.heap.size, 0, none⟩ = some (.int .i64 (m : Int)) := ((hb2.cell (p := ⟨w.heap.size, 0, none⟩) hs1).trans hx0); have hy1 : w2.cell? ⟨w.heap.size, 1, none⟩ = some (.slice A len cap) := ((hb2.cell (p := ⟨w.heap.size, 1, none⟩) hs1).trans hx1); have HE2 := Lib.hid (EdgesAt.go_ HE1.out hb2); have HI2 := Lib.hid (IntsAt.go_ HI1.out hb2); have HB2 : Hid (Below w.heap.size w w2) := Lib.hid (HB1.out.trans (hb2.mono (by omega))); have hs2 : w.heap.size < w2.heap.size := (by have := hb2.size; omega); clear hb2)
    | fail)
  have HC2 := Lib.hid (refTour_some m A len cap es l w2 HE2.out HV.out hm HK.out HTg.out)
  refine HC2.out.mono ?_
  rintro e w3 ⟨ho3, hb3⟩
  obtain ⟨A3, cap3, rfl⟩ : ∃ A3 cap3, e = .returned (.slice A3 (n + 1) cap3) := by
    obtain ⟨v, h1, h2⟩ := ho3
    obtain ⟨A3, cap3, rfl⟩ := own_form h2
    exact ⟨A3, cap3, by rw [h1, HLE.out]⟩
  have hz0 : w3.cell? ⟨w.heap.size, 0, none⟩ = some (.int .i64 (m : Int)) := (hb3.cell (p := ⟨w.heap.size, 0, none⟩) hs2).trans hy0
  have hz1 : w3.cell? ⟨w.heap.size, 1, none⟩ = some (.slice A len cap) := (hb3.cell (p := ⟨w.heap.size, 1, none⟩) hs2).trans hy1
  have HE3 := Lib.hid (HE2.out.go_ hb3)
  have HI3 := Lib.hid (HI2.out.go_ hb3)
  have HB3 : Hid (Below w.heap.size w w3) := Lib.hid (HB2.out.trans (hb3.mono HB2.out.size))
  clear ho3 hb3 HC2
  go_wp2_with fail
  have HC4 := Lib.hid (refTour_some m A len cap es l w3 HE3.out HV.out hm HK.out HTg.out)
  refine HC4.out.mono ?_
  rintro e w4 ⟨ho4, hb4⟩
  obtain ⟨A4, cap4, HI4, rfl⟩ : ∃ A4 cap4, Hid (IntsAt w4 w4.heap.size A4 (n + 1) (natsI (tourS m es :: l))) ∧ e = .returned (.slice A4 (n + 1) cap4) := by
    obtain ⟨v, h1, h2⟩ := ho4
    obtain ⟨A4, cap4, rfl⟩ := own_form h2
    rw [HLE.out] at h1 h2
    refine ⟨A4, cap4, Lib.hid (IntsAt.of_own (cap := cap4) (base := w3.heap.size) (t := 3) ?_ (Nat.le_refl _)), h1⟩
    have e1 : (natsI (tourS m es :: l)).map (Value.int .i64) = (tourS m es :: l).map natV := by unfold natsI; rw [List.map_map]; rfl
    rw [e1]
    exact h2
  have HI5 := Lib.hid (HI3.out.go_ hb4)
  have HB4 : Hid (Below w.heap.size w w4) := Lib.hid (HB3.out.trans (hb4.mono HB3.out.size))
  clear ho4 hb4 HC4
  go_wp2_with (go_at_call 17; refine (ints_same A1 A4 (n + 1) cap1 cap4 (natsI (tourS m es :: l)) _ (by exact HI5.out) (by exact HI4.out) (by omega)).mono ?_; rintro e w5 ⟨rfl, q, rfl⟩)
  go_ret
  exact ⟨rfl, below_drewN HB4.out q⟩

set_option maxRecDepth 100000 in
theorem tourTells_any (n : Int) (A : Option Addr) (len cap : Nat) (es : List E3) (w : World) (hE : EdgesAt w w.heap.size A len es) (hcap : len ≤ cap) (_ : ∀ e ∈ es, WfE e) (_ : (Lit.int .i64 n).wf = true) (hT : Tab w) :
    Calls Tryd.prog 7 #[.agg #[.int .i64 n, .slice A len cap]] w fun e w' => e = .returned (.bool true) ∧ Below w.heap.size w w' := by
  by_cases h : gcheck n es = 0
  · obtain ⟨m, rfl⟩ := Int.eq_ofNat_of_zero_le (good_of_gcheck h).1
    rcases Nat.eq_zero_or_pos m with rfl | hm
    · exact tourTells_zero A len cap es w hE hcap h
    · by_cases ht : Tg (prsE es) (tourS m es) (tourS m es)
      · exact tourTells_some m A len cap es w hE hcap h hm hT ht
      · exact tourTells_none m A len cap es w hE hcap h hm hT ht
  · exact tourTells_bad n A len cap es _ w hE hcap rfl h
end Go.Proofs.YthfgbgmkiggjmabDoor
