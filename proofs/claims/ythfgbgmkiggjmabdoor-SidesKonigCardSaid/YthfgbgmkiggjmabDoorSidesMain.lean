/- sides.Sides: what it tells of a graph without fault. -/
import Derived.Test.YthfgbgmkiggjmabDoorSidesGood
namespace Go.Proofs.YthfgbgmkiggjmabDoor
open Go.RowKit

noncomputable def sideTo (m : Nat) (es : List E3) (k : Nat) : List Value := (List.range m).map fun i => Value.int .i64 (if i < k then ((sideN m es i : Nat) : Int) else 0)
theorem sideTo_zero (m : Nat) (es : List E3) : sideTo m es 0 = List.replicate m (.int .i64 0) := by
  apply List.ext_getElem
  · simp [sideTo]
  · intro i h1 h2; simp [sideTo]
theorem sideTo_next {m k : Nat} {es : List E3} (_hk : k < m) : (sideTo m es k).set k (.int .i64 ((sideN m es k : Nat) : Int)) = sideTo m es (k + 1) := by
  apply List.ext_getElem
  · simp [sideTo]
  · intro i h1 h2
    rw [List.getElem_set]
    simp only [sideTo, List.getElem_map, List.getElem_range]
    by_cases h : k = i
    · subst h; simp
    · rw [if_neg h]
      have : (i < k + 1) = (i < k) := by apply propext; omega
      simp only [this]
theorem sideTo_full (m : Nat) (es : List E3) : sideTo m es m = (sidesL m es).map (Value.int .i64) := by
  apply List.ext_getElem
  · simp [sideTo, sidesL]
  · intro i h1 h2
    have hi : i < m := by simpa [sideTo] using h1
    simp [sideTo, sidesL, hi]
theorem sideTo_get {m k i : Nat} {es : List E3} (hi : i < m) : (sideTo m es k)[i]? = some (.int .i64 (if i < k then ((sideN m es i : Nat) : Int) else 0)) := by simp [sideTo, hi]
set_option maxRecDepth 100000 in
theorem firstOf_v (m k b B g p : Nat) (es : List E3) (w : World) (hm : m ≤ 10) (hg : goodE m es) (hk : k < m) (h0 : w.cell? ⟨B, 0, none⟩ = some (.slice (some ⟨g, 0, none⟩) m m)) (h1 : w.cell? ⟨g, k, none⟩ = some (.slice (some ⟨b, 0, none⟩) m m)) (hb : b < w.heap.size) (h2 : ∀ j, j < m → w.cell? ⟨b, j, none⟩ = some (.int .i64 (distI (adjE es) k j))) (hp : partN m es k = p) :
    Calls Tryd.prog 55 #[.int .i64 k, .pointer (some ⟨B, 0, none⟩)] w fun e w' => e = .returned (.int .i64 p) ∧ w = w' := by
  subst hp; exact firstOf_any m k b B g es w hm hg hk h0 h1 hb h2
/-- What Sides tells. -/
def SidesEnd (m : Nat) (es : List E3) (B : Nat) (e : Ending) (w' : World) : Prop :=
  (es.any (clashB m es) = true → e = .returned (.tuple #[.slice none 0 0, .int .i64 5])) ∧
  (es.any (clashB m es) = false → ∃ g, e = .returned (.tuple #[.slice (some ⟨g, 0, none⟩) m m, .int .i64 0]) ∧ RowOf w' g 3 ((sidesL m es).map (Value.int .i64)) ∧ B ≤ g)

def sdW (w1 : World) (gd m : Nat) : World := ((w1.alloc (.cells #[.slice (some ⟨gd, 0, none⟩) m m] 33)).alloc (.cells (madeCells #[.int .i64 0] m) 3)).alloc (.cells #[.slice (some ⟨w1.heap.size + 1, 0, none⟩) m m] 25)
theorem sdW_below (w1 : World) (gd m : Nat) : Below w1.heap.size w1 (sdW w1 gd m) := (((Below.refl _ _).alloc (Nat.le_refl _) _).alloc (by simp) _).alloc (by simp; omega) _
set_option maxRecDepth 100000 in
theorem sdW_row (w1 : World) (gd m : Nat) : RowOf (sdW w1 gd m) (w1.heap.size + 1) 3 (List.replicate m (.int .i64 0)) := by
  have h := RowOf.made (w1.alloc (.cells #[.slice (some ⟨gd, 0, none⟩) m m] 33)) (.int .i64 0) m 3
  rw [show (w1.alloc (.cells #[.slice (some ⟨gd, 0, none⟩) m m] 33)).heap.size = w1.heap.size + 1 by simp] at h
  exact h.alloc _
set_option maxRecDepth 100000 in
theorem sdW_dist (w1 : World) (gd m : Nat) : (sdW w1 gd m).cell? ⟨w1.heap.size, 0, none⟩ = some (.slice (some ⟨gd, 0, none⟩) m m) := by simp [sdW, go_sem]
set_option maxRecDepth 100000 in
theorem sdW_side (w1 : World) (gd m : Nat) : (sdW w1 gd m).cell? ⟨w1.heap.size + 1 + 1, 0, none⟩ = some (.slice (some ⟨w1.heap.size + 1, 0, none⟩) m m) := by simp [sdW, go_sem]
theorem cell_lt {w : World} {p : Addr} {v : Value} (h : w.cell? p = some v) : p.block < w.heap.size := by
  rcases Nat.lt_or_ge p.block w.heap.size with h1 | h1
  · exact h1
  · simp [World.cell?, Array.getElem?_eq_none h1] at h
set_option maxRecDepth 100000 in
set_option maxHeartbeats 2000000 in
theorem sides_good (m : Nat) (A : Option Addr) (len cap : Nat) (es : List E3) (w : World) (hE : EdgesAt w w.heap.size A len es) (hv : gcheck m es = 0) (hT : Tab w) :
    Calls Tryd.prog 30 #[.agg #[.int .i64 m, .slice A len cap]] w fun e w' => SidesEnd m es w.heap.size e w' ∧ Below w.heap.size w w' := by
  obtain ⟨_, hm10', hl45, hgood⟩ := good_of_gcheck hv
  have hm10 : m ≤ 10 := by omega
  have hlen : len ≤ 45 := by have := hE.1; omega
  have HE := Lib.hid (show EdgesAt (bx w m A len cap) (bx w m A len cap).heap.size A len es from (hE.alloc (Nat.le_refl _) _).more (by simp [bx]))
  have HT := Lib.hid (show Tab (bx w m A len cap) from hT.alloc _)
  have HV := Lib.hid hv
  have HG := Lib.hid hgood
  clear hE hv hl45 hT hgood
  have hmk := fun W => run_make_row' (P := Tryd.prog) 25 3 (.int .i64 0) 8 Tryd.underlying25 (by kernel_rfl) rfl .i64 .i64 m (by omega) (by omega) W
  go_enter Tryd.func30, Tryd.ntmps30
  go_wp2_with (go_at_call 19; refine (dist_good m A len cap es _ (by exact HE.out) HV.out (by exact HT.out)).mono ?_; rintro e w1 ⟨gd, rfl, hmat, hgd, hb1⟩; have HM1 := Lib.hid hmat; have HB1 : Hid (Below w.heap.size w w1) := Lib.hid (((Below.refl _ _).alloc (Nat.le_refl _) _).trans (hb1.mono (by simp))); have HE1 := Lib.hid (EdgesAt.go_ HE.out hb1); have HX0 : Hid (w1.cell? ⟨w.heap.size, 0, none⟩ = some (.int .i64 m)) := Lib.hid (by rw [hb1.cell (p := ⟨w.heap.size, 0, none⟩) (by simp)]; simp [go_sem]); have HX1 : Hid (w1.cell? ⟨w.heap.size, 1, none⟩ = some (.slice A len cap)) := Lib.hid (by rw [hb1.cell (p := ⟨w.heap.size, 1, none⟩) (by simp)]; simp [go_sem]); have hs1 : w.heap.size < w1.heap.size := (by have := hb1.size; simp at this; omega); have hx0 := HX0.out; clear hmat hb1 hgd)
  clear hmk
  go_loopw [8, 23] (fun _ j wr => ∃ k : Nat, k ≤ m ∧ j = .int .i64 k ∧ Hid (RowOf wr (w1.heap.size + 1) 3 (sideTo m es k)) ∧ Hid (wr.cell? ⟨w1.heap.size + 1 + 1, 0, none⟩ = some (.slice (some ⟨w1.heap.size + 1, 0, none⟩) m m)) ∧ Below (w1.heap.size + 1) (sdW w1 gd m) wr) (fun _ j _ => m - (intOf j).toNat)
  case atStart => exact ⟨0, Nat.zero_le _, rfl, Lib.hid (by rw [sideTo_zero]; exact sdW_row w1 gd m), Lib.hid (sdW_side w1 gd m), Below.refl _ _⟩
  case round =>
    obtain ⟨k, hk, rfl, HR, HC, hB⟩ := hrel
    have hBw : Below w1.heap.size w1 wr := (sdW_below w1 gd m).trans (hB.mono (Nat.le_succ _))
    have hrl := HR.out.lt
    by_cases hkm : k < m
    · obtain ⟨b, c1, hbl, c2⟩ := HM1.out.dist hm10 HG.out hkm
      have d0 : wr.cell? ⟨w1.heap.size, 0, none⟩ = some (.slice (some ⟨gd, 0, none⟩) m m) := (hB.cell (p := ⟨w1.heap.size, 0, none⟩) (Nat.lt_succ_self _)).trans (sdW_dist w1 gd m)
      have d1 := (hBw.cell (p := ⟨gd, k, none⟩) (cell_lt c1)).trans c1
      have hpm : partN m es k < m := Rch.lt HG.out hkm (partN_rch hm10 HG.out hkm)
      obtain ⟨dn, hdn⟩ : ∃ dn : Nat, distI (adjE es) k (partN m es k) = dn := Int.eq_ofNat_of_zero_le (distI_nonneg.2 (partN_rch hm10 HG.out hkm))
      have d2 := (hBw.cell (p := ⟨b, partN m es k, none⟩) hbl).trans (c2 _ hpm)
      rw [hdn] at d2
      have d3 := HC.out
      have hbl2 : b < wr.heap.size := by omega
      have HC2 : Hid (∀ j, j < m → wr.cell? ⟨b, j, none⟩ = some (.int .i64 (distI (adjE es) k j))) := Lib.hid (fun j hj => (hBw.cell (p := ⟨b, j, none⟩) hbl).trans (c2 j hj))
      have HSN : Hid (sideN m es k = dn % 2) := Lib.hid (by unfold sideN; rw [hdn]; rfl)
      have d4 : wr.cell? ⟨w1.heap.size + 1, k, none⟩ = some (.int .i64 0) := HR.out.cell (by rw [sideTo_get hkm, if_neg (by omega)])
      have f4 := HR.out.frozen k
      generalize hpe : partN m es k = p at hpm d2
      have HPE := Lib.hid hpe
      clear hpe
      have ik0 : (0 : Int) ≤ (k : Int) := by omega
      have ik1 : (k : Int) < (m : Int) := by omega
      have ip0 : (0 : Int) ≤ (p : Int) := by omega
      have ip1 : (p : Int) < (m : Int) := by omega
      clear c1 c2 hdn
      go_wp2
      go_region_with (go_at_call 55; refine (firstOf_v m k b w1.heap.size gd p es _ hm10 HG.out hkm (by exact d0) (by exact d1) (by exact hbl2) (by exact HC2.out) HPE.out).mono ?_; rintro e w3 ⟨rfl, rfl⟩)
      all_goals
        have HRN : Hid (RowOf (wr.setCell ⟨w1.heap.size + 1, k, none⟩ (.int .i64 ((dn : Int) % 2))).drew (w1.heap.size + 1) 3 (sideTo m es (k + 1))) := Lib.hid (by
          have h := HR.out.set_ k (.int .i64 ((dn : Int) % 2))
          rw [show ((dn : Int) % 2) = ((sideN m es k : Nat) : Int) by rw [HSN.out]; omega, sideTo_next hkm] at h
          rw [show ((dn : Int) % 2) = ((sideN m es k : Nat) : Int) by rw [HSN.out]; omega]
          exact h)
        go_wp2
        go_roundw
        case rel => exact ⟨k + 1, by omega, by go_num, HRN, Lib.hid ((World.cell?_setCell_other _ _ _ _ (by simp)).trans d3), (hB.setCell (p := ⟨w1.heap.size + 1, k, none⟩) (Nat.le_refl _) _).drew⟩
        case measure => simp [intOf]; omega
    · obtain rfl : k = m := by omega
      have HRF : Hid (RowOf wr (w1.heap.size + 1) 3 ((sidesL k es).map (Value.int .i64))) := Lib.hid (by rw [← sideTo_full]; exact HR.out)
      have HSr : Hid (SideAt k es (w1.heap.size + 1 + 1) (w1.heap.size + 1) wr) := Lib.hid ⟨HC.out, fun i hi => HRF.out.cell (by rw [List.getElem?_map, sidesL_get hi]; rfl), cell_lt HC.out, hrl⟩
      have HEr := Lib.hid (HE1.out.go_ hBw)
      have e1 : wr.cell? ⟨w.heap.size, 1, none⟩ = some (.slice A len cap) := (hBw.cell (p := ⟨w.heap.size, 1, none⟩) hs1).trans HX1.out
      have HBE : Hid (Below w.heap.size w wr) := Lib.hid (HB1.out.trans (hBw.mono (by omega)))
      have hc := HC.out
      have hcl := cell_lt hc
      cases hb : es.any (clashB k es) with
      | true =>
        have HCC := Lib.hid (clash_any k (w1.heap.size + 1 + 1) (w1.heap.size + 1) len cap A es true wr HG.out HEr.out hlen HSr.out hb)
        have HBb := Lib.hid hb
        clear hb
        go_wp2_with (go_at_call 58; refine HCC.out.mono ?_; rintro e w4 ⟨rfl, hb4⟩; have HB4 := Lib.hid hb4; clear hb4)
        go_ret2
        exact ⟨⟨fun _ => rfl, fun h => (by rw [HBb.out] at h; cases h)⟩, HBE.out.trans (HB4.out.mono HBE.out.size)⟩
      | false =>
        have HCC := Lib.hid (clash_any k (w1.heap.size + 1 + 1) (w1.heap.size + 1) len cap A es false wr HG.out HEr.out hlen HSr.out hb)
        have HBb := Lib.hid hb
        clear hb
        go_wp2_with (go_at_call 58; refine HCC.out.mono ?_; rintro e w4 ⟨rfl, hb4⟩; have HB4 := Lib.hid hb4; have hc4 := (hb4.cell (p := ⟨w1.heap.size + 1 + 1, 0, none⟩) hcl).trans hc; clear hb4)
        have HR4 := Lib.hid (HRF.out.keep HB4.out)
        go_ret2
        exact ⟨⟨fun h => (by rw [HBb.out] at h; cases h), fun _ => ⟨_, rfl, HR4.out, by omega⟩⟩, HBE.out.trans (HB4.out.mono HBE.out.size)⟩
end Go.Proofs.YthfgbgmkiggjmabDoor
