/- For every graph: two nodes are of one part just if there is a way between them; and there are no fewer edges than nodes, less the parts. No conditions. -/
import Derived.Test.YthfgbgmkiggjmabDoorBfs
import Derived.Test.YthfgbgmkiggjmabDoorDist
import Derived.Test.YthfgbgmkiggjmabDoorUnlike
import Derived.Test.YthfgbgmkiggjmabDoorKeepGood
import Derived.Test.YthfgbgmkiggjmabDoorOpen
namespace Go.Proofs.YthfgbgmkiggjmabDoor
open Go.RowKit

set_option maxRecDepth 100000 in
set_option maxHeartbeats 400000 in
theorem graphLinked_bad (n : Int) (A : Option Addr) (len cap : Nat) (es : List E3) (v : Int) (w : World) (hE : EdgesAt w w.heap.size A len es) (hcap : len ≤ cap) (hv : gcheck n es = v) (hv0 : v ≠ 0) :
    Calls Tryd.prog 6 #[.agg #[.int .i64 n, .slice A len cap]] w fun e w' => e = .returned (.bool true) ∧ Below w.heap.size w w' := by
  have HE := Lib.hid (show EdgesAt (bx w n A len cap) (bx w n A len cap).heap.size A len es from (hE.alloc (Nat.le_refl _) _).more (by simp [bx]))
  have HV := Lib.hid hv
  have HV0 := Lib.hid hv0
  have HG : Hid ((gcheck n es == 0) = false) := Lib.hid (by rw [hv]; simpa using hv0)
  have hb0 : (v != 0) = true := by simpa using hv0
  clear hE hv hv0
  go_enter Tryd.func6, Tryd.ntmps6
  go_wp2_with (first
    | (go_at_call 15; refine (parts_bad n A len cap es v _ (by exact HE.out) HV.out HV0.out).mono ?_; rintro e w1 ⟨rfl, hb1⟩; obtain ⟨hcc, hff⟩ := bcell hb1; have HE1 := Lib.hid (EdgesAt.go_ HE.out hb1))
    | (go_at_call 19; refine (dist_bad n A len cap es v _ (by exact HE1.out) HV.out HV0.out).mono ?_; rintro e w2 ⟨rfl, hb2⟩; have hx0 : w2.cell? ⟨w.heap.size, 0, none⟩ = some (.int .i64 n) := (by rw [hb2.cell (p := ⟨w.heap.size, 0, none⟩) (by have := hb1.size; simp at this; show w.heap.size < w1.heap.size; omega), hcc _ _ (by simp)]; simp [go_sem]); have hx1 : w2.cell? ⟨w.heap.size, 1, none⟩ = some (.slice A len cap) := (by rw [hb2.cell (p := ⟨w.heap.size, 1, none⟩) (by have := hb1.size; simp at this; show w.heap.size < w1.heap.size; omega), hcc _ _ (by simp)]; simp [go_sem]); have HE2 := Lib.hid (EdgesAt.go_ HE1.out hb2))
    | (go_at_call 22; refine (good_v n A len cap es false _ (by exact HE2.out) hcap HG.out).mono ?_; rintro e w3 ⟨rfl, hb3⟩))
  go_ret
  exact ⟨rfl, ((((Below.refl _ _).alloc (Nat.le_refl _) _).trans (hb1.mono (by simp))).trans (hb2.mono (by have := hb1.size; simp at this; omega))).trans (hb3.mono (by have h1 := hb1.size; have h2 := hb2.size; simp at h1; omega))⟩

/-- What the law's loops see. -/
def LinkSees (w : World) (n : Int) (A : Option Addr) (len cap : Nat) (m gp gd : Nat) (es : List E3) (w3 wr : World) : Prop :=
  RowOf wr gp 3 ((partsL m (nbL m es)).map (Value.int .i64)) ∧ MatAt wr gd m (distM m (nbL m es)) ∧ Below (w.heap.size + 1) (bx w n A len cap) wr ∧ Below w3.heap.size w3 wr
theorem MatAt.drewN {w : World} {g m : Nat} {mat : List (List Int)} (h : MatAt w g m mat) (k : Nat) : MatAt (w.drewN k) g m mat := h
theorem RowOf.drewN {w : World} {g : Nat} {t : TypeId} {vs : List Value} (h : RowOf w g t vs) (k : Nat) : RowOf (w.drewN k) g t vs := h
theorem LinkSees.drewN {w : World} {n : Int} {A : Option Addr} {len cap m gp gd : Nat} {es : List E3} {w3 wr : World} (h : LinkSees w n A len cap m gp gd es w3 wr) (k : Nat) : LinkSees w n A len cap m gp gd es w3 (wr.drewN k) :=
  ⟨h.1.drewN k, h.2.1.drewN k, below_drewN h.2.2.1 k, below_drewN h.2.2.2 k⟩
theorem MatAt.keep {w w' : World} {g m : Nat} {mat : List (List Int)} (h : MatAt w g m mat) (hb : Below w.heap.size w w') : MatAt w' g m mat := by
  obtain ⟨gs, h1, h2, h3⟩ := h
  exact ⟨gs, h1, h2.keep hb, fun i b r hi hr => ⟨(h3 i b r hi hr).1, (h3 i b r hi hr).2.1.keep hb, (h3 i b r hi hr).2.2⟩⟩
theorem MatAt.at_ {w : World} {g m : Nat} {es : List E3} (h : MatAt w g m (distM m (nbL m es))) (hm : m ≤ 10) (hg : goodE m es) {i : Nat} (hi : i < m) :
    ∃ b, w.cell? ⟨g, i, none⟩ = some (.slice (some ⟨b, 0, none⟩) m m) ∧ ∀ j, j < m → w.cell? ⟨b, j, none⟩ = some (.int .i64 (distI (adjE es) i j)) := by
  obtain ⟨gs, h1, h2, h3⟩ := h
  rw [distM_length] at h1
  have hb : gs[i]? = some gs[i] := List.getElem?_eq_getElem (by omega)
  have hr : (distM m (nbL m es))[i]? = some (distRow m (nbL m es) i) := by simp [distM, hi]
  obtain ⟨_, q2, _⟩ := h3 i _ _ hb hr
  refine ⟨gs[i], h2.cell (by rw [List.getElem?_map, hb]; rfl), fun j hj => q2.cell (by rw [List.getElem?_map, distRow_get hm hg hi hj]; rfl)⟩

set_option maxRecDepth 100000 in
set_option maxHeartbeats 2000000 in
theorem graphLinked_good (m : Nat) (A : Option Addr) (len cap : Nat) (es : List E3) (w : World) (hE : EdgesAt w w.heap.size A len es) (hcap : len ≤ cap) (hv : gcheck m es = 0) (hT : Tab w) :
    Calls Tryd.prog 6 #[.agg #[.int .i64 m, .slice A len cap]] w fun e w' => e = .returned (.bool true) ∧ Below w.heap.size w w' := by
  obtain ⟨_, hm10', hl45, hgood⟩ := good_of_gcheck hv
  have hm10 : m ≤ 10 := by omega
  have hlen : len ≤ 45 := by have := hE.1; omega
  have HL := Lib.hid hE.1
  have HE := Lib.hid (show EdgesAt (bx w m A len cap) (bx w m A len cap).heap.size A len es from (hE.alloc (Nat.le_refl _) _).more (by simp [bx]))
  have HT := Lib.hid (show Tab (bx w m A len cap) from hT.alloc _)
  have HV := Lib.hid hv
  have HG : Hid ((gcheck m es == 0) = true) := Lib.hid (by rw [hv]; rfl)
  have HD := Lib.hid hgood
  clear hE hv hgood hl45 hT
  go_enter Tryd.func6, Tryd.ntmps6
  go_wp2_with (first
    | (go_at_call 15; refine (parts_good m A len cap es _ (by exact HE.out) HV.out (by exact HT.out)).mono ?_; rintro e w1 ⟨gp, rfl, hrow, hgp, hb1⟩; have HR1 := Lib.hid hrow; have HB1 := Lib.hid hb1; have HE1 := Lib.hid (EdgesAt.go_ HE.out hb1); have HT1 := Lib.hid (Tab.go_ HT.out hb1); have hx0 : w1.cell? ⟨w.heap.size, 0, none⟩ = some (.int .i64 m) := (by rw [hb1.cell (p := ⟨w.heap.size, 0, none⟩) (by simp)]; simp [go_sem]); have hx1 : w1.cell? ⟨w.heap.size, 1, none⟩ = some (.slice A len cap) := (by rw [hb1.cell (p := ⟨w.heap.size, 1, none⟩) (by simp)]; simp [go_sem]); have hs1 : w.heap.size < w1.heap.size := (by have := hb1.size; simp at this; omega); clear hrow hb1)
    | (go_at_call 19; refine (dist_good m A len cap es _ (by exact HE1.out) HV.out (by exact HT1.out)).mono ?_; rintro e w2 ⟨gd, rfl, hmat, hgd, hb2⟩; have HM2 := Lib.hid hmat; have HB2 := Lib.hid hb2; have HE2 := Lib.hid (EdgesAt.go_ HE1.out hb2); have hy0 : w2.cell? ⟨w.heap.size, 0, none⟩ = some (.int .i64 m) := ((hb2.cell (p := ⟨w.heap.size, 0, none⟩) hs1).trans hx0); have hy1 : w2.cell? ⟨w.heap.size, 1, none⟩ = some (.slice A len cap) := ((hb2.cell (p := ⟨w.heap.size, 1, none⟩) hs1).trans hx1); clear hmat hb2 hx0 hx1)
    | (go_at_call 22; refine (good_v m A len cap es true _ (by exact HE2.out) hcap HG.out).mono ?_; rintro e w3 ⟨rfl, hb3⟩; have HB3 := Lib.hid hb3; have hz0 : w3.cell? ⟨w.heap.size, 0, none⟩ = some (.int .i64 m) := ((hb3.cell (p := ⟨w.heap.size, 0, none⟩) (by have := HB2.out.size; show w.heap.size < w2.heap.size; omega)).trans hy0); have hz1 : w3.cell? ⟨w.heap.size, 1, none⟩ = some (.slice A len cap) := ((hb3.cell (p := ⟨w.heap.size, 1, none⟩) (by have := HB2.out.size; show w.heap.size < w2.heap.size; omega)).trans hy1); clear hb3 hy0 hy1))
  have HS : Hid (LinkSees w m A len cap m gp gd es w3 w3) := Lib.hid ⟨(HR1.out.keep HB2.out).keep HB3.out, HM2.out.keep HB3.out, by
    have h1 := HB1.out
    have h2 := HB2.out
    have h3 := HB3.out
    have hs := h1.size
    have hs2 := h2.size
    simp at hs
    exact ((h1.mono (by simp)).trans (h2.mono (by omega))).trans (h3.mono (by omega)), Below.refl _ _⟩
  clear hz0 hz1 HE HE1 HE2 HT HT1 HR1 HM2 HB1 HB2 HB3
  go_loopw [7] (fun j wr => ∃ i : Nat, i ≤ m ∧ j = .int .i64 i ∧ Hid (LinkSees w m A len cap m gp gd es w3 wr)) (fun j _ => m - (intOf j).toNat)
  case atStart => exact ⟨0, Nat.zero_le _, rfl, HS⟩
  case round =>
    obtain ⟨i, hi, rfl, HI⟩ := hrel
    obtain ⟨wo, rfl⟩ : ∃ wo : World, wo = wr := ⟨_, rfl⟩
    have hz0 : wo.cell? ⟨w.heap.size, 0, none⟩ = some (.int .i64 m) := by
      rw [HI.out.2.2.1.cell (p := ⟨w.heap.size, 0, none⟩) (Nat.lt_succ_self _)]; simp [bx, go_sem]
    have hz1 : wo.cell? ⟨w.heap.size, 1, none⟩ = some (.slice A len cap) := by
      rw [HI.out.2.2.1.cell (p := ⟨w.heap.size, 1, none⟩) (Nat.lt_succ_self _)]; simp [bx, go_sem]
    by_cases hlt : i < m
    · go_wp2
      go_loopw [8] (fun j wr => ∃ k : Nat, k ≤ m ∧ j = .int .i64 k ∧ Hid (LinkSees w m A len cap m gp gd es w3 wr)) (fun j _ => m - (intOf j).toNat)
      case atStart => exact ⟨0, Nat.zero_le _, rfl, HI⟩
      case round =>
        obtain ⟨k, hk, rfl, HJ⟩ := hrel
        clear hz0 hz1
        have hz0 : wr.cell? ⟨w.heap.size, 0, none⟩ = some (.int .i64 m) := by
          rw [HJ.out.2.2.1.cell (p := ⟨w.heap.size, 0, none⟩) (Nat.lt_succ_self _)]; simp [bx, go_sem]
        by_cases hkm : k < m
        · obtain ⟨bi, hci, hcj⟩ := HJ.out.2.1.at_ hm10 HD.out hlt
          have hcij := hcj k hkm
          have hpi : wr.cell? ⟨gp, i, none⟩ = some (.int .i64 (partN m es i : Int)) := HJ.out.1.cell (by rw [List.getElem?_map, partsL_get hlt]; rfl)
          have hpk : wr.cell? ⟨gp, k, none⟩ = some (.int .i64 (partN m es k : Int)) := HJ.out.1.cell (by rw [List.getElem?_map, partsL_get hkm]; rfl)
          have hle : partN m es i ≤ i := partN_least hm10 HD.out hlt (Rch.refl es i)
          have hli : decide (i < partN m es i) = false := by simp; omega
          have hiff : (partN m es i = partN m es k) ↔ 0 ≤ distI (adjE es) i k := (partN_eq hm10 HD.out hlt hkm).trans distI_nonneg.symm
          have hi0 : (0 : Int) ≤ (i : Int) := by omega
          have him : (i : Int) < (m : Int) := by omega
          have hk0 : (0 : Int) ≤ (k : Int) := by omega
          have hkm' : (k : Int) < (m : Int) := by omega
          generalize distI (adjE es) i k = d at hcij hiff
          generalize partN m es i = pi at hpi hle hli hiff
          generalize partN m es k = pk at hpk hiff
          clear hcj
          by_cases hd : 0 ≤ d
          · have hpe : ((pi : Int) == (pk : Int)) = true := by have := hiff.2 hd; simp; omega
            have hdb : decide (0 ≤ d) = true := by simpa using hd
            clear hiff
            go_wp2
            go_quiet (fail)
            go_wp2
            go_roundw
            case rel => exact ⟨k + 1, by omega, by go_num, Lib.hid (HJ.out.drewN _)⟩
            case measure => simp [intOf]; omega
          · have hpe : ((pi : Int) == (pk : Int)) = false := by
              have : ¬ pi = pk := fun h => hd (hiff.1 h)
              simp; omega
            have hdb : decide (0 ≤ d) = false := by simpa using hd
            have hd' : d < 0 := by omega
            clear hiff hd
            go_wp2
            go_quiet (fail)
            go_wp2
            go_roundw
            case rel => exact ⟨k + 1, by omega, by go_num, Lib.hid (HJ.out.drewN _)⟩
            case measure => simp [intOf]; omega
        · go_wp2
          go_roundw
          case rel => exact ⟨i + 1, by omega, by go_num, HJ⟩
          case measure => simp [intOf]; omega
    · have HU := Lib.hid (unlike_parts hm10 HD.out)
      have hge := rootsN_ge HD.out
      rw [HL.out, ← HU.out] at hge
      have hul := unlikeTo_le (partsL m (nbL m es)) m
      have HP : Hid (IntsAt wo wo.heap.size (some ⟨gp, 0, none⟩) m (partsL m (nbL m es))) := Lib.hid (by
        have h := IntsAt.of_row (B := wo.heap.size) HI.out.1 HI.out.1.lt
        rw [partsL_length] at h
        exact h)
      generalize hue : unlikeTo (partsL m (nbL m es)) m = u at hge hul
      have HUE := Lib.hid hue
      clear hue
      have hfin : decide ((m : Int) - (u : Int) ≤ (len : Int)) = true := by simp; omega
      go_wp2
      go_quiet ((go_at_call 25; exact Calls.quiet_of_same ((unlike_any _ m m (partsL m (nbL m es)) _ (by exact HP.out) (by omega) (Nat.le_refl _)).mono fun e w' h => ⟨by rw [h.1, HUE.out], h.2.symm⟩)))
      go_wp2
      go_ret
      exact ⟨rfl, below_drewN (((Below.refl _ _).alloc (Nat.le_refl _) _).trans (HI.out.2.2.1.mono (Nat.le_succ _))) _⟩

set_option maxRecDepth 100000 in
theorem graphLinked_any (n : Int) (A : Option Addr) (len cap : Nat) (es : List E3) (w : World) (hE : EdgesAt w w.heap.size A len es) (hcap : len ≤ cap) (_ : ∀ e ∈ es, WfE e) (_ : (Lit.int .i64 n).wf = true) (hT : Tab w) :
    Calls Tryd.prog 6 #[.agg #[.int .i64 n, .slice A len cap]] w fun e w' => e = .returned (.bool true) ∧ Below w.heap.size w w' := by
  by_cases h : gcheck n es = 0
  · obtain ⟨m, rfl⟩ := Int.eq_ofNat_of_zero_le (good_of_gcheck h).1
    exact graphLinked_good m A len cap es w hE hcap h hT
  · exact graphLinked_bad n A len cap es _ w hE hcap rfl h
end Go.Proofs.YthfgbgmkiggjmabDoor
