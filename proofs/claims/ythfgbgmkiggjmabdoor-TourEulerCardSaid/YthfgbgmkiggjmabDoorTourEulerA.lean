/- The law TourEuler: wrong graphs, graphs without a node, and graphs without a tour. -/
import Derived.Test.YthfgbgmkiggjmabDoorEulerPlain
import Derived.Test.YthfgbgmkiggjmabDoorFewer
import Derived.Test.YthfgbgmkiggjmabDoorKeepGood
import Derived.Test.YthfgbgmkiggjmabDoorOpen
namespace Go.Proofs.YthfgbgmkiggjmabDoor
open Go.RowKit

set_option maxRecDepth 100000 in
set_option maxHeartbeats 400000 in
theorem tourEuler_bad (n : Int) (A : Option Addr) (len cap : Nat) (es : List E3) (v : Int) (w : World) (hE : EdgesAt w w.heap.size A len es) (hcap : len ≤ cap) (hv : gcheck n es = v) (hv0 : v ≠ 0) :
    Calls Tryd.prog 8 #[.agg #[.int .i64 n, .slice A len cap]] w fun e w' => e = .returned (.bool true) ∧ Below w.heap.size w w' := by
  have HE := Lib.hid (show EdgesAt (bx w n A len cap) (bx w n A len cap).heap.size A len es from (hE.alloc (Nat.le_refl _) _).more (by simp [bx]))
  have HV := Lib.hid hv
  have HV0 := Lib.hid hv0
  have HG : Hid ((gcheck n es == 0) = false) := Lib.hid (by rw [hv]; simpa using hv0)
  have hb0 : (v != 0) = true := by simpa using hv0
  clear hE hv hv0
  go_enter Tryd.func8, Tryd.ntmps8
  go_wp2_with (first
    | (go_at_call 26; refine (tour_bad n A len cap es v _ (by exact HE.out) HV.out HV0.out).mono ?_; rintro e w1 ⟨rfl, hb1⟩; have HE1 := Lib.hid (EdgesAt.go_ HE.out hb1); have hx0 : w1.cell? ⟨w.heap.size, 0, none⟩ = some (.int .i64 n) := (by rw [hb1.cell (p := ⟨w.heap.size, 0, none⟩) (by simp)]; simp [go_sem]); have hx1 : w1.cell? ⟨w.heap.size, 1, none⟩ = some (.slice A len cap) := (by rw [hb1.cell (p := ⟨w.heap.size, 1, none⟩) (by simp)]; simp [go_sem]); have hs1 : w.heap.size < w1.heap.size := (by have := hb1.size; simp at this; omega); have HB1 : Hid (Below w.heap.size w w1) := Lib.hid (((Below.refl _ _).alloc (Nat.le_refl _) _).trans (hb1.mono (by simp))); clear hb1)
    | (go_at_call 28; refine (degrees_bad n A len cap es v _ (by exact HE1.out) HV.out HV0.out).mono ?_; rintro e w2 ⟨rfl, hb2⟩; have HE2 := Lib.hid (EdgesAt.go_ HE1.out hb2); have hy0 : w2.cell? ⟨w.heap.size, 0, none⟩ = some (.int .i64 n) := ((hb2.cell (p := ⟨w.heap.size, 0, none⟩) hs1).trans hx0); have hy1 : w2.cell? ⟨w.heap.size, 1, none⟩ = some (.slice A len cap) := ((hb2.cell (p := ⟨w.heap.size, 1, none⟩) hs1).trans hx1); have hs2 : w.heap.size < w2.heap.size := (by have := hb2.size; omega); have HB2 : Hid (Below w.heap.size w w2) := Lib.hid (HB1.out.trans (hb2.mono HB1.out.size)); clear hb2)
    | (go_at_call 15; refine (parts_bad n A len cap es v _ (by exact HE2.out) HV.out HV0.out).mono ?_; rintro e w3 ⟨rfl, hb3⟩; have HE3 := Lib.hid (EdgesAt.go_ HE2.out hb3); have hz0 : w3.cell? ⟨w.heap.size, 0, none⟩ = some (.int .i64 n) := ((hb3.cell (p := ⟨w.heap.size, 0, none⟩) hs2).trans hy0); have hz1 : w3.cell? ⟨w.heap.size, 1, none⟩ = some (.slice A len cap) := ((hb3.cell (p := ⟨w.heap.size, 1, none⟩) hs2).trans hy1); have HB3 : Hid (Below w.heap.size w w3) := Lib.hid (HB2.out.trans (hb3.mono HB2.out.size)); clear hb3)
    | (go_at_call 22; refine (good_v n A len cap es false _ (by exact HE3.out) hcap HG.out).mono ?_; rintro e w4 ⟨rfl, hb4⟩))
  go_ret
  exact ⟨rfl, HB3.out.trans (hb4.mono HB3.out.size)⟩

set_option maxRecDepth 100000 in
set_option maxHeartbeats 400000 in
theorem tourEuler_zero (A : Option Addr) (len cap : Nat) (es : List E3) (w : World) (hE : EdgesAt w w.heap.size A len es) (hcap : len ≤ cap) (hv : gcheck ((0 : Nat) : Int) es = 0) (hT : Tab w) :
    Calls Tryd.prog 8 #[.agg #[.int .i64 ((0 : Nat) : Int), .slice A len cap]] w fun e w' => e = .returned (.bool true) ∧ Below w.heap.size w w' := by
  have HE := Lib.hid (show EdgesAt (bx w ((0 : Nat) : Int) A len cap) (bx w ((0 : Nat) : Int) A len cap).heap.size A len es from (hE.alloc (Nat.le_refl _) _).more (by simp [bx]))
  have HT := Lib.hid (show Tab (bx w ((0 : Nat) : Int) A len cap) from hT.alloc _)
  have HV := Lib.hid hv
  have HG : Hid ((gcheck ((0 : Nat) : Int) es == 0) = true) := Lib.hid (by rw [hv]; rfl)
  clear hE hv hT
  go_enter Tryd.func8, Tryd.ntmps8
  go_wp2_with (first
    | (go_at_call 26; refine (tour_zero A len cap es _ (by exact HE.out) HV.out).mono ?_; rintro e w1 ⟨rfl, hb1⟩; have HE1 := Lib.hid (EdgesAt.go_ HE.out hb1); have HT1 := Lib.hid (Tab.go_ HT.out hb1); have hx0 : w1.cell? ⟨w.heap.size, 0, none⟩ = some (.int .i64 ((0 : Nat) : Int)) := (by rw [hb1.cell (p := ⟨w.heap.size, 0, none⟩) (by simp)]; simp [go_sem]); have hx1 : w1.cell? ⟨w.heap.size, 1, none⟩ = some (.slice A len cap) := (by rw [hb1.cell (p := ⟨w.heap.size, 1, none⟩) (by simp)]; simp [go_sem]); have hs1 : w.heap.size < w1.heap.size := (by have := hb1.size; simp at this; omega); have HB1 : Hid (Below w.heap.size w w1) := Lib.hid (((Below.refl _ _).alloc (Nat.le_refl _) _).trans (hb1.mono (by simp))); clear hb1)
    | (go_at_call 28; refine (degrees_good 0 A len cap es _ (by exact HE1.out) HV.out).mono ?_; rintro e w2 ⟨gd, rfl, _, _, hb2⟩; have HE2 := Lib.hid (EdgesAt.go_ HE1.out hb2); have HT2 := Lib.hid (Tab.go_ HT1.out hb2); have hy0 : w2.cell? ⟨w.heap.size, 0, none⟩ = some (.int .i64 ((0 : Nat) : Int)) := ((hb2.cell (p := ⟨w.heap.size, 0, none⟩) hs1).trans hx0); have hy1 : w2.cell? ⟨w.heap.size, 1, none⟩ = some (.slice A len cap) := ((hb2.cell (p := ⟨w.heap.size, 1, none⟩) hs1).trans hx1); have hs2 : w.heap.size < w2.heap.size := (by have := hb2.size; omega); have HB2 : Hid (Below w.heap.size w w2) := Lib.hid (HB1.out.trans (hb2.mono HB1.out.size)); clear hb2)
    | (go_at_call 15; refine (parts_good 0 A len cap es _ (by exact HE2.out) HV.out (by exact HT2.out)).mono ?_; rintro e w3 ⟨gp, rfl, _, _, hb3⟩; have HE3 := Lib.hid (EdgesAt.go_ HE2.out hb3); have hz0 : w3.cell? ⟨w.heap.size, 0, none⟩ = some (.int .i64 ((0 : Nat) : Int)) := ((hb3.cell (p := ⟨w.heap.size, 0, none⟩) hs2).trans hy0); have hz1 : w3.cell? ⟨w.heap.size, 1, none⟩ = some (.slice A len cap) := ((hb3.cell (p := ⟨w.heap.size, 1, none⟩) hs2).trans hy1); have hs3 : w.heap.size < w3.heap.size := (by have := hb3.size; omega); have HB3 : Hid (Below w.heap.size w w3) := Lib.hid (HB2.out.trans (hb3.mono HB2.out.size)); clear hb3)
    | (go_at_call 22; refine (good_v ((0 : Nat) : Int) A len cap es true _ (by exact HE3.out) hcap HG.out).mono ?_; rintro e w4 ⟨rfl, hb4⟩; have hu0 : w4.cell? ⟨w.heap.size, 0, none⟩ = some (.int .i64 ((0 : Nat) : Int)) := ((hb4.cell (p := ⟨w.heap.size, 0, none⟩) hs3).trans hz0)))
  go_ret
  exact ⟨rfl, HB3.out.trans (hb4.mono HB3.out.size)⟩

set_option maxRecDepth 100000 in
set_option maxHeartbeats 4000000 in
theorem tourEuler_none (m : Nat) (A : Option Addr) (len cap : Nat) (es : List E3) (w : World) (hE : EdgesAt w w.heap.size A len es) (hcap : len ≤ cap) (hv : gcheck m es = 0) (hm : 0 < m) (hT : Tab w) (ht : ¬ Tg (prsE es) (tourS m es) (tourS m es)) :
    Calls Tryd.prog 8 #[.agg #[.int .i64 m, .slice A len cap]] w fun e w' => e = .returned (.bool true) ∧ Below w.heap.size w w' := by
  obtain ⟨_, hm10', hl45, hgood⟩ := good_of_gcheck hv
  have hm10 : m ≤ 10 := by omega
  have hlen : len ≤ 45 := by have := hE.1; omega
  have HE := Lib.hid (show EdgesAt (bx w m A len cap) (bx w m A len cap).heap.size A len es from (hE.alloc (Nat.le_refl _) _).more (by simp [bx]))
  have HEL := Lib.hid hE.1
  have HT := Lib.hid (show Tab (bx w m A len cap) from hT.alloc _)
  have HV := Lib.hid hv
  have HTg := Lib.hid ht
  have HGd := Lib.hid hgood
  have HMI := Lib.hid (may_iff hm10 hgood hm)
  have HG : Hid ((gcheck m es == 0) = true) := Lib.hid (by rw [hv]; rfl)
  have hm0 : ((m : Int) == 0) = false := by simp; omega
  clear hE hv hT ht hgood hl45
  go_enter Tryd.func8, Tryd.ntmps8
  go_wp2_with fail
  have HC1 := Lib.hid (tour_good m A len cap es _ HE.out HV.out hm HT.out)
  refine HC1.out.mono ?_
  rintro e w1 ⟨hend, hb1⟩
  obtain rfl := hend.2 HTg.out
  have hx0 : w1.cell? ⟨w.heap.size, 0, none⟩ = some (.int .i64 (m : Int)) := by rw [hb1.cell (p := ⟨w.heap.size, 0, none⟩) (by simp [bx])]; simp [bx, go_sem]
  have hx1 : w1.cell? ⟨w.heap.size, 1, none⟩ = some (.slice A len cap) := by rw [hb1.cell (p := ⟨w.heap.size, 1, none⟩) (by simp [bx])]; simp [bx, go_sem]
  have hs1 : w.heap.size < w1.heap.size := by have := hb1.size; simp [bx] at this; omega
  have HE1 := Lib.hid (HE.out.go_ hb1)
  have HT1 := Lib.hid (HT.out.go_ hb1)
  have HB1 : Hid (Below (w.heap.size + 1) (bx w m A len cap) w1) := Lib.hid (hb1.mono (by simp [bx]))
  clear hb1 hend HC1
  go_wp2_with (first
    | (go_at_call 28; refine (degrees_good m A len cap es _ (by exact HE1.out) HV.out).mono ?_; rintro e w2 ⟨gd, rfl, hrow, hgd, hb2⟩; have HRd2 := Lib.hid hrow; have hy0 : w2.cell? ⟨w.heap.size, 0, none⟩ = some (.int .i64 (m : Int)) := ((hb2.cell (p := ⟨w.heap.size, 0, none⟩) hs1).trans hx0); have hy1 : w2.cell? ⟨w.heap.size, 1, none⟩ = some (.slice A len cap) := ((hb2.cell (p := ⟨w.heap.size, 1, none⟩) hs1).trans hx1); have HE2 := Lib.hid (EdgesAt.go_ HE1.out hb2); have HT2 := Lib.hid (Tab.go_ HT1.out hb2); have HB2 := Lib.hid hb2; have hs2 : w.heap.size < w2.heap.size := (by have := hb2.size; omega); clear hrow hb2 hgd)
    | (go_at_call 15; refine (parts_good m A len cap es _ (by exact HE2.out) HV.out (by exact HT2.out)).mono ?_; rintro e w3 ⟨gp, rfl, hrow, hgp, hb3⟩; have HRp3 := Lib.hid hrow; have hz0 : w3.cell? ⟨w.heap.size, 0, none⟩ = some (.int .i64 (m : Int)) := ((hb3.cell (p := ⟨w.heap.size, 0, none⟩) hs2).trans hy0); have hz1 : w3.cell? ⟨w.heap.size, 1, none⟩ = some (.slice A len cap) := ((hb3.cell (p := ⟨w.heap.size, 1, none⟩) hs2).trans hy1); have HE3 := Lib.hid (EdgesAt.go_ HE2.out hb3); have HB3 := Lib.hid hb3; have hs3 : w.heap.size < w3.heap.size := (by have := hb3.size; omega); clear hrow hb3 hgp)
    | (go_at_call 22; refine (good_v m A len cap es true _ (by exact HE3.out) hcap HG.out).mono ?_; rintro e w4 ⟨rfl, hb4⟩; have HB4 := Lib.hid hb4; have hu0 : w4.cell? ⟨w.heap.size, 0, none⟩ = some (.int .i64 (m : Int)) := ((hb4.cell (p := ⟨w.heap.size, 0, none⟩) hs3).trans hz0); have hu1 : w4.cell? ⟨w.heap.size, 1, none⟩ = some (.slice A len cap) := ((hb4.cell (p := ⟨w.heap.size, 1, none⟩) hs3).trans hz1); have HE4 := Lib.hid (EdgesAt.go_ HE3.out hb4); clear hb4))
  have HRd := Lib.hid ((HRd2.out.keep HB3.out).keep HB4.out)
  have HRp := Lib.hid (HRp3.out.keep HB4.out)
  have HBa : Hid (Below w1.heap.size w1 w4) := Lib.hid ((HB2.out.trans (HB3.out.mono HB2.out.size)).trans (HB4.out.mono (Nat.le_trans HB2.out.size HB3.out.size)))
  have HBw : Hid (Below w.heap.size w w4) := Lib.hid ((((Below.refl _ _).alloc (Nat.le_refl _) _).trans (HB1.out.mono (Nat.le_succ _))).trans (HBa.out.mono (by omega)))
  clear hx0 hx1 hy0 hy1 hz0 hz1 HRd2 HRp3 HB2 HB3 HB4 HE HE1 HE2 HE3 HT HT1 HT2
  go_loop [9, 10, 11] (fun mb pt ii => ∃ (i : Nat) (b : Bool) (p : Int), i ≤ m ∧ ii = .int .i64 i ∧ mb = .bool b ∧ pt = .int .i64 p ∧ Hid (p = partAt m es i) ∧ Hid (b = true ↔ MayAt m es i)) (fun _ _ ii => m - (intOf ii).toNat)
  case atStart => exact ⟨0, true, -1, Nat.zero_le _, rfl, rfl, rfl, Lib.hid partAt_zero.symm, Lib.hid ⟨fun _ y hy => by omega, fun _ => rfl⟩⟩
  case round =>
    obtain ⟨i, b, p, hi, rfl, rfl, rfl, HP, HM⟩ := hrel
    by_cases hlt : i < m
    · have hci : w4.cell? ⟨gd, i, none⟩ = some (.int .i64 (degN es (i : Int) : Int)) := HRd.out.cell (by rw [List.getElem?_map, degL_get es hlt]; rfl)
      have hpi : w4.cell? ⟨gp, i, none⟩ = some (.int .i64 (partN m es i : Int)) := HRp.out.cell (by rw [List.getElem?_map, partsL_get hlt]; rfl)
      have hDl := degN_le es (i : Int)
      have hel : es.length ≤ 45 := by have := HEL.out; omega
      have HNX := Lib.hid (MayAt.next (m := m) (es := es) (i := i))
      have ii0 : (0 : Int) ≤ (i : Int) := by omega
      have ii1 : (i : Int) < (m : Int) := by omega
      by_cases hD : degN es (i : Int) = 0
      · have HP2 : Hid (p = partAt m es (i + 1)) := Lib.hid (by rw [HP.out, partAt_none hD])
        have HM2 : Hid (b = true ↔ MayAt m es (i + 1)) := Lib.hid (by rw [HNX.out, HM.out]; exact ⟨fun h => ⟨h, by rw [hD], .inl hD⟩, fun h => h.1⟩)
        rw [hD] at hci
        clear hD hDl HNX HP HM
        cases b
        all_goals
          go_wp2_with fail
          go_round
          case rel => exact ⟨i + 1, _, p, by omega, by go_num, rfl, rfl, HP2, HM2⟩
          case measure => simp [intOf]; omega
      · have hDp : 0 < degN es (i : Int) := by omega
        have hspos : 0 < degN es (tourS m es : Int) := tourS_pos HGd.out hm hDp
        have hsi : tourS m es ≤ i := by
          rcases Nat.lt_or_ge i (tourS m es) with h | h
          · have := (tourS_props HGd.out hm).2 i h; omega
          · exact h
        have HP2 : Hid ((partN m es (tourS m es) : Int) = partAt m es (i + 1)) := Lib.hid (partAt_set hspos (by omega)).symm
        have hpold : (p = -1 ∧ partN m es i = partN m es (tourS m es)) ∨ p = (partN m es (tourS m es) : Int) := by
          rcases Nat.lt_or_ge (tourS m es) i with h | h
          · right; rw [HP.out, partAt_set hspos h]
          · have he : i = tourS m es := by omega
            left
            refine ⟨?_, by rw [← he]⟩
            rw [HP.out, he, partAt_first]
        have hD0 : ((degN es (i : Int) : Int) == 0) = false := by simp; omega
        have HM2 : Hid (∀ (e : Bool) (f : Bool), ((degN es (i : Int) : Int) % 2 == 0) = e → ((partN m es i : Int) == (partN m es (tourS m es) : Int)) = f → ((b && e && f) = true ↔ MayAt m es (i + 1))) := Lib.hid fun e f he hf => by
          rw [HNX.out, Bool.and_eq_true, Bool.and_eq_true, HM.out, ← he, ← hf]
          simp only [beq_iff_eq]
          constructor
          · rintro ⟨⟨h1, h2⟩, h3⟩
            exact ⟨h1, by omega, .inr (by omega)⟩
          · rintro ⟨h1, h2, h3⟩
            refine ⟨⟨h1, by omega⟩, ?_⟩
            rcases h3 with h3 | h3
            · omega
            · omega
        clear HNX HP HM hspos hsi hD
        generalize partN m es (tourS m es) = Q at *
        generalize partN m es i = P at *
        generalize degN es (i : Int) = D at *
        obtain ⟨e, he⟩ : ∃ e : Bool, ((D : Int) % 2 == 0) = e := ⟨_, rfl⟩
        obtain ⟨f, hf⟩ : ∃ f : Bool, ((P : Int) == (Q : Int)) = f := ⟨_, rfl⟩
        have HM3 := Lib.hid (HM2.out e f he hf)
        clear HM2
        rcases hpold with ⟨rfl, rfl⟩ | rfl
        · have hff : f = true := by rw [← hf]; simp
          subst hff
          clear hf
          cases b <;> cases e
          all_goals
            go_wp2_with fail
            go_round
            case rel => exact ⟨i + 1, _, _, by omega, by go_num, rfl, rfl, HP2, HM3⟩
            case measure => simp [intOf]; omega
        · have hQ0 : decide ((Q : Int) < 0) = false := by simp
          cases b <;> cases e <;> cases f
          all_goals
            go_wp2_with fail
            go_round
            case rel => exact ⟨i + 1, _, _, by omega, by go_num, rfl, rfl, HP2, HM3⟩
            case measure => simp [intOf]; omega
    · obtain rfl : i = m := by omega
      obtain rfl : b = false := by
        cases b with
        | false => rfl
        | true => exact absurd (HMI.out.2 (HM.out.1 rfl)) HTg.out
      clear HM HP
      go_wp2_with fail
      go_ret
      exact ⟨rfl, HBw.out⟩

end Go.Proofs.YthfgbgmkiggjmabDoor
