/- The reference's Sides: of each node on which side it is, by how far it is from the least one of its part. -/
import Derived.Test.YthfgbgmkiggjmabDoorRefParts
import Derived.Test.YthfgbgmkiggjmabDoorSideV
import Derived.Test.YthfgbgmkiggjmabDoorInts
import Derived.Deep.QuietTactic
import Derived.BigQuiet
namespace Go.Proofs.YthfgbgmkiggjmabDoor
open Go.RowKit

noncomputable def sideV (m : Nat) (es : List E3) (k : Nat) : List Value := ((sidesL m es).take k).map (Value.int .i64)
theorem sideV_push {m k : Nat} {es : List E3} (hk : k < m) : sideV m es (k + 1) = sideV m es k ++ [.int .i64 ((sideN m es k : Nat) : Int)] := by
  have h := @sidesL_get m es k hk
  obtain ⟨h1, h2⟩ := List.getElem?_eq_some_iff.1 h
  unfold sideV
  rw [List.take_succ_eq_append_getElem h1, h2, List.map_append]
  rfl
theorem sideV_full (m : Nat) (es : List E3) : sideV m es m = (sidesL m es).map (Value.int .i64) := by
  unfold sideV; rw [List.take_of_length_le (by rw [sidesL_length]; omega)]
/-- What the reference's Sides tells. -/
def RefSidesEnd (m : Nat) (es : List E3) (_B : Nat) (e : Ending) (w' : World) : Prop :=
  (es.any (clashB m es) = true → e = .returned (.tuple #[.slice none 0 0, .bool false])) ∧
  (es.any (clashB m es) = false → ∃ A cap, e = .returned (.tuple #[.slice A m cap, .bool true]) ∧ IntsAt w' w'.heap.size A m (sidesL m es))

set_option maxRecDepth 100000 in
set_option maxHeartbeats 2000000 in
theorem refSides_any (m : Nat) (A : Option Addr) (len cap : Nat) (es : List E3) (w : World) (hE : EdgesAt w w.heap.size A len es) (hm10 : m ≤ 10) (hlen : len ≤ 45) (hg : goodE m es) :
    Calls Tryd.prog 31 #[.agg #[.int .i64 m, .slice A len cap]] w fun e w' => RefSidesEnd m es w.heap.size e w' ∧ Below w.heap.size w w' := by
  have HE := Lib.hid (show EdgesAt (bx w m A len cap) (bx w m A len cap).heap.size A len es from (hE.alloc (Nat.le_refl _) _).more (by simp [bx]))
  have HG := Lib.hid hg
  have HIN := Lib.hid (InE.of_good hg)
  clear hE hg
  obtain ⟨i0, hi, hz0, hz1, hz2⟩ := info_parts infoInt
  have HI := Lib.hid hi
  have HI0 := Lib.hid hz0
  have HI1 := Lib.hid hz1
  have HI2 := Lib.hid hz2
  clear hi hz0 hz1 hz2
  go_enter Tryd.func31, Tryd.ntmps31
  go_wp2_with (first
    | (go_at_call 21; refine (refDist_any m A len cap es _ (by exact HE.out) hm10 hlen HIN.out).mono ?_; rintro e w1 ⟨ho, hb1⟩; have HB1 := Lib.hid hb1; obtain ⟨vd, bs, cs, HR, rfl⟩ : ∃ v bs cs, Hid (Rows1 w1 (w.heap.size + 1) m m v bs cs (distI (adjE es))) ∧ e = .returned v := (by obtain ⟨v, bs, cs, he, hr⟩ := ho; exact ⟨v, bs, cs, Lib.hid (by simpa using hr), he⟩); have HE1 := Lib.hid (HE.out.go_ hb1); have hx0 : w1.cell? ⟨w.heap.size, 0, none⟩ = some (.int .i64 m) := (by rw [hb1.cell (p := ⟨w.heap.size, 0, none⟩) (by simp)]; simp [go_sem]); have hx1 : w1.cell? ⟨w.heap.size, 1, none⟩ = some (.slice A len cap) := (by rw [hb1.cell (p := ⟨w.heap.size, 1, none⟩) (by simp)]; simp [go_sem]); have hs1 : w.heap.size < w1.heap.size := (by have := hb1.size; simp at this; omega); clear ho hb1)
    | (go_at_call 18; refine (refParts_any m A len cap es _ (by exact HE1.out) hm10 hlen HG.out).mono ?_; rintro e w2 ⟨⟨vp, rfl, hop⟩, hb2⟩; have HB2 := Lib.hid hb2; have HP := Lib.hid hop; have HE2 := Lib.hid (HE1.out.go_ hb2); have HX0 : Hid (w2.cell? ⟨w.heap.size, 0, none⟩ = some (.int .i64 m)) := Lib.hid ((hb2.cell (p := ⟨w.heap.size, 0, none⟩) hs1).trans hx0); have HX1 : Hid (w2.cell? ⟨w.heap.size, 1, none⟩ = some (.slice A len cap)) := Lib.hid ((hb2.cell (p := ⟨w.heap.size, 1, none⟩) hs1).trans hx1); have hs2 := hb2.size; clear hop hb2 hx0 hx1))
  have HR2 := Lib.hid (HR.out.keep (HB2.out.mono (Nat.le_refl _)))
  have HBw2 : Hid (Below w.heap.size w w2) := Lib.hid (((Below.refl _ _).alloc (Nat.le_refl _) _).trans ((HB1.out.mono (by simp)).trans (HB2.out.mono (by omega))))
  obtain ⟨Ap, capp, HPV⟩ : ∃ Ap capp, Hid (vp = .slice Ap m capp) := by
    obtain ⟨Ap, capp, hv⟩ := own_form HP.out
    exact ⟨Ap, capp, Lib.hid hv⟩
  obtain rfl := HPV.out
  clear HPV
  have HPI : Hid (IntsAt w2 w2.heap.size Ap m (partsL m (nbL m es))) := Lib.hid (IntsAt.of_own HP.out (Nat.le_refl _))
  clear HE HB1 HB2 HR HP HE1
  go_loopw [6, 7] (fun v j wr => ∃ k : Nat, k ≤ m ∧ j = .int .i64 k ∧ Hid (wr.ownsRow w2.heap.size 3 1 v k (sideV m es k)) ∧ Below w2.heap.size w2 wr) (fun _ j _ => m - (intOf j).toNat)
  case atStart => exact ⟨0, Nat.zero_le _, rfl, Lib.hid (World.ownsRow_nil ..), Below.refl _ _⟩
  case round =>
    obtain ⟨k, hk, rfl, HO, hB⟩ := hrel
    have hsw : w.heap.size < w2.heap.size := by omega
    have hbx0 : wr.cell? ⟨w.heap.size, 0, none⟩ = some (.int .i64 m) := (hB.cell (p := ⟨w.heap.size, 0, none⟩) hsw).trans HX0.out
    have hbx1 : wr.cell? ⟨w.heap.size, 1, none⟩ = some (.slice A len cap) := (hB.cell (p := ⟨w.heap.size, 1, none⟩) hsw).trans HX1.out
    have hsz := hB.size
    by_cases hlt : k < m
    · have HRr := Lib.hid (HR2.out.keep hB)
      obtain ⟨g, capg, HV, HC⟩ : ∃ g capg, Hid (vd = Value.slice (some ⟨g, 0, none⟩) m capg) ∧ Hid (∀ x, x < m → wr.cell? ⟨g, x, none⟩ = some (.slice (some ⟨bs x, 0, none⟩) m (cs x))) := by
        obtain ⟨g, capg, h1, _, _, h2⟩ := HRr.out.top (by omega)
        exact ⟨g, capg, Lib.hid h1, Lib.hid h2⟩
      obtain rfl := HV.out
      clear HV
      have hpm : partN m es k < m := Rch.lt HG.out hlt (partN_rch hm10 HG.out hlt)
      obtain ⟨dn, hdn⟩ : ∃ dn : Nat, distI (adjE es) k (partN m es k) = dn := Int.eq_ofNat_of_zero_le (distI_nonneg.2 (partN_rch hm10 HG.out hlt))
      have HSN : Hid (sideN m es k = dn % 2) := Lib.hid (by unfold sideN; rw [hdn]; rfl)
      have hcp := HC.out _ hpm
      have hcd := HRr.out.cell hpm hlt
      rw [distI_symm (adjE_symm es), hdn] at hcd
      obtain ⟨bp, op, x, rfl, _, hx, hcx⟩ := (HPI.out.below hB).at_ hlt
      obtain rfl : x = (partN m es k : Int) := by rw [partsL_get hlt] at hx; injection hx with hx; exact hx.symm
      have HPU := Lib.hid (sideV_push (es := es) hlt)
      generalize partN m es k = p at hpm hcp hcd hcx
      have ik0 : (0 : Int) ≤ (k : Int) := by omega
      have ik1 : (k : Int) < (m : Int) := by omega
      have ip0 : (0 : Int) ≤ (p : Int) := by omega
      have ip1 : (p : Int) < (m : Int) := by omega
      clear hdn hx
      go_wp2_with (at_builtin; refine wpList_append_own _ rfl _ _ 25 rfl w2.heap.size 3 i0 (.int .i64 0) 1 8 Tryd.underlying25 HI.out HI0.out HI1.out HI2.out rfl (by decide) _ _ _ rfl (HO.out.alloc _) ⟨wr.heap.size, 0, none⟩ 1 1 [.int .i64 ((dn : Int) % 2)] rfl rfl ?c1 ?c2 ?c3 ?c4 ?c5 ?_)
      try (case c1 => exact cell_one_new _ _ _)
      case c2 => simp [Value.oneCell']
      case c3 => unfold maxLen; omega
      case c4 => omega
      case c5 => simp; omega
      intro v' w3 hown' hgrow _
      have HO' : Hid (w3.ownsRow w2.heap.size 3 1 v' (k + 1) (sideV m es (k + 1))) := Lib.hid (by
        rw [HPU.out, show ((sideN m es k : Nat) : Int) = (dn : Int) % 2 by rw [HSN.out]; omega]; exact hown')
      have HB3 : Hid (Below w2.heap.size w2 w3) := Lib.hid ((hB.alloc (by omega) _).grown hgrow (by simp; omega) (own_base HO.out))
      clear hown' hgrow
      go_wp2
      go_roundw
      case rel => exact ⟨k + 1, by omega, by go_num, HO', HB3.out⟩
      case measure => simp [intOf]; omega
    · obtain rfl : k = m := by omega
      obtain ⟨Al, capl, HVF⟩ : ∃ Al capl, Hid (u6 = .slice Al k capl) := by
        obtain ⟨Al, capl, hv⟩ := own_form HO.out
        exact ⟨Al, capl, Lib.hid hv⟩
      obtain rfl := HVF.out
      clear HVF
      have HLI : Hid (IntsAt wr wr.heap.size Al k (sidesL k es)) := Lib.hid (IntsAt.of_own (t := 3) (by have h := HO.out; rw [sideV_full] at h; exact h) (Nat.le_refl _))
      have HEr := Lib.hid (HE2.out.go_ hB)
      have HBr : Hid (Below w.heap.size w wr) := Lib.hid (HBw2.out.trans (hB.mono (by omega)))
      obtain ⟨wo, rfl⟩ : ∃ wo : World, wo = wr := ⟨_, rfl⟩
      go_wp2
      go_loopw [37] (fun j wr => ∃ i : Nat, i ≤ len ∧ j = .int .i64 i ∧ Hid (∀ e ∈ es.take i, clashB k es e = false) ∧ Below wo.heap.size wo wr) (fun j _ => len - (intOf j).toNat)
      case atStart => exact ⟨0, Nat.zero_le _, rfl, Lib.hid (by simp), Below.refl _ _⟩
      case round =>
        obtain ⟨i, hi, rfl, HN, hBi⟩ := hrel
        have HBe : Hid (Below w.heap.size w wr) := Lib.hid (HBr.out.trans (hBi.mono HBr.out.size))
        by_cases hil : i < len
        · obtain ⟨b, off, ⟨a0, a1, a2⟩, rfl, hb, hx, hc0, hc1, hc2⟩ := (HEr.out.below hBi).at_ hil
          obtain ⟨p0, p1, p2, p3, p4, _⟩ := edge_ok (HG.out i _ hx)
          simp only at p0 p1 p2 p3 p4 hc0 hc1 hc2
          obtain ⟨x, rfl⟩ := Int.eq_ofNat_of_zero_le p0
          obtain ⟨y, rfl⟩ := Int.eq_ofNat_of_zero_le p2
          have hxk : x < k := by omega
          have hyk : y < k := by omega
          have hL := HLI.out.below hBi
          have hLI : IntsAt (wr.alloc (.cells #[.int .i64 (x : Int), .int .i64 (y : Int), .int .i64 a2] 43)) wo.heap.size Al k (sidesL k es) := hL.alloc hBi.size _
          obtain ⟨bl, ol, z1, rfl, _, hz1, hd1⟩ := hLI.at_ hxk
          obtain ⟨bl', ol', z2, hA2, _, hz2, hd2⟩ := hLI.at_ hyk
          injection hA2 with hA2
          injection hA2 with hA2 hA3
          subst hA2
          subst hA3
          obtain rfl : z1 = ((sideN k es x : Nat) : Int) := by rw [sidesL_get hxk] at hz1; injection hz1 with hz1; exact hz1.symm
          obtain rfl : z2 = ((sideN k es y : Nat) : Int) := by rw [sidesL_get hyk] at hz2; injection hz2 with hz2; exact hz2.symm
          have HX := Lib.hid hx
          have HCL : Hid (clashB k es ((x : Int), (y : Int), a2) = (((sideN k es x : Nat) : Int) == ((sideN k es y : Nat) : Int))) := Lib.hid (by
            unfold clashB
            simp only [Int.toNat_natCast]
            rw [Bool.eq_iff_iff]
            simp only [beq_iff_eq]
            omega)
          clear hx hz1 hz2 hL hLI
          generalize ((sideN k es x : Nat) : Int) = s1 at hd1 HCL
          generalize ((sideN k es y : Nat) : Int) = s2 at hd2 HCL
          have ix0 : (0 : Int) ≤ (x : Int) := by omega
          have ix1 : (x : Int) < (k : Int) := by omega
          have iy0 : (0 : Int) ≤ (y : Int) := by omega
          have iy1 : (y : Int) < (k : Int) := by omega
          cases hq : (s1 == s2) with
          | true =>
            have HANY : Hid (es.any (clashB k es) = true) := Lib.hid (by rw [List.any_eq_true]; exact ⟨_, List.mem_of_getElem? HX.out, by rw [HCL.out, hq]⟩)
            go_wp2
            go_quiet (fail)
            go_wp2
            go_ret2
            exact ⟨⟨fun _ => rfl, fun h => (by rw [HANY.out] at h; cases h)⟩, below_drewN (HBe.out.alloc (by have := HBe.out.size; omega) _) _⟩
          | false =>
            have HN2 : Hid (∀ e ∈ es.take (i + 1), clashB k es e = false) := Lib.hid fun e he => by
              obtain ⟨hkl, hxe⟩ := List.getElem?_eq_some_iff.1 HX.out
              rw [List.take_succ_eq_append_getElem hkl, hxe, List.mem_append, List.mem_singleton] at he
              rcases he with he | he
              · exact HN.out e he
              · rw [he, HCL.out, hq]
            go_wp2
            go_quiet (fail)
            go_wp2
            go_roundw
            case rel => exact ⟨i + 1, by omega, by go_num, HN2, below_drewN (hBi.alloc hBi.size _) _⟩
            case measure => simp [intOf]; omega
        · have HANY : Hid (es.any (clashB k es) = false) := Lib.hid (by
            have h := HN.out
            rw [List.take_of_length_le (by have := HEr.out.1; omega)] at h
            rw [Bool.eq_false_iff]
            intro ha
            rw [List.any_eq_true] at ha
            obtain ⟨x, hx, hp⟩ := ha
            rw [h x hx] at hp
            cases hp)
          have HLE := Lib.hid (HLI.out.go_ hBi)
          go_wp2
          go_ret2
          exact ⟨⟨fun h => (by rw [HANY.out] at h; cases h), fun _ => ⟨Al, capl, rfl, HLE.out⟩⟩, HBe.out⟩
end Go.Proofs.YthfgbgmkiggjmabDoor
