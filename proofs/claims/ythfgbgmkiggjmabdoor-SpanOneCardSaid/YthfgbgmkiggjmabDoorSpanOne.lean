/- The law SpanOne: just one forest just if there are no more edges than nodes, less the parts; with an edge less, fewer, or another part. -/
import Derived.Test.YthfgbgmkiggjmabDoorManyGo
import Derived.Test.YthfgbgmkiggjmabDoorUnlike
import Derived.Test.YthfgbgmkiggjmabDoorOpen
import Derived.Deep.RegionHeld3
import Derived.Test.YthfgbgmkiggjmabDoorCheckGo
import Derived.Test.YthfgbgmkiggjmabDoorRefDist
import Derived.Test.YthfgbgmkiggjmabDoorUnite
import Derived.Test.YthfgbgmkiggjmabDoorEdgesOwn
import Derived.Test.YthfgbgmkiggjmabDoorRefCheck
namespace Go.Proofs.YthfgbgmkiggjmabDoor
open Go.RowKit

section -- as in XLess, whose function a seat without TourTells lacks
def lessW (w : World) (m : Int) (A : Option Addr) (len cap : Nat) : World := ((w.alloc (.cells #[.int .i64 m, .slice A len cap] 24)).alloc (.cells #[.int .i64 0, .slice none 0 0] 24)).alloc (.cells #[.int .i64 m, .slice none 0 0] 24)
theorem lessW_size (w : World) (m : Int) (A : Option Addr) (len cap : Nat) : (lessW w m A len cap).heap.size = w.heap.size + 3 := by simp [lessW]
theorem lessW_below (w : World) (m : Int) (A : Option Addr) (len cap : Nat) : Below w.heap.size w (lessW w m A len cap) := (((Below.refl _ _).alloc (Nat.le_refl _) _).alloc (by simp) _).alloc (by simp; omega) _
def LessInv (m k : Nat) (es : List E3) (w W : World) (j : Nat) (wr : World) : Prop :=
  ∃ v, RowOf wr (w.heap.size + 1 + 1) 24 [.int .i64 m, v] ∧ wr.ownsRow (w.heap.size + 3) 43 3 v ((es.take j).eraseIdx k).length (cellsE ((es.take j).eraseIdx k)) ∧ Below (w.heap.size + 2) W wr

end

section -- as in XKeepGood, which a claim has no room for
open Go.RowKit

set_option maxRecDepth 100000 in
set_option maxHeartbeats 400000 in
theorem good_any (n : Int) (A : Option Addr) (len cap : Nat) (es : List E3) (w : World) (hE : EdgesAt w w.heap.size A len es) (hcap : len ≤ cap) :
    Calls Tryd.prog 22 #[.agg #[.int .i64 n, .slice A len cap]] w fun e w' => e = .returned (.bool (gcheck n es == 0)) ∧ Below w.heap.size w w' := by
  have HE := Lib.hid (show EdgesAt (bx w n A len cap) (bx w n A len cap).heap.size A len es from (hE.alloc (Nat.le_refl _) _).more (by simp [bx]))
  clear hE
  go_enter Tryd.func22, Tryd.ntmps22
  go_wp2_with (go_at_call 16; refine (graphCheck_any n A len cap es _ (by exact HE.out) hcap).mono ?_; rintro e w2 ⟨rfl, hb2⟩)
  go_ret
  exact ⟨rfl, ((Below.refl _ _).alloc (Nat.le_refl _) _).trans (hb2.mono (by simp))⟩
set_option maxRecDepth 100000 in
theorem good_v (n : Int) (A : Option Addr) (len cap : Nat) (es : List E3) (v : Bool) (w : World) (hE : EdgesAt w w.heap.size A len es) (hcap : len ≤ cap) (hv : (gcheck n es == 0) = v) :
    Calls Tryd.prog 22 #[.agg #[.int .i64 n, .slice A len cap]] w fun e w' => e = .returned (.bool v) ∧ Below w.heap.size w w' := by
  subst hv; exact good_any n A len cap es w hE hcap
end

section -- as in XRefParts, which a claim has no room for
open Go.RowKit

theorem partsL_push {m k : Nat} {es : List E3} (hk : k < m) : ((partsL m (nbL m es)).take (k + 1)).map (Value.int .i64) = ((partsL m (nbL m es)).take k).map (Value.int .i64) ++ [.int .i64 (partN m es k : Int)] := by
  have h := @partsL_get m es k hk
  obtain ⟨h1, h2⟩ := List.getElem?_eq_some_iff.1 h
  rw [List.take_succ_eq_append_getElem h1, h2, List.map_append]
  rfl

set_option maxRecDepth 100000 in
set_option maxHeartbeats 1000000 in
theorem refParts_any (m : Nat) (A : Option Addr) (len cap : Nat) (es : List E3) (w : World) (hE : EdgesAt w w.heap.size A len es) (hm10 : m ≤ 10) (hlen : len ≤ 45) (hg : goodE m es) :
    Calls Tryd.prog 18 #[.agg #[.int .i64 m, .slice A len cap]] w fun e w' => (∃ v, e = .returned v ∧ w'.ownsRow w.heap.size 3 1 v m ((partsL m (nbL m es)).map (Value.int .i64))) ∧ Below w.heap.size w w' := by
  have HE := Lib.hid (show EdgesAt (bx w m A len cap) (bx w m A len cap).heap.size A len es from (hE.alloc (Nat.le_refl _) _).more (by simp [bx]))
  have HG := Lib.hid hg
  have HIN := Lib.hid (InE.of_good hg)
  clear hE hg
  obtain ⟨i0, hi, hz0, hz1, hz2⟩ := info_parts infoInt
  have HI := Lib.hid hi
  have HI0 := Lib.hid hz0
  have HI1 := Lib.hid hz1
  have HI2 := Lib.hid hz2
  clear hi hz0 hz1 hz2
  go_enter Tryd.func18, Tryd.ntmps18
  go_wp2_with (go_at_call 21; refine (refDist_any m A len cap es _ (by exact HE.out) hm10 hlen HIN.out).mono ?_; rintro e w1 ⟨ho, hb1⟩; have HB1 := Lib.hid hb1; clear hb1; obtain ⟨vd, bs, cs, HR, rfl⟩ : ∃ v bs cs, Hid (Rows1 w1 (w.heap.size + 1) m m v bs cs (distI (adjE es))) ∧ e = .returned v := (by obtain ⟨v, bs, cs, he, hr⟩ := ho; exact ⟨v, bs, cs, Lib.hid (by simpa using hr), he⟩); clear ho)
  have HBx : Hid (Below (w.heap.size + 1) (bx w m A len cap) w1) := Lib.hid (HB1.out.mono (by simp))
  have hs1 : w.heap.size < w1.heap.size := by have := HBx.out.size; simp [bx] at this; omega
  clear HE HB1
  go_loopw [4, 5] (fun v j wr => ∃ k : Nat, k ≤ m ∧ j = .int .i64 k ∧ Hid (wr.ownsRow w1.heap.size 3 1 v k (((partsL m (nbL m es)).take k).map (Value.int .i64))) ∧ Below w1.heap.size w1 wr) (fun _ j _ => m - (intOf j).toNat)
  case atStart => exact ⟨0, Nat.zero_le _, rfl, Lib.hid (World.ownsRow_nil ..), Below.refl _ _⟩
  case round =>
    obtain ⟨k, hk, rfl, HO, hB⟩ := hrel
    have hbx0 : wr.cell? ⟨w.heap.size, 0, none⟩ = some (.int .i64 m) := by
      rw [hB.cell (p := ⟨w.heap.size, 0, none⟩) hs1, HBx.out.cell (p := ⟨w.heap.size, 0, none⟩) (Nat.lt_succ_self _)]; simp [bx, go_sem]
    by_cases hlt : k < m
    · have HRr := Lib.hid (HR.out.keep hB)
      obtain ⟨g, capg, HV, HC⟩ : ∃ g capg, Hid (vd = Value.slice (some ⟨g, 0, none⟩) m capg) ∧ Hid (∀ x, x < m → wr.cell? ⟨g, x, none⟩ = some (.slice (some ⟨bs x, 0, none⟩) m (cs x))) := by
        obtain ⟨g, capg, h1, _, _, h2⟩ := HRr.out.top (by omega)
        exact ⟨g, capg, Lib.hid h1, Lib.hid h2⟩
      obtain rfl := HV.out
      clear HV
      have hck := HC.out k hlt
      have hpm : partN m es k < m := Rch.lt HG.out hlt (partN_rch hm10 HG.out hlt)
      go_wp2
      go_loop [6] (fun j => ∃ a : Nat, a ≤ partN m es k ∧ j = .int .i64 a) (fun j => partN m es k - (intOf j).toNat)
      case atStart => exact ⟨0, Nat.zero_le _, rfl⟩
      case round =>
        obtain ⟨a, ha, rfl⟩ := hrel
        have hca := HRr.out.cell hlt (show a < m by omega)
        have ha0 : (0 : Int) ≤ (a : Int) := by omega
        have ham : (a : Int) < (m : Int) := by omega
        have hk0 : (0 : Int) ≤ (k : Int) := by omega
        have hkm : (k : Int) < (m : Int) := by omega
        by_cases hap : a < partN m es k
        · have hd : distI (adjE es) k a < 0 := by
            apply Classical.byContradiction
            intro hn
            have hr : Rch es k a := distI_nonneg.1 (by omega)
            have := partN_least hm10 HG.out hlt hr
            omega
          generalize distI (adjE es) k a = d at hca hd
          go_wp2
          go_round
          case rel => exact ⟨a + 1, by omega, by go_num⟩
          case measure => simp [intOf]; omega
        · obtain rfl : a = partN m es k := by omega
          have hd : ¬ distI (adjE es) k (partN m es k) < 0 := by
            have := distI_nonneg.2 (partN_rch hm10 HG.out hlt)
            omega
          have hdd : decide (distI (adjE es) k (partN m es k) < 0) = false := by simpa using hd
          have HP := Lib.hid (partsL_push (es := es) hlt)
          generalize distI (adjE es) k (partN m es k) = d at hca hd hdd
          generalize hpe : partN m es k = p at hca hpm ha0 ham HP ha
          clear hpe
          go_wp2_with (at_builtin; refine wpList_append_own _ rfl _ _ 25 rfl w1.heap.size 3 i0 (.int .i64 0) 1 8 Tryd.underlying25 HI.out HI0.out HI1.out HI2.out rfl (by decide) _ _ _ rfl (HO.out.alloc _) ⟨wr.heap.size, 0, none⟩ 1 1 [.int .i64 (p : Int)] rfl rfl ?c1 ?c2 ?c3 ?c4 ?c5 ?_)
          case c2 => simp [Value.oneCell']
          case c3 => unfold maxLen; omega
          case c4 => omega
          case c5 => have := hB.size; simp; omega
          intro v' w3 hown' hgrow _
          have HO' : Hid (w3.ownsRow w1.heap.size 3 1 v' (k + 1) (((partsL m (nbL m es)).take (k + 1)).map (Value.int .i64))) := Lib.hid (by rw [HP.out, List.map_take]; exact hown')
          have HB3 : Hid (Below w1.heap.size w1 w3) := Lib.hid ((hB.alloc (by have := hB.size; omega) _).grown hgrow (by have := hB.size; simp; omega) (own_base HO.out))
          clear hown' hgrow
          go_wp2
          go_roundw
          case rel => exact ⟨k + 1, by omega, by go_num, HO', HB3.out⟩
          case measure => simp [intOf]; omega
    · obtain rfl : k = m := by omega
      have hall : (partsL k (nbL k es)).take k = partsL k (nbL k es) := List.take_of_length_le (by rw [partsL_length]; omega)
      have HO2 : Hid (wr.ownsRow w.heap.size 3 1 u4 k ((partsL k (nbL k es)).map (Value.int .i64))) := Lib.hid (by have h := HO.out; rw [hall] at h; exact own_low h (by omega))
      clear hall HO
      go_wp2
      go_ret
      exact ⟨⟨_, rfl, HO2.out⟩, ((Below.refl _ _).alloc (Nat.le_refl _) _).trans ((HBx.out.mono (Nat.le_succ _)).trans (hB.mono (by omega)))⟩
end

section -- as in XFewer, which a claim has no room for
open Go.RowKit

set_option maxRecDepth 100000 in
set_option maxHeartbeats 1000000 in
theorem fewer_any (m k : Nat) (A : Option Addr) (len cap : Nat) (es : List E3) (w : World) (hE : EdgesAt w w.heap.size A len es) (hlen : len ≤ 45) :
    Calls Tryd.prog 29 #[.agg #[.int .i64 m, .slice A len cap], .int .i64 k] w fun e w' => LessOut m w.heap.size (es.eraseIdx k) e w' ∧ Below w.heap.size w w' := by
  have HE := Lib.hid (show EdgesAt w w.heap.size A len es from hE)
  clear hE
  obtain ⟨i0, hi, hz0, hz1, hz2⟩ := info_parts infoEdge
  have HI := Lib.hid hi
  have HI0 := Lib.hid hz0
  have HI1 := Lib.hid hz1
  have HI2 := Lib.hid hz2
  clear hi hz0 hz1 hz2
  go_enter Tryd.func29, Tryd.ntmps29
  go_wp2
  have HS : Hid (LessInv m k es w (lessW w m A len cap) 0 (lessW w m A len cap)) := Lib.hid (by
    refine ⟨.slice none 0 0, ?_, by simp [cellsE, World.ownsRow_nil], Below.refl _ _⟩
    have h := (MapKept.heap_alloc ((w.alloc (.cells #[.int .i64 m, .slice A len cap] 24)).alloc (.cells #[.int .i64 0, .slice none 0 0] 24)) (.cells #[.int .i64 m, .slice none 0 0] 24)).1
    rw [show ((w.alloc (.cells #[.int .i64 (m : Int), .slice A len cap] 24)).alloc (.cells #[.int .i64 0, .slice none 0 0] 24)).heap.size = w.heap.size + 1 + 1 by simp] at h
    exact h)
  go_loopw [14] (fun j wr => ∃ a : Nat, a ≤ len ∧ j = .int .i64 a ∧ Hid (LessInv m k es w (lessW w m A len cap) a wr)) (fun j _ => len - (intOf j).toNat)
  case atStart => exact ⟨0, Nat.zero_le _, rfl, HS⟩
  case round =>
    clear HS
    obtain ⟨a, ha, rfl, HL⟩ := hrel
    obtain ⟨v, HRo, HOw, hB⟩ : ∃ v, Hid (RowOf wr (w.heap.size + 1 + 1) 24 [.int .i64 m, v]) ∧ Hid (wr.ownsRow (w.heap.size + 3) 43 3 v ((es.take a).eraseIdx k).length (cellsE ((es.take a).eraseIdx k))) ∧ Below (w.heap.size + 2) (lessW w m A len cap) wr := by
      obtain ⟨v, h1, h2, h3⟩ := HL.out
      exact ⟨v, Lib.hid h1, Lib.hid h2, h3⟩
    clear HL
    have hsz : w.heap.size + 3 ≤ wr.heap.size := by have := hB.size; rw [lessW_size] at this; exact this
    have hnl := erase_take_le es k a
    by_cases hlt : a < len
    · have HE2 := Lib.hid (((HE.out.below (lessW_below w m A len cap)).below (hB.mono (by omega))))
      obtain ⟨b, off, ⟨a0, a1, a2⟩, rfl, hb, hx, hc0, hc1, hc2⟩ := HE2.out.at_ hlt
      simp only at hc0 hc1 hc2
      by_cases hak : a = k
      · have hneq : ((a : Int) != (k : Int)) = false := by simp [hak]
        have HN : Hid (LessInv m k es w (lessW w m (some ⟨b, off, none⟩) len cap) (a + 1) (wr.alloc (.cells #[.int .i64 a0, .int .i64 a1, .int .i64 a2] 43))) := Lib.hid (by
          refine ⟨v, HRo.out.alloc _, ?_, hB.alloc (by omega) _⟩
          have e : (es.take (a + 1)).eraseIdx k = (es.take a).eraseIdx k := by rw [hak]; exact erase_take_at es k
          rw [e]
          exact HOw.out.alloc _)
        clear hak hx
        go_wp2
        go_roundw
        case rel => exact ⟨a + 1, by omega, by go_num, HN⟩
        case measure => simp [intOf]; omega
      · have hneq : ((a : Int) != (k : Int)) = true := by simp; omega
        have HX := Lib.hid (erase_take_ne es k a (a0, a1, a2) hak hx)
        have hlt2 : w.heap.size + 1 + 1 < wr.heap.size := by omega
        have hv1 : wr.cell? ⟨w.heap.size + 1 + 1, 1, none⟩ = some v := HRo.out.cell rfl
        clear hak hx
        go_wp2_with (at_builtin; refine wpList_append_own _ rfl _ _ 22 rfl (w.heap.size + 3) 43 i0 (.agg #[.int .i64 0, .int .i64 0, .int .i64 0]) 3 24 Tryd.underlying22 HI.out HI0.out HI1.out HI2.out rfl (by decide) _ _ _ rfl ((HOw.out.alloc _).alloc _) ⟨wr.heap.size + 1, 0, none⟩ 1 1 [.int .i64 a0, .int .i64 a1, .int .i64 a2] rfl rfl ?c1 ?c2 ?c3 ?c4 ?c5 ?_)
        try (case c1 => intro j u hj; rcases j with _ | _ | _ | j <;> simp at hj <;> subst hj <;> simp [go_sem, Addr.add])
        case c2 => simp [Value.oneCell']
        case c3 => unfold maxLen; omega
        case c4 => omega
        case c5 => simp; omega
        intro v' w3 hown' hgrow _
        obtain ⟨A', cap', rfl⟩ := own_form3 hown'
        have hne : ∀ g, g < w.heap.size + 3 → some g ≠ v.ownBlock := fun g hg he => by have := own_base3 HOw.out g he.symm; omega
        have hR3 : RowOf w3 (w.heap.size + 1 + 1) 24 [.int .i64 m, v] := (hgrow.block _ (by simp; omega) (hne _ (by omega))).trans ((HRo.out.alloc _).alloc _)
        have hv3 : w3.cell? ⟨w.heap.size + 1 + 1, 1, none⟩ = some v := hR3.cell rfl
        have hf3 := hR3.frozen 1
        have hb3 : Below (w.heap.size + 2) (lessW w m (some ⟨b, off, none⟩) len cap) w3 := ((hB.alloc (by omega) _).alloc (by simp; omega) _).grown hgrow (by simp; omega) (fun g hg => by have := own_base3 HOw.out g hg; omega)
        have HN : Hid (LessInv m k es w (lessW w m (some ⟨b, off, none⟩) len cap) (a + 1) (w3.setCell ⟨w.heap.size + 1 + 1, 1, none⟩ (.slice A' (((es.take a).eraseIdx k).length + 1) cap'))) := Lib.hid (by
          refine ⟨_, hR3.set_ 1 _, ?_, hb3.setCell (p := ⟨w.heap.size + 1 + 1, 1, none⟩) (Nat.le_refl _) _⟩
          rw [HX.out, List.length_append, cellsE_snoc]
          refine ⟨hown'.1, ?_⟩
          rcases hown'.2 with h0 | ⟨g, capg, cur, hv, hg, hr, hrest⟩
          · exact .inl h0
          · exact .inr ⟨g, capg, cur, hv, hg, (Below.heap_setCell _ _ _ g (by show g ≠ w.heap.size + 1 + 1; omega)).trans hr, hrest⟩)
        clear hown' hgrow hne hR3 hb3
        go_wp2
        go_roundw
        case rel => exact ⟨a + 1, by omega, by go_num, HN⟩
        case measure => simp [intOf]; omega
    · obtain rfl : a = len := by omega
      obtain ⟨A', cap', HV, HEA⟩ : ∃ A' cap', Hid (v = .slice A' (es.eraseIdx k).length cap') ∧ Hid (wr.ownsRow (w.heap.size + 3) 43 3 (.slice A' (es.eraseIdx k).length cap') (es.eraseIdx k).length (cellsE (es.eraseIdx k))) := by
        have h := HOw.out
        rw [List.take_of_length_le (by have := HE.out.1; omega)] at h
        obtain ⟨A', cap', rfl⟩ := own_form3 h
        exact ⟨A', cap', Lib.hid rfl, Lib.hid h⟩
      obtain rfl := HV.out
      have h0 : wr.cell? ⟨w.heap.size + 1 + 1, 0, none⟩ = some (.int .i64 m) := HRo.out.cell rfl
      have h1 : wr.cell? ⟨w.heap.size + 1 + 1, 1, none⟩ = some (.slice A' (es.eraseIdx k).length cap') := HRo.out.cell rfl
      have r0 : wr.cell? ⟨w.heap.size + 1, 0, none⟩ = some (.int .i64 0) := by rw [hB.cell (p := ⟨w.heap.size + 1, 0, none⟩) (by show w.heap.size + 1 < w.heap.size + 2; omega)]; simp [lessW, go_sem]
      have r1 : wr.cell? ⟨w.heap.size + 1, 1, none⟩ = some (.slice none 0 0) := by rw [hB.cell (p := ⟨w.heap.size + 1, 1, none⟩) (by show w.heap.size + 1 < w.heap.size + 2; omega)]; simp [lessW, go_sem]
      have f0 : wr.frozen? ⟨w.heap.size + 1, 0, none⟩ = false := by rw [hB.frozen (p := ⟨w.heap.size + 1, 0, none⟩) (by show w.heap.size + 1 < w.heap.size + 2; omega)]; simp [lessW, go_sem]
      have f1 : wr.frozen? ⟨w.heap.size + 1, 1, none⟩ = false := by rw [hB.frozen (p := ⟨w.heap.size + 1, 1, none⟩) (by show w.heap.size + 1 < w.heap.size + 2; omega)]; simp [lessW, go_sem]
      clear HV
      have HB2 : Hid (Below w.heap.size w wr) := Lib.hid ((lessW_below w m A a cap).trans (hB.mono (by omega)))
      generalize hn : (es.eraseIdx k).length = n at *
      have HN := Lib.hid hn
      clear hn HOw
      go_wp2
      have HFIN : Hid (((wr.setCell ⟨w.heap.size + 1, 0, none⟩ (.int .i64 m)).setCell ⟨w.heap.size + 1, 1, none⟩ (.slice A' n cap')).ownsRow (w.heap.size + 3) 43 3 (.slice A' n cap') n (cellsE (es.eraseIdx k))) := Lib.hid (own_keep3 HEA.out fun g hg => (Below.heap_setCell _ _ _ g (by show g ≠ w.heap.size + 1; omega)).trans (Below.heap_setCell _ _ _ g (by show g ≠ w.heap.size + 1; omega)))
      refine bodyPost_ret (v := .agg #[.int .i64 m, .slice A' n cap']) (by simp [results, Tryd.results29, go_sem, r0, r1]) rfl ⟨⟨A', cap', by rw [HN.out], ?_, fun a ha => ?_⟩, ?_⟩
      · rw [HN.out]
        exact EdgesAt.of_own3 HFIN.out
      · obtain ⟨p1, p2⟩ := own_addr3 HFIN.out a ha
        exact ⟨by omega, p2⟩
      · exact (HB2.out.setCell (p := ⟨w.heap.size + 1, 0, none⟩) (Nat.le_succ _) _).setCell (p := ⟨w.heap.size + 1, 1, none⟩) (Nat.le_succ _) _
end

/-- The box of a graph, and what lies behind it, as calls leave them. -/
structure BoxU (w : World) (n : Int) (A : Option Addr) (len cap : Nat) (es : List E3) (w1 : World) : Prop where
  edges : EdgesAt w1 w1.heap.size A len es
  below : Below w.heap.size w w1
  box : Below (bx w n A len cap).heap.size (bx w n A len cap) w1
theorem BoxU.start {w : World} {n : Int} {A : Option Addr} {len cap : Nat} {es : List E3} (hE : EdgesAt w w.heap.size A len es) : BoxU w n A len cap es (bx w n A len cap) :=
  ⟨(hE.alloc (Nat.le_refl _) _).more (by simp [bx]), (Below.refl _ _).alloc (Nat.le_refl _) _, Below.refl _ _⟩
set_option maxRecDepth 100000 in
theorem BoxU.next {w w1 w2 : World} {n : Int} {A : Option Addr} {len cap : Nat} {es : List E3} (h : BoxU w n A len cap es w1) (hb : Below w1.heap.size w1 w2) : BoxU w n A len cap es w2 :=
  ⟨h.edges.go_ hb, h.below.trans (hb.mono h.below.size), h.box.trans (hb.mono h.box.size)⟩
set_option maxRecDepth 100000 in
theorem BoxU.c0 {w w1 : World} {n : Int} {A : Option Addr} {len cap : Nat} {es : List E3} (h : BoxU w n A len cap es w1) : w1.cell? ⟨w.heap.size, 0, none⟩ = some (.int .i64 n) := by
  rw [h.box.cell (p := ⟨w.heap.size, 0, none⟩) (by simp [bx])]; simp [bx, go_sem]
set_option maxRecDepth 100000 in
theorem BoxU.c1 {w w1 : World} {n : Int} {A : Option Addr} {len cap : Nat} {es : List E3} (h : BoxU w n A len cap es w1) : w1.cell? ⟨w.heap.size, 1, none⟩ = some (.slice A len cap) := by
  rw [h.box.cell (p := ⟨w.heap.size, 1, none⟩) (by simp [bx])]; simp [bx, go_sem]
set_option maxRecDepth 100000 in
theorem BoxU.tab {w w1 : World} {n : Int} {A : Option Addr} {len cap : Nat} {es : List E3} (h : BoxU w n A len cap es w1) (hT : Tab w) : Tab w1 := hT.go_ h.below

/-- A graph in a box that the call has laid. -/
structure NewG (w : World) (b m : Nat) (A : Option Addr) (len cap : Nat) (es : List E3) (w1 : World) : Prop where
  edges : EdgesAt w1 w1.heap.size A len es
  below : Below w.heap.size w w1
  lt : b < w1.heap.size
  c0 : w1.cell? ⟨b, 0, none⟩ = some (.int .i64 (m : Int))
  c1 : w1.cell? ⟨b, 1, none⟩ = some (.slice A len cap)
set_option maxRecDepth 100000 in
theorem NewG.next {w w1 w2 : World} {b m : Nat} {A : Option Addr} {len cap : Nat} {es : List E3} (h : NewG w b m A len cap es w1) (hb : Below w1.heap.size w1 w2) : NewG w b m A len cap es w2 :=
  ⟨h.edges.go_ hb, h.below.trans (hb.mono h.below.size), Nat.lt_of_lt_of_le h.lt hb.size, (hb.cell (p := ⟨b, 0, none⟩) h.lt).trans h.c0, (hb.cell (p := ⟨b, 1, none⟩) h.lt).trans h.c1⟩
set_option maxRecDepth 100000 in
theorem NewG.tab {w w1 : World} {b m : Nat} {A : Option Addr} {len cap : Nat} {es : List E3} (h : NewG w b m A len cap es w1) (hT : Tab w) : Tab w1 := hT.go_ h.below

set_option maxRecDepth 100000 in
theorem many_v (m : Nat) (A : Option Addr) (len cap : Nat) (es : List E3) (N : Int) (w : World) (hE : EdgesAt w w.heap.size A len es) (hv : gcheck m es = 0) (hT : Tab w) (hN : manyN m es = N) :
    Calls Tryd.prog 40 #[.agg #[.int .i64 m, .slice A len cap]] w fun e w' => e = .returned (.tuple #[.int .i64 N, .int .i64 0]) ∧ Below w.heap.size w w' := by
  subst hN; exact many_good m A len cap es w hE hv hT
set_option maxRecDepth 100000 in
theorem parts_v (m : Nat) (A : Option Addr) (len cap : Nat) (es : List E3) (w : World) (hE : EdgesAt w w.heap.size A len es) (hv : gcheck m es = 0) :
    Calls Tryd.prog 18 #[.agg #[.int .i64 m, .slice A len cap]] w fun e w' => ∃ A3 c3, e = .returned (.slice A3 m c3) ∧ IntsAt w' w'.heap.size A3 m (partsL m (nbL m es)) ∧ m ≤ c3 ∧ Below w.heap.size w w' := by
  obtain ⟨_, hm10, hl45, hgood⟩ := good_of_gcheck hv
  refine (refParts_any m A len cap es w hE (by omega) (by have := hE.1; omega) hgood).mono fun e w' ⟨⟨v, h1, h2⟩, h3⟩ => ?_
  obtain ⟨A3, c3, rfl⟩ := own_form h2
  refine ⟨A3, c3, h1, IntsAt.of_own h2 (Nat.le_refl _), ?_, h3⟩
  rcases h2.2 with ⟨h4, h5⟩ | ⟨g, cap', cur, h4, _, _, h5, _⟩
  · omega
  · injection h4 with _ _ h6
    omega
set_option maxRecDepth 100000 in
theorem unlike_v (m : Nat) (A : Option Addr) (c : Nat) (es : List E3) (p : Nat) (w : World) (h1 : IntsAt w w.heap.size A m (partsL m (nbL m es))) (hv : gcheck m es = 0) (hc : m ≤ c) (hp : rootsN m es = p) :
    Calls Tryd.prog 25 #[.slice A m c] w fun e w' => e = .returned (.int .i64 p) ∧ w = w' := by
  obtain ⟨_, hm10, hl45, hgood⟩ := good_of_gcheck hv
  refine (unlike_any A m c _ w h1 (by omega) hc).mono fun e w' ⟨h2, h3⟩ => ⟨?_, h3⟩
  rw [h2, unlike_parts (by omega) hgood, hp]

set_option maxRecDepth 100000 in
set_option maxHeartbeats 1000000 in
theorem spanOne_bad (n : Int) (A : Option Addr) (len cap : Nat) (es : List E3) (x v : Int) (w : World) (hE : EdgesAt w w.heap.size A len es) (hcap : len ≤ cap) (hv : gcheck n es = v) (hv0 : v ≠ 0) :
    Calls Tryd.prog 14 #[.agg #[.int .i64 n, .slice A len cap], .int .u8 x] w fun e w' => e = .returned (.bool true) ∧ Below w.heap.size w w' := by
  have HX := Lib.hid (BoxU.start (n := n) (cap := cap) hE)
  have HV := Lib.hid hv
  have HV0 := Lib.hid hv0
  have HG : Hid ((gcheck n es == 0) = false) := Lib.hid (by rw [hv]; simpa using hv0)
  have hb0 : (v != 0) = true := by simpa using hv0
  clear hE hv hv0
  go_enter Tryd.func14, Tryd.ntmps14
  go_wp2_with (first
    | (go_at_call 40; refine (many_bad n A len cap es v _ (by exact HX.out.edges) HV.out HV0.out).mono ?_; rintro e w1 ⟨rfl, hb1⟩; have HX1 := Lib.hid (HX.out.next hb1); clear hb1; have hc0 := HX1.out.c0; have hc1 := HX1.out.c1)
    | (go_at_call 22; refine (good_v n A len cap es false _ (by exact HX1.out.edges) hcap HG.out).mono ?_; rintro e w2 ⟨rfl, hb2⟩; have HX2 := Lib.hid (HX1.out.next hb2); clear hb2))
  go_ret
  exact ⟨rfl, HX2.out.below⟩

set_option maxRecDepth 100000 in
set_option maxHeartbeats 2000000 in
theorem spanOne_none (m : Nat) (A : Option Addr) (cap : Nat) (es : List E3) (x N : Int) (p : Nat) (b : Bool) (w : World) (hE : EdgesAt w w.heap.size A 0 es) (hv : gcheck m es = 0) (hT : Tab w) (hN : manyN m es = N) (hp : rootsN m es = p) (hpm : p ≤ m) (h1 : 1 ≤ N) (h2 : (N == 1) = b) (h3 : ((0 : Int) == (m : Int) - (p : Int)) = b) :
    Calls Tryd.prog 14 #[.agg #[.int .i64 m, .slice A 0 cap], .int .u8 x] w fun e w' => e = .returned (.bool true) ∧ Below w.heap.size w w' := by
  obtain ⟨_, hm10, _, _⟩ := good_of_gcheck hv
  have HX := Lib.hid (BoxU.start (n := m) (cap := cap) hE)
  have HV := Lib.hid hv
  have HT := Lib.hid hT
  have HN := Lib.hid hN
  have HP := Lib.hid hp
  have HG : Hid ((gcheck m es == 0) = true) := Lib.hid (by rw [hv]; rfl)
  have h4 : decide (N < 1) = false := by simpa using h1
  clear hE hv hT hN hp
  go_enter Tryd.func14, Tryd.ntmps14
  go_wp2_with (first
    | (go_at_call 40; refine (many_v m A 0 cap es N _ (by exact HX.out.edges) HV.out (by exact HX.out.tab HT.out) HN.out).mono ?_; rintro e w1 ⟨rfl, hb1⟩; have HX1 := Lib.hid (HX.out.next hb1); clear hb1; have hc0 := HX1.out.c0; have hc1 := HX1.out.c1)
    | (go_at_call 22; refine (good_v m A 0 cap es true _ (by exact HX1.out.edges) (Nat.zero_le _) HG.out).mono ?_; rintro e w2 ⟨rfl, hb2⟩; have HX2 := Lib.hid (HX1.out.next hb2); clear hb2; have hd0 := HX2.out.c0; have hd1 := HX2.out.c1)
    | (go_at_call 18; refine (parts_v m A 0 cap es _ (by exact HX2.out.edges) HV.out).mono ?_; rintro e w3 ⟨A3, c3, rfl, hi3, hmc, hb3⟩; have HX3 := Lib.hid (HX2.out.next hb3); have HI3 := Lib.hid hi3; clear hb3 hi3; have he0 := HX3.out.c0; have he1 := HX3.out.c1)
    | (go_at_call 25; refine (unlike_v m A3 c3 es p _ (by exact HI3.out) HV.out hmc HP.out).mono ?_; rintro e w4 ⟨rfl, rfl⟩))
  go_ret
  exact ⟨rfl, HX3.out.below⟩

set_option maxRecDepth 100000 in
set_option maxHeartbeats 1000000 in
theorem spanOne_more (m : Nat) (A : Option Addr) (len cap k l' : Nat) (es es' : List E3) (x N M : Int) (p q : Nat) (b c d : Bool) (w : World) (hE : EdgesAt w w.heap.size A len es) (hcap : len ≤ cap) (hv : gcheck m es = 0) (hT : Tab w) (hl : 0 < len) (hx0 : 0 ≤ x) (hx1 : x < 256) (hk : x.tmod (len : Int) = (k : Int))
    (hes : es.eraseIdx k = es') (hl' : es'.length = l') (hv' : gcheck m es' = 0) (hN : manyN m es = N) (hM : manyN m es' = M) (hp : rootsN m es = p) (hq : rootsN m es' = q) (hpm : p ≤ m) (h1 : 1 ≤ N) (h2 : (N == 1) = b) (h3 : ((len : Int) == (m : Int) - (p : Int)) = b) (h5 : decide ((p : Int) < (q : Int)) = c) (h6 : decide (M < N) = d) (h7 : (c || d) = true) :
    Calls Tryd.prog 14 #[.agg #[.int .i64 m, .slice A len cap], .int .u8 x] w fun e w' => e = .returned (.bool true) ∧ Below w.heap.size w w' := by
  obtain ⟨_, hm10, hl45, _⟩ := good_of_gcheck hv
  have hlen : len ≤ 45 := by have := hE.1; omega
  have HX := Lib.hid (BoxU.start (n := m) (cap := cap) hE)
  have HV := Lib.hid hv
  have HV' := Lib.hid hv'
  have HT := Lib.hid hT
  have HN := Lib.hid hN
  have HM := Lib.hid hM
  have HP := Lib.hid hp
  have HQ := Lib.hid hq
  have HES := Lib.hid hes
  have HL' := Lib.hid hl'
  have HG : Hid ((gcheck m es == 0) = true) := Lib.hid (by rw [hv]; rfl)
  have h4 : decide (N < 1) = false := by simpa using h1
  have hl0 : ((len : Int) == 0) = false := by simp; omega
  clear hE hv hv' hT hN hM hp hq hes hl' hl45
  go_enter Tryd.func14, Tryd.ntmps14
  go_wp2_with (first
    | (go_at_call 40; refine (many_v m A len cap es N _ (by exact HX.out.edges) HV.out (by exact HX.out.tab HT.out) HN.out).mono ?_; rintro e w1 ⟨rfl, hb1⟩; have HX1 := Lib.hid (HX.out.next hb1); clear hb1; have hc0 := HX1.out.c0; have hc1 := HX1.out.c1)
    | (go_at_call 22; refine (good_v m A len cap es true _ (by exact HX1.out.edges) hcap HG.out).mono ?_; rintro e w2 ⟨rfl, hb2⟩; have HX2 := Lib.hid (HX1.out.next hb2); clear hb2; have hd0 := HX2.out.c0; have hd1 := HX2.out.c1)
    | (go_at_call 18; refine (parts_v m A len cap es _ (by exact HX2.out.edges) HV.out).mono ?_; rintro e w3 ⟨A3, c3, rfl, hi3, hmc, hb3⟩; have HX3 := Lib.hid (HX2.out.next hb3); have HI3 := Lib.hid hi3; clear hb3 hi3; have he0 := HX3.out.c0; have he1 := HX3.out.c1)
    | (go_at_call 25; refine (unlike_v m A3 c3 es p _ (by exact HI3.out) HV.out hmc HP.out).mono ?_; rintro e w4 ⟨rfl, rfl⟩))
  have hsz : w.heap.size < w3.heap.size := by have := HX3.out.box.size; simp [bx] at this; omega
  have hszn : ¬ w3.heap.size = w.heap.size := by omega
  have hszm : ¬ w.heap.size = w3.heap.size := by omega
  have hrem : IntKind.i64.wrap x = x := IntWalk.i64_in _ (by omega)
  have hrem2 : IntKind.i64.wrap (k : Int) = k := IntWalk.i64_in _ (by have := Int.tmod_lt_of_pos x (show (0 : Int) < len by omega); omega)
  have hl2 : ¬ (len : Int) = 0 := by omega
  have hl3 : ¬ len = 0 := by omega
  go_region_held3 (fun w' => w'.cell? ⟨w.heap.size, 0, none⟩ = some (.int .i64 m) ∧ w'.cell? ⟨w.heap.size, 1, none⟩ = some (.slice A len cap)) (first | exact ⟨he0, he1⟩ | exact ⟨hf0, hf1⟩ | go_keep)
    (first
      | (go_at_call 29; refine (fewer_any m k A len cap es _ (by first | exact HX3.out.edges | exact (HX3.out.next (Below.refl _ _).drew).edges) hlen).mono ?_; rintro e w5 ⟨hlo, hb5⟩; obtain ⟨A5, c5, HE5, HA5, rfl⟩ : ∃ A5 c5, Hid (EdgesAt w5 w5.heap.size A5 l' es') ∧ Hid (∀ a, A5 = some a → w3.heap.size ≤ a.block) ∧ e = .returned (.agg #[.int .i64 (m : Int), .slice A5 l' c5]) := (by obtain ⟨A5, c5, g1, g2, g3⟩ := hlo; rw [HES.out, HL'.out] at g1 g2; exact ⟨A5, c5, Lib.hid g2, Lib.hid (fun a ha => by have := (g3 a ha).1; simp at this; omega), g1⟩); have HLO := Lib.hid hlo; clear hlo; have HB5 := Lib.hid hb5; clear hb5; have hf0 : w5.cell? ⟨w.heap.size, 0, none⟩ = some (.int .i64 (m : Int)) := (by rw [HB5.out.cell (p := ⟨w.heap.size, 0, none⟩) (by simp; omega)]; simp [*]); have hf1 : w5.cell? ⟨w.heap.size, 1, none⟩ = some (.slice A len cap) := (by rw [HB5.out.cell (p := ⟨w.heap.size, 1, none⟩) (by simp; omega)]; simp [*]))
      | (go_at_call 29; refine (fewer_any m k A len cap es _ (by first | exact (HX3.out.next ((Below.refl _ _).alloc (Nat.le_refl _) _)).edges | exact (HX3.out.next ((Below.refl _ _).drew.alloc (by simp) _)).edges | exact (HX3.out.next ((Below.refl _ _).alloc (Nat.le_refl _) _).drew).edges) hlen).mono ?_; rintro e w5 ⟨hlo, hb5⟩; obtain ⟨A5, c5, HE5, HA5, rfl⟩ : ∃ A5 c5, Hid (EdgesAt w5 w5.heap.size A5 l' es') ∧ Hid (∀ a, A5 = some a → w3.heap.size ≤ a.block) ∧ e = .returned (.agg #[.int .i64 (m : Int), .slice A5 l' c5]) := (by obtain ⟨A5, c5, g1, g2, g3⟩ := hlo; rw [HES.out, HL'.out] at g1 g2; exact ⟨A5, c5, Lib.hid g2, Lib.hid (fun a ha => by have := (g3 a ha).1; simp at this; omega), g1⟩); have HLO := Lib.hid hlo; clear hlo; have HB5 := Lib.hid hb5; clear hb5; have hf0 : w5.cell? ⟨w.heap.size, 0, none⟩ = some (.int .i64 (m : Int)) := (by rw [HB5.out.cell (p := ⟨w.heap.size, 0, none⟩) (by simp; omega)]; simp [*]); have hf1 : w5.cell? ⟨w.heap.size, 1, none⟩ = some (.slice A len cap) := (by rw [HB5.out.cell (p := ⟨w.heap.size, 1, none⟩) (by simp; omega)]; simp [*]); have hg0 : w5.cell? ⟨w3.heap.size, 0, none⟩ = some (.int .i64 0) := (by rw [HB5.out.cell (p := ⟨w3.heap.size, 0, none⟩) (by simp)]; simp [go_sem]); have hg1 : w5.cell? ⟨w3.heap.size, 1, none⟩ = some (.slice none 0 0) := (by rw [HB5.out.cell (p := ⟨w3.heap.size, 1, none⟩) (by simp)]; simp [go_sem]); have hg2 : w5.frozen? ⟨w3.heap.size, 0, none⟩ = false := (by rw [HB5.out.frozen (p := ⟨w3.heap.size, 0, none⟩) (by simp)]; simp [go_sem]); have hg3 : w5.frozen? ⟨w3.heap.size, 1, none⟩ = false := (by rw [HB5.out.frozen (p := ⟨w3.heap.size, 1, none⟩) (by simp)]; simp [go_sem])))
  · have HG6 : Hid (NewG w w5.heap.size m A5 l' c5 es' (w5.alloc (.cells #[.int .i64 (m : Int), .slice A5 l' c5] 24))) := Lib.hid ⟨(HE5.out.alloc (Nat.le_refl _) _).more (by simp), (HX3.out.below.drew.trans (HB5.out.mono (by simp; omega))).alloc (by have := HB5.out.size; simp at this; omega) _, by simp, by simp [go_sem], by simp [go_sem]⟩
    clear HX HX1 HX2 HX3 HI3 HE5 HA5 HB5 HLO hc0 hc1 hd0 hd1 he0 he1 hf0 hf1 HV HN HP HG HES HL' hk hx0 hx1
    have h9 : decide (p < q) = c := by rw [← h5]; simp
    have h8 : c = true ∨ (c = false ∧ d = true) := by cases c <;> simp_all
    clear h7
    rcases h8 with rfl | ⟨rfl, rfl⟩
    all_goals
      go_wp2_with (first
        | (go_at_call 40; refine (many_v m A5 l' c5 es' M _ (by exact HG6.out.edges) HV'.out (by exact HG6.out.tab HT.out) HM.out).mono ?_; rintro e w7 ⟨rfl, hb7⟩; have HG7 := Lib.hid (HG6.out.next hb7); clear hb7; have k0 := HG7.out.c0; have k1 := HG7.out.c1)
        | (go_at_call 18; refine (parts_v m A5 l' c5 es' _ (by exact HG7.out.edges) HV'.out).mono ?_; rintro e w8 ⟨A8, c8, rfl, hi8, hmc8, hb8⟩; have HG8 := Lib.hid (HG7.out.next hb8); have HI8 := Lib.hid hi8; clear hb8 hi8)
        | (go_at_call 25; refine (unlike_v m A8 c8 es' q _ (by exact HI8.out) HV'.out hmc8 HQ.out).mono ?_; rintro e w9 ⟨rfl, rfl⟩))
      go_ret
      exact ⟨rfl, HG8.out.below⟩
  · have HA6 : ∀ a, A5 = some a → a.block ≠ w3.heap.size := fun a ha => by
      obtain ⟨A', c', g1, _, g3⟩ := HLO.out
      injection g1 with g1
      injection g1 with g1
      have g2 : A5 = A' := by simp at g1; exact g1.1
      have := (g3 a (g2 ▸ ha)).1
      simp at this
      omega
    have HG6 : Hid (NewG w w3.heap.size m A5 l' c5 es' ((w5.setCell ⟨w3.heap.size, 0, none⟩ (.int .i64 (m : Int))).setCell ⟨w3.heap.size, 1, none⟩ (.slice A5 l' c5))) := Lib.hid ⟨HE5.out.move (fun a ha => (Below.heap_setCell _ _ _ a.block (HA6 a ha)).trans (Below.heap_setCell _ _ _ a.block (HA6 a ha))) (by simp), (((((HX3.out.below.alloc (by omega) _).drew.trans (HB5.out.mono (by simp; omega)))).setCell (p := ⟨w3.heap.size, 0, none⟩) (by show w.heap.size ≤ w3.heap.size; omega) _).setCell (p := ⟨w3.heap.size, 1, none⟩) (by show w.heap.size ≤ w3.heap.size; omega) _), by have := HB5.out.size; simp at this ⊢; omega, (World.cell?_setCell_other _ _ _ _ (by simp)).trans (World.cell?_setCell_same _ _ _ hg0), World.cell?_setCell_same _ _ _ ((World.cell?_setCell_other _ _ _ _ (by simp)).trans hg1)⟩
    clear HX HX1 HX2 HX3 HI3 HE5 HA5 HB5 HLO hc0 hc1 hd0 hd1 he0 he1 HV HN HP HG HES HL' hk hx0 hx1 HA6
    have h9 : decide (p < q) = c := by rw [← h5]; simp
    have h8 : c = true ∨ (c = false ∧ d = true) := by cases c <;> simp_all
    clear h7
    rcases h8 with rfl | ⟨rfl, rfl⟩
    all_goals
      go_wp2_with (first
        | (go_at_call 40; refine (many_v m A5 l' c5 es' M _ (by exact HG6.out.edges) HV'.out (by exact HG6.out.tab HT.out) HM.out).mono ?_; rintro e w7 ⟨rfl, hb7⟩; have HG7 := Lib.hid (HG6.out.next hb7); clear hb7; have k0 := HG7.out.c0; have k1 := HG7.out.c1)
        | (go_at_call 18; refine (parts_v m A5 l' c5 es' _ (by exact HG7.out.edges) HV'.out).mono ?_; rintro e w8 ⟨A8, c8, rfl, hi8, hmc8, hb8⟩; have HG8 := Lib.hid (HG7.out.next hb8); have HI8 := Lib.hid hi8; clear hb8 hi8)
        | (go_at_call 25; refine (unlike_v m A8 c8 es' q _ (by exact HI8.out) HV'.out hmc8 HQ.out).mono ?_; rintro e w9 ⟨rfl, rfl⟩))
      go_ret
      exact ⟨rfl, HG8.out.below⟩

set_option maxRecDepth 100000 in
theorem spanOne_any (n : Int) (A : Option Addr) (len cap : Nat) (es : List E3) (x : Int) (w : World) (hE : EdgesAt w w.heap.size A len es) (hcap : len ≤ cap) (_hwf : ∀ e ∈ es, WfE e) (_hwn : (Lit.int .i64 n).wf = true) (wx : (Lit.int .u8 x).wf = true) (hT : Tab w) :
    Calls Tryd.prog 14 #[.agg #[.int .i64 n, .slice A len cap], .int .u8 x] w fun e w' => e = .returned (.bool true) ∧ Below w.heap.size w w' := by
  by_cases hv : gcheck n es = 0
  · obtain ⟨h0, h10, hl45, hgood⟩ := good_of_gcheck hv
    obtain ⟨m, rfl⟩ := Int.eq_ofNat_of_zero_le h0
    have hm10 : m ≤ 10 := by omega
    have hpos := manyN_pos hm10 hgood
    have hpm : rootsN m es ≤ m := by have := notRoots_count hm10 hgood; omega
    have hone : (manyN m es == 1) = ((es.length : Int) == (m : Int) - (rootsN m es : Int)) := by
      rw [Bool.eq_iff_iff]
      simp only [beq_iff_eq]
      rw [manyN_one hm10 hgood]
      constructor <;> intro h <;> omega
    have hle : es.length = len := hE.1
    rcases Nat.eq_zero_or_pos len with rfl | hl
    · rw [hle] at hone
      exact spanOne_none m A cap es x _ _ _ w hE hv hT rfl rfl hpm hpos rfl hone.symm
    · have hx : 0 ≤ x ∧ x < 256 := by
        simp only [Lit.wf, Bool.and_eq_true, decide_eq_true_eq] at wx
        have h1 : IntKind.u8.min = 0 := rfl
        have h2 : IntKind.u8.max = 255 := rfl
        rw [h1, h2] at wx
        omega
      have hmod0 := Int.tmod_nonneg (len : Int) hx.1
      have hmod1 := Int.tmod_lt_of_pos x (show (0 : Int) < len by omega)
      obtain ⟨k, hk⟩ := Int.eq_ofNat_of_zero_le hmod0
      have hkl : k < es.length := by omega
      rw [hle] at hone
      refine spanOne_more m A len cap k _ es _ x _ _ _ _ _ _ _ w hE hcap hv hT hl hx.1 hx.2 hk rfl rfl (gcheck_less hv k) rfl rfl rfl rfl hpm hpos rfl hone.symm rfl rfl ?_
      rcases manyN_less hm10 hgood hkl with h | h
      · rw [Bool.or_eq_true]; left; simpa using h
      · rw [Bool.or_eq_true]; right; simpa using h
  · exact spanOne_bad n A len cap es x _ w hE hcap rfl hv
end Go.Proofs.YthfgbgmkiggjmabDoor
