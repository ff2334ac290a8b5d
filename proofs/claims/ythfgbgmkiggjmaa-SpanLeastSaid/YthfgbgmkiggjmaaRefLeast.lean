/- The reference's Least: those edges whose nodes are not linked by the edges ahead of them. -/
import Derived.Test.YthfgbgmkiggjmaaAhead
import Derived.Test.YthfgbgmkiggjmaaLeastP
import Derived.Test.YthfgbgmkiggjmaaLeast
import Derived.Deep.AppendLies
import Derived.Deep.RegionLaw
import Derived.Deep.RegionHeld3
namespace Go.Proofs.Ythfgbgmkiggjmaa
open Go.RowKit

/-- The edges ahead of one, as far as they were gathered. -/
def aheadT (es : List E3) (i j : Nat) : List Nat := (List.range j).filter fun x => aheadB es x i
theorem aheadT_yes {es : List E3} {i j : Nat} (h : aheadB es j i = true) : aheadT es i (j + 1) = aheadT es i j ++ [j] := by
  unfold aheadT; rw [List.range_succ, List.filter_append]; simp [h]
theorem aheadT_no {es : List E3} {i j : Nat} (h : aheadB es j i = false) : aheadT es i (j + 1) = aheadT es i j := by
  unfold aheadT; rw [List.range_succ, List.filter_append]; simp [h]
theorem aheadT_len {es : List E3} {i j : Nat} : (aheadT es i j).length ≤ j := by
  unfold aheadT
  exact Nat.le_trans (List.length_filter_le _ _) (by simp)
noncomputable def keptU (es : List E3) (t : Nat) : List Nat := (List.range t).filter fun x => @decide (Kept es x) (Classical.propDecidable _)
theorem keptU_yes {es : List E3} {t : Nat} (h : Kept es t) : keptU es (t + 1) = keptU es t ++ [t] := by
  unfold keptU; rw [List.range_succ, List.filter_append]; simp [h]
theorem keptU_no {es : List E3} {t : Nat} (h : ¬ Kept es t) : keptU es (t + 1) = keptU es t := by
  unfold keptU; rw [List.range_succ, List.filter_append]; simp [h]
theorem keptU_len {es : List E3} {t : Nat} : (keptU es t).length ≤ t := by
  unfold keptU
  exact Nat.le_trans (List.length_filter_le _ _) (by simp)
theorem keptU_all (es : List E3) : keptU es es.length = keptS es := by
  unfold keptU keptS allS
  apply List.filter_congr
  intro x _
  rfl
theorem bx_size (w : World) (n : Int) (A : Option Addr) (len cap : Nat) : (bx w n A len cap).heap.size = w.heap.size + 1 := by simp [bx]
def ahW (w : World) (m a0 a1 a2 : Int) : World := (w.alloc (.cells #[.int .i64 a0, .int .i64 a1, .int .i64 a2] 43)).alloc (.cells #[.int .i64 m, .slice none 0 0] 24)
theorem ahW_size (w : World) (m a0 a1 a2 : Int) : (ahW w m a0 a1 a2).heap.size = w.heap.size + 2 := by simp [ahW]
theorem ahW_below (w : World) (m a0 a1 a2 : Int) : Below w.heap.size w (ahW w m a0 a1 a2) := ((Below.refl _ _).alloc (Nat.le_refl _) _).alloc (by simp) _
structure AhInv (m i : Nat) (es : List E3) (B : Nat) (W : World) (j : Nat) (v : Value) (wr : World) : Prop where
  box : RowOf wr (B + 1) 24 [.int .i64 m, v]
  own : wr.ownsRow (B + 2) 43 3 v (aheadT es i j).length (cellsE (eg es (aheadT es i j)))
  bel : Below (B + 1) W wr
set_option maxRecDepth 100000 in
theorem AhInv.start (m i : Nat) (es : List E3) (w : World) (a0 a1 a2 : Int) : AhInv m i es w.heap.size (ahW w m a0 a1 a2) 0 (.slice none 0 0) (ahW w m a0 a1 a2) := by
  refine ⟨?_, by simpa [aheadT, eg, cellsE] using World.ownsRow_nil .., Below.refl _ _⟩
  have h := (MapKept.heap_alloc (w.alloc (.cells #[.int .i64 a0, .int .i64 a1, .int .i64 a2] 43)) (.cells #[.int .i64 m, .slice none 0 0] 24)).1
  rw [show (w.alloc (.cells #[.int .i64 a0, .int .i64 a1, .int .i64 a2] 43)).heap.size = w.heap.size + 1 by simp] at h
  exact h
theorem AhInv.next {m i j B : Nat} {es : List E3} {W : World} {v : Value} {wr w2 : World} (h : AhInv m i es B W j v wr) (hb : Below wr.heap.size wr w2) (hs : B + 2 ≤ wr.heap.size) (hn : aheadB es j i = false) : AhInv m i es B W (j + 1) v w2 :=
  ⟨(hb.block _ (by omega)).trans h.box, by rw [aheadT_no hn]; exact h.own.kept (grown_of_below hb none) (Classical.em _), h.bel.trans (hb.mono (by omega))⟩

set_option maxRecDepth 100000 in
set_option maxHeartbeats 4000000 in
theorem refLeast_any (m : Nat) (A : Option Addr) (len cap : Nat) (es : List E3) (w : World) (hE : EdgesAt w w.heap.size A len es) (hm10 : m ≤ 10) (hlen : len ≤ 45) (hin : InE m es) :
    Calls Try.prog 22 #[.agg #[.int .i64 m, .slice A len cap]] w fun e w' => (∃ B cp, e = .returned (.slice B (keptS es).length cp) ∧ IntsAt w' w'.heap.size B (keptS es).length ((keptS es).map fun x : Nat => (x : Int))) ∧ Below w.heap.size w w' := by
  have HLE : Hid (es.length = len) := Lib.hid hE.1
  have HX := Lib.hid (BoxG.start (n := m) (cap := cap) hE)
  have HIN := Lib.hid hin
  clear hE hin
  obtain ⟨i0, hi, hz0, hz1, hz2⟩ := info_parts infoEdge
  have HI := Lib.hid hi
  have HI0 := Lib.hid hz0
  have HI1 := Lib.hid hz1
  have HI2 := Lib.hid hz2
  clear hi hz0 hz1 hz2
  obtain ⟨i1, hi, hz0, hz1, hz2⟩ := info_parts infoInt
  have HJ := Lib.hid hi
  have HJ0 := Lib.hid hz0
  have HJ1 := Lib.hid hz1
  have HJ2 := Lib.hid hz2
  clear hi hz0 hz1 hz2
  go_enter Try.func22, Try.ntmps22
  go_wp2
  go_loopw [3, 11] (fun v j wr => ∃ t : Nat, t ≤ len ∧ j = .int .i64 t ∧ Hid (wr.ownsRow (w.heap.size + 1) 3 1 v (keptU es t).length ((keptU es t).map natV)) ∧ Hid (Below (w.heap.size + 1) (bx w m A len cap) wr)) (fun _ j _ => len - (intOf j).toNat)
  case atStart => exact ⟨0, Nat.zero_le _, rfl, Lib.hid (World.ownsRow_nil ..), Lib.hid (Below.refl _ _)⟩
  case round =>
    obtain ⟨t, ht, rfl, HO, HBo⟩ := hrel
    have HXr := Lib.hid (HX.out.next (show Below (bx w m A len cap).heap.size _ _ by rw [bx_size]; exact HBo.out))
    have r0 := HXr.out.c0
    have r1 := HXr.out.c1
    by_cases hlt : t < len
    · obtain ⟨b, off, ⟨a0, a1, a2⟩, rfl, hb, hx, hc0, hc1, hc2⟩ := HXr.out.edges.at_ hlt
      simp only at hc0 hc1 hc2
      obtain ⟨p0, p1, p2, p3⟩ := HIN.out _ (List.mem_of_getElem? hx)
      simp only at p0 p1 p2 p3
      obtain ⟨x, rfl⟩ := Int.eq_ofNat_of_zero_le p0
      obtain ⟨y, rfl⟩ := Int.eq_ofNat_of_zero_le p2
      have hxm : x < m := by omega
      have hym : y < m := by omega
      have HED : Hid (edgeAt es t = ((x : Int), (y : Int), a2)) := Lib.hid (edgeAt_of' hx)
      have hwl := HXr.out.lt
      clear hx hb
      obtain ⟨wo, rfl⟩ : ∃ wo : World, wo = wr := ⟨_, rfl⟩
      have HB1 : Hid (∀ wq, Below (wo.heap.size + 1) (ahW wo m x y a2) wq → Below wo.heap.size wo wq) := Lib.hid fun wq h => (ahW_below wo m x y a2).trans (h.mono (by omega))
      go_wp2
      have HS : Hid (AhInv m t es wo.heap.size (ahW wo m x y a2) 0 (.slice none 0 0) (ahW wo m x y a2)) := Lib.hid (AhInv.start m t es wo x y a2)
      go_loopw [7] (fun j wq => ∃ k : Nat, k ≤ len ∧ j = .int .i64 k ∧ Hid (∃ v, AhInv m t es wo.heap.size (ahW wo m x y a2) k v wq)) (fun j _ => len - (intOf j).toNat)
      case atStart => exact ⟨0, Nat.zero_le _, rfl, Lib.hid ⟨_, HS.out⟩⟩
      case round =>
        clear HS r0 r1 hc0 hc1 hc2
        obtain ⟨k, hk, rfl, HAV⟩ := hrel
        obtain ⟨v, HA⟩ : ∃ v, Hid (AhInv m t es wo.heap.size (ahW wo m x y a2) k v wr) := by obtain ⟨v, h⟩ := HAV.out; exact ⟨v, Lib.hid h⟩
        clear HAV
        have HXq := Lib.hid (HXr.out.next (HB1.out _ HA.out.bel))
        have r0 := HXq.out.c0
        have r1 := HXq.out.c1
        have hsz : wo.heap.size + 2 ≤ wr.heap.size := by have := HA.out.bel.size; rw [ahW_size] at this; exact this
        have hnl := aheadT_len (es := es) (i := t) (j := k)
        by_cases hkl : k < len
        · cases hv : aheadB es k t
          · have HV := Lib.hid hv
            clear hv
            go_wp2_with fail
            refine (ahead_v m k t (some ⟨b, off, none⟩) len cap es false _ HXq.out.edges hlen hkl hlt HV.out).mono ?_
            rintro e w2 ⟨rfl, hb2⟩
            have HN : Hid (AhInv m t es wo.heap.size (ahW wo m x y a2) (k + 1) v w2) := Lib.hid (HA.out.next hb2 hsz HV.out)
            clear hb2 r0 r1
            go_wp2
            go_roundw
            case rel => exact ⟨k + 1, by omega, by go_num, Lib.hid ⟨_, HN.out⟩⟩
            case measure => simp [intOf]; omega
          · have HV := Lib.hid hv
            clear hv
            go_wp2_with fail
            refine (ahead_v m k t (some ⟨b, off, none⟩) len cap es true _ HXq.out.edges hlen hkl hlt HV.out).mono ?_
            rintro e w3 ⟨rfl, hb3⟩
            have hs3 := hb3.size
            have HX3 := Lib.hid (HXq.out.next hb3)
            have HR3 : Hid (RowOf w3 (wo.heap.size + 1) 24 [.int .i64 m, v]) := Lib.hid ((hb3.block _ (by omega)).trans HA.out.box)
            have HOe3 : Hid (w3.ownsRow (wo.heap.size + 2) 43 3 v (aheadT es t k).length (cellsE (eg es (aheadT es t k)))) := Lib.hid (HA.out.own.kept (grown_of_below hb3 none) (Classical.em _))
            have HB3 : Hid (Below (wo.heap.size + 1) (ahW wo m x y a2) w3) := Lib.hid (HA.out.bel.trans (hb3.mono (by omega)))
            obtain ⟨b2, off2, ⟨d0, d1, d2⟩, hA2, hb2, hxe, g0, g1, g2⟩ := HX3.out.edges.at_ hkl
            cases hA2
            simp only at g0 g1 g2
            have HE : Hid (cellsE (eg es (aheadT es t (k + 1))) = cellsE (eg es (aheadT es t k)) ++ [.int .i64 d0, .int .i64 d1, .int .i64 d2]) := Lib.hid (by
              rw [aheadT_yes HV.out, eg_snoc, cellsE_snoc, edgeAt_of' hxe]; rfl)
            have HLN : Hid ((aheadT es t (k + 1)).length = (aheadT es t k).length + 1) := Lib.hid (by rw [aheadT_yes HV.out, List.length_append]; rfl)
            have hc1 := HX3.out.c1
            have hv3 : w3.cell? ⟨wo.heap.size + 1, 1, none⟩ = some v := HR3.out.cell rfl
            have hf3 := HR3.out.frozen 1
            have hl3 : wo.heap.size + 1 < w3.heap.size := by omega
            have ik0 : (0 : Int) ≤ (k : Int) := by omega
            have ik1 : (k : Int) < (len : Int) := by omega
            clear hxe hb2 hb3 r0 r1 HA HXq
            generalize (aheadT es t k).length = n at *
            have HNE : Hid (∀ g, g < wo.heap.size + 2 → some g ≠ v.ownBlock) := Lib.hid fun g hg he => by have := own_base3 HOe3.out g he.symm; omega
            go_wp2
            go_region_law ((refine step_append_lies _ (by rfl) (.tmp 31) (.tmp 37) 22 (by rfl) (wo.heap.size + 2) 43 i0 (.agg #[.int .i64 0, .int .i64 0, .int .i64 0]) 3 24 Try.underlying22 HI.out HI0.out HI1.out HI2.out rfl (by decide) v n (cellsE (eg es (aheadT es t k))) (by rfl) ((HOe3.out.alloc _).drew) ⟨w3.heap.size, 0, none⟩ 1 1 [.int .i64 d0, .int .i64 d1, .int .i64 d2] (by rfl) (by rfl) (World.news_of_block (cs := #[.int .i64 d0, .int .i64 d1, .int .i64 d2]) (t := 43) (fr := (0, 0)) (heap_alloc_new w3 _)) (by simp [Value.oneCell']) (by decide) (by unfold maxLen; omega) (by omega) (by simp; omega) (w3.heap.size + 1) (by simp) ?_; intro g5 cap5 w5 hown5 hgrow5 hat5 hlt5; have HR5 : Hid (RowOf w5 (wo.heap.size + 1) 24 [.int .i64 m, v]) := Lib.hid ((hgrow5.block _ (by simp; omega) (HNE.out _ (by omega))).trans (HR3.out.alloc _)); have hv5 : w5.cell? ⟨wo.heap.size + 1, 1, none⟩ = some v := HR5.out.cell rfl; have hf5 := HR5.out.frozen 1; have hl5 : wo.heap.size + 1 < w5.heap.size := HR5.out.lt))
            all_goals
              have HN : Hid (AhInv m t es wo.heap.size (ahW wo m x y a2) (k + 1) (.slice (some ⟨g5, 0, none⟩) (n + 1) cap5) (w5.setCell ⟨wo.heap.size + 1, 1, none⟩ (.slice (some ⟨g5, 0, none⟩) (n + 1) cap5))) := Lib.hid (by
                refine ⟨HR5.out.set_ 1 _, ?_, ?_⟩
                · rw [HE.out, HLN.out]
                  exact own_keep3 hown5 fun g hg => Below.heap_setCell _ _ _ g (by show g ≠ wo.heap.size + 1; omega)
                · exact ((((HB3.out.alloc (by omega) _).drew).grown hgrow5 (by simp; omega) (fun g hg => by have := own_base3 HOe3.out g hg; omega))).setCell (p := ⟨wo.heap.size + 1, 1, none⟩) (Nat.le_refl _) _)
              clear hown5 hgrow5 hat5
              go_wp2
              go_roundw
              case rel => exact ⟨k + 1, by omega, by go_num, Lib.hid ⟨_, HN.out⟩⟩
              case measure => simp [intOf]; omega
        · obtain rfl : k = len := by omega
          have HAS : Hid (aheadT es t k = aheadS es t) := Lib.hid (by rw [← HLE.out]; rfl)
          obtain ⟨A', cap', HV2⟩ : ∃ A' cap', Hid (v = .slice A' (aheadT es t k).length cap') := by
            obtain ⟨A', cap', h⟩ := own_form3 HA.out.own
            exact ⟨A', cap', Lib.hid h⟩
          obtain rfl := HV2.out
          clear HV2
          have h0 : wr.cell? ⟨wo.heap.size + 1, 0, none⟩ = some (.int .i64 m) := HA.out.box.cell rfl
          have h1 : wr.cell? ⟨wo.heap.size + 1, 1, none⟩ = some (.slice A' (aheadT es t k).length cap') := HA.out.box.cell rfl
          have e0 : wr.cell? ⟨wo.heap.size, 0, none⟩ = some (.int .i64 x) := by
            rw [HA.out.bel.cell (p := ⟨wo.heap.size, 0, none⟩) (Nat.lt_succ_self _)]; simp [ahW, go_sem]
          have e1 : wr.cell? ⟨wo.heap.size, 1, none⟩ = some (.int .i64 y) := by
            rw [HA.out.bel.cell (p := ⟨wo.heap.size, 1, none⟩) (Nat.lt_succ_self _)]; simp [ahW, go_sem]
          have HEA : Hid (EdgesAt wr wr.heap.size A' (aheadT es t k).length (eg es (aheadT es t k))) := Lib.hid (EdgesAt.of_own3 HA.out.own)
          have HIL : Hid (InE m (eg es (aheadT es t k))) := Lib.hid (eg_in HIN.out fun q hq => by
            rw [HLE.out]; exact List.mem_range.1 (List.mem_filter.1 hq).1)
          have HBq := Lib.hid (HB1.out _ HA.out.bel)
          have HKP : Hid (Kept es t ↔ distI (adjE (eg es (aheadT es t k))) x y < 0) := Lib.hid (by
            have h2 := @distI_nonneg (adjE (eg es (aheadT es t k))) x y
            have h3 : Kept es t ↔ ¬ Rch (eg es (aheadT es t k)) x y := by
              rw [HAS.out]
              constructor
              · exact fun hk => hk.2 x y (by rw [HED.out]) (by rw [HED.out])
              · intro hn
                refine ⟨by rw [HLE.out]; exact hlt, fun a' b' ha' hb' => ?_⟩
                obtain rfl : a' = x := by rw [HED.out] at ha'; exact (Int.ofNat.inj ha').symm
                obtain rfl : b' = y := by rw [HED.out] at hb'; exact (Int.ofNat.inj hb').symm
                exact hn
            rw [h3]
            constructor
            · intro hn
              apply Classical.byContradiction
              intro h4
              exact hn (h2.1 (by omega))
            · intro h4 hr
              have h5 := h2.2 hr
              omega)
          have hm0 : 0 < m := by omega
          have ix0 : (0 : Int) ≤ (x : Int) := by omega
          have ix1 : (x : Int) < (m : Int) := by omega
          have iy0 : (0 : Int) ≤ (y : Int) := by omega
          have iy1 : (y : Int) < (m : Int) := by omega
          clear HA HAS HXq
          generalize hL : eg es (aheadT es t k) = L at HEA HIL HKP
          generalize (aheadT es t k).length = n at *
          clear hL
          obtain ⟨d, hd⟩ : ∃ d, d = distI (adjE L) x y := ⟨_, rfl⟩
          rw [← hd] at HKP
          have HD := Lib.hid hd
          clear hd
          by_cases hdn : d < 0
          · have hdd : decide (d < 0) = true := decide_eq_true hdn
            have HK := Lib.hid (HKP.out.2 hdn)
            clear HKP
            go_wp2
            go_region_with (go_at_call 45; refine (refDist_any m A' n cap' L _ (by exact HEA.out) hm10 (by omega) HIL.out).mono ?_; rintro e w4 ⟨ho, hb4⟩; obtain ⟨vd, bs, cs, HR, rfl⟩ : ∃ v bs cs, Hid (Rows1 w4 wr.heap.size m m v bs cs (distI (adjE L))) ∧ e = .returned v := (by obtain ⟨v, bs, cs, he, hr⟩ := ho; exact ⟨v, bs, cs, Lib.hid (by simpa using hr), he⟩); clear ho; obtain ⟨g, capg, HVd, k0⟩ : ∃ g capg, Hid (vd = Value.slice (some ⟨g, 0, none⟩) m capg) ∧ w4.cell? ⟨g, x, none⟩ = some (.slice (some ⟨bs x, 0, none⟩) m (cs x)) := (by obtain ⟨g, capg, q1, _, _, q2⟩ := HR.out.top hm0; exact ⟨g, capg, Lib.hid q1, q2 x hxm⟩); obtain rfl := HVd.out; clear HVd; have c0 : w4.cell? ⟨bs x, y, none⟩ = some (.int .i64 d) := (by rw [HD.out]; exact HR.out.cell hxm hym); have q0 := (hb4.cell (p := ⟨wo.heap.size + 1, 0, none⟩) (by show wo.heap.size + 1 < _; simp; omega)).trans h0; have q1 := (hb4.cell (p := ⟨wo.heap.size + 1, 1, none⟩) (by show wo.heap.size + 1 < _; simp; omega)).trans h1; have q2 := (hb4.cell (p := ⟨wo.heap.size, 0, none⟩) (by show wo.heap.size < _; simp; omega)).trans e0; have q3 := (hb4.cell (p := ⟨wo.heap.size, 1, none⟩) (by show wo.heap.size < _; simp; omega)).trans e1; have HBQ : Hid (Below wo.heap.size wo w4) := Lib.hid (by first | exact HBq.out.trans (hb4.mono (by first | omega | (simp; omega))) | exact HBq.out.drew.trans (hb4.mono (by simp; omega))); clear hb4)
            all_goals
              have hs4 : wo.heap.size ≤ w4.heap.size := HBQ.out.size
              have HO4 : Hid (w4.ownsRow (w.heap.size + 1) 3 1 u3 (keptU es t).length ((keptU es t).map natV)) := Lib.hid (HO.out.kept (grown_of_below HBQ.out none) (Classical.em _))
              have HKY := Lib.hid (keptU_yes HK.out)
              have hkn := keptU_len (es := es) (t := t)
              clear q0 q1 q2 q3 k0 c0 h0 h1 e0 e1
              go_wp2_with (at_builtin; refine wpList_append_own _ rfl _ _ 28 rfl (w.heap.size + 1) 3 i1 (.int .i64 0) 1 8 Try.underlying28 HJ.out HJ0.out HJ1.out HJ2.out rfl (by decide) _ _ _ rfl (HO4.out.alloc _) ⟨w4.heap.size, 0, none⟩ 1 1 [.int .i64 (t : Int)] rfl rfl ?c1 ?c2 ?c3 ?c4 ?c5 ?_)
              try (case c1 => exact cell_one_new _ _ _)
              case c2 => simp [Value.oneCell']
              case c3 => unfold maxLen; omega
              case c4 => omega
              case c5 => simp; omega
              intro v' w6 hown' hgrow _
              have HB6 : Hid (Below (w.heap.size + 1) (bx w m (some ⟨b, off, none⟩) k cap) w6) := Lib.hid (((HBo.out.trans (HBQ.out.mono (by omega))).alloc (by omega) _).grown hgrow (by simp; omega) (fun g hg => own_base HO4.out g hg))
              have HN : Hid (w6.ownsRow (w.heap.size + 1) 3 1 v' (keptU es (t + 1)).length ((keptU es (t + 1)).map natV)) := Lib.hid (by rw [HKY.out, List.length_append, List.map_append]; exact hown')
              clear hown' hgrow
              go_wp2
              go_roundw
              case rel => exact ⟨t + 1, by omega, by go_num, HN, HB6⟩
              case measure => simp [intOf]; omega
          · have hdd : decide (d < 0) = false := decide_eq_false hdn
            have HK := Lib.hid (fun h => hdn (HKP.out.1 h))
            clear HKP
            go_wp2
            go_region_with (go_at_call 45; refine (refDist_any m A' n cap' L _ (by exact HEA.out) hm10 (by omega) HIL.out).mono ?_; rintro e w4 ⟨ho, hb4⟩; obtain ⟨vd, bs, cs, HR, rfl⟩ : ∃ v bs cs, Hid (Rows1 w4 wr.heap.size m m v bs cs (distI (adjE L))) ∧ e = .returned v := (by obtain ⟨v, bs, cs, he, hr⟩ := ho; exact ⟨v, bs, cs, Lib.hid (by simpa using hr), he⟩); clear ho; obtain ⟨g, capg, HVd, k0⟩ : ∃ g capg, Hid (vd = Value.slice (some ⟨g, 0, none⟩) m capg) ∧ w4.cell? ⟨g, x, none⟩ = some (.slice (some ⟨bs x, 0, none⟩) m (cs x)) := (by obtain ⟨g, capg, q1, _, _, q2⟩ := HR.out.top hm0; exact ⟨g, capg, Lib.hid q1, q2 x hxm⟩); obtain rfl := HVd.out; clear HVd; have c0 : w4.cell? ⟨bs x, y, none⟩ = some (.int .i64 d) := (by rw [HD.out]; exact HR.out.cell hxm hym); have q0 := (hb4.cell (p := ⟨wo.heap.size + 1, 0, none⟩) (by show wo.heap.size + 1 < _; simp; omega)).trans h0; have q1 := (hb4.cell (p := ⟨wo.heap.size + 1, 1, none⟩) (by show wo.heap.size + 1 < _; simp; omega)).trans h1; have q2 := (hb4.cell (p := ⟨wo.heap.size, 0, none⟩) (by show wo.heap.size < _; simp; omega)).trans e0; have q3 := (hb4.cell (p := ⟨wo.heap.size, 1, none⟩) (by show wo.heap.size < _; simp; omega)).trans e1; have HBQ : Hid (Below wo.heap.size wo w4) := Lib.hid (by first | exact HBq.out.trans (hb4.mono (by first | omega | (simp; omega))) | exact HBq.out.drew.trans (hb4.mono (by simp; omega))); clear hb4)
            all_goals
              have hs4 : wo.heap.size ≤ w4.heap.size := HBQ.out.size
              have HN : Hid (w4.ownsRow (w.heap.size + 1) 3 1 u3 (keptU es (t + 1)).length ((keptU es (t + 1)).map natV)) := Lib.hid (by rw [keptU_no HK.out]; exact HO.out.kept (grown_of_below HBQ.out none) (Classical.em _))
              have HB6 : Hid (Below (w.heap.size + 1) (bx w m (some ⟨b, off, none⟩) k cap) w4) := Lib.hid (HBo.out.trans (HBQ.out.mono (by omega)))
              clear q0 q1 q2 q3 k0 c0 h0 h1 e0 e1
              go_wp2
              go_roundw
              case rel => exact ⟨t + 1, by omega, by go_num, by first | exact HN | exact Lib.hid HN.out, by first | exact HB6 | exact Lib.hid HB6.out.drew⟩
              case measure => simp [intOf]; omega
    · obtain rfl : t = es.length := by have := HLE.out; omega
      obtain ⟨B, cp, HV⟩ : ∃ B cp, Hid (u3 = .slice B (keptU es es.length).length cp) := by
        obtain ⟨B, cp, h⟩ := own_form HO.out
        exact ⟨B, cp, Lib.hid h⟩
      obtain rfl := HV.out
      have HF : Hid (IntsAt wr wr.heap.size B (keptS es).length ((keptS es).map fun x : Nat => (x : Int))) := Lib.hid (by
        have h := IntsAt.of_own (xs := (keptU es es.length).map fun x : Nat => (x : Int)) (by rw [List.map_map]; exact HO.out) (Nat.le_refl _)
        rw [keptU_all] at h
        exact h)
      have HL := Lib.hid (congrArg List.length (keptU_all es))
      clear HV HO
      go_wp2
      go_ret
      exact ⟨⟨B, cp, by rw [← HL.out]; rfl, HF.out⟩, HXr.out.below⟩
end Go.Proofs.Ythfgbgmkiggjmaa
