/- The keepers' weighs and some: how much some edges do together, and a graph of them. -/
import Derived.Test.YthfgbgmkiggjmaaAhead
import Derived.Test.YthfgbgmkiggjmaaRows2
import Derived.Deep.AppendLies
import Derived.Deep.RegionLaw
namespace Go.Proofs.Ythfgbgmkiggjmaa
open Go.RowKit

def intsL (L : List Nat) : List Int := L.map fun x : Nat => (x : Int)
theorem intsL_len (L : List Nat) : (intsL L).length = L.length := by simp [intsL]
theorem intsL_get {L : List Nat} {i : Nat} {y : Int} (h : (intsL L)[i]? = some y) : ∃ x, L[i]? = some x ∧ (x : Int) = y := by
  unfold intsL at h
  rw [List.getElem?_map, Option.map_eq_some_iff] at h
  exact h
theorem sumW_snoc (es : List E3) (S : List Nat) (x : Nat) : sumW es (S ++ [x]) = sumW es S + wAt es x := by simp [sumW]
theorem sumW_bd {es : List E3} (h : ∀ i, -1048576 ≤ wAt es i ∧ wAt es i ≤ 1048576) : ∀ S : List Nat, -(1048576 * (S.length : Int)) ≤ sumW es S ∧ sumW es S ≤ 1048576 * (S.length : Int)
  | [] => by simp [sumW]
  | x :: S => by
    have h1 := sumW_bd h S
    have h2 := h x
    have h3 : sumW es (x :: S) = wAt es x + sumW es S := by simp [sumW]
    rw [h3, List.length_cons]
    omega
theorem wAt_bd {es : List E3} (hw : ∀ e ∈ es, -1048576 ≤ e.2.2 ∧ e.2.2 ≤ 1048576) (i : Nat) : -1048576 ≤ wAt es i ∧ wAt es i ≤ 1048576 := by
  unfold wAt
  by_cases h : i < es.length
  · exact hw _ (edgeAt_mem h)
  · unfold edgeAt
    rw [List.getD_eq_getElem?_getD, List.getElem?_eq_none (by omega)]
    simp
theorem take_snoc {L : List Nat} {k x : Nat} (h : L[k]? = some x) : L.take (k + 1) = L.take k ++ [x] := by
  obtain ⟨h1, h2⟩ := List.getElem?_eq_some_iff.1 h
  rw [List.take_succ_eq_append_getElem h1, h2]

set_option maxRecDepth 100000 in
set_option maxHeartbeats 1000000 in
theorem weighs_any (m n : Nat) (A B : Option Addr) (len cap cp : Nat) (es : List E3) (L : List Nat) (w : World) (hE : EdgesAt w w.heap.size A len es) (hn : n = L.length) (hI : IntsAt w w.heap.size B n (intsL L)) (hL : ∀ i ∈ L, i < len) (hl : n ≤ 45) (hw : ∀ e ∈ es, -1048576 ≤ e.2.2 ∧ e.2.2 ≤ 1048576) :
    Calls Try.prog 27 #[.agg #[.int .i64 m, .slice A len cap], .slice B n cp] w fun e w' => e = .returned (.int .i64 (sumW es L)) ∧ Below w.heap.size w w' := by
  have HX : Hid (BoxG w m A len cap es (w.alloc (.cells #[.int .i64 m, .slice A len cap] 24))) := Lib.hid (BoxG.start (n := m) (cap := cap) hE)
  have HI : Hid (IntsAt (w.alloc (.cells #[.int .i64 m, .slice A len cap] 24)) w.heap.size B n (intsL L)) := Lib.hid (hI.alloc (Nat.le_refl _) _)
  have HL := Lib.hid hL
  have HN := Lib.hid hn
  have HW := Lib.hid (sumW_bd (wAt_bd hw))
  have HW1 := Lib.hid (wAt_bd hw)
  clear hE hI hL hn hw
  go_enter Try.func27, Try.ntmps27
  go_wp2
  generalize w.alloc (.cells #[.int .i64 (m : Int), .slice A len cap] 24) = W at *
  have c1 := HX.out.c1
  go_loop [5, 10] (fun x j => ∃ k : Nat, k ≤ n ∧ j = .int .i64 k ∧ x = .int .i64 (sumW es (L.take k))) (fun _ j => n - (intOf j).toNat)
  case atStart => exact ⟨0, Nat.zero_le _, rfl, rfl⟩
  case round =>
    obtain ⟨k, hk, rfl, rfl⟩ := hrel
    by_cases hlt : k < n
    · obtain ⟨b, off, y, rfl, hb, hy, hc⟩ := HI.out.at_ hlt
      obtain ⟨x, hx, rfl⟩ := intsL_get hy
      have hxl := HL.out x (List.mem_of_getElem? hx)
      obtain ⟨b2, off2, ⟨a0, a1, a2⟩, rfl, hb2, hxe, q0, q1, q2⟩ := HX.out.edges.at_ hxl
      simp only at q0 q1 q2
      have HS : Hid (sumW es (L.take (k + 1)) = sumW es (L.take k) + a2) := Lib.hid (by
        rw [take_snoc hx, sumW_snoc]; congr 1; unfold wAt; rw [edgeAt_of' hxe])
      have h1 := HW.out (L.take k)
      have h2 := HW1.out x
      have h3 : wAt es x = a2 := by unfold wAt; rw [edgeAt_of' hxe]
      rw [h3] at h2
      have h4 := List.length_take_le k L
      have hsum : IntKind.i64.wrap (sumW es (L.take k) + a2) = sumW es (L.take k) + a2 := IntWalk.i64_in _ (by omega)
      have ix0 : (0 : Int) ≤ (x : Int) := by omega
      have ix1 : (x : Int) < (len : Int) := by omega
      clear hy hx hxe h1 h2 h3 h4 hb hb2
      generalize sumW es (L.take k) = S at *
      go_wp2
      go_round
      case rel => exact ⟨k + 1, by omega, by go_num, (by rw [HS.out])⟩
      case measure => simp [intOf]; omega
    · obtain rfl : k = n := by omega
      have HS : Hid (sumW es (L.take k) = sumW es L) := Lib.hid (by rw [List.take_of_length_le (by have := HN.out; omega)])
      generalize sumW es (L.take k) = S at *
      go_wp2
      go_ret
      exact ⟨by rw [← HS.out]; rfl, HX.out.below⟩

def someW (w : World) (m : Int) (A : Option Addr) (len cap : Nat) : World := ((w.alloc (.cells #[.int .i64 m, .slice A len cap] 24)).alloc (.cells #[.int .i64 0, .slice none 0 0] 24)).alloc (.cells #[.int .i64 m, .slice none 0 0] 24)
theorem someW_size (w : World) (m : Int) (A : Option Addr) (len cap : Nat) : (someW w m A len cap).heap.size = w.heap.size + 3 := by simp [someW]
theorem someW_below (w : World) (m : Int) (A : Option Addr) (len cap : Nat) : Below w.heap.size w (someW w m A len cap) := (((Below.refl _ _).alloc (Nat.le_refl _) _).alloc (by simp) _).alloc (by simp; omega) _
theorem someW_box (w : World) (m : Int) (A : Option Addr) (len cap : Nat) : Below (w.heap.size + 1) (bx w m A len cap) (someW w m A len cap) := ((Below.refl _ _).alloc (by simp [bx]) _).alloc (by simp [bx]) _
theorem eg_snoc' (es : List E3) (S : List Nat) (x : Nat) : eg es (S ++ [x]) = eg es S ++ [edgeAt es x] := by simp [eg]
structure SomeInv (m : Nat) (L : List Nat) (es : List E3) (w W : World) (j : Nat) (v : Value) (wr : World) : Prop where
  box : RowOf wr (w.heap.size + 1 + 1) 24 [.int .i64 m, v]
  own : wr.ownsRow (w.heap.size + 3) 43 3 v j (cellsE (eg es (L.take j)))
  bel : Below (w.heap.size + 2) W wr

set_option maxRecDepth 100000 in
set_option maxHeartbeats 4000000 in
theorem some_any (m n : Nat) (A B : Option Addr) (len cap cp : Nat) (es : List E3) (L : List Nat) (w : World) (hE : EdgesAt w w.heap.size A len es) (hn : n = L.length) (hI : IntsAt w w.heap.size B n (intsL L)) (hL : ∀ i ∈ L, i < len) (hl : n ≤ 45) :
    Calls Try.prog 50 #[.agg #[.int .i64 m, .slice A len cap], .slice B n cp] w fun e w' => LessOut m w.heap.size (eg es L) e w' ∧ Below w.heap.size w w' := by
  have HX := Lib.hid (BoxG.start (n := m) (cap := cap) hE)
  have HIw := Lib.hid hI
  have HL := Lib.hid hL
  have HN := Lib.hid hn
  clear hE hI hL hn
  obtain ⟨i0, hi, hz0, hz1, hz2⟩ := info_parts infoEdge
  have HI := Lib.hid hi
  have HI0 := Lib.hid hz0
  have HI1 := Lib.hid hz1
  have HI2 := Lib.hid hz2
  clear hi hz0 hz1 hz2
  go_enter Try.func50, Try.ntmps50
  go_wp2
  have HS : Hid (SomeInv m L es w (someW w m A len cap) 0 (.slice none 0 0) (someW w m A len cap)) := Lib.hid (by
    refine ⟨?_, by simpa [eg, cellsE] using World.ownsRow_nil .., Below.refl _ _⟩
    have h := (MapKept.heap_alloc ((w.alloc (.cells #[.int .i64 m, .slice A len cap] 24)).alloc (.cells #[.int .i64 0, .slice none 0 0] 24)) (.cells #[.int .i64 m, .slice none 0 0] 24)).1
    rw [show ((w.alloc (.cells #[.int .i64 (m : Int), .slice A len cap] 24)).alloc (.cells #[.int .i64 0, .slice none 0 0] 24)).heap.size = w.heap.size + 1 + 1 by simp] at h
    exact h)
  go_loopw [13] (fun j wr => ∃ k : Nat, k ≤ n ∧ j = .int .i64 k ∧ Hid (∃ v, SomeInv m L es w (someW w m A len cap) k v wr)) (fun j _ => n - (intOf j).toNat)
  case atStart => exact ⟨0, Nat.zero_le _, rfl, Lib.hid ⟨_, HS.out⟩⟩
  case round =>
    clear HS
    obtain ⟨k, hk, rfl, HAV⟩ := hrel
    obtain ⟨v, HA⟩ : ∃ v, Hid (SomeInv m L es w (someW w m A len cap) k v wr) := by obtain ⟨v, h⟩ := HAV.out; exact ⟨v, Lib.hid h⟩
    clear HAV
    have HBw : Hid (Below w.heap.size w wr) := Lib.hid ((someW_below w m A len cap).trans (HA.out.bel.mono (by omega)))
    have HXr : Hid (BoxG w m A len cap es wr) := Lib.hid (HX.out.next (show Below (bx w m A len cap).heap.size _ _ by
      rw [show (bx w m A len cap).heap.size = w.heap.size + 1 by simp [bx]]
      exact (someW_box w m A len cap).trans (HA.out.bel.mono (by omega))))
    have hsz : w.heap.size + 3 ≤ wr.heap.size := by have := HA.out.bel.size; rw [someW_size] at this; exact this
    by_cases hlt : k < n
    · obtain ⟨b, off, y, rfl, hb, hy, hc⟩ := (HIw.out.below HBw.out).at_ hlt
      obtain ⟨x, hx, rfl⟩ := intsL_get hy
      have hxl := HL.out x (List.mem_of_getElem? hx)
      obtain ⟨b2, off2, ⟨d0, d1, d2⟩, rfl, hb2, hxe, g0, g1, g2⟩ := HXr.out.edges.at_ hxl
      simp only at g0 g1 g2
      have hc1 := HXr.out.c1
      have HR3 := Lib.hid HA.out.box
      have HOe3 := Lib.hid HA.out.own
      have HB3 := Lib.hid HA.out.bel
      have HE : Hid (cellsE (eg es (L.take (k + 1))) = cellsE (eg es (L.take k)) ++ [.int .i64 d0, .int .i64 d1, .int .i64 d2]) := Lib.hid (by
        rw [take_snoc hx, eg_snoc', cellsE_snoc, edgeAt_of' hxe]; rfl)
      have hv3 : wr.cell? ⟨w.heap.size + 1 + 1, 1, none⟩ = some v := HR3.out.cell rfl
      have hf3 := HR3.out.frozen 1
      have hl3 : w.heap.size + 1 + 1 < wr.heap.size := by omega
      have ix0 : (0 : Int) ≤ (x : Int) := by omega
      have ix1 : (x : Int) < (len : Int) := by omega
      clear hy hx hxe hb2 HA
      have HNE : Hid (∀ g, g < w.heap.size + 3 → some g ≠ v.ownBlock) := Lib.hid fun g hg he => by have := own_base3 HOe3.out g he.symm; omega
      go_wp2
      go_region_law ((refine step_append_lies _ (by rfl) (.tmp 18) (.tmp 24) 22 (by rfl) (w.heap.size + 3) 43 i0 (.agg #[.int .i64 0, .int .i64 0, .int .i64 0]) 3 24 Try.underlying22 HI.out HI0.out HI1.out HI2.out rfl (by decide) v k (cellsE (eg es (L.take k))) (by rfl) ((HOe3.out.alloc _).drew) ⟨wr.heap.size, 0, none⟩ 1 1 [.int .i64 d0, .int .i64 d1, .int .i64 d2] (by rfl) (by rfl) (World.news_of_block (cs := #[.int .i64 d0, .int .i64 d1, .int .i64 d2]) (t := 43) (fr := (0, 0)) (heap_alloc_new wr _)) (by simp [Value.oneCell']) (by decide) (by unfold maxLen; omega) (by omega) (by simp; omega) (wr.heap.size + 1) (by simp) ?_; intro g5 cap5 w5 hown5 hgrow5 hat5 hlt5; have HR5 : Hid (RowOf w5 (w.heap.size + 1 + 1) 24 [.int .i64 m, v]) := Lib.hid ((hgrow5.block _ (by simp; omega) (HNE.out _ (by omega))).trans (HR3.out.alloc _)); have hv5 : w5.cell? ⟨w.heap.size + 1 + 1, 1, none⟩ = some v := HR5.out.cell rfl; have hf5 := HR5.out.frozen 1; have hl5 : w.heap.size + 1 + 1 < w5.heap.size := HR5.out.lt))
      all_goals
        have HN2 : Hid (SomeInv m L es w (someW w m (some ⟨b2, off2, none⟩) len cap) (k + 1) (.slice (some ⟨g5, 0, none⟩) (k + 1) cap5) (w5.setCell ⟨w.heap.size + 1 + 1, 1, none⟩ (.slice (some ⟨g5, 0, none⟩) (k + 1) cap5))) := Lib.hid (by
          refine ⟨HR5.out.set_ 1 _, ?_, ?_⟩
          · rw [HE.out]
            exact own_keep3 hown5 fun g hg => Below.heap_setCell _ _ _ g (by show g ≠ w.heap.size + 1 + 1; omega)
          · exact ((((HB3.out.alloc (by omega) _).drew).grown hgrow5 (by simp; omega) (fun g hg => by have := own_base3 HOe3.out g hg; omega))).setCell (p := ⟨w.heap.size + 1 + 1, 1, none⟩) (Nat.le_refl _) _)
        clear hown5 hgrow5 hat5
        go_wp2
        go_roundw
        case rel => exact ⟨k + 1, by omega, by go_num, Lib.hid ⟨_, HN2.out⟩⟩
        case measure => simp [intOf]; omega
    · obtain rfl : k = n := by omega
      obtain ⟨A', cap', HV, HEA⟩ : ∃ A' cap', Hid (v = .slice A' k cap') ∧ Hid (wr.ownsRow (w.heap.size + 3) 43 3 (.slice A' k cap') k (cellsE (eg es L))) := by
        have h := HA.out.own
        rw [List.take_of_length_le (by have := HN.out; omega)] at h
        obtain ⟨A', cap', rfl⟩ := own_form3 h
        exact ⟨A', cap', Lib.hid rfl, Lib.hid h⟩
      obtain rfl := HV.out
      have h0 : wr.cell? ⟨w.heap.size + 1 + 1, 0, none⟩ = some (.int .i64 m) := HA.out.box.cell rfl
      have h1 : wr.cell? ⟨w.heap.size + 1 + 1, 1, none⟩ = some (.slice A' k cap') := HA.out.box.cell rfl
      have hB := HA.out.bel
      have r0 : wr.cell? ⟨w.heap.size + 1, 0, none⟩ = some (.int .i64 0) := by rw [hB.cell (p := ⟨w.heap.size + 1, 0, none⟩) (by show w.heap.size + 1 < w.heap.size + 2; omega)]; simp [someW, go_sem]
      have r1 : wr.cell? ⟨w.heap.size + 1, 1, none⟩ = some (.slice none 0 0) := by rw [hB.cell (p := ⟨w.heap.size + 1, 1, none⟩) (by show w.heap.size + 1 < w.heap.size + 2; omega)]; simp [someW, go_sem]
      have f0 : wr.frozen? ⟨w.heap.size + 1, 0, none⟩ = false := by rw [hB.frozen (p := ⟨w.heap.size + 1, 0, none⟩) (by show w.heap.size + 1 < w.heap.size + 2; omega)]; simp [someW, go_sem]
      have f1 : wr.frozen? ⟨w.heap.size + 1, 1, none⟩ = false := by rw [hB.frozen (p := ⟨w.heap.size + 1, 1, none⟩) (by show w.heap.size + 1 < w.heap.size + 2; omega)]; simp [someW, go_sem]
      have HLN : Hid ((eg es L).length = k) := Lib.hid (by rw [eg_len, HN.out])
      clear HV hB HA
      go_wp2
      have HFIN : Hid (((wr.setCell ⟨w.heap.size + 1, 0, none⟩ (.int .i64 m)).setCell ⟨w.heap.size + 1, 1, none⟩ (.slice A' k cap')).ownsRow (w.heap.size + 3) 43 3 (.slice A' k cap') k (cellsE (eg es L))) := Lib.hid (own_keep3 HEA.out fun g hg => (Below.heap_setCell _ _ _ g (by show g ≠ w.heap.size + 1; omega)).trans (Below.heap_setCell _ _ _ g (by show g ≠ w.heap.size + 1; omega)))
      refine bodyPost_ret (v := .agg #[.int .i64 m, .slice A' k cap']) (by simp [results, Try.results50, go_sem, r0, r1]) rfl ⟨⟨A', cap', by rw [HLN.out], ?_, fun a ha => ?_⟩, ?_⟩
      · rw [HLN.out]
        exact EdgesAt.of_own3 HFIN.out
      · obtain ⟨p1, p2⟩ := own_addr3 HFIN.out a ha
        exact ⟨by omega, p2⟩
      · exact (HBw.out.setCell (p := ⟨w.heap.size + 1, 0, none⟩) (Nat.le_succ _) _).setCell (p := ⟨w.heap.size + 1, 1, none⟩) (Nat.le_succ _) _
end Go.Proofs.Ythfgbgmkiggjmaa
