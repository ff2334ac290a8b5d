/- The reference's Without: a graph in which some nodes have no edges. No conditions. -/
import Derived.Test.YthfgbgmkiggjmacDoorEdgesOwn
import Derived.Test.YthfgbgmkiggjmacDoorBitSize
import Derived.Test.YthfgbgmkiggjmacDoorWallP
import Derived.Test.YthfgbgmkiggjmacDoorRefDist
namespace Go.Proofs.YthfgbgmkiggjmacDoor
open Go.RowKit

def lessW (w : World) (m : Int) (A : Option Addr) (len cap : Nat) : World := ((w.alloc (.cells #[.int .i64 m, .slice A len cap] 24)).alloc (.cells #[.int .i64 0, .slice none 0 0] 24)).alloc (.cells #[.int .i64 m, .slice none 0 0] 24)
theorem lessW_size (w : World) (m : Int) (A : Option Addr) (len cap : Nat) : (lessW w m A len cap).heap.size = w.heap.size + 3 := by simp [lessW]
theorem lessW_below (w : World) (m : Int) (A : Option Addr) (len cap : Nat) : Below w.heap.size w (lessW w m A len cap) := (((Below.refl _ _).alloc (Nat.le_refl _) _).alloc (by simp) _).alloc (by simp; omega) _
def OffInv (m u : Nat) (es : List E3) (w W : World) (j : Nat) (wr : World) : Prop :=
  ∃ v, RowOf wr (w.heap.size + 1 + 1) 24 [.int .i64 m, v] ∧ wr.ownsRow (w.heap.size + 3) 53 3 v (offE u (es.take j)).length (cellsE (offE u (es.take j))) ∧ Below (w.heap.size + 2) W wr
theorem offE_le (u : Nat) (es : List E3) (j : Nat) : (offE u (es.take j)).length ≤ j := by
  have h1 := List.length_filter_le (fun e : E3 => !u.testBit e.1.toNat && !u.testBit e.2.1.toNat) (es.take j)
  have h2 := List.length_take_le j es
  unfold offE
  omega
theorem offE_in {u j : Nat} {es : List E3} {e : E3} (he : es[j]? = some e) (h1 : u.testBit e.1.toNat = false) (h2 : u.testBit e.2.1.toNat = false) : offE u (es.take (j + 1)) = offE u (es.take j) ++ [e] := by
  obtain ⟨hj, rfl⟩ := List.getElem?_eq_some_iff.1 he
  unfold offE
  rw [List.take_succ_eq_append_getElem hj, List.filter_append]
  simp [h1, h2]
theorem offE_out {u j : Nat} {es : List E3} {e : E3} (he : es[j]? = some e) (h : u.testBit e.1.toNat = true ∨ u.testBit e.2.1.toNat = true) : offE u (es.take (j + 1)) = offE u (es.take j) := by
  obtain ⟨hj, rfl⟩ := List.getElem?_eq_some_iff.1 he
  unfold offE
  rw [List.take_succ_eq_append_getElem hj, List.filter_append]
  rcases h with h | h <;> simp [h]
set_option maxRecDepth 100000 in
theorem bit_i {s : Nat} {z : Int} {b : Bool} (hs : s < 4294967296) (h0 : 0 ≤ z) (h1 : z < 32) (hb : s.testBit z.toNat = b) (W : World) : Calls Tryd.prog 32 #[.int .u32 s, .int .i64 z] W fun e w' => e = .returned (.bool b) ∧ w' = W := by
  have h := bit_nat s z.toNat b hs (by omega) hb W
  rwa [show ((z.toNat : Nat) : Int) = z by omega] at h

set_option maxRecDepth 100000 in
set_option maxHeartbeats 1000000 in
theorem refWithout_any (m u : Nat) (A : Option Addr) (len cap : Nat) (es : List E3) (w : World) (hE : EdgesAt w w.heap.size A len es) (hm10 : m ≤ 10) (hlen : len ≤ 45) (hin : InE m es) (hu : u < 4294967296) :
    Calls Tryd.prog 38 #[.agg #[.int .i64 m, .slice A len cap], .int .u32 u] w fun e w' => LessOut m w.heap.size (offE u es) e w' ∧ Below w.heap.size w w' := by
  have HE := Lib.hid (show EdgesAt w w.heap.size A len es from hE)
  have HIN := Lib.hid hin
  clear hE hin
  obtain ⟨i0, hi, hz0, hz1, hz2⟩ := info_parts infoEdge
  have HI := Lib.hid hi
  have HI0 := Lib.hid hz0
  have HI1 := Lib.hid hz1
  have HI2 := Lib.hid hz2
  clear hi hz0 hz1 hz2
  go_enter Tryd.func38, Tryd.ntmps38
  go_wp2
  have HS : Hid (OffInv m u es w (lessW w m A len cap) 0 (lessW w m A len cap)) := Lib.hid (by
    refine ⟨.slice none 0 0, ?_, by simp [offE, cellsE, World.ownsRow_nil], Below.refl _ _⟩
    have h := (MapKept.heap_alloc ((w.alloc (.cells #[.int .i64 m, .slice A len cap] 24)).alloc (.cells #[.int .i64 0, .slice none 0 0] 24)) (.cells #[.int .i64 m, .slice none 0 0] 24)).1
    rw [show ((w.alloc (.cells #[.int .i64 (m : Int), .slice A len cap] 24)).alloc (.cells #[.int .i64 0, .slice none 0 0] 24)).heap.size = w.heap.size + 1 + 1 by simp] at h
    exact h)
  go_loopw [14] (fun j wr => ∃ a : Nat, a ≤ len ∧ j = .int .i64 a ∧ Hid (OffInv m u es w (lessW w m A len cap) a wr)) (fun j _ => len - (intOf j).toNat)
  case atStart => exact ⟨0, Nat.zero_le _, rfl, HS⟩
  case round =>
    clear HS
    obtain ⟨a, ha, rfl, HL⟩ := hrel
    obtain ⟨v, HRo, HOw, hB⟩ : ∃ v, Hid (RowOf wr (w.heap.size + 1 + 1) 24 [.int .i64 m, v]) ∧ Hid (wr.ownsRow (w.heap.size + 3) 53 3 v (offE u (es.take a)).length (cellsE (offE u (es.take a)))) ∧ Below (w.heap.size + 2) (lessW w m A len cap) wr := by
      obtain ⟨v, h1, h2, h3⟩ := HL.out
      exact ⟨v, Lib.hid h1, Lib.hid h2, h3⟩
    clear HL
    have hsz : w.heap.size + 3 ≤ wr.heap.size := by have := hB.size; rw [lessW_size] at this; exact this
    have hnl := offE_le u es a
    by_cases hlt : a < len
    · have HE2 := Lib.hid (((HE.out.below (lessW_below w m A len cap)).below (hB.mono (by omega))))
      obtain ⟨b, off, ⟨a0, a1, a2⟩, rfl, hb, hx, hc0, hc1, hc2⟩ := HE2.out.at_ hlt
      simp only at hc0 hc1 hc2
      obtain ⟨p0, p1, p2, p3⟩ := HIN.out _ (List.mem_of_getElem? hx)
      simp only at p0 p1 p2 p3
      have q1 : a0 < 32 := by omega
      have q3 : a1 < 32 := by omega
      have HBA := Lib.hid (fun (bb : Bool) (h : u.testBit a0.toNat = bb) (W : World) => bit_i (b := bb) hu p0 q1 h W)
      have HBB := Lib.hid (fun (bb : Bool) (h : u.testBit a1.toNat = bb) (W : World) => bit_i (b := bb) hu p2 q3 h W)
      clear p0 p1 p2 p3 q1 q3
      by_cases hfr : u.testBit a0.toNat = true ∨ u.testBit a1.toNat = true
      · have HN : Hid (OffInv m u es w (lessW w m (some ⟨b, off, none⟩) len cap) (a + 1) (wr.alloc (.cells #[.int .i64 a0, .int .i64 a1, .int .i64 a2] 53))) := Lib.hid (by
          refine ⟨v, HRo.out.alloc _, ?_, hB.alloc (by omega) _⟩
          rw [offE_out hx hfr]
          exact HOw.out.alloc _)
        have hbb : u.testBit a0.toNat = true ∨ (u.testBit a0.toNat = false ∧ u.testBit a1.toNat = true) := by
          cases h1 : u.testBit a0.toNat with
          | true => exact .inl rfl
          | false => rw [h1] at hfr; exact .inr ⟨rfl, by simpa using hfr⟩
        clear hfr hx
        rcases hbb with h1 | ⟨h1, h2⟩
        · have HB1 := Lib.hid (HBA.out true h1)
          clear h1 HBA HBB
          go_wp2_with fail
          refine (HB1.out _).mono ?_
          rintro e w2 ⟨rfl, rfl⟩
          go_wp2_with fail
          go_roundw
          case rel => exact ⟨a + 1, by omega, by go_num, HN⟩
          case measure => simp [intOf]; omega
        · have HB1 := Lib.hid (HBA.out false h1)
          have HB2 := Lib.hid (HBB.out true h2)
          clear h1 h2 HBA HBB
          go_wp2_with fail
          refine (HB1.out _).mono ?_
          rintro e w2 ⟨rfl, rfl⟩
          go_wp2_with fail
          refine (HB2.out _).mono ?_
          rintro e w2 ⟨rfl, rfl⟩
          go_wp2_with fail
          go_roundw
          case rel => exact ⟨a + 1, by omega, by go_num, HN⟩
          case measure => simp [intOf]; omega
      · have h1 : u.testBit a0.toNat = false := by
          cases h : u.testBit a0.toNat with
          | true => exact absurd (.inl h) hfr
          | false => rfl
        have h2 : u.testBit a1.toNat = false := by
          cases h : u.testBit a1.toNat with
          | true => exact absurd (.inr h) hfr
          | false => rfl
        have HX := Lib.hid (offE_in hx h1 h2)
        have HB1 := Lib.hid (HBA.out false h1)
        have HB2 := Lib.hid (HBB.out false h2)
        have hlt2 : w.heap.size + 1 + 1 < wr.heap.size := by omega
        have hv1 : wr.cell? ⟨w.heap.size + 1 + 1, 1, none⟩ = some v := HRo.out.cell rfl
        clear hfr hx h1 h2 HBA HBB
        go_wp2_with fail
        refine (HB1.out _).mono ?_
        rintro e w2 ⟨rfl, rfl⟩
        go_wp2_with fail
        refine (HB2.out _).mono ?_
        rintro e w2 ⟨rfl, rfl⟩
        go_wp2_with (at_builtin; refine wpList_append_own _ rfl _ _ 22 rfl (w.heap.size + 3) 53 i0 (.agg #[.int .i64 0, .int .i64 0, .int .i64 0]) 3 24 Tryd.underlying22 HI.out HI0.out HI1.out HI2.out rfl (by decide) _ _ _ rfl ((HOw.out.alloc _).alloc _) ⟨wr.heap.size + 1, 0, none⟩ 1 1 [.int .i64 a0, .int .i64 a1, .int .i64 a2] rfl rfl ?c1 ?c2 ?c3 ?c4 ?c5 ?_)
        try (case c1 => intro j u hj; rcases j with _ | _ | _ | j <;> simp at hj <;> subst hj <;> simp [go_sem, Addr.add])
        case c2 => simp [Value.oneCell']
        case c3 => unfold maxLen; omega
        case c4 => omega
        case c5 => simp; omega
        intro v' w3 hown' hgrow _
        obtain ⟨A', cap', rfl⟩ := own_form3 hown'
        have hne : ∀ g, g < w.heap.size + 3 → some g ≠ v.ownBlock := fun g hg he => by have := own_base3 HOw.out g he.symm; omega
        have hR3 : RowOf w3 (w.heap.size + 1 + 1) 24 [.int .i64 m, v] := (hgrow.block _ (by simp; omega) (hne _ (by omega))).trans ((HRo.out.alloc _).alloc _)
        have hv3 : w3.cell? ⟨w.heap.size + 1 + 1, 1, none⟩ = some v := hR3.cell rfl
        have hf3 := hR3.frozen 1
        have hb3 : Below (w.heap.size + 2) (lessW w m (some ⟨b, off, none⟩) len cap) w3 := ((hB.alloc (by omega) _).alloc (by simp; omega) _).grown hgrow (by simp; omega) (fun g hg => by have := own_base3 HOw.out g hg; omega)
        have HN : Hid (OffInv m u es w (lessW w m (some ⟨b, off, none⟩) len cap) (a + 1) (w3.setCell ⟨w.heap.size + 1 + 1, 1, none⟩ (.slice A' ((offE u (es.take a)).length + 1) cap'))) := Lib.hid (by
          refine ⟨_, hR3.set_ 1 _, ?_, hb3.setCell (p := ⟨w.heap.size + 1 + 1, 1, none⟩) (Nat.le_refl _) _⟩
          rw [HX.out, List.length_append, cellsE_snoc]
          refine ⟨hown'.1, ?_⟩
          rcases hown'.2 with h0 | ⟨g, capg, cur, hv, hg, hr, hrest⟩
          · exact .inl h0
          · exact .inr ⟨g, capg, cur, hv, hg, (Below.heap_setCell _ _ _ g (by show g ≠ w.heap.size + 1 + 1; omega)).trans hr, hrest⟩)
        clear hown' hgrow hne hR3 hb3
        go_wp2
        go_roundw
        case rel => exact ⟨a + 1, by omega, by go_num, HN⟩
        case measure => simp [intOf]; omega
    · obtain rfl : a = len := by omega
      obtain ⟨A', cap', HV, HEA⟩ : ∃ A' cap', Hid (v = .slice A' (offE u es).length cap') ∧ Hid (wr.ownsRow (w.heap.size + 3) 53 3 (.slice A' (offE u es).length cap') (offE u es).length (cellsE (offE u es))) := by
        have h := HOw.out
        rw [List.take_of_length_le (by have := HE.out.1; omega)] at h
        obtain ⟨A', cap', rfl⟩ := own_form3 h
        exact ⟨A', cap', Lib.hid rfl, Lib.hid h⟩
      obtain rfl := HV.out
      have h0 : wr.cell? ⟨w.heap.size + 1 + 1, 0, none⟩ = some (.int .i64 m) := HRo.out.cell rfl
      have h1 : wr.cell? ⟨w.heap.size + 1 + 1, 1, none⟩ = some (.slice A' (offE u es).length cap') := HRo.out.cell rfl
      have r0 : wr.cell? ⟨w.heap.size + 1, 0, none⟩ = some (.int .i64 0) := by rw [hB.cell (p := ⟨w.heap.size + 1, 0, none⟩) (by show w.heap.size + 1 < w.heap.size + 2; omega)]; simp [lessW, go_sem]
      have r1 : wr.cell? ⟨w.heap.size + 1, 1, none⟩ = some (.slice none 0 0) := by rw [hB.cell (p := ⟨w.heap.size + 1, 1, none⟩) (by show w.heap.size + 1 < w.heap.size + 2; omega)]; simp [lessW, go_sem]
      have f0 : wr.frozen? ⟨w.heap.size + 1, 0, none⟩ = false := by rw [hB.frozen (p := ⟨w.heap.size + 1, 0, none⟩) (by show w.heap.size + 1 < w.heap.size + 2; omega)]; simp [lessW, go_sem]
      have f1 : wr.frozen? ⟨w.heap.size + 1, 1, none⟩ = false := by rw [hB.frozen (p := ⟨w.heap.size + 1, 1, none⟩) (by show w.heap.size + 1 < w.heap.size + 2; omega)]; simp [lessW, go_sem]
      clear HV
      have HB2 : Hid (Below w.heap.size w wr) := Lib.hid ((lessW_below w m A a cap).trans (hB.mono (by omega)))
      generalize hn : (offE u es).length = n at *
      have HN := Lib.hid hn
      clear hn HOw
      go_wp2
      have HFIN : Hid (((wr.setCell ⟨w.heap.size + 1, 0, none⟩ (.int .i64 m)).setCell ⟨w.heap.size + 1, 1, none⟩ (.slice A' n cap')).ownsRow (w.heap.size + 3) 53 3 (.slice A' n cap') n (cellsE (offE u es))) := Lib.hid (own_keep3 HEA.out fun g hg => (Below.heap_setCell _ _ _ g (by show g ≠ w.heap.size + 1; omega)).trans (Below.heap_setCell _ _ _ g (by show g ≠ w.heap.size + 1; omega)))
      refine bodyPost_ret (v := .agg #[.int .i64 m, .slice A' n cap']) (by simp [results, Tryd.results38, go_sem, r0, r1]) rfl ⟨⟨A', cap', by rw [HN.out], ?_, fun a ha => ?_⟩, ?_⟩
      · rw [HN.out]
        exact EdgesAt.of_own3 HFIN.out
      · obtain ⟨p1, p2⟩ := own_addr3 HFIN.out a ha
        exact ⟨by omega, p2⟩
      · exact (HB2.out.setCell (p := ⟨w.heap.size + 1, 0, none⟩) (Nat.le_succ _) _).setCell (p := ⟨w.heap.size + 1, 1, none⟩) (Nat.le_succ _) _
end Go.Proofs.YthfgbgmkiggjmacDoor
