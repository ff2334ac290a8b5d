/- graph.Neighbours: of each node the word of those that it has an edge with; of a wrong graph, what is wrong. -/
import Derived.Test.YticickicfigpbaaNbP
import Derived.Test.YticickicfigpbaaWordsAt
import Derived.Test.YticickicfigpbaaRows2
import Derived.Test.YticickicfigpbaaRefCheck
import Derived.Test.YticickicfigpbaaCheckGo
import Derived.RegionTactic
import Derived.BigRegion
import Derived.ChangeAlike
namespace Go.Proofs.Yticickicfigpbaa
open Go.RowKit

set_option maxRecDepth 100000 in
set_option maxHeartbeats 400000 in
theorem neighbours_bad (n : Int) (A : Option Addr) (len cap : Nat) (es : List E3) (v : Int) (w : World) (hE : EdgesAt w w.heap.size A len es) (hv : gcheck n es = v) (hv0 : v ≠ 0) :
    Calls Try.prog 22 #[.agg #[.int .i64 n, .slice A len cap]] w fun e w' => e = .returned (.tuple #[.slice none 0 0, .int .i64 v]) ∧ Below w.heap.size w w' := by
  have HE := Lib.hid (show EdgesAt (bx w n A len cap) (bx w n A len cap).heap.size A len es from (hE.alloc (Nat.le_refl _) _).more (by simp [bx]))
  have HV := Lib.hid hv
  have hb0 : (v != 0) = true := by simpa using hv0
  clear hE hv hv0
  go_enter Try.func22, Try.ntmps22
  go_wp2_with (go_at_call 39; refine ((check_any n A len cap es _ (by exact HE.out)).mono (R' := fun e w' => e = .returned (.int .i64 v) ∧ Below (bx w n A len cap).heap.size (bx w n A len cap) w') (fun e w' h => ⟨by rw [h.1, HV.out], h.2⟩)).mono ?_; rintro e w1 ⟨rfl, hb1⟩)
  go_ret2
  exact ⟨rfl, ((Below.refl _ _).alloc (Nat.le_refl _) _).trans (hb1.mono (by simp [bx]))⟩

set_option maxRecDepth 100000 in
set_option maxHeartbeats 1000000 in
theorem neighbours_any (m : Nat) (A : Option Addr) (len cap : Nat) (es : List E3) (w : World) (hE : EdgesAt w w.heap.size A len es) (hv : gcheck m es = 0) :
    Calls Try.prog 22 #[.agg #[.int .i64 m, .slice A len cap]] w fun e w' => ∃ g, e = .returned (.tuple #[.slice (some ⟨g, 0, none⟩) m m, .int .i64 0]) ∧ RowOf w' g 38 ((nbL m es).map u32V) ∧ w.heap.size ≤ g ∧ Below w.heap.size w w' := by
  obtain ⟨_, hm10', hl45, hgood⟩ := good_of_gcheck hv
  have hm10 : m ≤ 10 := by omega
  have hlen : len ≤ 45 := by have := hE.1; omega
  have HE := Lib.hid (show EdgesAt (bx w m A len cap) (bx w m A len cap).heap.size A len es from (hE.alloc (Nat.le_refl _) _).more (by simp [bx]))
  have HG := Lib.hid hgood
  have HV := Lib.hid hv
  have HL := Lib.hid hE.1
  clear hE hv hgood hl45
  have hmk := fun W => run_make_row' (P := Try.prog) 46 38 (.int .u32 0) 4 Try.underlying46 (by kernel_rfl) rfl .i64 .i64 m (by omega) (by omega) W
  go_enter Try.func22, Try.ntmps22
  go_wp2_with (go_at_call 39; refine ((check_any m A len cap es _ (by exact HE.out)).mono (R' := fun e w' => e = .returned (.int .i64 0) ∧ Below (bx w m A len cap).heap.size (bx w m A len cap) w') (fun e w' h => ⟨by rw [h.1, HV.out], h.2⟩)).mono ?_; rintro e w1 ⟨rfl, hb1⟩; have HB1 := Lib.hid hb1; have HE1 := Lib.hid (HE.out.go_ hb1); have hbx0 : w1.cell? ⟨w.heap.size, 0, none⟩ = some (.int .i64 m) := (by rw [hb1.cell (p := ⟨w.heap.size, 0, none⟩) (by simp [bx])]; simp [bx, go_sem]); have hbx1 : w1.cell? ⟨w.heap.size, 1, none⟩ = some (.slice A len cap) := (by rw [hb1.cell (p := ⟨w.heap.size, 1, none⟩) (by simp [bx])]; simp [bx, go_sem]); have hs1 : w.heap.size < w1.heap.size := (by have := hb1.size; simp [bx] at this; omega); clear hb1)
  clear hmk
  have HBw : Hid (Below w.heap.size w w1) := Lib.hid (((Below.refl _ _).alloc (Nat.le_refl _) _).trans (HB1.out.mono (by simp [bx])))
  clear HB1 HE
  go_loopw [19] (fun j wr => ∃ k : Nat, k ≤ len ∧ j = .int .i64 k ∧ Hid (RowOf wr w1.heap.size 38 ((nbL m (es.take k)).map u32V)) ∧ Below w1.heap.size w1 wr) (fun j _ => len - (intOf j).toNat)
  case atStart =>
    refine ⟨0, Nat.zero_le _, rfl, Lib.hid ?_, (Below.refl _ _).alloc (Nat.le_refl _) _⟩
    rw [List.take_zero, nbL_nil, List.map_replicate]
    exact RowOf.made w1 (.int .u32 0) m 38
  case round =>
    obtain ⟨k, hk, rfl, HR, hB⟩ := hrel
    by_cases hlt : k < len
    · obtain ⟨b, off, ⟨a0, a1, a2⟩, rfl, hb, hx, hc0, hc1, hc2⟩ := (HE1.out.below hB).at_ hlt
      obtain ⟨p0, p1, p2, p3, p4, _⟩ := edge_ok (HG.out k _ hx)
      simp only at p0 p1 p2 p3 p4
      obtain ⟨i, rfl⟩ := Int.eq_ofNat_of_zero_le p0
      obtain ⟨j, rfl⟩ := Int.eq_ofNat_of_zero_le p2
      have hi : i < m := by omega
      have hj : j < m := by omega
      have hji : ¬ i = j := by omega
      have hij : ¬ j = i := by omega
      have HN := Lib.hid (nbL_next m es k i j a2 hji hx)
      have hci : wr.cell? ⟨w1.heap.size, i, none⟩ = some (.int .u32 (nbW (es.take k) i)) := HR.out.cell (by rw [List.getElem?_map, nbL_get _ hi]; rfl)
      have hcj : wr.cell? ⟨w1.heap.size, j, none⟩ = some (.int .u32 (nbW (es.take k) j)) := HR.out.cell (by rw [List.getElem?_map, nbL_get _ hj]; rfl)
      have hfi := HR.out.frozen i
      have hfj := HR.out.frozen j
      have hgl : w1.heap.size < wr.heap.size := HR.out.lt
      have hbr : b < wr.heap.size := by omega
      have hwi := pow10 hm10 (nbW_lt HG.out i k)
      have hwj := pow10 hm10 (nbW_lt HG.out j k)
      have hpi : 2 ^ i < 1024 := pow10 hm10 (Nat.pow_lt_pow_right (by decide) hi)
      have hpj : 2 ^ j < 1024 := pow10 hm10 (Nat.pow_lt_pow_right (by decide) hj)
      have hor1 := or_u32 (nbW (es.take k) i) (2 ^ j) (by omega) (by omega)
      have hor2 := or_u32 (nbW (es.take k) j) (2 ^ i) (by omega) (by omega)
      have hsi : (2 : Int) ^ i % 4294967296 = ((2 ^ i : Nat) : Int) := pow_mod i (by omega)
      have hsj : (2 : Int) ^ j % 4294967296 = ((2 ^ j : Nat) : Int) := pow_mod j (by omega)
      have hti : IntKind.u32.wrap ((2 : Int) ^ i) = ((2 ^ i : Nat) : Int) := by rw [wrap_u32n]; exact hsi
      have htj : IntKind.u32.wrap ((2 : Int) ^ j) = ((2 ^ j : Nat) : Int) := by rw [wrap_u32n]; exact hsj
      generalize nbW (es.take k) i = x at hci hor1 HN hwi
      generalize nbW (es.take k) j = y at hcj hor2 HN hwj
      generalize 2 ^ i = pi at hpi hor2 hsi hti HN
      generalize 2 ^ j = pj at hpj hor1 hsj htj HN
      have hi0 : (0 : Int) ≤ (i : Int) := by omega
      have him : (i : Int) < (m : Int) := by omega
      have hj0 : (0 : Int) ≤ (j : Int) := by omega
      have hjm : (j : Int) < (m : Int) := by omega
      have hi32 : (i : Int) ≤ 32 := by omega
      have hj32 : (j : Int) ≤ 32 := by omega
      clear hx
      go_wp2
      go_region
      go_wp2
      go_region
      go_wp2
      go_roundw
      case rel =>
        refine ⟨k + 1, by omega, by go_num, Lib.hid ?_, (((hB.setCell (p := ⟨w1.heap.size, i, none⟩) (Nat.le_refl _) _).setCell (p := ⟨w1.heap.size, j, none⟩) (Nat.le_refl _) _).alloc (by simp; omega) _).drew.drew⟩
        rw [← HN.out, List.map_set, List.map_set]
        exact (((HR.out.set_ i _).set_ j _).alloc _).drew.drew
      case measure => simp [intOf]; omega
    · have hke : es.take k = es := List.take_of_length_le (by have := HL.out; omega)
      have HR2 : Hid (RowOf wr w1.heap.size 38 ((nbL m es).map u32V)) := Lib.hid (by rw [← hke]; exact HR.out)
      clear hke
      go_wp2
      go_ret2
      exact ⟨_, rfl, HR2.out, by have := HBw.out.size; omega, HBw.out.trans (hB.mono (by have := HBw.out.size; omega))⟩
end Go.Proofs.Yticickicfigpbaa
