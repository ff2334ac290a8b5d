/- The reference's Tour, where there is none. -/
import Derived.Test.YthfgbgmkiggjmabDoorRefTour
namespace Go.Proofs.YthfgbgmkiggjmabDoor
open Go.RowKit

set_option maxRecDepth 100000 in
set_option maxHeartbeats 4000000 in
theorem refTour_none (m : Nat) (A : Option Addr) (len cap : Nat) (es : List E3) (w : World) (hE : EdgesAt w w.heap.size A len es) (hv : gcheck m es = 0) (hm : 0 < m) (ht : ¬ Tg (prsE es) (tourS m es) (tourS m es)) :
    Calls Tryd.prog 27 #[.agg #[.int .i64 m, .slice A len cap]] w fun e w' => e = .returned (.slice none 0 0) ∧ Below w.heap.size w w' := by
  obtain ⟨_, hm10', hl45, hgood⟩ := good_of_gcheck hv
  have hm10 : m ≤ 10 := by omega
  have hlen : len ≤ 45 := by have := hE.1; omega
  have hsome := SomeE.of_good hgood
  have hwords := words_good hgood
  obtain ⟨hsm, _, _⟩ := firstL_props hwords hsome.simp hsome.inG hm
  have HE := Lib.hid (show EdgesAt (bx w m A len cap) (bx w m A len cap).heap.size A len es from (hE.alloc (Nat.le_refl _) _).more (by simp [bx]))
  have HEw := Lib.hid hE
  have HS := Lib.hid hsome
  have HTg := Lib.hid ht
  have HST : Hid (∀ s, (0 < degP (prsE es) s ∧ ∀ y, y < s → degP (prsE es) y = 0) ∨ (s = 0 ∧ ∀ y, y < m → degP (prsE es) y = 0) → s = tourS m es) := Lib.hid fun s h => start_eq hwords hsome.simp hsome.inG hm h
  have HIN := Lib.hid hsome.inn
  clear hE hv ht hsome hwords hgood hl45
  change tourS m es < m at hsm
  go_enter Tryd.func27, Tryd.ntmps27
  go_wp2_with fail
  go_loopw [3, 4] (fun st j wr => ∃ (s : Nat) (z : Int), s < m ∧ -1 ≤ z ∧ z < m ∧ st = .int .i64 s ∧ j = .int .i64 z ∧ Hid (StartInv m (prsE es) (z + 1).toNat s) ∧ Below (w.heap.size + 1) (bx w m A len cap) wr) (fun _ j _ => (intOf j + 1).toNat)
  case atStart => exact ⟨0, (m : Int) - 1, hm, by omega, by omega, rfl, rfl, Lib.hid (.inr ⟨rfl, fun y h1 h2 => by omega⟩), Below.refl _ _⟩
  case round =>
    obtain ⟨s, z, hs, hz1, hz2, rfl, rfl, HSI, hB⟩ := hrel
    have hs0 : w.heap.size < wr.heap.size := by have := hB.size; simp [bx] at this; omega
    have hbx0 : wr.cell? ⟨w.heap.size, 0, none⟩ = some (.int .i64 m) := by
      rw [hB.cell (p := ⟨w.heap.size, 0, none⟩) (Nat.lt_succ_self _)]; simp [bx, go_sem]
    have hbx1 : wr.cell? ⟨w.heap.size, 1, none⟩ = some (.slice A len cap) := by
      rw [hB.cell (p := ⟨w.heap.size, 1, none⟩) (Nat.lt_succ_self _)]; simp [bx, go_sem]
    have HE2 := Lib.hid (HE.out.go_ (hB.mono (by simp [bx])))
    by_cases hz : 0 ≤ z
    · obtain ⟨i, rfl⟩ := Int.eq_ofNat_of_zero_le hz
      have HDeg := Lib.hid (degree_any m i A len cap es wr HE2.out hlen)
      have HD : Hid (degN es (i : Int) = degP (prsE es) i) := Lib.hid (degE_pairs HIN.out i)
      have hDl := degN_le es (i : Int)
      have hel : es.length ≤ 45 := by have := HEw.out.1; omega
      generalize degN es (i : Int) = D at *
      go_wp2_with fail
      refine HDeg.out.mono ?_
      rintro e wd ⟨rfl, hbd⟩
      have HBd : Hid (Below (w.heap.size + 1) (bx w m A len cap) wd) := Lib.hid (hB.trans (hbd.mono hs0))
      clear hbd
      by_cases hD : D = 0
      · have hDb : decide (0 < D) = false := by simp; omega
        have HN : Hid (StartInv m (prsE es) ((i : Int) - 1 + 1).toNat s) := Lib.hid (by
          have e : ((i : Int) - 1 + 1).toNat = i := by omega
          have e2 : ((i : Int) + 1).toNat = i + 1 := by omega
          rw [e]
          have h := HSI.out
          rw [e2] at h
          have h0 : degP (prsE es) i = 0 := by rw [← HD.out]; exact hD
          rcases h with ⟨p1, p2, p3, p4⟩ | ⟨p1, p2⟩
          · refine .inl ⟨p1, p2, by omega, fun y h1 h2 => ?_⟩
            rcases Nat.lt_or_ge i y with h3 | h3
            · exact p4 y h3 h2
            · obtain rfl : y = i := by omega
              exact h0
          · refine .inr ⟨p1, fun y h1 h2 => ?_⟩
            rcases Nat.lt_or_ge i y with h3 | h3
            · exact p2 y h3 h2
            · obtain rfl : y = i := by omega
              exact h0)
        clear hD
        go_wp2_with fail
        go_roundw
        case rel => exact ⟨s, (i : Int) - 1, hs, by omega, by omega, rfl, rfl, HN, HBd.out⟩
        case measure => simp [intOf]
      · have hDp : 0 < D := by omega
        have HN : Hid (StartInv m (prsE es) ((i : Int) - 1 + 1).toNat i) := Lib.hid (by
          have e : ((i : Int) - 1 + 1).toNat = i := by omega
          rw [e]
          exact .inl ⟨by rw [← HD.out]; exact hDp, by omega, Nat.le_refl _, fun y h1 h2 => by omega⟩)
        go_wp2_with fail
        go_roundw
        case rel => exact ⟨i, (i : Int) - 1, by omega, by omega, by omega, rfl, rfl, HN, HBd.out⟩
        case measure => simp [intOf]
    · obtain rfl : z = -1 := by omega
      obtain rfl : s = tourS m es := HST.out s (by
        rcases HSI.out with ⟨p1, p2, p3, p4⟩ | ⟨p1, p2⟩
        · exact .inl ⟨p1, fun y hy => p4 y (by simp) hy⟩
        · exact .inr ⟨p1, fun y hy => p2 y (by simp) hy⟩)
      clear HSI HST
      have HTo := Lib.hid (touring_v m (tourS m es) (tourS m es) A len cap es false wr HE2.out hm10 hlen HS.out hsm hsm ⟨fun h => (by cases h), fun h => absurd h HTg.out⟩)
      generalize tourS m es = s at *
      go_wp2_with fail
      refine HTo.out.mono ?_
      rintro e wt ⟨rfl, hbt⟩
      go_wp2_with fail
      go_ret
      exact ⟨rfl, (((Below.refl _ _).alloc (Nat.le_refl _) _).trans (hB.mono (Nat.le_succ _))).trans (hbt.mono (by omega))⟩
end Go.Proofs.YthfgbgmkiggjmabDoor
