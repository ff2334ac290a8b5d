/- span.determinant: whole-number elimination of a table like that of edges. -/
import Derived.Test.YthfgbgmkiggjmabDoorTbl
import Derived.Test.YthfgbgmkiggjmabDoorDet
import Derived.StillTailTactics
import Derived.IntWalk
namespace Go.Proofs.YthfgbgmkiggjmabDoor
open Go.RowKit

/-- As far as one step of elimination has come: the rows ahead of i, of row i what is ahead of j. -/
def mixE (A : Nat → Nat → Int) (k i j : Nat) : Nat → Nat → Int := fun a b => if k < a ∧ k < b ∧ (a < i ∨ (a = i ∧ b < j)) then bstep k (bst A k).2 (bst A k).1 a b else (bst A k).1 a b
theorem mixE_start (A : Nat → Nat → Int) (k a b : Nat) : mixE A k (k + 1) (k + 1) a b = (bst A k).1 a b := by unfold mixE; rw [if_neg (by omega)]
theorem mixE_row {A : Nat → Nat → Int} {k i n a b : Nat} (hb : b < n) (_hk : k < n) : mixE A k i n a b = mixE A k (i + 1) (k + 1) a b := by
  unfold mixE
  by_cases h : k < a ∧ k < b ∧ (a < i ∨ (a = i ∧ b < n))
  · rw [if_pos h, if_pos (by omega)]
  · rw [if_neg h, if_neg (by omega)]
theorem mixE_next {A : Nat → Nat → Int} {k i j : Nat} (hki : k < i) (hkj : k < j) (a b : Nat) : updG (mixE A k i j) i j (bstep k (bst A k).2 (bst A k).1 i j) a b = mixE A k i (j + 1) a b := by
  unfold updG mixE
  by_cases h : a = i ∧ b = j
  · obtain ⟨rfl, rfl⟩ := h
    rw [if_pos ⟨rfl, rfl⟩, if_pos (by omega)]
  · rw [if_neg h]
    by_cases h2 : k < a ∧ k < b ∧ (a < i ∨ (a = i ∧ b < j))
    · rw [if_pos h2, if_pos (by omega)]
    · rw [if_neg h2, if_neg (by omega)]
theorem mixE_end {A : Nat → Nat → Int} {k n a b : Nat} (ha : a < n) : mixE A k n (k + 1) a b = (bst A (k + 1)).1 a b := by
  show _ = bstep k (bst A k).2 (bst A k).1 a b
  unfold mixE
  by_cases h : k < a ∧ k < b
  · rw [if_pos (by omega)]
  · rw [if_neg (by omega)]
    unfold bstep
    rw [if_neg h]
/-- What one step reads and writes, and that nothing of it is too large. -/
theorem step_num {A : Nat → Nat → Int} {n k i j : Nat} (hn : n ≤ 9) (hA : LapT n 9 A) (hpos : ∀ k, k ≤ n → 0 < det A (List.range k) (List.range k)) (hk : k < n) (hi : k < i) (hj : k < j) (hin : i < n) (hjn : j < n) :
    ∃ u v x y p z : Int, (bst A k).1 i j = u ∧ (bst A k).1 k k = v ∧ (bst A k).1 i k = x ∧ (bst A k).1 k j = y ∧ (bst A k).2 = p ∧ bstep k p (bst A k).1 i j = z ∧
      1 ≤ p ∧ (-400000000 ≤ u ∧ u ≤ 400000000) ∧ (-400000000 ≤ v ∧ v ≤ 400000000) ∧ (-400000000 ≤ x ∧ x ≤ 400000000) ∧ (-400000000 ≤ y ∧ y ≤ 400000000) ∧ (-400000000 ≤ z ∧ z ≤ 400000000) ∧ u * v - x * y = z * p := by
  have hl := bst_lap hA hpos k (by omega)
  have hl2 := bst_lap hA hpos (k + 1) (by omega)
  have hb := binv hpos k (by omega)
  have hp1 := hpos k (by omega)
  rw [← hb.lead] at hp1
  have big : ∀ q, q ≤ 8 → (bst A q).2 ≤ 43046721 → (bst A q).2 * 9 ≤ 400000000 := fun q _ h => by omega
  have hpow : ∀ q, q ≤ 8 → (9 : Int) ^ q ≤ 43046721 := fun q hq => by
    have : ∀ q, q < 9 → (9 : Int) ^ q ≤ 43046721 := by decide
    exact this q (by omega)
  have hle := bst_le (by omega) hA hpos k (by omega)
  have hle2 := bst_le (by omega) hA hpos (k + 1) (by omega)
  have b1 := big k (by omega) (Int.le_trans hle (hpow k (by omega)))
  have b2 := big (k + 1) (by omega) (Int.le_trans hle2 (hpow (k + 1) (by omega)))
  have a1 := hl.abs (i := i) (j := j) (by omega) (by omega) hin hjn
  have a2 := hl.abs (i := k) (j := k) (by omega) (by omega) hk hk
  have a3 := hl.abs (i := i) (j := k) (by omega) (by omega) hin hk
  have a4 := hl.abs (i := k) (j := j) (by omega) (by omega) hk hjn
  have a5 := hl2.abs (i := i) (j := j) (by omega) (by omega) hin hjn
  have e5 : (bst A (k + 1)).1 i j = bstep k (bst A k).2 (bst A k).1 i j := rfl
  rw [e5] at a5
  have hkk := hpos (k + 1) (by omega)
  rw [← binv_kk hb] at hkk
  have hex := elim_exact hb (by omega) hi hj
  refine ⟨_, _, _, _, _, _, rfl, rfl, rfl, rfl, rfl, rfl, by omega, by omega, by omega, by omega, by omega, by omega, ?_⟩
  have : bstep k (bst A k).2 (bst A k).1 i j = det A (List.range k ++ [k, i]) (List.range k ++ [k, j]) := by
    unfold bstep
    rw [if_pos ⟨hi, hj⟩, hex, Int.mul_tdiv_cancel_left _ (by omega)]
  rw [this, Int.mul_comm _ (bst A k).2, ← hex]
  rfl
theorem mixE_read {A : Nat → Nat → Int} {k i j : Nat} (_hi : k < i) (_hj : k < j) : mixE A k i j i j = (bst A k).1 i j ∧ mixE A k i j k k = (bst A k).1 k k ∧ mixE A k i j i k = (bst A k).1 i k ∧ mixE A k i j k j = (bst A k).1 k j := by
  unfold mixE
  exact ⟨by rw [if_neg (by omega)], by rw [if_neg (by omega)], by rw [if_neg (by omega)], by rw [if_neg (by omega)]⟩
theorem mul_small {u v : Int} (hu : -400000000 ≤ u ∧ u ≤ 400000000) (hv : -400000000 ≤ v ∧ v ≤ 400000000) : -160000000000000000 ≤ u * v ∧ u * v ≤ 160000000000000000 := by
  have h1 := Int.mul_nonneg (show 0 ≤ 400000000 - u by omega) (show 0 ≤ 400000000 - v by omega)
  have h2 := Int.mul_nonneg (show 0 ≤ 400000000 + u by omega) (show 0 ≤ 400000000 + v by omega)
  have h3 := Int.mul_nonneg (show 0 ≤ 400000000 - u by omega) (show 0 ≤ 400000000 + v by omega)
  have h4 := Int.mul_nonneg (show 0 ≤ 400000000 + u by omega) (show 0 ≤ 400000000 - v by omega)
  simp only [Int.sub_mul, Int.add_mul, Int.mul_sub, Int.mul_add] at h1 h2 h3 h4
  generalize u * v = x at *
  omega

set_option maxRecDepth 100000 in
set_option maxHeartbeats 4000000 in
theorem determinant_any (base g r cap : Nat) (bs cs : Nat → Nat) (A : Nat → Nat → Int) (w : World) (hT : Tbl w base g r r bs cs A) (h0 : 0 < r) (hr : r ≤ 9) (hcap : r ≤ cap) (hcm : cap ≤ 9223372036854775807) (hA : LapT r 9 A) (hpos : ∀ k, k ≤ r → 0 < det A (List.range k) (List.range k)) :
    Calls Tryd.prog 66 #[.slice (some ⟨g, 0, none⟩) r cap] w fun e w' => e = .returned (.int .i64 (bst A r).2) ∧ Below base w w' := by
  have HT := Lib.hid hT
  have HA := Lib.hid hA
  have HP := Lib.hid hpos
  clear hT hA hpos
  go_enter Tryd.func66, Tryd.ntmps66
  go_wp2
  go_loopw [3, 11] (fun b j wr => ∃ k : Nat, k ≤ r ∧ j = .int .i64 k ∧ b = .int .i64 (bst A k).2 ∧ Hid (Tbl wr base g r r bs cs (bst A k).1) ∧ Hid (Below base w wr)) (fun _ j _ => r - (intOf j).toNat)
  case atStart => exact ⟨0, Nat.zero_le _, rfl, rfl, HT, Lib.hid (Below.refl _ _)⟩
  case round =>
    clear HT
    obtain ⟨k, hk, rfl, rfl, HT, HB⟩ := hrel
    by_cases hkr : k < r
    · have hgl := HT.out.tlt
      have hbk := HT.out.tcell hkr
      have ik0 : (0 : Int) ≤ (k : Int) := by omega
      have ik1 : (k : Int) < (r : Int) := by omega
      have ik2 : (k : Int) + 1 ≤ (r : Int) := by omega
      have ik3 : (r : Int) ≤ (cap : Int) := by omega
      have hkk : Hid (∀ W, Tbl W base g r r bs cs (bst A (k + 1)).1 → W.cell? ⟨bs k, k, none⟩ = some (.int .i64 (bst A (k + 1)).2)) := Lib.hid fun W hW => by
        rw [hW.cell hkr hkr]
        show some (Value.int .i64 (bstep k (bst A k).2 (bst A k).1 k k)) = some (.int .i64 ((bst A k).1 k k))
        unfold bstep
        rw [if_neg (by omega)]
      have HP2 : Hid (∃ p, (bst A k).2 = p) := Lib.hid ⟨_, rfl⟩
      obtain ⟨wo, rfl⟩ : ∃ wo : World, wo = wr := ⟨_, rfl⟩
      by_cases hlast : k + 1 = r
      · have HTN : Hid (Tbl wo base g r r bs cs (bst A (k + 1)).1) := Lib.hid (HT.out.congr fun a b ha hb => by
          show _ = bstep k (bst A k).2 (bst A k).1 a b
          unfold bstep
          rw [if_neg (by omega)])
        have hck := hkk.out wo HTN.out
        have hr1 : r - (k + 1) = 0 := by omega
        have HLA := Lib.hid hlast
        clear hlast
        by_cases hcc : cap = k + 1
        · subst hcc
          go_wp2
          go_loop [21] (fun j => j = .int .i64 0) (fun _ => 0)
          case atStart => rfl
          case round =>
            obtain rfl := hrel
            go_wp2
            go_roundw
            case rel => exact ⟨k + 1, by omega, by go_num, rfl, HTN, HB⟩
            case measure => simp [intOf]; omega
        · have hcc2 : ¬ k + 1 = cap := fun h => hcc h.symm
          go_wp2
          go_loop [21] (fun j => j = .int .i64 0) (fun _ => 0)
          case atStart => rfl
          case round =>
            obtain rfl := hrel
            go_wp2
            go_roundw
            case rel => exact ⟨k + 1, by omega, by go_num, rfl, HTN, HB⟩
            case measure => simp [intOf]; omega
      · have hc1 : ¬ cap = k + 1 := by omega
        have hc2 : ¬ k + 1 = cap := by omega
        have hc3 : ¬ (k : Int) + 1 = (cap : Int) := by omega
        have HT0 : Hid (Tbl wo base g r r bs cs (mixE A k (k + 1 + 0) (k + 1))) := Lib.hid (HT.out.congr fun a b _ _ => (mixE_start A k a b).symm)
        go_wp2
        go_loopw [21] (fun j wr => ∃ t : Nat, t ≤ r - (k + 1) ∧ j = .int .i64 t ∧ Hid (Tbl wr base g r r bs cs (mixE A k (k + 1 + t) (k + 1))) ∧ Hid (Below base w wr)) (fun j _ => r - (k + 1) - (intOf j).toNat)
        case atStart => exact ⟨0, Nat.zero_le _, rfl, HT0, HB⟩
        case round =>
          clear HT0 HT HB hbk hgl
          obtain ⟨t, ht, rfl, HT, HB⟩ := hrel
          by_cases htr : t < r - (k + 1)
          · have hin : k + 1 + t < r := by omega
            have hgl := HT.out.tlt
            obtain ⟨i, HIE, hie⟩ : ∃ i, Hid (k + 1 + t = i) ∧ k + 1 ≤ i ∧ i < r := ⟨_, Lib.hid rfl, by omega, hin⟩
            have hti : wr.cell? ⟨g, k + 1 + t, none⟩ = some (.slice (some ⟨bs i, 0, none⟩) r (cs i)) := by rw [HT.out.tcell hin, HIE.out]
            have HT' : Hid (Tbl wr base g r r bs cs (mixE A k i (k + 1))) := Lib.hid (by rw [← HIE.out]; exact HT.out)
            clear HT
            have it0 : (0 : Int) ≤ (t : Int) := by omega
            have it1 : (t : Int) < ((r - (k + 1) : Nat) : Int) := by omega
            obtain ⟨wo, rfl⟩ : ∃ wo : World, wo = wr := ⟨_, rfl⟩
            have hki : k < i := by omega
            have hin2 : i < r := hie.2
            clear hin hie
            go_wp2
            go_loopw [8] (fun x wr => ∃ j : Nat, k + 1 ≤ j ∧ j ≤ r ∧ x = .int .i64 j ∧ Hid (Tbl wr base g r r bs cs (mixE A k i j)) ∧ Hid (Below base w wr)) (fun x _ => r - (intOf x).toNat)
            case atStart => exact ⟨k + 1, Nat.le_refl _, by omega, by go_num, HT', HB⟩
            case round =>
              clear HT' HB hti hgl
              obtain ⟨j, hj1, hj2, rfl, HT, HB⟩ := hrel
              by_cases hjr : j < r
              · have hkj : k < j := by omega
                obtain ⟨u, v, x, y, p, z, HU, HV, HX, HY, HPP, HZ, hp1, hu, hv, hx, hy, hz, hnum⟩ : ∃ u v x y p z : Int, Hid ((bst A k).1 i j = u) ∧ Hid ((bst A k).1 k k = v) ∧ Hid ((bst A k).1 i k = x) ∧ Hid ((bst A k).1 k j = y) ∧ (bst A k).2 = p ∧ Hid (bstep k p (bst A k).1 i j = z) ∧ 1 ≤ p ∧ (-400000000 ≤ u ∧ u ≤ 400000000) ∧ (-400000000 ≤ v ∧ v ≤ 400000000) ∧ (-400000000 ≤ x ∧ x ≤ 400000000) ∧ (-400000000 ≤ y ∧ y ≤ 400000000) ∧ (-400000000 ≤ z ∧ z ≤ 400000000) ∧ Hid (u * v - x * y = z * p) := by
                  obtain ⟨u, v, x, y, p, z, a1, a2, a3, a4, a5, a6, a7, a8, a9, b1, b2, b3, b4⟩ := step_num hr HA.out HP.out hkr hki hkj hin2 hjr
                  exact ⟨u, v, x, y, p, z, Lib.hid a1, Lib.hid a2, Lib.hid a3, Lib.hid a4, a5, Lib.hid a6, a7, a8, a9, b1, b2, b3, Lib.hid b4⟩
                have HPE := Lib.hid HPP
                rw [HPP]
                clear HPP
                obtain ⟨m1, m2, m3, m4⟩ := mixE_read (A := A) hki hkj
                have c1 : wr.cell? ⟨bs i, j, none⟩ = some (.int .i64 u) := by rw [HT.out.cell hin2 hjr, m1, HU.out]
                have c2 : wr.cell? ⟨bs k, k, none⟩ = some (.int .i64 v) := by rw [HT.out.cell hkr hkr, m2, HV.out]
                have c3 : wr.cell? ⟨bs i, k, none⟩ = some (.int .i64 x) := by rw [HT.out.cell hin2 hkr, m3, HX.out]
                have c4 : wr.cell? ⟨bs k, j, none⟩ = some (.int .i64 y) := by rw [HT.out.cell hkr hjr, m4, HY.out]
                have f1 := HT.out.frozen hin2 j
                have HTN : Hid (Tbl (wr.setCell ⟨bs i, j, none⟩ (.int .i64 z)) base g r r bs cs (mixE A k i (j + 1))) := Lib.hid ((HT.out.set_ hin2 z).congr fun a b _ _ => by
                  have h := mixE_next (A := A) hki hkj a b
                  rw [HPE.out, HZ.out] at h
                  exact h)
                have HBN := Lib.hid (HB.out.setCell (p := ⟨bs i, j, none⟩) (HT.out.row i hin2).1 (.int .i64 z))
                have q1 := mul_small hu hv
                have q2 := mul_small hx hy
                have w1 : IntKind.i64.wrap (u * v) = u * v := IntWalk.i64_in _ (by omega)
                have w2 : IntKind.i64.wrap (x * y) = x * y := IntWalk.i64_in _ (by omega)
                have w3 : IntKind.i64.wrap (u * v - x * y) = u * v - x * y := IntWalk.i64_in _ (by omega)
                have w4 : (u * v - x * y).tdiv p = z := by rw [hnum.out, Int.mul_tdiv_cancel _ (by omega)]
                have w5 : IntKind.i64.wrap z = z := IntWalk.i64_in _ (by omega)
                have hp0 : (p == 0) = false := by simp; omega
                have hp2 : ¬ p = 0 := by omega
                have ij0 : (0 : Int) ≤ (j : Int) := by omega
                have ij1 : (j : Int) < (r : Int) := by omega
                clear m1 m2 m3 m4 HU HV HX HY HZ hnum hu hv hx hy hz
                go_wp2
                go_still_tail 24, (by kernel_rfl)
                go_wp2
                go_roundw
                case rel => exact ⟨j + 1, by omega, by omega, by go_num, Lib.hid HTN.out.drew, Lib.hid HBN.out.drew⟩
                case measure => simp [intOf]; omega
              · have HTN : Hid (Tbl wr base g r r bs cs (mixE A k (k + 1 + (t + 1)) (k + 1))) := Lib.hid (by
                  have e : k + 1 + (t + 1) = i + 1 := by have := HIE.out; omega
                  rw [e]
                  have hjr2 : j = r := by omega
                  subst hjr2
                  exact HT.out.congr fun a b _ hb => mixE_row hb (by omega))
                go_wp2
                go_roundw
                case rel => exact ⟨t + 1, by omega, by go_num, HTN, HB⟩
                case measure => simp [intOf]; omega
          · have HTN : Hid (Tbl wr base g r r bs cs (bst A (k + 1)).1) := Lib.hid (HT.out.congr fun a b ha hb => by
              have e : k + 1 + t = r := by omega
              rw [e]
              exact mixE_end ha)
            have hck := hkk.out wr HTN.out
            go_wp2
            go_roundw
            case rel => exact ⟨k + 1, by omega, by go_num, rfl, HTN, HB⟩
            case measure => simp [intOf]; omega
    · obtain rfl : k = r := by omega
      go_wp2
      go_ret
      exact ⟨rfl, HB.out⟩
end Go.Proofs.YthfgbgmkiggjmabDoor
