/- bonds.Wall: the first of the walls behind which the most are left over. -/
import Derived.Test.YthfgbgmkiggjmacDoorOddGo
import Derived.Test.YthfgbgmkiggjmacDoorSeekerGo
import Derived.Test.YthfgbgmkiggjmacDoorNeigh
namespace Go.Proofs.YthfgbgmkiggjmacDoor
open Go.RowKit

theorem cmp_diff {n k : Nat} (hn : n ≤ 10) (hk : k < 2 ^ n) : cmpW n (diffW (2 ^ n - 1) k) = k := by
  have h1024 : 2 ^ n ≤ 1024 := by rw [show 1024 = 2 ^ 10 from rfl]; exact Nat.pow_le_pow_right (by decide) hn
  have h1 : 2 ^ n - 1 < 2 ^ n := by have := Nat.two_pow_pos n; omega
  apply Nat.eq_of_testBit_eq
  intro i
  rw [cmpW_bit (diffW_sub hn h1 (by omega)), diffW_testBit _ _ _ (by omega) (by omega), Nat.testBit_two_pow_sub_one]
  by_cases hi : i < n
  · simp [hi]
  · rw [Nat.testBit_lt_two_pow (Nat.lt_of_lt_of_le hk (Nat.pow_le_pow_right (by decide) (by omega)))]
    simp [hi]
theorem over_ones {n k : Nat} (hn : n ≤ 10) (hk : k < 2 ^ n) (es : List E3) : overW n es k = (oddW n es k : Int) - (ones k : Int) := by
  unfold overW szN
  rw [ones_size hn hk]

set_option maxRecDepth 100000 in
set_option maxHeartbeats 400000 in
theorem wallB_bad (n : Int) (A : Option Addr) (len cap : Nat) (es : List E3) (v : Int) (w : World) (hE : EdgesAt w w.heap.size A len es) (hv : gcheck n es = v) (hv0 : v ≠ 0) :
    Calls Tryd.prog 16 #[.agg #[.int .i64 n, .slice A len cap]] w fun e w' => e = .returned (.tuple #[.int .u32 0, .int .i64 v]) ∧ Below w.heap.size w w' := by
  have HE := Lib.hid (show EdgesAt (bx w n A len cap) (bx w n A len cap).heap.size A len es from (hE.alloc (Nat.le_refl _) _).more (by simp [bx]))
  have HV := Lib.hid hv
  have HV0 := Lib.hid hv0
  have hb0 : (v != 0) = true := by simpa using hv0
  clear hE hv hv0
  go_enter Tryd.func16, Tryd.ntmps16
  go_wp2_with fail
  refine (neighbours_bad n A len cap es v _ (by exact HE.out) HV.out HV0.out).mono ?_
  rintro e w1 ⟨rfl, hb1⟩
  go_wp2_with fail
  go_ret2
  exact ⟨rfl, ((Below.refl _ _).alloc (Nat.le_refl _) _).trans (hb1.mono (by simp))⟩

set_option maxRecDepth 100000 in
set_option maxHeartbeats 4000000 in
theorem wallB_good (m : Nat) (A : Option Addr) (len cap : Nat) (es : List E3) (w : World) (hE : EdgesAt w w.heap.size A len es) (hv : gcheck m es = 0) (hT : Tab w) :
    Calls Tryd.prog 16 #[.agg #[.int .i64 m, .slice A len cap]] w fun e w' => (∃ a : Nat, FirstMax (overW m es) (2 ^ m) a ∧ e = .returned (.tuple #[.int .u32 a, .int .i64 0])) ∧ Below w.heap.size w w' := by
  obtain ⟨_, hm10', hl45, hgood⟩ := good_of_gcheck hv
  have hm10 : m ≤ 10 := by omega
  have HE := Lib.hid (show EdgesAt (bx w m A len cap) (bx w m A len cap).heap.size A len es from (hE.alloc (Nat.le_refl _) _).more (by simp [bx]))
  have HG := Lib.hid hgood
  have HV := Lib.hid hv
  have HT := Lib.hid hT
  clear hE hv hgood hl45 hT
  go_enter Tryd.func16, Tryd.ntmps16
  go_wp2_with fail
  refine (neighbours_any m A len cap es _ (by exact HE.out) HV.out).mono ?_
  rintro e w1 ⟨g, rfl, hR, hgs, hb1⟩
  have hb1' : Below (bx w m A len cap).heap.size (bx w m A len cap) w1 := hb1
  have hBx : Below w.heap.size w (bx w m A len cap) := (Below.refl _ _).alloc (Nat.le_refl _) _
  have hs0 : (bx w m A len cap).heap.size = w.heap.size + 1 := by simp [bx]
  have hW1 : WordsAt w1 w1.heap.size (some ⟨g, 0, none⟩) m (nbL m es) := by
    have h := WordsAt.of_row hR (B := w1.heap.size) hR.lt
    rwa [nbL_length] at h
  have hbx0 : w1.cell? ⟨w.heap.size, 0, none⟩ = some (.int .i64 m) := by rw [hb1'.cell (p := ⟨w.heap.size, 0, none⟩) (by show w.heap.size < _; omega)]; simp [bx, go_sem]
  have HB1 : Hid (Below w.heap.size w w1) := Lib.hid (hBx.trans (hb1'.mono (by omega)))
  have HT1 := Lib.hid (HT.out.go_ HB1.out)
  have HW1 := Lib.hid hW1
  clear hR hgs hb1 hb1' hBx hs0 hW1
  have HOP := Lib.hid (fun (R : Nat) (W : World) (hR : R < 2 ^ m) (hB : Below w1.heap.size w1 W) => oddParts_any (n := m) (es := es) m R (some ⟨g, 0, none⟩) W (by exact HW1.out.go_ hB) (by exact HT1.out.go_ hB) hm10 HG.out hR)
  have HON := Lib.hid (fun (x : Nat) (W : World) (h : x < 1024) => ones_any x W h)
  have HALL := Lib.hid (all_any m w1 hm10)
  have HCD := Lib.hid (fun k (hk : k < 2 ^ m) => cmp_diff hm10 hk)
  have HOO := Lib.hid (fun k (hk : k < 2 ^ m) => over_ones hm10 hk es)
  have h1024 : 2 ^ m ≤ 1024 := by rw [show 1024 = 2 ^ 10 from rfl]; exact Nat.pow_le_pow_right (by decide) hm10
  have HOL : Hid (∀ x, oddW m es x ≤ 10) := Lib.hid fun x => Nat.le_trans (odd_le _) hm10
  have hpos := Nat.two_pow_pos m
  obtain ⟨Q, hQ⟩ : ∃ Q, 2 ^ m = Q + 1 := ⟨2 ^ m - 1, by omega⟩
  have HQ := Lib.hid hQ
  rw [hQ, Nat.add_sub_cancel] at HALL
  have HD0 : Hid (∀ k, k < Q + 1 → diffW Q k < 2 ^ m) := Lib.hid fun k hk => diffW_sub hm10 (by omega) (by omega)
  have HC0 : Hid (∀ k, k < Q + 1 → cmpW m (diffW Q k) = k) := Lib.hid fun k hk => by have := HCD.out k (by omega); rwa [hQ, Nat.add_sub_cancel] at this
  have HO0 : Hid (∀ k, k < Q + 1 → overW m es k = (oddW m es k : Int) - (ones k : Int)) := Lib.hid fun k hk => HOO.out k (by omega)
  have HCQ : Hid (cmpW m Q = 0) := Lib.hid (by have := cmpW_all m; rwa [hQ, Nat.add_sub_cancel] at this)
  have HQL : Hid (Q < 2 ^ m) := Lib.hid (by omega)
  have hQ10 : Q < 1024 := by omega
  clear hQ hpos h1024
  go_wp2_with fail
  refine HALL.out.mono ?_
  rintro e w2 ⟨rfl, rfl⟩
  go_wp2_with fail
  refine (HOP.out Q _ HQL.out (by exact Below.refl _ _)).mono ?_
  rintro e w3 ⟨rfl, hB3⟩
  have HB3 := Lib.hid hB3
  clear hB3
  rw [HCQ.out]
  have HZ : Hid (FirstMax (overW m es) (max 0 1) 0 ∧ overW m es 0 = ((oddW m es 0 : Nat) : Int)) := Lib.hid ⟨FirstMax.one _, by rw [HO0.out 0 (by omega), show ones 0 = 0 by decide]; omega⟩
  have hz0 := HOL.out 0
  generalize oddW m es 0 = z0 at hz0 HZ ⊢
  go_wp2_with fail
  go_loopw [7, 8, 27] (fun b z c wr => ∃ (k bl : Nat) (y : Int), k ≤ Q + 1 ∧ bl < 1024 ∧ -10 ≤ y ∧ y ≤ 10 ∧ c = .int .u32 k ∧ b = .int .u32 bl ∧ z = .int .i64 y ∧ Hid (FirstMax (overW m es) (max k 1) bl ∧ overW m es bl = y) ∧ Hid (Below w1.heap.size w1 wr)) (fun _ _ c _ => Q + 1 - (intOf c).toNat)
  case atStart => exact ⟨0, 0, (z0 : Int), by omega, by omega, by omega, by omega, rfl, rfl, rfl, HZ, HB3⟩
  case round =>
    clear HZ
    obtain ⟨k, bl, y, hk, hbl, hy0, hy1, rfl, rfl, rfl, HF, HBw⟩ := hrel
    by_cases hlt : k < Q + 1
    · have hdf := andNot_u32 Q k (by omega) (by omega)
      have HOPK := Lib.hid (HOP.out (diffW Q k) wr (HD0.out k hlt) HBw.out)
      rw [HC0.out k hlt] at HOPK
      have HCK := Lib.hid (HO0.out k hlt)
      have l1 := HOL.out k
      have l2 := ones_le k
      have HONK := Lib.hid (fun W => HON.out k W (by omega))
      have HK1 : Hid (FirstMax (overW m es) k bl ∨ k = 0) := Lib.hid (by
        rcases Nat.eq_zero_or_pos k with h | h
        · exact .inr h
        · have h2 := HF.out.1
          rw [show max k 1 = k by omega] at h2; exact .inl h2)
      have HB0 : Hid (k = 0 → bl = 0) := Lib.hid fun h => by
        have := HF.out.1.1
        omega
      generalize diffW Q k = d at hdf HOPK
      generalize oddW m es k = o1 at HOPK HCK l1
      generalize ones k = o2 at HCK l2 HONK
      have ⟨d, hd⟩ : ∃ d : Int, (o1 : Int) - (o2 : Int) = d := ⟨_, rfl⟩
      have HLK : Hid (overW m es k = d) := Lib.hid (by rw [HCK.out, hd])
      have hd0 : -10 ≤ d := by omega
      have hd1 : d ≤ 10 := by omega
      have hdw : IntKind.i64.wrap ((o1 : Int) - (o2 : Int)) = d := by rw [hd]; exact IntWalk.i64_in _ (by omega)
      by_cases hc : y < d
      · have HN : Hid (FirstMax (overW m es) (max (k + 1) 1) k ∧ overW m es k = d) := Lib.hid (by
          rw [show max (k + 1) 1 = k + 1 by omega]
          refine ⟨?_, HLK.out⟩
          rcases HK1.out with h | h
          · exact h.take (by rw [HLK.out, HF.out.2]; exact hc)
          · subst h; exact FirstMax.one _)
        have hcI : decide (y < d) = true := decide_eq_true hc
        clear HF HK1 HB0 HCK hc
        go_wp2_with fail
        refine HOPK.out.mono ?_
        rintro e w4 ⟨rfl, hB4⟩
        have HB4 : Hid (Below w1.heap.size w1 w4) := Lib.hid (HBw.out.trans (hB4.mono HBw.out.size))
        clear hB4
        go_wp2_with fail
        refine (HONK.out _).mono ?_
        rintro e w5 ⟨rfl, q2, rfl⟩
        go_wp2_with fail
        go_roundw
        case rel => exact ⟨k + 1, k, d, by omega, by omega, hd0, hd1, by go_num, rfl, rfl, HN, Lib.hid (below_drewN HB4.out _)⟩
        case measure => simp [intOf]; omega
      · have HN : Hid (FirstMax (overW m es) (max (k + 1) 1) bl ∧ overW m es bl = y) := Lib.hid (by
          rw [show max (k + 1) 1 = k + 1 by omega]
          refine ⟨?_, HF.out.2⟩
          rcases HK1.out with h | h
          · exact h.keep (by rw [HLK.out, HF.out.2]; omega)
          · have := HB0.out h; subst h; subst this; exact FirstMax.one _)
        have hcI : decide (y < d) = false := decide_eq_false hc
        clear HF HK1 HB0 HCK hc
        go_wp2_with fail
        refine HOPK.out.mono ?_
        rintro e w4 ⟨rfl, hB4⟩
        have HB4 : Hid (Below w1.heap.size w1 w4) := Lib.hid (HBw.out.trans (hB4.mono HBw.out.size))
        clear hB4
        go_wp2_with fail
        refine (HONK.out _).mono ?_
        rintro e w5 ⟨rfl, q2, rfl⟩
        go_wp2_with fail
        go_roundw
        case rel => exact ⟨k + 1, bl, y, by omega, by omega, hy0, hy1, by go_num, rfl, rfl, HN, Lib.hid (below_drewN HB4.out _)⟩
        case measure => simp [intOf]; omega
    · obtain rfl : k = Q + 1 := by omega
      have HEE : Hid (FirstMax (overW m es) (2 ^ m) bl) := Lib.hid (by
        rw [HQ.out]
        have := HF.out.1
        rwa [show max (Q + 1) 1 = Q + 1 by omega] at this)
      clear HF
      go_wp2_with fail
      exact bodyPost_ret (v := .tuple #[.int .u32 bl, .int .i64 0]) (by simp [results, Tryd.results16, go_sem]) rfl ⟨⟨bl, HEE.out, rfl⟩, HB1.out.trans (HBw.out.mono HB1.out.size)⟩
end Go.Proofs.YthfgbgmkiggjmacDoor
