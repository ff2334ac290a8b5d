/- lanes.Wall: the first of the smallest walls. No conditions. -/
import Derived.Test.YtmelemjngnadpaaDoorZb25
import Derived.Test.YtmelemjngnadpaaDoorZLaneNbGo
import Derived.Test.YtmelemjngnadpaaDoorZOnes
namespace Go.Proofs.YtmelemjngnadpaaDoor
open Go.RowKit

theorem xor_max (k : Nat) (hk : k < 4294967296) : bits .xor .u32 IntKind.u32.max (k : Int) = ((4294967295 - k : Nat) : Int) := by
  show IntKind.u32.wrap ((BitVec.ofInt 32 4294967295 ^^^ BitVec.ofInt 32 (k : Int)).toNat : Int) = _
  have h1 : (BitVec.ofInt 32 4294967295).toNat = 2 ^ 32 - 1 := by decide
  rw [BitVec.toNat_xor, ofInt_u32 k hk, h1, wrap_u32n]
  have h2 : (2 ^ 32 - 1) ^^^ k = 4294967295 - k := by
    apply Nat.eq_of_testBit_eq
    intro v
    rw [Nat.testBit_xor, Nat.testBit_two_pow_sub_one]
    rcases Nat.lt_or_ge v 32 with hv | hv
    · rw [compl_bit hk hv, decide_eq_true hv]; cases k.testBit v <;> rfl
    · rw [decide_eq_false (by omega), Nat.testBit_lt_two_pow (x := k) (Nat.lt_of_lt_of_le hk (Nat.pow_le_pow_right (n := 2) (by decide) hv)), Nat.testBit_lt_two_pow (x := 4294967295 - k) (Nat.lt_of_lt_of_le (show 4294967295 - k < 2 ^ 32 by omega) (Nat.pow_le_pow_right (by decide) hv))]; rfl
  rw [h2]; omega
set_option maxRecDepth 100000 in
set_option maxHeartbeats 2000000 in
theorem wallL_bad (n v : Int) (A : Option Addr) (len cap : Nat) (es : List E3) (a b : Int) (w : World) (hE : EdgesAt w w.heap.size A len es) (hv : waysF n es a b = v) (hv0 : v ≠ 0) :
    Calls Tryd.prog 5 #[.agg #[.int .i64 n, .slice A len cap], .int .i64 a, .int .i64 b] w fun e w' => e = .returned (.tuple #[.int .u32 0, .int .i64 v]) ∧ Below w.heap.size w w' := by
  have HX := Lib.hid (BoxG.start (n := n) (cap := cap) hE)
  have HV := Lib.hid hv
  have HV0 := Lib.hid hv0
  have hb0 : (v != 0) = true := by simpa using hv0
  clear hE hv hv0
  go_enter Tryd.func5, Tryd.ntmps5
  go_wp2_with fail
  refine (laneNb_bad n v A len cap es a b _ (by exact HX.out.edges) HV.out HV0.out).mono ?_
  rintro e w1 ⟨rfl, hB⟩
  have HX1 := Lib.hid (HX.out.next hB)
  clear hB
  go_wp2
  go_ret2
  exact ⟨rfl, HX1.out.below⟩

set_option maxRecDepth 100000 in
set_option maxHeartbeats 4000000 in
theorem wallL_good (m a b : Nat) (A : Option Addr) (len cap : Nat) (es : List E3) (w : World) (hE : EdgesAt w w.heap.size A len es) (hv : waysF m es a b = 0) (hT : Tab w) :
    Calls Tryd.prog 5 #[.agg #[.int .i64 m, .slice A len cap], .int .i64 a, .int .i64 b] w fun e w' => (∃ best : Nat, e = .returned (.tuple #[.int .u32 best, .int .i64 0]) ∧ LeastW (OkW es a b) sizeW (2 ^ m) best true) ∧ Below w.heap.size w w' := by
  have HX := Lib.hid (BoxG.start (n := m) (cap := cap) hE)
  have HV := Lib.hid hv
  obtain ⟨h0, p0, p1, p2, p3, p4, hn⟩ := waysF_zero hv
  obtain ⟨g0, g1, g2, hg⟩ := good_of_gcheck h0
  have ha : a < m := by omega
  have hb : b < m := by omega
  have hm10 : m ≤ 10 := by omega
  have HG := Lib.hid hg
  have HOT := Lib.hid (others_word hm10 ha hb)
  have HOK := Lib.hid (okW_all hg hm10 (by omega) hn HOT.out)
  have HWD := Lib.hid (nbL_words hg)
  have HT := Lib.hid hT
  have hp := Nat.two_pow_pos m
  have hpm := pow10 hm10 (show 2 ^ m - 1 < 2 ^ m by omega)
  have hEl : 2 ^ a ||| 2 ^ b < 2 ^ m := Nat.or_lt_two_pow (Nat.pow_lt_pow_right (by decide) ha) (Nat.pow_lt_pow_right (by decide) hb)
  have hE2 := pow10 hm10 hEl
  have hO2 := pow10 hm10 HOT.out.lt
  have hpa := pow10 hm10 (Nat.pow_lt_pow_right (a := 2) (by decide) ha)
  have hpb := pow10 hm10 (Nat.pow_lt_pow_right (a := 2) (by decide) hb)
  have hsa := pow_mod a (by omega)
  have hsb := pow_mod b (by omega)
  have hsm := pow_mod m (by omega)
  have hor := or_u32 (2 ^ a) (2 ^ b) (by omega) (by omega)
  have hno := andNot_u32 (2 ^ m - 1) (2 ^ a ||| 2 ^ b) (by omega) (by omega)
  have HEA : Hid (∀ u, u &&& (2 ^ a ||| 2 ^ b) = 0 ↔ u.testBit a = false ∧ u.testBit b = false) := Lib.hid fun u => ends_and u
  obtain ⟨O, hO⟩ : ∃ O, O = diffW (2 ^ m - 1) (2 ^ a ||| 2 ^ b) := ⟨_, rfl⟩
  rw [← hO] at HOT HOK hO2 hno
  obtain ⟨E, hEe⟩ : ∃ E, E = 2 ^ a ||| 2 ^ b := ⟨_, rfl⟩
  rw [← hEe] at hE2 hor hno HEA
  obtain ⟨Q, hQ⟩ : ∃ Q, 2 ^ m = Q + 1 := ⟨2 ^ m - 1, by omega⟩
  rw [hQ] at hsm
  rw [show 2 ^ m - 1 = Q by omega] at hno hpm
  have HQ := Lib.hid hQ
  generalize 2 ^ a = pa at *
  generalize 2 ^ b = pb at *
  have ia0 : (0 : Int) ≤ (a : Int) := by omega
  have ib0 : (0 : Int) ≤ (b : Int) := by omega
  have im0 : (0 : Int) ≤ (m : Int) := by omega
  have ia32 : (a : Int) ≤ 32 := by omega
  have ib32 : (b : Int) ≤ 32 := by omega
  have im32 : (m : Int) ≤ 32 := by omega
  clear hE hv h0 hg hn g2 hT hp hEl hEe hO hQ
  go_enter Tryd.func5, Tryd.ntmps5
  go_wp2_with fail
  refine (laneNb_good m a b A len cap es _ (by exact HX.out.edges) HV.out).mono ?_
  rintro e w1 ⟨gn, rfl, hR, hgn, hB⟩
  have HX1 := Lib.hid (HX.out.next hB)
  have HR := Lib.hid hR
  have k0 := HX1.out.c0
  clear hB hR
  go_wp2
  go_quiet (fail)
  have k0' : (w1.drewN nq).cell? ⟨w.heap.size, 0, none⟩ = some (.int .i64 (m : Int)) := k0
  have HB1 : Hid (Below w.heap.size w (w1.drewN nq)) := Lib.hid (below_drewN HX1.out.below _)
  have HR1 : Hid (RowOf (w1.drewN nq) gn 25 ((nbL m es).map u32V)) := Lib.hid HR.out
  generalize w1.drewN nq = W0 at *
  go_wp2
  have hgl : gn < W0.heap.size := HR1.out.lt
  clear hsa hsb hsm hor hno hpm k0 k0'
  go_loopw [12, 38] (fun x j wr => ∃ k best : Nat, k ≤ O ∧ j = .int .u32 k ∧ x = .int .u32 best ∧ best ≤ O ∧ Hid (WallI es a b O k best) ∧ Hid (Below W0.heap.size W0 wr)) (fun _ j _ => O - (intOf j).toNat)
  case atStart => exact ⟨0, O, Nat.zero_le _, rfl, rfl, Nat.le_refl _, Lib.hid (WallI.start HOK.out), Lib.hid (Below.refl _ _)⟩
  case round =>
    obtain ⟨k, best, hk, rfl, rfl, hbO, HI, HB⟩ := hrel
    by_cases hlt : k < O
    · have hk4 : k < 4294967296 := by omega
      have ho1 : ones k = sizeW k := ones_size (by omega)
      have ho2 : ones best = sizeW best := ones_size (by omega)
      have HC1 : Hid (∀ W, Calls Tryd.prog 14 #[.int .u32 k] W fun e w' => e = .returned (.int .i64 (sizeW k : Nat)) ∧ ∃ n, w' = W.drewN n) := Lib.hid fun W => by rw [← ho1]; exact ones_any k W (by omega)
      have HC2 : Hid (∀ W, Calls Tryd.prog 14 #[.int .u32 best] W fun e w' => e = .returned (.int .i64 (sizeW best : Nat)) ∧ ∃ n, w' = W.drewN n) := Lib.hid fun W => by rw [← ho2]; exact ones_any best W (by omega)
      have hxm := xor_max k hk4
      clear ho1 ho2
      by_cases hl : sizeW k < sizeW best
      · have hlI : ((sizeW k : Nat) : Int) < ((sizeW best : Nat) : Int) := by omega
        have hand := and_u32 k E (by omega) (by omega)
        by_cases he : k &&& E = 0
        · have HE0 := (HEA.out k).1 he
          rw [he] at hand
          have hcb : ∀ v, v < m → (4294967295 - k).testBit v = !k.testBit v := fun v hv => compl_bit hk4 (by omega)
          have hlk := okW_linked (b := b) HG.out hm10 ha HE0.1 HE0.2 hcb
          have HLW : Hid (∀ W, WordsAt W W.heap.size (some ⟨gn, 0, none⟩) m (nbL m es) → Tab W → Calls Tryd.prog 15 #[.slice (some ⟨gn, 0, none⟩) m m, .int .i64 a, .int .u32 ((4294967295 - k : Nat) : Int)] W fun e w' => e = .returned (.int .u32 (linkedW m (nbL m es) (4294967295 - k) a)) ∧ Below W.heap.size W w') := Lib.hid fun W h1 h2 =>
            linkedW_any m a hm10 ha _ m (nbL m es) HWD.out (4294967295 - k) (by omega) W h1 h2
          have hll : linkedW m (nbL m es) (4294967295 - k) a < 1024 := pow10 hm10 (allTo_lt m _)
          obtain ⟨Z, hZ⟩ : ∃ Z, Z = linkedW m (nbL m es) (4294967295 - k) a := ⟨_, rfl⟩
          rw [← hZ] at hlk HLW hll
          have hsb2 : bits .and .u32 ((Z : Int) / 2 ^ b) 1 = if Z.testBit b = true then 1 else 0 := by
            have e : (Z : Int) / 2 ^ b = ((Z / 2 ^ b : Nat) : Int) := by simp
            rw [e, shr_and_one Z b (by omega)]
          have HLK := Lib.hid hlk
          clear hcb hlk hZ he HE0
          cases hzb : Z.testBit b
          · have HNX := Lib.hid (HI.out.take (HLK.out.2 hzb) hl)
            simp only [hzb, Bool.false_eq_true, if_false] at hsb2
            clear hl hzb
            generalize sizeW k = sk at *
            generalize sizeW best = sb at *
            go_wp2_with fail
            refine (HC1.out _).mono ?_
            rintro e w5 ⟨rfl, n1, rfl⟩
            go_wp2_with fail
            refine (HC2.out _).mono ?_
            rintro e w6 ⟨rfl, n2, rfl⟩
            have HBd : Hid (Below W0.heap.size W0 ((wr.drewN n1).drewN n2)) := Lib.hid (below_drewN (below_drewN HB.out _) _)
            generalize (wr.drewN n1).drewN n2 = W at HBd ⊢
            have HWr : Hid (WordsAt W W.heap.size (some ⟨gn, 0, none⟩) m (nbL m es)) := Lib.hid (by
              have h := WordsAt.of_row (HR1.out.below HBd.out hgl) (HR1.out.below HBd.out hgl).lt
              rw [nbL_length] at h
              exact h)
            have HTr : Hid (Tab W) := Lib.hid ((HT.out.go_ (HB1.out)).go_ HBd.out)
            have hWs := HBd.out.size
            go_wp2_with fail
            refine (HLW.out _ (by exact HWr.out) (by exact HTr.out)).mono ?_
            rintro e w7 ⟨rfl, hB7⟩
            have HB7 : Hid (Below W0.heap.size W0 w7) := Lib.hid (HBd.out.trans (hB7.mono hWs))
            clear hB7
            go_wp2
            go_roundw
            case rel => exact ⟨k + 1, k, by omega, by go_num, rfl, by omega, HNX, HB7⟩
            case measure => simp [intOf]; omega
          · have HNX := Lib.hid (HI.out.skip fun h => by rw [HLK.out.1 h] at hzb; cases hzb)
            simp only [hzb, if_true] at hsb2
            clear hl hzb
            generalize sizeW k = sk at *
            generalize sizeW best = sb at *
            go_wp2_with fail
            refine (HC1.out _).mono ?_
            rintro e w5 ⟨rfl, n1, rfl⟩
            go_wp2_with fail
            refine (HC2.out _).mono ?_
            rintro e w6 ⟨rfl, n2, rfl⟩
            have HBd : Hid (Below W0.heap.size W0 ((wr.drewN n1).drewN n2)) := Lib.hid (below_drewN (below_drewN HB.out _) _)
            generalize (wr.drewN n1).drewN n2 = W at HBd ⊢
            have HWr : Hid (WordsAt W W.heap.size (some ⟨gn, 0, none⟩) m (nbL m es)) := Lib.hid (by
              have h := WordsAt.of_row (HR1.out.below HBd.out hgl) (HR1.out.below HBd.out hgl).lt
              rw [nbL_length] at h
              exact h)
            have HTr : Hid (Tab W) := Lib.hid ((HT.out.go_ (HB1.out)).go_ HBd.out)
            have hWs := HBd.out.size
            go_wp2_with fail
            refine (HLW.out _ (by exact HWr.out) (by exact HTr.out)).mono ?_
            rintro e w7 ⟨rfl, hB7⟩
            have HB7 : Hid (Below W0.heap.size W0 w7) := Lib.hid (HBd.out.trans (hB7.mono hWs))
            clear hB7
            go_wp2
            go_roundw
            case rel => exact ⟨k + 1, best, by omega, by go_num, rfl, hbO, HNX, HB7⟩
            case measure => simp [intOf]; omega
        · have hnok : ¬ OkW es a b k := fun h => he ((HEA.out k).2 ⟨h.1, h.2.1⟩)
          have HNX := Lib.hid (HI.out.skip hnok)
          obtain ⟨ke, hke⟩ : ∃ ke, ke = k &&& E := ⟨_, rfl⟩
          rw [← hke] at hand he
          have hkz : ((ke : Int) == 0) = false := by simp; omega
          clear he hke hnok hl
          generalize sizeW k = sk at *
          generalize sizeW best = sb at *
          go_wp2_with fail
          refine (HC1.out _).mono ?_
          rintro e w5 ⟨rfl, n1, rfl⟩
          go_wp2_with fail
          refine (HC2.out _).mono ?_
          rintro e w6 ⟨rfl, n2, rfl⟩
          have HBd : Hid (Below W0.heap.size W0 ((wr.drewN n1).drewN n2)) := Lib.hid (below_drewN (below_drewN HB.out _) _)
          generalize (wr.drewN n1).drewN n2 = W at HBd ⊢
          go_wp2
          go_roundw
          case rel => exact ⟨k + 1, best, by omega, by go_num, rfl, hbO, HNX, HBd⟩
          case measure => simp [intOf]; omega
      · have HNX := Lib.hid (HI.out.keep HG.out hm10 HOT.out hlt hl)
        have hlI : decide (((sizeW k : Nat) : Int) < ((sizeW best : Nat) : Int)) = false := by simp; omega
        have hlN : decide (sizeW k < sizeW best) = false := by simp; omega
        clear hl
        generalize sizeW k = sk at *
        generalize sizeW best = sb at *
        go_wp2_with fail
        refine (HC1.out _).mono ?_
        rintro e w5 ⟨rfl, n1, rfl⟩
        go_wp2_with fail
        refine (HC2.out _).mono ?_
        rintro e w6 ⟨rfl, n2, rfl⟩
        have HBd : Hid (Below W0.heap.size W0 ((wr.drewN n1).drewN n2)) := Lib.hid (below_drewN (below_drewN HB.out _) _)
        generalize (wr.drewN n1).drewN n2 = W at HBd ⊢
        go_wp2
        go_roundw
        case rel => exact ⟨k + 1, best, by omega, by go_num, rfl, hbO, HNX, HBd⟩
        case measure => simp [intOf]; omega
    · obtain rfl : k = O := by omega
      have HO := Lib.hid (HI.out.done HG.out hm10 HOT.out)
      have HBf : Hid (Below w.heap.size w wr) := Lib.hid (HB1.out.trans (HB.out.mono HB1.out.size))
      go_wp2
      go_ret2
      exact ⟨⟨best, rfl, HO.out⟩, HBf.out⟩
end Go.Proofs.YtmelemjngnadpaaDoor
