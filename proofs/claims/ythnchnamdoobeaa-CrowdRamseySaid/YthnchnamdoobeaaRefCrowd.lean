/- The reference's Crowded and Crowd. Conditions: at most ten nodes, 45 edges. -/
import Derived.Test.YthnchnamdoobeaaCrowdW
import Derived.Test.YthnchnamdoobeaaBitSize
import Derived.Test.YthnchnamdoobeaaBoxB
import Derived.Test.YthnchnamdoobeaaNear
import Derived.Test.YthnchnamdoobeaaWordsAt
namespace Go.Proofs.Ythnchnamdoobeaa
open Go.RowKit

/-- As far as the first j go. -/
def CrowdTo (adj : Nat → Nat → Bool) (ap : Bool) (s i j : Nat) : Prop := ∀ j', j' < j → s.testBit i = true → s.testBit j' = true → adj i j' = !ap
theorem ne_of_beq {a b : Bool} (h : (a == b) = false) : a = !b := by revert h; cases a <;> cases b <;> decide
theorem eq_of_beqB {a b : Bool} (h : (a == b) = true) : a ≠ !b := by revert h; cases a <;> cases b <;> decide
set_option maxRecDepth 100000 in
set_option maxHeartbeats 4000000 in
theorem refCrowded_any (n : Nat) (A : Option Addr) (len cap : Nat) (es : List E3) (s : Nat) (ap r : Bool) (w : World) (hE : EdgesAt w w.heap.size A len es) (hn : n ≤ 10) (hl : len ≤ 45) (hs : s < 1024) (hr : r = true ↔ CrowdW (adjE es) ap n s) :
    Calls Try.prog 20 #[.agg #[.int .i64 (n : Int), .slice A len cap], .int .u32 (s : Int), .bool ap] w fun e w' => e = .returned (.bool r) ∧ Below w.heap.size w w' := by
  have HX := Lib.hid (BoxG.start (n := (n : Int)) (cap := cap) hE)
  have HRR : Hid (r = true ↔ CrowdW (adjE es) ap n s) := Lib.hid hr
  have HB := Lib.hid (fun (i : Nat) (hi : i < 32) (b : Bool) (h : s.testBit i = b) W => bit_nat s i b (by omega) hi h W)
  have HNR := Lib.hid (fun (i j : Nat) (b : Bool) (h : adjE es i j = b) W (hW : EdgesAt W W.heap.size A len es) => near_v (n : Int) (i : Int) (j : Int) A len cap es b W hW hl h)
  clear hE hr
  go_enter Try.func20, Try.ntmps20
  go_wp2_with fail
  go_loopw [7] (fun y wr => ∃ i : Nat, i ≤ n ∧ y = .int .i64 i ∧ Hid (CrowdW (adjE es) ap i s) ∧ Hid (BoxG w (n : Int) A len cap es wr)) (fun y _ => n - (intOf y).toNat)
  case atStart => exact ⟨0, Nat.zero_le _, rfl, Lib.hid (fun i j _ hi => absurd hi (Nat.not_lt_zero i)), HX⟩
  case round =>
    clear HX
    obtain ⟨i, hi, rfl, HC, HXr⟩ := hrel
    have k0 := HXr.out.c0
    by_cases hin : i < n
    · have hin' : (i : Int) < (n : Int) := by omega
      have hi32 : i < 32 := by omega
      obtain ⟨wo, hwo⟩ : ∃ wo : World, wo = wr := ⟨_, rfl⟩
      rw [← hwo] at HXr k0 ⊢
      clear hwo
      go_wp2_with fail
      go_loopw [8] (fun y wr => ∃ j : Nat, j ≤ i ∧ y = .int .i64 j ∧ Hid (CrowdTo (adjE es) ap s i j) ∧ Hid (BoxG w (n : Int) A len cap es wr)) (fun y _ => i - (intOf y).toNat)
      case atStart => exact ⟨0, Nat.zero_le _, rfl, Lib.hid (fun j' h => absurd h (Nat.not_lt_zero j')), HXr⟩
      case round =>
        clear HXr k0
        obtain ⟨j, hj, rfl, HJ, HXq⟩ := hrel
        have q0 := HXq.out.c0
        have q1 := HXq.out.c1
        by_cases hji : j < i
        · have hji' : (j : Int) < (i : Int) := by omega
          have hj32 : j < 32 := by omega
          cases hbi : s.testBit i with
          | false =>
            have H1 := Lib.hid (HB.out i hi32 false hbi)
            have HN : Hid (CrowdTo (adjE es) ap s i (j + 1)) := Lib.hid (fun _ _ h => by rw [hbi] at h; cases h)
            clear hbi HJ
            go_wp2_with fail
            refine (H1.out _).mono ?_
            rintro e w1 ⟨rfl, rfl⟩
            go_wp2_with fail
            go_roundw
            case rel => exact ⟨j + 1, by omega, by go_num, HN, HXq⟩
            case measure => simp [intOf]; omega
          | true =>
            have H1 := Lib.hid (HB.out i hi32 true hbi)
            cases hbj : s.testBit j with
            | false =>
              have H2 := Lib.hid (HB.out j hj32 false hbj)
              have HN : Hid (CrowdTo (adjE es) ap s i (j + 1)) := Lib.hid (fun j' hj' h1 h2 => by
                by_cases e : j' = j
                · subst e; rw [hbj] at h2; cases h2
                · exact HJ.out j' (by omega) h1 h2)
              clear hbi hbj HJ
              go_wp2_with fail
              refine (H1.out _).mono ?_
              rintro e w1 ⟨rfl, rfl⟩
              go_wp2_with fail
              refine (H2.out _).mono ?_
              rintro e w1 ⟨rfl, rfl⟩
              go_wp2_with fail
              go_roundw
              case rel => exact ⟨j + 1, by omega, by go_num, HN, HXq⟩
              case measure => simp [intOf]; omega
            | true =>
              have H2 := Lib.hid (HB.out j hj32 true hbj)
              cases hnr : (adjE es i j == ap) with
              | false =>
                obtain ⟨a, ha⟩ : ∃ a, adjE es i j = a := ⟨_, rfl⟩
                rw [ha] at hnr
                have H3 := Lib.hid (HNR.out i j a ha)
                have HN : Hid (CrowdTo (adjE es) ap s i (j + 1)) := Lib.hid (fun j' hj' h1 h2 => by
                  by_cases e : j' = j
                  · subst e
                    rw [ha]
                    cases a <;> cases ap <;> simp_all
                  · exact HJ.out j' (by omega) h1 h2)
                clear hbi hbj HJ ha
                go_wp2_with fail
                refine (H1.out _).mono ?_
                rintro e w1 ⟨rfl, rfl⟩
                go_wp2_with fail
                refine (H2.out _).mono ?_
                rintro e w1 ⟨rfl, rfl⟩
                go_wp2_with fail
                refine (H3.out _ HXq.out.edges).mono ?_
                rintro e w1 ⟨rfl, hB⟩
                have HX1 := Lib.hid (HXq.out.next hB)
                clear hB q0 q1
                go_wp2_with fail
                go_roundw
                case rel => exact ⟨j + 1, by omega, by go_num, HN, HX1⟩
                case measure => simp [intOf]; omega
              | true =>
                obtain ⟨a, ha⟩ : ∃ a, adjE es i j = a := ⟨_, rfl⟩
                rw [ha] at hnr
                have H3 := Lib.hid (HNR.out i j a ha)
                have HF : Hid (r = false) := Lib.hid (by
                  cases hrv : r with
                  | false => rfl
                  | true =>
                    have h5 := HRR.out.1 hrv i j hji hin hbi hbj
                    rw [ha] at h5
                    exact absurd h5 (eq_of_beqB hnr))
                clear hbi hbj HJ ha
                go_wp2_with fail
                refine (H1.out _).mono ?_
                rintro e w1 ⟨rfl, rfl⟩
                go_wp2_with fail
                refine (H2.out _).mono ?_
                rintro e w1 ⟨rfl, rfl⟩
                go_wp2_with fail
                refine (H3.out _ HXq.out.edges).mono ?_
                rintro e w1 ⟨rfl, hB⟩
                have HX1 := Lib.hid (HXq.out.next hB)
                clear hB q0 q1
                go_wp2_with fail
                go_ret
                exact ⟨ret_bool HF.out.symm, HX1.out.below⟩
        · obtain rfl : j = i := by omega
          have HN : Hid (CrowdW (adjE es) ap (j + 1) s) := Lib.hid (fun i' j' h1 h2 h3 h4 => by
            by_cases e : i' = j
            · subst e; exact HJ.out j' h1 h3 h4
            · exact HC.out i' j' h1 (by omega) h3 h4)
          clear HJ HC q0 q1
          go_wp2_with fail
          go_roundw
          case rel => exact ⟨j + 1, by omega, by go_num, HN, HXq⟩
          case measure => simp [intOf]; omega
    · obtain rfl : i = n := by omega
      have HT : Hid (r = true) := Lib.hid (HRR.out.2 HC.out)
      go_wp2_with fail
      go_ret
      exact ⟨ret_bool HT.out.symm, HXr.out.below⟩
set_option maxRecDepth 100000 in
set_option maxHeartbeats 4000000 in
theorem refCrowd_any (m : Nat) (ap : Bool) (A : Option Addr) (len cap : Nat) (es : List E3) (w : World) (hE : EdgesAt w w.heap.size A len es) (hm10 : m ≤ 10) (hlen : len ≤ 45) :
    Calls Try.prog 13 #[.agg #[.int .i64 (m : Int), .slice A len cap], .bool ap] w fun e w' => (∃ b : Nat, MostW (CrowdW (adjE es) ap m) sizeW (2 ^ m) b ∧ e = .returned (.int .u32 (b : Int))) ∧ Below w.heap.size w w' := by
  have HX := Lib.hid (BoxG.start (n := (m : Int)) (cap := cap) hE)
  have HCR := Lib.hid (fun (u : Nat) (r : Bool) (W : World) (hu : u < 1024) (h : EdgesAt W W.heap.size A len es) (hr : r = true ↔ CrowdW (adjE es) ap m u) => refCrowded_any m A len cap es u ap r W h hm10 hlen hu hr)
  have HSZ := Lib.hid (fun (u : Nat) (z : Int) (W : World) (hu : u < 1024) (h : (sizeW u : Int) = z) => size_v u z (by omega) h W)
  have hpos := Nat.two_pow_pos m
  have h1024 : 2 ^ m ≤ 1024 := by rw [show 1024 = 2 ^ 10 from rfl]; exact Nat.pow_le_pow_right (by decide) hm10
  obtain ⟨Q, hQ⟩ : ∃ Q, 2 ^ m = Q + 1 := ⟨2 ^ m - 1, by omega⟩
  have HQ := Lib.hid hQ
  have hq1 : (2 : Int) ^ m % 4294967296 = (Q : Int) + 1 := by
    have h := pow_mod m (by omega)
    rw [hQ] at h
    rw [h]; omega
  have hq2 : IntKind.u32.wrap ((2 : Int) ^ m) = (Q : Int) + 1 := by rw [wrap_u32n, hq1]
  have hQ10 : Q < 1024 := by omega
  obtain ⟨P, hP⟩ : ∃ P : Nat → Prop, P = CrowdW (adjE es) ap m := ⟨_, rfl⟩
  have HPE := Lib.hid hP
  have HZ : Hid (MostW P sizeW 0 0) := Lib.hid (MostW.start (by rw [hP]; exact crowd_zero _ _ _))
  rw [← hP] at HCR ⊢
  clear hE hQ hpos h1024 hP
  go_enter Try.func13, Try.ntmps13
  go_wp2_with fail
  go_loopw [5, 6] (fun best c wr => ∃ (k bl : Nat), k ≤ Q + 1 ∧ bl < 1024 ∧ c = .int .u32 k ∧ best = .int .u32 bl ∧ Hid (MostW P sizeW k bl) ∧ Hid (BoxG w m A len cap es wr)) (fun _ c _ => Q + 1 - (intOf c).toNat)
  case atStart => exact ⟨0, 0, by omega, by omega, rfl, rfl, HZ, HX⟩
  case round =>
    clear HZ HX
    obtain ⟨k, bl, hk, hbl, rfl, rfl, HF, HXr⟩ := hrel
    have hbx := HXr.out.c0
    have hbx1 := HXr.out.c1
    by_cases hlt : k < Q + 1
    · have hk1 : k < 1024 := by omega
      obtain ⟨z1, hz1⟩ : ∃ z : Int, (sizeW k : Int) = z := ⟨_, rfl⟩
      obtain ⟨z2, hz2⟩ : ∃ z : Int, (sizeW bl : Int) = z := ⟨_, rfl⟩
      have HS1 := Lib.hid (fun W => HSZ.out k z1 W hk1 hz1)
      have HS2 := Lib.hid (fun W => HSZ.out bl z2 W hbl hz2)
      by_cases hc : z2 < z1
      · have hd : decide (z2 < z1) = true := decide_eq_true hc
        by_cases hp : P k
        · have H3 := Lib.hid (HCR.out k true wr hk1 HXr.out.edges ⟨fun _ => hp, fun _ => rfl⟩)
          have HN := Lib.hid (HF.out.take hp (by omega))
          clear HF hz1 hz2 hc hp
          go_wp2_with fail
          refine (HS1.out _).mono ?_
          rintro e w3 ⟨rfl, rfl⟩
          go_wp2_with fail
          refine (HS2.out _).mono ?_
          rintro e w3 ⟨rfl, rfl⟩
          go_wp2_with fail
          refine H3.out.mono ?_
          rintro e w2 ⟨rfl, hb2⟩
          have HX2 := Lib.hid (HXr.out.next hb2)
          clear hb2 hbx hbx1
          go_wp2_with fail
          go_roundw
          case rel => exact ⟨k + 1, k, by omega, hk1, by go_num, rfl, HN, HX2⟩
          case measure => simp [intOf]; omega
        · have H3 := Lib.hid (HCR.out k false wr hk1 HXr.out.edges ⟨fun h => by (cases h), fun h => absurd h hp⟩)
          have HN := Lib.hid (HF.out.skip hp)
          clear HF hz1 hz2 hc hp
          go_wp2_with fail
          refine (HS1.out _).mono ?_
          rintro e w3 ⟨rfl, rfl⟩
          go_wp2_with fail
          refine (HS2.out _).mono ?_
          rintro e w3 ⟨rfl, rfl⟩
          go_wp2_with fail
          refine H3.out.mono ?_
          rintro e w2 ⟨rfl, hb2⟩
          have HX2 := Lib.hid (HXr.out.next hb2)
          clear hb2 hbx hbx1
          go_wp2_with fail
          go_roundw
          case rel => exact ⟨k + 1, bl, by omega, hbl, by go_num, rfl, HN, HX2⟩
          case measure => simp [intOf]; omega
      · have hd : decide (z2 < z1) = false := decide_eq_false hc
        have HN := Lib.hid (HF.out.keep (by omega))
        clear HF hz1 hz2 hc
        go_wp2_with fail
        refine (HS1.out _).mono ?_
        rintro e w3 ⟨rfl, rfl⟩
        go_wp2_with fail
        refine (HS2.out _).mono ?_
        rintro e w3 ⟨rfl, rfl⟩
        go_wp2_with fail
        go_roundw
        case rel => exact ⟨k + 1, bl, by omega, hbl, by go_num, rfl, HN, HXr⟩
        case measure => simp [intOf]; omega
    · obtain rfl : k = Q + 1 := by omega
      have HEE : Hid (MostW P sizeW (2 ^ m) bl) := Lib.hid (by rw [HQ.out]; exact HF.out)
      clear HF
      go_wp2_with fail
      go_ret
      exact ⟨⟨bl, HEE.out, rfl⟩, HXr.out.below⟩
end Go.Proofs.Ythnchnamdoobeaa
