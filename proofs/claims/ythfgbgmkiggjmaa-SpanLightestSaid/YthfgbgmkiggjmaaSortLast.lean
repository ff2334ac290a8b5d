/- The merge of two sorted blocks of a row where the right one has one member alone. -/
import Derived.Test.YthfgbgmkiggjmaaSortOne
namespace Go.Proofs.Ythfgbgmkiggjmaa
open Go.RowKit

set_option maxRecDepth 100000 in
set_option maxHeartbeats 4000000 in
theorem sym_last (g n cap a m b B len capE : Nat) (A : Option Addr) (es : List E3) (f : Nat → Int) (w : World) (h : MergeIn g n a m b B len capE A es f w) (h1 : m ≠ a + 1) (h2 : b = m + 1) :
    Calls Try.prog 83 #[.slice (some ⟨g, 0, none⟩) n cap, .int .i64 a, .int .i64 m, .int .i64 b, cmpV B] w (MergeOut g n a b es f w) := by
  have H := Lib.hid h
  have HM := Lib.hid h2
  have ham := h.am
  have hmb := h.mb
  have hbn := h.bn
  have hnn := h.nn
  have hm1 : ((m : Int) - (a : Int) == 1) = false := by simp; omega
  have hm2 : ¬ (m : Int) - (a : Int) = 1 := by omega
  have hm3 : ((b : Int) - (m : Int) == 1) = true := by simp; omega
  have hm4 : (b : Int) - (m : Int) = 1 := by omega
  have im0 : (0 : Int) ≤ (m : Int) := by omega
  have im1 : (m : Int) < (n : Int) := by omega
  clear h h2 h1
  unfold cmpV
  go_enter Try.func83, Try.ntmps83
  go_wp2
  clear hm1 hm2 hm3 hm4
  go_loopw [14, 15, 16] (fun si sj _ wr => ∃ i j : Nat, a ≤ i ∧ i ≤ j ∧ j ≤ m ∧ si = .int .i64 i ∧ sj = .int .i64 j ∧ Hid (RowC wr g n f) ∧ Hid (∀ k, a ≤ k → k < i → ltP (wOf es) (f k) (f m)) ∧ Hid (∀ k, j ≤ k → k < m → ltP (wOf es) (f m) (f k)) ∧ Below g w wr) (fun si sj _ _ => (intOf sj).toNat - (intOf si).toNat)
  case atStart => exact ⟨a, m, Nat.le_refl _, by omega, Nat.le_refl _, rfl, rfl, Lib.hid H.out.row, Lib.hid (fun k h1 h2 => by omega), Lib.hid (fun k h1 h2 => by omega), Below.refl _ _⟩
  case round =>
    obtain ⟨i, j, hmi, hij, hjb, rfl, rfl, HR, HL, HG, hB⟩ := hrel
    by_cases hlt : i < j
    · have hlt2 : (i : Int) < (j : Int) := by omega
      obtain ⟨q, hq1, hq2, hw1, hw2, hw3, hw4, hqe⟩ := half_facts hlt (by omega)
      clear hqe
      go_wp2
      have hcross : f q < f m := H.out.cr q m (by omega) (by omega) (Nat.le_refl _) hmb
      have ca := HR.out.cell (show m < n by omega)
      have cq := HR.out.cell (show q < n by omega)
      obtain ⟨fa0, fa1⟩ := H.out.inn m (by omega)
      obtain ⟨fq0, fq1⟩ := H.out.inn q (by omega)
      have HCW := Lib.hid (H.out.cmp.below hB H.out.bg)
      have HCMP := Lib.hid (fun W hW => wcmp_any (f m) (f q) B len capE A es W hW fa0 fa1 fq0 fq1)
      have HNEG := Lib.hid (cmpI_neg (wOf es (f m)) (wOf es (f q)))
      have HY : Hid (¬ wOf es (f m) < wOf es (f q) → ∀ k, a ≤ k → k < q + 1 → ltP (wOf es) (f k) (f m)) := Lib.hid fun hw k k1 k2 => by
        have h0 := ltP.cross' hcross hw
        rcases Nat.lt_or_ge k q with h3 | h3
        · exact (H.out.sl k q k1 h3 (by omega)).trans h0
        · obtain rfl : k = q := by omega
          exact h0
      have HZ : Hid (wOf es (f m) < wOf es (f q) → ∀ k, q ≤ k → k < m → ltP (wOf es) (f m) (f k)) := Lib.hid fun hw k k1 k2 => by
        have h0 := (ltP.cross hcross).1 hw
        rcases Nat.lt_or_ge q k with h3 | h3
        · exact h0.trans (H.out.sl q k (by omega) h3 k2)
        · obtain rfl : k = q := by omega
          exact h0
      have iq0 : (0 : Int) ≤ (q : Int) := by omega
      have iq1 : (q : Int) < (n : Int) := by omega
      clear hcross hw1 hw2 hw3 hw4
      generalize wOf es (f m) = u at *
      generalize wOf es (f q) = v at *
      generalize f m = x at ca HCMP fa0 fa1
      generalize f q = y at cq HCMP fq0 fq1
      by_cases hw : u < v
      · have hq : cmpI u v < 0 := HNEG.out.2 hw
        have hqd : decide (cmpI u v < 0) = true := by simpa using hq
        have HN := Lib.hid (HZ.out hw)
        clear HY HZ hw HNEG
        generalize cmpI u v = z at *
        go_quiet ((go_at_call 60; exact Calls.quiet_of (HCMP.out _ (by exact HCW.out.drewN _))))
        go_wp2
        go_roundw
        case rel => exact ⟨i, q, hmi, by omega, by omega, rfl, rfl, Lib.hid (HR.out.drewN _), HL, HN, below_drewN hB _⟩
        case measure => simp [intOf]; omega
      · have hq : ¬ cmpI u v < 0 := fun h => hw (HNEG.out.1 h)
        have hqd : decide (cmpI u v < 0) = false := by simpa using hq
        have HN := Lib.hid (HY.out hw)
        clear HY HZ hw HNEG
        generalize cmpI u v = z at *
        go_quiet ((go_at_call 60; exact Calls.quiet_of (HCMP.out _ (by exact HCW.out.drewN _))))
        go_wp2
        go_roundw
        case rel => exact ⟨q + 1, j, by omega, by omega, hjb, by go_num, rfl, Lib.hid (HR.out.drewN _), HN, HG, below_drewN hB _⟩
        case measure => simp [intOf]; omega
    · obtain rfl : i = j := by omega
      have HSORT : Hid (SortedF (wOf es) (insAt f m i) a b) := Lib.hid (by rw [HM.out]; exact insAt_sorted hmi hjb H.out.sl HG.out HL.out)
      have HSHUF : Hid (Shuf a b f (insAt f m i)) := Lib.hid (insAt_shuf hmi hjb (by omega))
      have hlt2 : ¬ ((i : Int) < (i : Int)) := by omega
      clear HL HG
      go_wp2
      obtain ⟨wo, rfl⟩ : ∃ wo : World, wo = wr := ⟨_, rfl⟩
      go_loopw [17] (fun sk wr => ∃ k : Nat, i ≤ k ∧ k ≤ m ∧ sk = .int .i64 k ∧ Hid (RowC wr g n (insAt f m k)) ∧ Below g w wr) (fun sk _ => (intOf sk).toNat)
      case atStart => exact ⟨m, hjb, Nat.le_refl _, rfl, Lib.hid (HR.out.congr fun t _ => (insAt_start f m t).symm), hB⟩
      case round =>
        obtain ⟨k, hak, hkr, rfl, HRk, hBk⟩ := hrel
        by_cases hk : i < k
        · obtain ⟨p, rfl⟩ : ∃ p, k = p + 1 := ⟨k - 1, by omega⟩
          have ck := HRk.out.cell (show p + 1 < n by omega)
          have ck1 := HRk.out.cell (show p < n by omega)
          rw [insAt_at] at ck
          rw [insAt_left (Nat.lt_succ_self p)] at ck1
          have fk := HRk.out.frozen (p + 1)
          have fk1 := HRk.out.frozen p
          have HST : Hid (∀ t, t < n → updF (updF (insAt f m (p + 1)) (p + 1) (f p)) p (f m) t = insAt f m p t) := Lib.hid fun t _ => insAt_step hkr t
          generalize f p = y at ck1 HST
          generalize hx : f m = x at ck
          rw [hx] at HST
          clear hx
          have ik0 : (0 : Int) ≤ (p : Int) := by omega
          have ik1 : (p : Int) < (n : Int) := by omega
          have ik2 : (p : Int) + 1 < (n : Int) := by omega
          have ik3 : (0 : Int) ≤ (p : Int) + 1 := by omega
          have wk1 : IntKind.i64.wrap (p : Int) = (p : Int) := IntWalk.i64_in _ (by omega)
          have wk2 : IntKind.i64.wrap ((p : Int) + 1 - 1) = (p : Int) := by rw [Int.add_sub_cancel]; exact wk1
          have n1 : ¬ p + 1 = p := by omega
          have n2 : ¬ p = p + 1 := by omega
          have hkr2 : (i : Int) < (p : Int) + 1 := by omega
          go_wp2
          go_region
          go_wp2
          go_roundw
          case rel => exact ⟨p, by omega, by omega, rfl, Lib.hid (((HRk.out.set_ (p + 1) y).set_ p x).drew.congr HST.out), ((hBk.setCell (p := ⟨g, p + 1, none⟩) (Nat.le_refl _) _).setCell (p := ⟨g, p, none⟩) (Nat.le_refl _) _).drew⟩
          case measure => simp [intOf]
        · obtain rfl : k = i := by omega
          go_wp2
          go_end0
          exact ⟨rfl, ⟨_, HRk.out, HSHUF.out, HSORT.out⟩, hBk⟩
end Go.Proofs.Ythfgbgmkiggjmaa
