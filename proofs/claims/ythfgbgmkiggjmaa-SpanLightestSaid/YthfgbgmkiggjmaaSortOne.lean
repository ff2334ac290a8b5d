/- The merge of two sorted blocks of a row where one of them has one member alone. -/
import Derived.Test.YthfgbgmkiggjmaaSortIns
namespace Go.Proofs.Ythfgbgmkiggjmaa
open Go.RowKit

/-- What a merge does. -/
def MergeOut (g n a b : Nat) (es : List E3) (f : Nat → Int) (w : World) (e : Ending) (w' : World) : Prop :=
  e = .returned (.tuple #[]) ∧ (∃ f', RowC w' g n f' ∧ Shuf a b f f' ∧ SortedF (wOf es) f' a b) ∧ Below g w w'
structure MergeIn (g n a m b B len capE : Nat) (A : Option Addr) (es : List E3) (f : Nat → Int) (w : World) : Prop where
  row : RowC w g n f
  am : a < m
  mb : m < b
  bn : b ≤ n
  nn : n ≤ 1000
  bg : B < g
  cmp : CmpAt w B A len capE es
  inn : InF f n len
  sl : SortedF (wOf es) f a m
  sr : SortedF (wOf es) f m b
  cr : ∀ i j, a ≤ i → i < m → m ≤ j → j < b → f i < f j
theorem half_facts {i j : Nat} (h : i < j) (hj : j ≤ 1000) : ∃ q : Nat, i ≤ q ∧ q < j ∧ IntKind.u64.wrap ((i : Int) + (j : Int)) = (i : Int) + (j : Int) ∧ ((i : Int) + (j : Int)) / 2 = (q : Int) ∧ IntKind.i64.wrap (q : Int) = (q : Int) ∧ IntKind.i64.wrap ((i : Int) + (j : Int)) = (i : Int) + (j : Int) ∧ q = (i + j) / 2 :=
  ⟨(i + j) / 2, by omega, by omega, by simp [IntKind.wrap, IntKind.signed, IntKind.bits]; omega, by omega, IntWalk.i64_in _ (by omega), IntWalk.i64_in _ (by omega), rfl⟩

set_option maxRecDepth 100000 in
set_option maxHeartbeats 4000000 in
theorem sym_one (g n cap a m b B len capE : Nat) (A : Option Addr) (es : List E3) (f : Nat → Int) (w : World) (h : MergeIn g n a m b B len capE A es f w) (h1 : m = a + 1) :
    Calls Try.prog 83 #[.slice (some ⟨g, 0, none⟩) n cap, .int .i64 a, .int .i64 m, .int .i64 b, cmpV B] w (MergeOut g n a b es f w) := by
  have H := Lib.hid h
  have HM := Lib.hid h1
  have ham := h.am
  have hmb := h.mb
  have hbn := h.bn
  have hnn := h.nn
  have hm1 : ((m : Int) - (a : Int) == 1) = true := by simp; omega
  have hm2 : (m : Int) - (a : Int) = 1 := by omega
  have ia0 : (0 : Int) ≤ (a : Int) := by omega
  have ia1 : (a : Int) < (n : Int) := by omega
  clear h h1
  unfold cmpV
  go_enter Try.func83, Try.ntmps83
  go_wp2
  clear hm1 hm2
  go_loopw [10, 11, 12] (fun si sj _ wr => ∃ i j : Nat, m ≤ i ∧ i ≤ j ∧ j ≤ b ∧ si = .int .i64 i ∧ sj = .int .i64 j ∧ Hid (RowC wr g n f) ∧ Hid (∀ k, m ≤ k → k < i → ltP (wOf es) (f k) (f a)) ∧ Hid (∀ k, j ≤ k → k < b → ltP (wOf es) (f a) (f k)) ∧ Below g w wr) (fun si sj _ _ => (intOf sj).toNat - (intOf si).toNat)
  case atStart => exact ⟨m, b, Nat.le_refl _, by omega, Nat.le_refl _, rfl, rfl, Lib.hid H.out.row, Lib.hid (fun k h1 h2 => by omega), Lib.hid (fun k h1 h2 => by omega), Below.refl _ _⟩
  case round =>
    obtain ⟨i, j, hmi, hij, hjb, rfl, rfl, HR, HL, HG, hB⟩ := hrel
    by_cases hlt : i < j
    · have hlt2 : (i : Int) < (j : Int) := by omega
      obtain ⟨q, hq1, hq2, hw1, hw2, hw3, hw4, hqe⟩ := half_facts hlt (by omega)
      clear hqe
      go_wp2
      have hcross : f a < f q := H.out.cr a q (Nat.le_refl _) ham (by omega) (by omega)
      have ca := HR.out.cell (show a < n by omega)
      have cq := HR.out.cell (show q < n by omega)
      obtain ⟨fa0, fa1⟩ := H.out.inn a (by omega)
      obtain ⟨fq0, fq1⟩ := H.out.inn q (by omega)
      have HCW := Lib.hid (H.out.cmp.below hB H.out.bg)
      have HCMP := Lib.hid (fun W hW => wcmp_any (f q) (f a) B len capE A es W hW fq0 fq1 fa0 fa1)
      have HNEG := Lib.hid (cmpI_neg (wOf es (f q)) (wOf es (f a)))
      have HY : Hid (wOf es (f q) < wOf es (f a) → ∀ k, m ≤ k → k < q + 1 → ltP (wOf es) (f k) (f a)) := Lib.hid fun hw k k1 k2 => by
        have h0 := (ltP.cross hcross).1 hw
        rcases Nat.lt_or_ge k q with h3 | h3
        · exact (H.out.sr k q k1 h3 (by omega)).trans h0
        · obtain rfl : k = q := by omega
          exact h0
      have HZ : Hid (¬ wOf es (f q) < wOf es (f a) → ∀ k, q ≤ k → k < b → ltP (wOf es) (f a) (f k)) := Lib.hid fun hw k k1 k2 => by
        have h0 := ltP.cross' hcross hw
        rcases Nat.lt_or_ge q k with h3 | h3
        · exact h0.trans (H.out.sr q k (by omega) h3 k2)
        · obtain rfl : k = q := by omega
          exact h0
      have iq0 : (0 : Int) ≤ (q : Int) := by omega
      have iq1 : (q : Int) < (n : Int) := by omega
      clear hcross hw1 hw2 hw3 hw4
      generalize wOf es (f q) = u at *
      generalize wOf es (f a) = v at *
      generalize f a = x at ca HCMP fa0 fa1
      generalize f q = y at cq HCMP fq0 fq1
      by_cases hw : u < v
      · have hq : cmpI u v < 0 := HNEG.out.2 hw
        have hqd : decide (cmpI u v < 0) = true := by simpa using hq
        have HN := Lib.hid (HY.out hw)
        clear HY HZ hw HNEG
        generalize cmpI u v = z at *
        go_quiet ((go_at_call 60; exact Calls.quiet_of (HCMP.out _ (by exact HCW.out.drewN _))))
        go_wp2
        go_roundw
        case rel => exact ⟨q + 1, j, by omega, by omega, hjb, by go_num, rfl, Lib.hid (HR.out.drewN _), HN, HG, below_drewN hB _⟩
        case measure => simp [intOf]; omega
      · have hq : ¬ cmpI u v < 0 := fun h => hw (HNEG.out.1 h)
        have hqd : decide (cmpI u v < 0) = false := by simpa using hq
        have HN := Lib.hid (HZ.out hw)
        clear HY HZ hw HNEG
        generalize cmpI u v = z at *
        go_quiet ((go_at_call 60; exact Calls.quiet_of (HCMP.out _ (by exact HCW.out.drewN _))))
        go_wp2
        go_roundw
        case rel => exact ⟨i, q, hmi, by omega, by omega, rfl, rfl, Lib.hid (HR.out.drewN _), HL, HN, below_drewN hB _⟩
        case measure => simp [intOf]; omega
    · obtain rfl : i = j := by omega
      obtain ⟨r, rfl⟩ : ∃ r, i = r + 1 := ⟨i - 1, by have := HM.out; omega⟩
      have har : a ≤ r := by have := HM.out; omega
      have hlt2 : ¬ ((r : Int) + 1 < (r : Int) + 1) := by omega
      have wr1 : IntKind.i64.wrap (r : Int) = (r : Int) := IntWalk.i64_in _ (by omega)
      have HSORT : Hid (SortedF (wOf es) (movR f a r) a b) := Lib.hid (movR_sorted har (by omega) (by rw [← HM.out]; exact H.out.sr) (fun t t1 t2 => HL.out t (by have := HM.out; omega) (by omega)) (fun t t1 t2 => HG.out t (by omega) t2))
      have HSHUF : Hid (Shuf a b f (movR f a r)) := Lib.hid (movR_shuf har (by omega))
      clear HL HG
      go_wp2
      obtain ⟨wo, rfl⟩ : ∃ wo : World, wo = wr := ⟨_, rfl⟩
      go_loopw [13] (fun sk wr => ∃ k : Nat, a ≤ k ∧ k ≤ r ∧ sk = .int .i64 k ∧ Hid (RowC wr g n (movR f a k)) ∧ Below g w wr) (fun sk _ => r - (intOf sk).toNat)
      case atStart => exact ⟨a, Nat.le_refl _, har, rfl, Lib.hid (HR.out.congr fun t _ => (movR_start f a t).symm), hB⟩
      case round =>
        obtain ⟨k, hak, hkr, rfl, HRk, hBk⟩ := hrel
        by_cases hk : k < r
        · have ck := HRk.out.cell (show k < n by omega)
          have ck1 := HRk.out.cell (show k + 1 < n by omega)
          rw [movR_at hak] at ck
          rw [movR_right hak (Nat.lt_succ_self k)] at ck1
          have fk := HRk.out.frozen k
          have fk1 := HRk.out.frozen (k + 1)
          have HST : Hid (∀ t, t < n → updF (updF (movR f a k) k (f (k + 1))) (k + 1) (f a) t = movR f a (k + 1) t) := Lib.hid fun t _ => movR_step hak t
          generalize f (k + 1) = y at ck1 HST
          generalize hx : f a = x at ck
          rw [hx] at HST
          clear hx
          have ik0 : (0 : Int) ≤ (k : Int) := by omega
          have ik1 : (k : Int) < (n : Int) := by omega
          have ik2 : (k : Int) + 1 < (n : Int) := by omega
          have ik3 : (0 : Int) ≤ (k : Int) + 1 := by omega
          have wk1 : IntKind.i64.wrap ((k : Int) + 1) = (k : Int) + 1 := IntWalk.i64_in _ (by omega)
          have n1 : ¬ k + 1 = k := by omega
          have n2 : ¬ k = k + 1 := by omega
          have hkr2 : (k : Int) < (r : Int) := by omega
          go_wp2
          go_region
          go_wp2
          go_roundw
          case rel => exact ⟨k + 1, by omega, by omega, by go_num, Lib.hid (((HRk.out.set_ k y).set_ (k + 1) x).drew.congr HST.out), ((hBk.setCell (p := ⟨g, k, none⟩) (Nat.le_refl _) _).setCell (p := ⟨g, k + 1, none⟩) (Nat.le_refl _) _).drew⟩
          case measure => simp [intOf]; omega
        · obtain rfl : k = r := by omega
          go_wp2
          go_end0
          exact ⟨rfl, ⟨_, HRk.out, HSHUF.out, HSORT.out⟩, hBk⟩
end Go.Proofs.Ythfgbgmkiggjmaa
