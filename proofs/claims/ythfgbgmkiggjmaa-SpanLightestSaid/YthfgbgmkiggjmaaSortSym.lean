/- The merge of two sorted blocks of a row, by what it does with parts of them. -/
import Derived.Test.YthfgbgmkiggjmaaSortLast
import Derived.Test.YthfgbgmkiggjmaaSortRot
namespace Go.Proofs.Ythfgbgmkiggjmaa
open Go.RowKit

def SymCall (g n cap B len capE : Nat) (A : Option Addr) (es : List E3) (d : Nat) : Prop := ∀ (a m b : Nat) (f : Nat → Int) (w : World), b - a < d → MergeIn g n a m b B len capE A es f w →
  Calls Try.prog 83 #[.slice (some ⟨g, 0, none⟩) n cap, .int .i64 a, .int .i64 m, .int .i64 b, cmpV B] w (MergeOut g n a b es f w)
theorem InF.shuf {f f' : Nat → Int} {a b n len : Nat} (h : InF f n len) (hs : Shuf a b f f') (hb : b ≤ n) : InF f' n len := fun i hi => by
  by_cases hin : a ≤ i ∧ i < b
  · exact hs.all (P := fun x => 0 ≤ x ∧ x < len) (fun j _ h2 => h j (by omega)) i hin.1 hin.2
  · rw [hs.out i (by omega)]; exact h i hi
/-- What holds between the two halves when the middle blocks have changed places. -/
structure MidOut (W : Int → Int) (f1 : Nat → Int) (a s d e b : Nat) : Prop where
  lt : ∀ x y, a ≤ x → x < d → d ≤ y → y < b → ltP W (f1 x) (f1 y)
  s1 : SortedF W f1 a s
  s2 : SortedF W f1 s d
  s3 : SortedF W f1 d e
  s4 : SortedF W f1 e b
  c1 : ∀ i j, a ≤ i → i < s → s ≤ j → j < d → f1 i < f1 j
  c2 : ∀ i j, d ≤ i → i < e → e ≤ j → j < b → f1 i < f1 j
theorem mid_out {W : Int → Int} {f : Nat → Int} {a m b d s e : Nat} (ham : a ≤ s) (hsm : s ≤ m) (hme : m ≤ e) (heb : e ≤ b) (hd : s + e = d + m) (hsd : s ≤ d) (hL : SortedF W f a m) (hR : SortedF W f m b)
    (h1 : a < s → e < b → ltP W (f (s - 1)) (f e)) (h2 : s < m → m < e → ltP W (f (e - 1)) (f s)) (hc : ∀ i j, a ≤ i → i < m → m ≤ j → j < b → f i < f j) : MidOut W (rotF f s m e) a s d e b := by
  obtain ⟨q1, q2, q3, q4, q5⟩ := merge_mid (lo := 0) (hi := 0) ham hsm hme heb hd hsd hL hR h1 h2 rfl
  have g1 : ∀ t, t < s → rotF f s m e t = f t := fun t ht => by unfold rotF; rw [if_neg (by omega), if_neg (by omega)]
  have g2 : ∀ t, s ≤ t → t < d → rotF f s m e t = f (t - s + m) := fun t ht ht2 => by unfold rotF; rw [if_pos (by omega)]
  have g3 : ∀ t, d ≤ t → t < e → rotF f s m e t = f (t - (e - m)) := fun t ht ht2 => by unfold rotF; rw [if_neg (by omega), if_pos (by omega)]
  have g4 : ∀ t, e ≤ t → rotF f s m e t = f t := fun t ht => by unfold rotF; rw [if_neg (by omega), if_neg (by omega)]
  refine ⟨q1, q2, q3, q4, q5, fun i j i1 i2 j1 j2 => ?_, fun i j i1 i2 j1 j2 => ?_⟩
  · rw [g1 i i2, g2 j j1 j2]; exact hc _ _ i1 (by omega) (by omega) (by omega)
  · rw [g3 i i1 i2, g4 j j1]; exact hc _ _ (by omega) (by omega) (by omega) (by omega)
/-- Both halves as they are in the end. -/
theorem mid_fin {W : Int → Int} {f f1 f2 f3 : Nat → Int} {a s d e b : Nat} (h : MidOut W f1 a s d e b) (had : a ≤ d) (hdb : d ≤ b) (h0 : Shuf a b f f1) (h1 : Shuf a d f1 f2) (k1 : SortedF W f2 a d) (h2 : Shuf d b f2 f3) (k2 : SortedF W f3 d b) : Shuf a b f f3 ∧ SortedF W f3 a b :=
  ⟨(h0.trans (h1.mono (Nat.le_refl _) hdb)).trans (h2.mono had (Nat.le_refl _)), merge_end had hdb h.lt h1 k1 h2 k2⟩
/-- Where one is, looking for the end of the left part. -/
structure MidInv (W : Int → Int) (f : Nat → Int) (a m b d s r : Nat) : Prop where
  sa : a ≤ s
  sr : s ≤ r
  rm : r ≤ m
  rd : r ≤ d
  sb : d + m ≤ s + b
  lo : a < s → d + m < s + b → ltP W (f (s - 1)) (f (d + m - s))
  hi : r < m → r < d → ltP W (f (d + m - 1 - r)) (f r)

theorem left_none {W : Int → Int} {f1 : Nat → Int} {a s d e b : Nat} (h : MidOut W f1 a s d e b) (hc : a = s ∨ s = d) : SortedF W f1 a d := by
  rcases hc with rfl | rfl
  · exact h.s2
  · exact h.s1
theorem right_none {W : Int → Int} {f1 : Nat → Int} {a s d e b : Nat} (h : MidOut W f1 a s d e b) (hc : d = e ∨ e = b) : SortedF W f1 d b := by
  rcases hc with rfl | rfl
  · exact h.s4
  · exact h.s3
set_option maxRecDepth 100000 in
set_option maxHeartbeats 16000000 in
theorem sym_step (g n cap a m b B len capE : Nat) (A : Option Addr) (es : List E3) (f : Nat → Int) (w : World) (h : MergeIn g n a m b B len capE A es f w) (h1 : m ≠ a + 1) (h2 : b ≠ m + 1) (ih : SymCall g n cap B len capE A es (b - a)) :
    Calls Try.prog 83 #[.slice (some ⟨g, 0, none⟩) n cap, .int .i64 a, .int .i64 m, .int .i64 b, cmpV B] w (MergeOut g n a b es f w) := by
  have H := Lib.hid h
  have HIH := Lib.hid ih
  have ham := h.am
  have hmb := h.mb
  have hbn := h.bn
  have hnn := h.nn
  have hm1 : ((m : Int) - (a : Int) == 1) = false := by simp; omega
  have hm2 : ¬ (m : Int) - (a : Int) = 1 := by omega
  have hm3 : ((b : Int) - (m : Int) == 1) = false := by simp; omega
  have hm4 : ¬ (b : Int) - (m : Int) = 1 := by omega
  obtain ⟨d, hd1, hd2, hw1, hw2, hw3, hw4, hde⟩ := half_facts (show a < b by omega) (by omega)
  have hdd : 2 * d ≤ a + b ∧ a + b ≤ 2 * d + 1 := by omega
  have HDD := Lib.hid hdd
  have had : a < d := by omega
  have wdm : IntKind.i64.wrap ((d : Int) + (m : Int)) = (d : Int) + (m : Int) := IntWalk.i64_in _ (by omega)
  have wdb : IntKind.i64.wrap ((d : Int) + (m : Int) - (b : Int)) = (d : Int) + (m : Int) - (b : Int) := IntWalk.i64_in _ (by omega)
  have wd1 : IntKind.i64.wrap ((d : Int) + (m : Int) - 1) = (d : Int) + (m : Int) - 1 := IntWalk.i64_in _ (by omega)
  clear h h1 h2 ih hdd hde
  unfold cmpV SymCall at *
  have hcase : (d < m ∧ ¬ (m ≤ d)) ∨ (m ≤ d ∧ ¬ (d < m)) := by omega
  rcases hcase with ⟨hc1, hc2⟩ | ⟨hc1, hc2⟩
  all_goals
    go_enter Try.func83, Try.ntmps83
    go_wp2
    clear hm1 hm2 hm3 hm4 hw1 hw2 hw3 hw4
    go_loopw [20, 21, 23] (fun ss sr _ wr => ∃ s r : Nat, ss = .int .i64 s ∧ sr = .int .i64 r ∧ Hid (MidInv (wOf es) f a m b d s r) ∧ Hid (RowC wr g n f) ∧ Below g w wr) (fun ss sr _ _ => (intOf sr).toNat - (intOf ss).toNat)
    case atStart =>
      have := HDD.out
      first
        | exact ⟨a, m, rfl, rfl, Lib.hid ⟨Nat.le_refl _, by omega, Nat.le_refl _, hc1, by omega, fun h => by omega, fun h => by omega⟩, Lib.hid H.out.row, Below.refl _ _⟩
        | exact ⟨d + m - b, d, by congr 1; omega, rfl, Lib.hid ⟨by omega, by omega, by omega, Nat.le_refl _, by omega, fun h h3 => by omega, fun h h3 => by omega⟩, Lib.hid H.out.row, Below.refl _ _⟩
    case round =>
      obtain ⟨s, r, rfl, rfl, HI, HR, hB⟩ := hrel
      have ias := HI.out.sa
      have isr := HI.out.sr
      have irm := HI.out.rm
      have ird := HI.out.rd
      have isb := HI.out.sb
      by_cases hlt : s < r
      · have hlt2 : (s : Int) < (r : Int) := by omega
        obtain ⟨q, hq1, hq2, hw1, hw2, hw3, hw4, hqe⟩ := half_facts hlt (by omega)
        clear hqe
        obtain ⟨p, hp⟩ : ∃ p, p = d + m - 1 - q := ⟨_, rfl⟩
        have hpq : (d : Int) + (m : Int) - 1 - (q : Int) = (p : Int) := by omega
        have hpw : IntKind.i64.wrap ((d : Int) + (m : Int) - 1 - (q : Int)) = (p : Int) := by rw [hpq]; exact IntWalk.i64_in _ (by omega)
        have hpw2 : IntKind.i64.wrap (p : Int) = (p : Int) := IntWalk.i64_in _ (by omega)
        have hpm : m ≤ p := by omega
        have hpb : p < b := by omega
        have HP := Lib.hid hp
        clear hp
        have hcross : f q < f p := H.out.cr q p (by omega) (by omega) hpm hpb
        have ca := HR.out.cell (show p < n by omega)
        have cq := HR.out.cell (show q < n by omega)
        obtain ⟨fa0, fa1⟩ := H.out.inn p (by omega)
        obtain ⟨fq0, fq1⟩ := H.out.inn q (by omega)
        have HCW := Lib.hid (H.out.cmp.below hB H.out.bg)
        have HCMP := Lib.hid (fun W hW => wcmp_any (f p) (f q) B len capE A es W hW fa0 fa1 fq0 fq1)
        have HNEG := Lib.hid (cmpI_neg (wOf es (f p)) (wOf es (f q)))
        have HY : Hid (¬ wOf es (f p) < wOf es (f q) → MidInv (wOf es) f a m b d (q + 1) r) := Lib.hid fun hw =>
          ⟨by omega, by omega, irm, ird, by omega, fun _ _ => by rw [show d + m - (q + 1) = p by have := HP.out; omega]; exact ltP.cross' hcross hw, HI.out.hi⟩
        have HZ : Hid (wOf es (f p) < wOf es (f q) → MidInv (wOf es) f a m b d s q) := Lib.hid fun hw =>
          ⟨ias, hq1, by omega, by omega, isb, HI.out.lo, fun _ _ => by rw [← HP.out]; exact (ltP.cross hcross).1 hw⟩
        have iq0 : (0 : Int) ≤ (q : Int) := by omega
        have iq1 : (q : Int) < (n : Int) := by omega
        have ip0 : (0 : Int) ≤ (p : Int) := by omega
        have ip1 : (p : Int) < (n : Int) := by omega
        clear hcross
        generalize wOf es (f p) = u at *
        generalize wOf es (f q) = v at *
        generalize f p = x at ca HCMP fa0 fa1
        generalize f q = y at cq HCMP fq0 fq1
        by_cases hw : u < v
        · have hq : cmpI u v < 0 := HNEG.out.2 hw
          have hqd : decide (cmpI u v < 0) = true := by simpa using hq
          have HN := Lib.hid (HZ.out hw)
          clear HY HZ hw HNEG
          generalize cmpI u v = z at *
          go_wp2
          go_quiet ((go_at_call 60; exact Calls.quiet_of (HCMP.out _ (by exact HCW.out.drewN _))))
          go_wp2
          go_roundw
          case rel => exact ⟨s, q, rfl, rfl, HN, Lib.hid (HR.out.drewN _), below_drewN hB _⟩
          case measure => simp [intOf]; omega
        · have hq : ¬ cmpI u v < 0 := fun h => hw (HNEG.out.1 h)
          have hqd : decide (cmpI u v < 0) = false := by simpa using hq
          have HN := Lib.hid (HY.out hw)
          clear HY HZ hw HNEG
          generalize cmpI u v = z at *
          go_wp2
          go_quiet ((go_at_call 60; exact Calls.quiet_of (HCMP.out _ (by exact HCW.out.drewN _))))
          go_wp2
          go_roundw
          case rel => exact ⟨q + 1, r, by go_num, rfl, HN, Lib.hid (HR.out.drewN _), below_drewN hB _⟩
          case measure => simp [intOf]; omega
      · obtain rfl : s = r := by omega
        obtain ⟨e, he⟩ : ∃ e, s + e = d + m := ⟨d + m - s, by omega⟩
        have hem : m ≤ e := by omega
        have heb : e ≤ b := by omega
        have ee : (d : Int) + (m : Int) - (s : Int) = (e : Int) := by omega
        have we : IntKind.i64.wrap ((d : Int) + (m : Int) - (s : Int)) = (e : Int) := by rw [ee]; exact IntWalk.i64_in _ (by omega)
        have we2 : IntKind.i64.wrap (e : Int) = (e : Int) := IntWalk.i64_in _ (by omega)
        have HMO : Hid (MidOut (wOf es) (rotF f s m e) a s d e b) := Lib.hid (mid_out ias irm hem heb he ird H.out.sl H.out.sr
          (fun k1 k2 => by have h := HI.out.lo k1 (by omega); rwa [show d + m - s = e by omega] at h)
          (fun k1 k2 => by have h := HI.out.hi k1 (by omega); rwa [show d + m - 1 - s = e - 1 by omega] at h) H.out.cr)
        have HS1 : Hid (Shuf a b f (rotF f s m e)) := Lib.hid ((rotF_shuf (by omega) hem).mono ias heb)
        have HROT : Hid (s = m ∨ e = m → RowC wr g n (rotF f s m e)) := Lib.hid fun hc => HR.out.congr fun t _ => by
          rcases hc with rfl | rfl
          · exact (rotF_left hem).symm
          · exact (rotF_right f s e t).symm
        have HIN1 := Lib.hid (H.out.inn.shuf HS1.out hbn)
        have HTURN := Lib.hid (fun W hW h1 h2 => rotate_any g n cap s m e (.func (.func 60) #[] #[.pointer (some ⟨B, 0, none⟩)]) f W hW h1 h2 (by omega) hnn)
        generalize rotF f s m e = f1 at *
        have HLEFT : Hid (∀ W, RowC W g n f1 → Below g w W → a < s → s < d → Calls Try.prog 83 #[.slice (some ⟨g, 0, none⟩) n cap, .int .i64 a, .int .i64 s, .int .i64 d, .func (.func 60) #[] #[.pointer (some ⟨B, 0, none⟩)]] W (MergeOut g n a d es f1 W)) := Lib.hid fun W hW hb k1 k2 =>
          HIH.out a s d f1 W (by omega) ⟨hW, k1, k2, by omega, hnn, H.out.bg, H.out.cmp.below hb H.out.bg, HIN1.out, HMO.out.s1, HMO.out.s2, HMO.out.c1⟩
        have HRIGHT : Hid (∀ f2 W, RowC W g n f2 → Below g w W → Shuf a d f1 f2 → d < e → e < b → Calls Try.prog 83 #[.slice (some ⟨g, 0, none⟩) n cap, .int .i64 d, .int .i64 e, .int .i64 b, .func (.func 60) #[] #[.pointer (some ⟨B, 0, none⟩)]] W (MergeOut g n d b es f2 W)) := Lib.hid fun f2 W hW hb hs k1 k2 =>
          HIH.out d e b f2 W (by omega) ⟨hW, k1, k2, hbn, hnn, H.out.bg, H.out.cmp.below hb H.out.bg, HIN1.out.shuf hs (by omega), HMO.out.s3.out hs (.inr (Nat.le_refl _)), HMO.out.s4.out hs (.inr (by omega)), fun i j i1 i2 j1 j2 => by rw [hs.out i (.inr i1), hs.out j (.inr (by omega))]; exact HMO.out.c2 i j i1 i2 j1 j2⟩
        have HFIN : Hid (∀ f2 f3 W, RowC W g n f3 → Below g w W → Shuf a d f1 f2 → SortedF (wOf es) f2 a d → Shuf d b f2 f3 → SortedF (wOf es) f3 d b → MergeOut g n a b es f w (.returned (.tuple #[])) W) := Lib.hid fun f2 f3 W hW hb t1 t2 t3 t4 => by
          obtain ⟨k1, k2⟩ := mid_fin HMO.out (by omega) (by omega) HS1.out t1 t2 t3 t4
          exact ⟨rfl, ⟨f3, hW, k1, k2⟩, hb⟩
        have HLN : Hid (a = s ∨ s = d → SortedF (wOf es) f1 a d) := Lib.hid (left_none HMO.out)
        have HRN : Hid (d = e ∨ e = b → SortedF (wOf es) f1 d b) := Lib.hid (right_none HMO.out)
        clear HI HIH HMO HS1 HIN1 isb
        by_cases hA : s < m ∧ s < d
        · by_cases hAs : a < s
          · by_cases hEb : e < b
            · skip
              have dx1 : decide ((s : Int) < (m : Int)) = true := by simp; omega
              have dy1 : decide (s < m) = true := by simp; omega
              have hx1 : s < m := by omega
              have dx2 : decide ((m : Int) < (e : Int)) = true := by simp; omega
              have dy2 : decide (m < e) = true := by simp; omega
              have hx2 : m < e := by omega
              have dx3 : decide ((a : Int) < (s : Int)) = true := by simp; omega
              have dy3 : decide (a < s) = true := by simp; omega
              have hx3 : a < s := by omega
              have dx4 : decide ((s : Int) < (d : Int)) = true := by simp; omega
              have dy4 : decide (s < d) = true := by simp; omega
              have hx4 : s < d := by omega
              have dx5 : decide ((d : Int) < (e : Int)) = true := by simp; omega
              have dy5 : decide (d < e) = true := by simp; omega
              have hx5 : d < e := by omega
              have dx6 : decide ((e : Int) < (b : Int)) = true := by simp; omega
              have dy6 : decide (e < b) = true := by simp; omega
              have hx6 : e < b := by omega
              go_wp2_with fail
              refine (HTURN.out _ (by exact HR.out) hx1 hx2).mono ?_
              rintro e1 w1 ⟨rfl, hr, hb1⟩
              have HR1 := Lib.hid hr
              have HB1 := Lib.hid (hB.trans hb1)
              clear hr hb1
              go_wp2_with fail
              refine (HLEFT.out _ (by exact HR1.out) HB1.out hx3 hx4).mono ?_
              rintro e2 w2 ⟨rfl, ⟨f2, hr2, hs2, hk2⟩, hb2⟩
              have HR2 := Lib.hid hr2
              have HB2 := Lib.hid (HB1.out.trans hb2)
              have HS2 := Lib.hid hs2
              have HK2 := Lib.hid hk2
              clear hr2 hb2 hs2 hk2
              go_wp2_with fail
              refine (HRIGHT.out f2 _ (by exact HR2.out) HB2.out HS2.out hx5 hx6).mono ?_
              rintro e3 w3 ⟨rfl, ⟨f3, hr3, hs3, hk3⟩, hb3⟩
              have HR3 := Lib.hid hr3
              have HB3 := Lib.hid (HB2.out.trans hb3)
              have HS3 := Lib.hid hs3
              have HK3 := Lib.hid hk3
              clear hr3 hb3 hs3 hk3
              go_wp2_with fail
              go_end0
              exact HFIN.out f2 f3 _ HR3.out HB3.out HS2.out HK2.out HS3.out HK3.out
            · skip
              have dx1 : decide ((s : Int) < (m : Int)) = true := by simp; omega
              have dy1 : decide (s < m) = true := by simp; omega
              have hx1 : s < m := by omega
              have dx2 : decide ((m : Int) < (e : Int)) = true := by simp; omega
              have dy2 : decide (m < e) = true := by simp; omega
              have hx2 : m < e := by omega
              have dx3 : decide ((a : Int) < (s : Int)) = true := by simp; omega
              have dy3 : decide (a < s) = true := by simp; omega
              have hx3 : a < s := by omega
              have dx4 : decide ((s : Int) < (d : Int)) = true := by simp; omega
              have dy4 : decide (s < d) = true := by simp; omega
              have hx4 : s < d := by omega
              have dx5 : decide ((d : Int) < (e : Int)) = true := by simp; omega
              have dy5 : decide (d < e) = true := by simp; omega
              have hx5 : d < e := by omega
              have dx6 : decide ((e : Int) < (b : Int)) = false := by simp; omega
              have dy6 : decide (e < b) = false := by simp; omega
              have hx6 : ¬ e < b := by omega
              go_wp2_with fail
              refine (HTURN.out _ (by exact HR.out) hx1 hx2).mono ?_
              rintro e1 w1 ⟨rfl, hr, hb1⟩
              have HR1 := Lib.hid hr
              have HB1 := Lib.hid (hB.trans hb1)
              clear hr hb1
              go_wp2_with fail
              refine (HLEFT.out _ (by exact HR1.out) HB1.out hx3 hx4).mono ?_
              rintro e2 w2 ⟨rfl, ⟨f2, hr2, hs2, hk2⟩, hb2⟩
              have HR2 := Lib.hid hr2
              have HB2 := Lib.hid (HB1.out.trans hb2)
              have HS2 := Lib.hid hs2
              have HK2 := Lib.hid hk2
              clear hr2 hb2 hs2 hk2
              go_wp2_with fail
              go_end0
              exact HFIN.out f2 f2 _ HR2.out HB2.out HS2.out HK2.out (Shuf.refl _ _ _) (SortedF.out (HRN.out (by omega)) HS2.out (.inr (Nat.le_refl _)))
          · by_cases hEb : e < b
            · skip
              have dx1 : decide ((s : Int) < (m : Int)) = true := by simp; omega
              have dy1 : decide (s < m) = true := by simp; omega
              have hx1 : s < m := by omega
              have dx2 : decide ((m : Int) < (e : Int)) = true := by simp; omega
              have dy2 : decide (m < e) = true := by simp; omega
              have hx2 : m < e := by omega
              have dx3 : decide ((a : Int) < (s : Int)) = false := by simp; omega
              have dy3 : decide (a < s) = false := by simp; omega
              have hx3 : ¬ a < s := by omega
              have dx4 : decide ((s : Int) < (d : Int)) = true := by simp; omega
              have dy4 : decide (s < d) = true := by simp; omega
              have hx4 : s < d := by omega
              have dx5 : decide ((d : Int) < (e : Int)) = true := by simp; omega
              have dy5 : decide (d < e) = true := by simp; omega
              have hx5 : d < e := by omega
              have dx6 : decide ((e : Int) < (b : Int)) = true := by simp; omega
              have dy6 : decide (e < b) = true := by simp; omega
              have hx6 : e < b := by omega
              go_wp2_with fail
              refine (HTURN.out _ (by exact HR.out) hx1 hx2).mono ?_
              rintro e1 w1 ⟨rfl, hr, hb1⟩
              have HR1 := Lib.hid hr
              have HB1 := Lib.hid (hB.trans hb1)
              clear hr hb1
              go_wp2_with fail
              refine (HRIGHT.out f1 _ (by exact HR1.out) HB1.out (Shuf.refl _ _ _) hx5 hx6).mono ?_
              rintro e3 w3 ⟨rfl, ⟨f3, hr3, hs3, hk3⟩, hb3⟩
              have HR3 := Lib.hid hr3
              have HB3 := Lib.hid (HB1.out.trans hb3)
              have HS3 := Lib.hid hs3
              have HK3 := Lib.hid hk3
              clear hr3 hb3 hs3 hk3
              go_wp2_with fail
              go_end0
              exact HFIN.out f1 f3 _ HR3.out HB3.out (Shuf.refl _ _ _) (HLN.out (by omega)) HS3.out HK3.out
            · skip
              have dx1 : decide ((s : Int) < (m : Int)) = true := by simp; omega
              have dy1 : decide (s < m) = true := by simp; omega
              have hx1 : s < m := by omega
              have dx2 : decide ((m : Int) < (e : Int)) = true := by simp; omega
              have dy2 : decide (m < e) = true := by simp; omega
              have hx2 : m < e := by omega
              have dx3 : decide ((a : Int) < (s : Int)) = false := by simp; omega
              have dy3 : decide (a < s) = false := by simp; omega
              have hx3 : ¬ a < s := by omega
              have dx4 : decide ((s : Int) < (d : Int)) = true := by simp; omega
              have dy4 : decide (s < d) = true := by simp; omega
              have hx4 : s < d := by omega
              have dx5 : decide ((d : Int) < (e : Int)) = true := by simp; omega
              have dy5 : decide (d < e) = true := by simp; omega
              have hx5 : d < e := by omega
              have dx6 : decide ((e : Int) < (b : Int)) = false := by simp; omega
              have dy6 : decide (e < b) = false := by simp; omega
              have hx6 : ¬ e < b := by omega
              go_wp2_with fail
              refine (HTURN.out _ (by exact HR.out) hx1 hx2).mono ?_
              rintro e1 w1 ⟨rfl, hr, hb1⟩
              have HR1 := Lib.hid hr
              have HB1 := Lib.hid (hB.trans hb1)
              clear hr hb1
              go_wp2_with fail
              go_end0
              exact HFIN.out f1 f1 _ HR1.out HB1.out (Shuf.refl _ _ _) (HLN.out (by omega)) (Shuf.refl _ _ _) (HRN.out (by omega))
        · by_cases hSm : s < m
          · skip
            have dx1 : decide ((s : Int) < (m : Int)) = true := by simp; omega
            have dy1 : decide (s < m) = true := by simp; omega
            have hx1 : s < m := by omega
            have dx2 : decide ((m : Int) < (e : Int)) = false := by simp; omega
            have dy2 : decide (m < e) = false := by simp; omega
            have hx2 : ¬ m < e := by omega
            have dx3 : decide ((a : Int) < (s : Int)) = true := by simp; omega
            have dy3 : decide (a < s) = true := by simp; omega
            have hx3 : a < s := by omega
            have dx4 : decide ((s : Int) < (d : Int)) = false := by simp; omega
            have dy4 : decide (s < d) = false := by simp; omega
            have hx4 : ¬ s < d := by omega
            have dx5 : decide ((d : Int) < (e : Int)) = true := by simp; omega
            have dy5 : decide (d < e) = true := by simp; omega
            have hx5 : d < e := by omega
            have dx6 : decide ((e : Int) < (b : Int)) = true := by simp; omega
            have dy6 : decide (e < b) = true := by simp; omega
            have hx6 : e < b := by omega
            have HR1 := Lib.hid (HROT.out (by omega))
            have HB1 := Lib.hid hB
            go_wp2_with fail
            refine (HRIGHT.out f1 _ (by exact HR1.out) HB1.out (Shuf.refl _ _ _) hx5 hx6).mono ?_
            rintro e3 w3 ⟨rfl, ⟨f3, hr3, hs3, hk3⟩, hb3⟩
            have HR3 := Lib.hid hr3
            have HB3 := Lib.hid (HB1.out.trans hb3)
            have HS3 := Lib.hid hs3
            have HK3 := Lib.hid hk3
            clear hr3 hb3 hs3 hk3
            go_wp2_with fail
            go_end0
            exact HFIN.out f1 f3 _ HR3.out HB3.out (Shuf.refl _ _ _) (HLN.out (by omega)) HS3.out HK3.out
          · by_cases hSd : s < d
            · skip
              have dx1 : decide ((s : Int) < (m : Int)) = false := by simp; omega
              have dy1 : decide (s < m) = false := by simp; omega
              have hx1 : ¬ s < m := by omega
              have dx3 : decide ((a : Int) < (s : Int)) = true := by simp; omega
              have dy3 : decide (a < s) = true := by simp; omega
              have hx3 : a < s := by omega
              have dx4 : decide ((s : Int) < (d : Int)) = true := by simp; omega
              have dy4 : decide (s < d) = true := by simp; omega
              have hx4 : s < d := by omega
              have dx5 : decide ((d : Int) < (e : Int)) = false := by simp; omega
              have dy5 : decide (d < e) = false := by simp; omega
              have hx5 : ¬ d < e := by omega
              have HR1 := Lib.hid (HROT.out (by omega))
              have HB1 := Lib.hid hB
              go_wp2_with fail
              refine (HLEFT.out _ (by exact HR1.out) HB1.out hx3 hx4).mono ?_
              rintro e2 w2 ⟨rfl, ⟨f2, hr2, hs2, hk2⟩, hb2⟩
              have HR2 := Lib.hid hr2
              have HB2 := Lib.hid (HB1.out.trans hb2)
              have HS2 := Lib.hid hs2
              have HK2 := Lib.hid hk2
              clear hr2 hb2 hs2 hk2
              go_wp2_with fail
              go_end0
              exact HFIN.out f2 f2 _ HR2.out HB2.out HS2.out HK2.out (Shuf.refl _ _ _) (SortedF.out (HRN.out (by omega)) HS2.out (.inr (Nat.le_refl _)))
            · skip
              have dx1 : decide ((s : Int) < (m : Int)) = false := by simp; omega
              have dy1 : decide (s < m) = false := by simp; omega
              have hx1 : ¬ s < m := by omega
              have dx3 : decide ((a : Int) < (s : Int)) = true := by simp; omega
              have dy3 : decide (a < s) = true := by simp; omega
              have hx3 : a < s := by omega
              have dx4 : decide ((s : Int) < (d : Int)) = false := by simp; omega
              have dy4 : decide (s < d) = false := by simp; omega
              have hx4 : ¬ s < d := by omega
              have dx5 : decide ((d : Int) < (e : Int)) = false := by simp; omega
              have dy5 : decide (d < e) = false := by simp; omega
              have hx5 : ¬ d < e := by omega
              have HR1 := Lib.hid (HROT.out (by omega))
              have HB1 := Lib.hid hB
              go_wp2_with fail
              go_end0
              exact HFIN.out f1 f1 _ HR1.out HB1.out (Shuf.refl _ _ _) (HLN.out (by omega)) (Shuf.refl _ _ _) (HRN.out (by omega))
theorem sym_all (g n cap B len capE : Nat) (A : Option Addr) (es : List E3) : ∀ d, SymCall g n cap B len capE A es d
  | 0 => fun a m b _ _ hd _ => absurd hd (Nat.not_lt_zero _)
  | d + 1 => fun a m b f w hd h => by
    have ih := sym_all g n cap B len capE A es d
    by_cases h1 : m = a + 1
    · exact sym_one g n cap a m b B len capE A es f w h h1
    · by_cases h2 : b = m + 1
      · exact sym_last g n cap a m b B len capE A es f w h h1 h2
      · exact sym_step g n cap a m b B len capE A es f w h h1 h2 (fun a' m' b' f' w' hd' h' => ih a' m' b' f' w' (by omega) h')
set_option maxRecDepth 100000 in
theorem sym_any (g n cap a m b B len capE : Nat) (A : Option Addr) (es : List E3) (f : Nat → Int) (w : World) (h : MergeIn g n a m b B len capE A es f w) :
    Calls Try.prog 83 #[.slice (some ⟨g, 0, none⟩) n cap, .int .i64 a, .int .i64 m, .int .i64 b, cmpV B] w (MergeOut g n a b es f w) :=
  sym_all g n cap B len capE A es (b - a + 1) a m b f w (by omega) h
end Go.Proofs.Ythfgbgmkiggjmaa
