/- The reference's most: how many of those from one on can be paired, with a table of what was reckoned already. -/
import Derived.Test.YtblbjiogojldhaaDoorBitSize
import Derived.Test.YtblbjiogojldhaaDoorKuhnP
import Derived.Maps.OwnOps
import Derived.Maps.OwnSet
import Derived.IntWalk
namespace Go.Proofs.YtblbjiogojldhaaDoor
open Go.RowKit Go.Maps

theorem keyedU : Keyed Tryd.prog 31 := int_keyed Tryd.underlying31
theorem zeroI (w : World) : (zeroValue 3).run Tryd.prog w = .ok (.int .i64 0) w := by kernel_rfl
def keyM (t i : Nat) : Lit := .int .u32 ((t : Int) * 16 + (i : Int))
/-- What stands in the table is right. -/
def TabOK (xs : List Nat) (len : Nat) (D : DataW Unit) : Prop := ∀ i t, i ≤ len → t < 256 → Maps.has D (keyM t i) = true → D.atKey (keyM t i) (.lit (.int .i64 0)) = .lit (.int .i64 (mxR (nearF xs) 8 (len - i) i (cT t) : Nat))
def MapOK (xs : List Nat) (len gm n : Nat) (w : World) : Prop := ∃ D : DataW Unit, w.ownsMap Tryd.prog 31 (plainElem Tryd.prog 3) gm n D ∧ TabOK xs len D
theorem grown_two {a b c : World} {row : Option Nat} (h : a.grownBy b row) (k : b.grownBy c row) : a.grownBy c row :=
  ⟨k.os.trans h.os, k.tape.trans h.tape, k.output.trans h.output, Nat.le_trans h.size k.size, fun i hi hne => (k.block i (Nat.lt_of_lt_of_le hi h.size) hne).trans (h.block i hi hne)⟩
theorem WordsAt.grown {w w' : World} {gm n : Nat} {A : Option Addr} {xs : List Nat} (h : WordsAt w gm A n xs) (hg : w.grownBy w' (some gm)) (hl : gm ≤ w.heap.size) : WordsAt w' gm A n xs :=
  h.keep fun p hp => World.cell?_of_block (w := w) (hg.block p.block (by omega) (fun e => by injection e; omega))
theorem key_is (t i : Nat) : WideAt.IsKeyLit (keyM t i) := trivial
theorem TabOK.put {xs : List Nat} {len i t : Nat} {D : DataW Unit} (h : TabOK xs len D) (hD : IsMap D) (hl : len ≤ 8) (hi : i ≤ len) :
    TabOK xs len (D.put (keyM t i) (.lit (.int .i64 (mxR (nearF xs) 8 (len - i) i (cT t) : Nat)))) := fun i' t' hi' ht' hh => by
  by_cases he : t' = t ∧ i' = i
  · obtain ⟨rfl, rfl⟩ := he
    rw [atKey_put_same hD (key_is _ _)]
  · have hne : keyM t' i' ≠ keyM t i := fun e => by
      unfold keyM at e
      injection e with _ e
      exact he ⟨by omega, by omega⟩
    rw [has_put_other hne] at hh
    rw [atKey_put_other hne]
    exact h i' t' hi' ht' hh
theorem or_add_dec : ∀ t, t < 256 → ∀ j, j < 8 → t.testBit j = false → t ||| 2 ^ j = t + 2 ^ j := by decide +kernel
/-- What the one on the left may get by those on the right below j. -/
def fM (xs : List Nat) (r i t j : Nat) : Nat := if nearF xs i j = true ∧ t.testBit j = false then 1 + mxR (nearF xs) 8 r (i + 1) (cT (t + 2 ^ j)) else 0
def mxTo (xs : List Nat) (r i t k : Nat) : Nat := maxTo (fM xs r i t) k (mxR (nearF xs) 8 r (i + 1) (cT t))
theorem mxTo_end (xs : List Nat) (r i t : Nat) (ht : t < 256) : mxTo xs r i t 8 = mxR (nearF xs) 8 (r + 1) i (cT t) := by
  unfold mxTo
  simp only [mxR]
  refine maxTo_congr 8 fun j hj => ?_
  unfold fM
  by_cases h : nearF xs i j = true ∧ t.testBit j = false
  · rw [if_pos h, if_pos ⟨h.1, by unfold cT; rw [if_neg (by simp [h.2])]; omega⟩, cT_dec h.2, or_add_dec t ht j hj h.2]
  · rw [if_neg h, if_neg fun g => h ⟨g.1, by
      have := g.2
      unfold cT at this
      cases hb : t.testBit j with
      | false => rfl
      | true => rw [hb, if_pos rfl] at this; omega⟩]
theorem mxTo_succ (xs : List Nat) (r i t k : Nat) : mxTo xs r i t (k + 1) = max (mxTo xs r i t k) (fM xs r i t k) := rfl
theorem fM_no {xs : List Nat} {r i t k : Nat} (h : ¬ (nearF xs i k = true ∧ t.testBit k = false)) : mxTo xs r i t (k + 1) = mxTo xs r i t k := by
  rw [mxTo_succ]; unfold fM; rw [if_neg h]; exact Nat.max_eq_left (Nat.zero_le _)
theorem fM_yes {xs : List Nat} {r i t k : Nat} (h1 : nearF xs i k = true) (h2 : t.testBit k = false) : fM xs r i t k = 1 + mxR (nearF xs) 8 r (i + 1) (cT (t + 2 ^ k)) := if_pos ⟨h1, h2⟩

set_option maxRecDepth 100000 in
set_option maxHeartbeats 4000000 in
theorem refMost_any (len cap gm : Nat) (A : Option Addr) (xs : List Nat) (hl : len ≤ 8) (hx : W8 xs) (r : Nat) :
    ∀ (i t n : Nat) (w : World), i + r = len → t < 256 → n + 10 ^ r ≤ 1000000000000 → WordsAt w gm A len xs → MapOK xs len gm n w →
    Calls Tryd.prog 21 #[.slice A len cap, .int .i64 i, .int .u32 t, .map (some gm)] w fun e w' => e = .returned (.int .i64 (mxR (nearF xs) 8 r i (cT t) : Nat)) ∧ MapOK xs len gm (n + 10 ^ r) w' ∧ w.grownBy w' (some gm) := by
  induction r with
  | zero =>
    intro i t n w hi ht hn hA hM
    have HM : Hid (MapOK xs len gm (n + 10 ^ 0) w) := Lib.hid (by obtain ⟨D, h1, h2⟩ := hM; exact ⟨D, h1.mono (by omega), h2⟩)
    obtain rfl : i = len := by omega
    clear hA hM hi hn
    go_enter Tryd.func21, Tryd.ntmps21
    go_wp2_with fail
    go_ret
    exact ⟨rfl, HM.out, World.grownBy.refl _ _⟩
  | succ r ih =>
    intro i t n w hi ht hn hA hM
    have HIH := Lib.hid ih
    have HA := Lib.hid hA
    have HX := Lib.hid hx
    have hil : i < len := by omega
    have hne : ((i : Int) == (len : Int)) = false := by
      have : ¬ (i : Int) = (len : Int) := by omega
      simpa using this
    obtain ⟨D, hown, htab⟩ := hM
    have HT := Lib.hid htab
    have HO := Lib.hid hown
    have hp10 : 1 ≤ 10 ^ r := Nat.one_le_pow _ _ (by omega)
    have HP : Hid (10 ^ (r + 1) = 10 * 10 ^ r) := Lib.hid (by rw [Nat.pow_succ]; omega)
    have HN : Hid (n + 10 * 10 ^ r ≤ 1000000000000) := Lib.hid (by rw [← HP.out]; exact hn)
    have hkey : keyOf Tryd.prog 31 (.int .u32 ((t : Int) * 16 + (i : Int))) = some (.int .u32 ((t : Int) * 16 + (i : Int))) := keyOf_int_mk Tryd.underlying31 (by simp [Lit.wf, IntKind.min, IntKind.max, IntKind.signed, IntKind.bits]; omega)
    have HRI : Hid (len - i = r + 1) := Lib.hid (by omega)
    clear hx ih hA htab hn
    cases hh : Maps.has D (.int .u32 ((t : Int) * 16 + (i : Int)))
    · have HB1 := Lib.hid (HIH.out (i + 1) t)
      have hpl := Nat.pow_lt_pow_right (a := 2) (by decide) (show 7 < 8 by omega)
      have m0 := mxR_le_len (near := nearF xs) (n := 8) r (i + 1) (cT t)
      have hgl0 : gm ≤ w.heap.size := Nat.le_of_lt HO.out.lt
      have HAk : Hid (∀ W, w.grownBy W (some gm) → WordsAt W gm A len xs) := Lib.hid fun W h => HA.out.grown h hgl0
      clear hgl0
      have HC1 : Hid (Calls Tryd.prog 21 #[.slice A len cap, .int .i64 ((i : Int) + 1), .int .u32 t, .map (some gm)] w fun e w' => e = .returned (.int .i64 (mxTo xs r i t 0 : Nat)) ∧ MapOK xs len gm (n + 10 ^ r) w' ∧ w.grownBy w' (some gm)) := Lib.hid (HIH.out (i + 1) t n w (by omega) ht (by have := HN.out; omega) HA.out ⟨D, HO.out, HT.out⟩)
      have HE0 : Hid (mxTo xs r i t 0 ≤ 8) := Lib.hid (by show mxR (nearF xs) 8 r (i + 1) (cT t) ≤ 8; omega)
      clear m0
      go_enter Tryd.func21, Tryd.ntmps21
      go_wp2_with (at_lookup; refine wpList_lookup_own_ok_int _ rfl _ _ 42 rfl 31 3 .i64 keyedU Tryd.underlying42 Tryd.underlying3 (zeroI _) gm n D rfl hown _ _ rfl hkey ?_; intro c hat hwc; clear hat hwc)
      refine HC1.out.mono ?_
      rintro e w1 ⟨rfl, hM1, hB1⟩
      have HM1 := Lib.hid hM1
      have HBB := Lib.hid hB1
      clear hM1 hB1 HC1 hh hown
      go_wp2_with fail
      go_loopw [10, 12] (fun m j wr => ∃ k : Nat, k ≤ 8 ∧ j = .int .i64 k ∧ m = .int .i64 (mxTo xs r i t k : Nat) ∧ mxTo xs r i t k ≤ 9 ∧ Hid (MapOK xs len gm (n + 10 ^ r + k * 10 ^ r) wr) ∧ Hid (w.grownBy wr (some gm))) (fun _ j _ => 8 - (intOf j).toNat)
      case atStart => exact ⟨0, by omega, rfl, rfl, by have := HE0.out; omega, by rw [Nat.zero_mul, Nat.add_zero]; exact HM1, HBB⟩
      case round =>
        clear HM1 HBB HE0
        obtain ⟨k, hk, rfl, rfl, h9, HM, HB⟩ := hrel
        by_cases hlt : k < 8
        · have HW := Lib.hid (HAk.out wr HB.out)
          obtain ⟨b, off, rfl, _, hc⟩ := HW.out.at_ hil
          have hxi := HX.out.at_ i
          have HNI : Hid (nearF xs i k = (xs.getD i 0).testBit k) := Lib.hid rfl
          have HMN : Hid (MapOK xs len gm (n + 10 ^ r + (k + 1) * 10 ^ r) wr) := Lib.hid (by
            obtain ⟨D', h1, h2⟩ := HM.out
            exact ⟨D', h1.mono (by rw [Nat.succ_mul]; omega), h2⟩)
          have ii0 : (0 : Int) ≤ (i : Int) := by omega
          have ii1 : (i : Int) < (len : Int) := by omega
          have ik0 : (0 : Int) ≤ (k : Int) := by omega
          have ik1 : (k : Int) < 8 := by omega
          have hk32 : k < 32 := by omega
          generalize xs.getD i 0 = X at hc hxi HNI
          cases hb1 : X.testBit k
          · have HS : Hid (mxTo xs r i t (k + 1) = mxTo xs r i t k) := Lib.hid (fM_no (by rw [HNI.out, hb1]; rintro ⟨h, _⟩; cases h))
            have HB1' := Lib.hid hb1
            clear hb1 HNI HM
            generalize hme : mxTo xs r i t k = M at h9 HS
            clear hme
            go_wp2_with fail
            refine (bit_nat X k false (by omega) hk32 HB1'.out _).mono ?_
            rintro e w2 ⟨rfl, rfl⟩
            go_wp2_with fail
            go_roundw
            case rel => exact ⟨k + 1, by omega, by go_num, by rw [HS.out], by rw [HS.out]; exact h9, HMN, HB⟩
            case measure => simp [intOf]; omega
          · have HB1' := Lib.hid hb1
            cases hb2 : t.testBit k
            · have HB2' := Lib.hid hb2
              have hpk : 2 ^ k < 2 ^ 8 := Nat.pow_lt_pow_right (by decide) hlt
              rw [show 2 ^ 8 = 256 from rfl] at hpk
              have htp : t + 2 ^ k < 256 := by rw [← or_add_dec t ht k hlt hb2]; exact Nat.or_lt_two_pow (n := 8) ht hpk
              have hsk : (2 : Int) ^ k % 4294967296 = ((2 ^ k : Nat) : Int) := pow_mod k (by omega)
              have htk : IntKind.u32.wrap ((2 : Int) ^ k) = ((2 ^ k : Nat) : Int) := by rw [wrap_u32n]; exact hsk
              have HCALL : Hid (Calls Tryd.prog 21 #[.slice (some ⟨b, off, none⟩) len cap, .int .i64 ((i : Int) + 1), .int .u32 ((t : Int) + ((2 ^ k : Nat) : Int)), .map (some gm)] wr fun e w' => e = .returned (.int .i64 (mxR (nearF xs) 8 r (i + 1) (cT (t + 2 ^ k)) : Nat)) ∧ MapOK xs len gm (n + 10 ^ r + (k + 1) * 10 ^ r) w' ∧ wr.grownBy w' (some gm)) := Lib.hid (by
                have h := HIH.out (i + 1) (t + 2 ^ k) (n + 10 ^ r + k * 10 ^ r) wr (by omega) htp (by have := HN.out; have : k * 10 ^ r ≤ 7 * 10 ^ r := Nat.mul_le_mul_right _ (by omega); omega) HW.out HM.out
                rw [show n + 10 ^ r + k * 10 ^ r + 10 ^ r = n + 10 ^ r + (k + 1) * 10 ^ r by rw [Nat.succ_mul]; omega] at h
                exact h)
              have HY : Hid (fM xs r i t k = 1 + mxR (nearF xs) 8 r (i + 1) (cT (t + 2 ^ k))) := Lib.hid (fM_yes (by rw [HNI.out]; exact hb1) hb2)
              have m2 := mxR_le_len (near := nearF xs) (n := 8) r (i + 1) (cT (t + 2 ^ k))
              have HSU : Hid (mxTo xs r i t (k + 1) = max (mxTo xs r i t k) (fM xs r i t k)) := Lib.hid rfl
              clear hb1 hb2 HNI HM HMN
              generalize hme : mxTo xs r i t k = M at h9 HSU
              clear hme
              generalize mxR (nearF xs) 8 r (i + 1) (cT (t + 2 ^ k)) = M2 at HCALL HY m2
              generalize 2 ^ k = p at hpk htp hsk htk HCALL
              go_wp2_with fail
              refine (bit_nat X k true (by omega) hk32 HB1'.out _).mono ?_
              rintro e w2 ⟨rfl, rfl⟩
              go_wp2_with fail
              refine (bit_nat t k false (by omega) hk32 HB2'.out _).mono ?_
              rintro e w2 ⟨rfl, rfl⟩
              go_wp2_with fail
              refine HCALL.out.mono ?_
              rintro e w2 ⟨rfl, hM2, hB2⟩
              have HM2 := Lib.hid hM2
              have HB2 : Hid (w.grownBy w2 (some gm)) := Lib.hid (grown_two HB.out hB2)
              clear hM2 hB2 HCALL
              by_cases hmx : M < 1 + M2
              · have HS : Hid (mxTo xs r i t (k + 1) = 1 + M2) := Lib.hid (by rw [HSU.out, HY.out]; omega)
                have hd : decide ((M : Int) < 1 + (M2 : Int)) = true := decide_eq_true (by omega)
                clear HSU HY
                go_wp2_with fail
                go_roundw
                case rel => exact ⟨k + 1, by omega, by go_num, by rw [HS.out]; go_num, by rw [HS.out]; omega, HM2, HB2⟩
                case measure => simp [intOf]; omega
              · have HS : Hid (mxTo xs r i t (k + 1) = M) := Lib.hid (by rw [HSU.out, HY.out]; omega)
                have hd : decide ((M : Int) < 1 + (M2 : Int)) = false := decide_eq_false (by omega)
                clear HSU HY
                go_wp2_with fail
                go_roundw
                case rel => exact ⟨k + 1, by omega, by go_num, by rw [HS.out], by rw [HS.out]; exact h9, HM2, HB2⟩
                case measure => simp [intOf]; omega
            · have HB2' := Lib.hid hb2
              have HS : Hid (mxTo xs r i t (k + 1) = mxTo xs r i t k) := Lib.hid (fM_no (by rw [hb2]; rintro ⟨_, h⟩; cases h))
              clear hb1 hb2 HNI HM
              generalize hme : mxTo xs r i t k = M at h9 HS
              clear hme
              go_wp2_with fail
              refine (bit_nat X k true (by omega) hk32 HB1'.out _).mono ?_
              rintro e w2 ⟨rfl, rfl⟩
              go_wp2_with fail
              refine (bit_nat t k true (by omega) hk32 HB2'.out _).mono ?_
              rintro e w2 ⟨rfl, rfl⟩
              go_wp2_with fail
              go_roundw
              case rel => exact ⟨k + 1, by omega, by go_num, by rw [HS.out], by rw [HS.out]; exact h9, HMN, HB⟩
              case measure => simp [intOf]; omega
        · obtain rfl : k = 8 := by omega
          have HE : Hid (mxTo xs r i t 8 = mxR (nearF xs) 8 (r + 1) i (cT t)) := Lib.hid (mxTo_end xs r i t ht)
          obtain ⟨D2, hown2, htab2⟩ := HM.out
          have HT2 := Lib.hid htab2
          have HD2 := Lib.hid hown2.isMap
          have hnm : n + 10 ^ r + 8 * 10 ^ r < maxLen := by have := HN.out; unfold maxLen; omega
          have HPUT : Hid (∀ w3 : World, w3.ownsMap Tryd.prog 31 (plainElem Tryd.prog 3) gm (n + 10 ^ r + 8 * 10 ^ r + 1) (D2.put (.int .u32 ((t : Int) * 16 + (i : Int))) (.lit (.int .i64 (mxTo xs r i t 8 : Nat)))) → MapOK xs len gm (n + 10 ^ (r + 1)) w3) := Lib.hid fun w3 h => by
            refine ⟨_, h.mono (by rw [HP.out]; omega), ?_⟩
            rw [HE.out, ← HRI.out]
            exact HT2.out.put HD2.out hl (by omega)
          rw [HE.out] at h9 HPUT ⊢
          clear htab2 HM hp10
          generalize hme : mxR (nearF xs) 8 (r + 1) i (cT t) = M at h9 HPUT ⊢
          have HME := Lib.hid hme
          clear hme
          have hval : plainElem (H := Unit) Tryd.prog 3 (.int .i64 (M : Int)) = some (.lit (.int .i64 (M : Int)), []) := plainElem_int Tryd.underlying3 (WalkArith.wf_i64 (by omega))
          go_wp2_with (at_mapUpdate; refine wpList_mapUpdate_own _ rfl _ _ _ 42 rfl 31 3 keyedU Tryd.underlying42 _ gm _ D2 rfl hown2 hnm _ _ _ rfl rfl hkey _ [] hval ?_; intro w3 hown3 hgrow3)
          have HM3 := Lib.hid (HPUT.out w3 hown3)
          have HB3 : Hid (w.grownBy w3 (some gm)) := Lib.hid (grown_two HB.out hgrow3)
          clear hown2 hown3 hgrow3 HPUT
          go_wp2_with fail
          go_ret
          exact ⟨ret_int (by rw [HME.out]), HM3.out, HB3.out⟩
    · have HV : Hid (D.atKey (keyM t i) (.lit (.int .i64 0)) = .lit (.int .i64 (mxR (nearF xs) 8 (r + 1) i (cT t) : Nat))) := Lib.hid (by rw [← HRI.out]; exact HT.out i t (by omega) ht hh)
      have HMM : Hid (MapOK xs len gm (n + 10 ^ (r + 1)) w) := Lib.hid ⟨D, HO.out.mono (by omega), HT.out⟩
      go_enter Tryd.func21, Tryd.ntmps21
      go_wp2_with (at_lookup; refine wpList_lookup_own_ok_int _ rfl _ _ 42 rfl 31 3 .i64 keyedU Tryd.underlying42 Tryd.underlying3 (zeroI _) gm n D rfl hown _ _ rfl hkey ?_; intro c hat hwc; have HC : Hid (c = (mxR (nearF xs) 8 (r + 1) i (cT t) : Nat)) := Lib.hid (by have h := HV.out; unfold keyM at h; rw [hat] at h; injection h with h; injection h); clear hat hwc)
      go_ret
      exact ⟨ret_int HC.out, HMM.out, World.grownBy.refl _ _⟩
end Go.Proofs.YtblbjiogojldhaaDoor
