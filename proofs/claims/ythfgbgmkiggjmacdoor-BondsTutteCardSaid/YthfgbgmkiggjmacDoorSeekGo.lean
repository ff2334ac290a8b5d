/- bonds.seeker's function: how many pairs there are at most among the nodes of a word, with a table of what was reckoned already. -/
import Derived.Test.YthfgbgmkiggjmacDoorSeekP
import Derived.Test.YthfgbgmkiggjmacDoorMapU
import Derived.Test.YthfgbgmkiggjmacDoorTz
namespace Go.Proofs.YthfgbgmkiggjmacDoor
open Go.RowKit Go.Maps

theorem low_u32 (x : Nat) (hx : x < 4294967296) (h0 : x ≠ 0) : bits .and .u32 (x : Int) (-(x : Int) % 4294967296) = ((2 ^ Lib.ctz 32 x : Nat) : Int) := by
  have e : -(x : Int) % 4294967296 = ((4294967296 - x : Nat) : Int) := by omega
  rw [e, and_u32 x _ hx (by omega), show 4294967296 - x = 2 ^ 32 - x from rfl, (Lib.lowest_bit 32 x h0 hx).1]
theorem less_u32 (x : Nat) (hx : x < 4294967296) (h0 : x ≠ 0) : bits .and .u32 (x : Int) ((x : Int) - 1) = ((x &&& (x - 1) : Nat) : Int) := by
  rw [show (x : Int) - 1 = ((x - 1 : Nat) : Int) by omega]
  exact and_u32 x (x - 1) (by omega) (by omega)
theorem ones_low : ∀ r, r < 1024 → r ≠ 0 → ones (r &&& (r - 1)) + 1 = ones r := by decide +kernel
/-- What the function has captured, and the words that it reads. -/
structure SeekEnv (n : Nat) (ar : List Nat) (cap : Nat) (A : Option Addr) (ba bm bf gm : Nat) (w : World) : Prop where
  ca : w.cell? ⟨ba, 0, none⟩ = some (.slice A n cap)
  cm : w.cell? ⟨bm, 0, none⟩ = some (.map (some gm))
  cf : w.cell? ⟨bf, 0, none⟩ = some (.func (.func 43) #[] #[.pointer (some ⟨bm, 0, none⟩), .pointer (some ⟨bf, 0, none⟩), .pointer (some ⟨ba, 0, none⟩)])
  words : WordsAt w gm A n ar
  tab : Tab w
  la : ba < w.heap.size ∧ bm < w.heap.size ∧ bf < w.heap.size ∧ gm < w.heap.size
  ne : ba ≠ gm ∧ bm ≠ gm ∧ bf ≠ gm ∧ 0 ≠ gm
theorem SeekEnv.grown {n cap ba bm bf gm : Nat} {ar : List Nat} {A : Option Addr} {w w' : World} (h : SeekEnv n ar cap A ba bm bf gm w) (hg : w.grownBy w' (some gm)) : SeekEnv n ar cap A ba bm bf gm w' := by
  obtain ⟨l1, l2, l3, l4⟩ := h.la
  obtain ⟨n1, n2, n3, n4⟩ := h.ne
  have hs := hg.size
  have hk : ∀ p : Addr, p.block < w.heap.size → p.block ≠ gm → w'.cell? p = w.cell? p := fun p h1 h2 => World.cell?_of_block (w := w) (hg.block p.block h1 (fun e => h2 (by injection e)))
  refine ⟨(hk _ l1 n1).trans h.ca, (hk _ l2 n2).trans h.cm, (hk _ l3 n3).trans h.cf, h.words.grown hg (by omega), ⟨Nat.lt_of_lt_of_le h.tab.1 hs, fun j hj => (hk ⟨0, j, none⟩ h.tab.1 n4).trans (h.tab.2 j hj)⟩, ⟨by omega, by omega, by omega, by omega⟩, h.ne⟩
/-- What the table says of a word. -/
def seekV (n : Nat) (es : List E3) (x : Int) : Int := (mF n es x.toNat : Nat)
def SeekMap (n : Nat) (es : List E3) (gm k : Nat) (w : World) : Prop := Memo (fun x => x = 0) (seekV n es) gm k w

set_option maxRecDepth 100000 in
set_option maxHeartbeats 4000000 in
theorem seek_any (n cap ba bm bf gm : Nat) (A : Option Addr) (es : List E3) (hn : n ≤ 10) (hg : goodE n es) (r : Nat) :
    ∀ (f k : Nat) (w : World), f < 2 ^ n → Lv r f → k + 12 ^ r ≤ 1000000000000000 → SeekEnv n (nbL n es) cap A ba bm bf gm w → SeekMap n es gm k w →
    Calls Tryd.prog 43 #[.int .u32 f, .pointer (some ⟨bm, 0, none⟩), .pointer (some ⟨bf, 0, none⟩), .pointer (some ⟨ba, 0, none⟩)] w fun e w' => e = .returned (.int .i64 (mF n es f : Nat)) ∧ SeekMap n es gm (k + 12 ^ r) w' ∧ w.grownBy w' (some gm) := by
  induction r with
  | zero =>
    intro f k w hf hL hk hE hM
    obtain rfl : f = 0 := hL.zero hn hf
    obtain ⟨D, hown, htab⟩ := hM
    have HMM : Hid (SeekMap n es gm (k + 12 ^ 0) w) := Lib.hid ⟨D, hown.mono (by omega), htab⟩
    have hcm := hE.cm
    have hh := htab.has 0 rfl
    have HV : Hid (D.atKey (.int .u32 0) (.lit (.int .i64 0)) = .lit (.int .i64 (mF n es 0 : Nat))) := Lib.hid (htab.right 0 hh)
    have hkey : keyOf Tryd.prog 38 (.int .u32 0) = some (.int .u32 0) := keyOf_int_mk Tryd.underlying38 (by decide)
    clear hE htab hL hk hf
    go_enter Tryd.func43, Tryd.ntmps43
    go_wp2_with (at_lookup; refine wpList_lookup_own_ok_int _ rfl _ _ 61 rfl 38 3 .i64 keyedU Tryd.underlying61 Tryd.underlying3 (zeroI _) gm k D rfl hown _ _ rfl hkey ?_; intro c hat hwc; have HC : Hid (c = (mF n es 0 : Nat)) := Lib.hid (by have h := HV.out; rw [hat] at h; injection h with h; injection h); clear hat hwc)
    go_ret
    exact ⟨ret_int HC.out, HMM.out, World.grownBy.refl _ _⟩
  | succ r ih =>
    intro f k w hf hL hk hE hM
    have HIH := Lib.hid ih
    have HE := Lib.hid hE
    have HG := Lib.hid hg
    have HLV := Lib.hid hL
    obtain ⟨D, hown, htab⟩ := hM
    have hcm := hE.cm
    have hcf := hE.cf
    have HO := Lib.hid hown
    have HT := Lib.hid htab
    have hf10 := pow10 hn hf
    have hp12 : 1 ≤ 12 ^ r := Nat.one_le_pow _ _ (by omega)
    have HP : Hid (12 ^ (r + 1) = 12 * 12 ^ r) := Lib.hid (by rw [Nat.pow_succ]; omega)
    have HN : Hid (k + 12 * 12 ^ r ≤ 1000000000000000) := Lib.hid (by rw [← HP.out]; exact hk)
    have hkey : keyOf Tryd.prog 38 (.int .u32 (f : Int)) = some (.int .u32 (f : Int)) := keyOf_int_mk Tryd.underlying38 (by simp [Lit.wf, IntKind.min, IntKind.max, IntKind.signed, IntKind.bits]; omega)
    clear ih hE htab hk hg hL
    cases hh : Maps.has D (.int .u32 (f : Int))
    · have hf0 : f ≠ 0 := fun e => by subst e; have := HT.out.has 0 rfl; rw [show ((0 : Nat) : Int) = 0 from rfl, this] at hh; cases hh
      have HF0 := Lib.hid hf0
      have hc := low_lt hn hf hf0
      have hrl := rest_lt hn hf hf0
      have hr10 := pow10 hn hrl
      have hand := less_u32 f (by omega) hf0
      have hnb : nbW es (Lib.ctz 32 f) < 1024 := pow10 hn (by have := nbW_lt HG.out (Lib.ctz 32 f) es.length; rwa [List.take_length] at this)
      have hop := opW_lt (es := es) hn hf hf0
      have hop10 := pow10 hn hop
      have hand2 : bits .and .u32 ((nbW es (Lib.ctz 32 f) : Nat) : Int) ((f &&& (f - 1) : Nat) : Int) = ((opW es f : Nat) : Int) := and_u32 _ _ (by omega) (by omega)
      have HTZ := Lib.hid (fun (W : World) (h : Tab W) => tz_any f W (by omega) hf0 h)
      have HS := Lib.hid (SeekInv.start (es := es) hn hf hf0)
      have HLR := Lib.hid (HLV.out.rest hn hf hf0)
      have HON : Hid (ones (opW es f) ≤ 10) := Lib.hid (ones_le _)
      have HMB := Lib.hid (fun x => mF_le HG.out x)
      have HX : Hid (∀ W, w.grownBy W (some gm) → ∃ b off, A = some ⟨b, off, none⟩ ∧ W.cell? ⟨b, off + Lib.ctz 32 f, none⟩ = some (.int .u32 (nbW es (Lib.ctz 32 f) : Nat))) := Lib.hid fun W h => by
        obtain ⟨b, off, h1, _, h2⟩ := (HE.out.grown h).words.at_ hc
        refine ⟨b, off, h1, ?_⟩
        rw [List.getD_eq_getElem?_getD, nbL_get es hc] at h2
        exact h2
      have hc0 : (0 : Int) ≤ (Lib.ctz 32 f : Int) := by omega
      have hcn : (Lib.ctz 32 f : Int) < (n : Int) := by omega
      have hM0 := mF_le HG.out (f &&& (f - 1))
      have HC1 : Hid (Calls Tryd.prog 43 #[.int .u32 (f &&& (f - 1) : Nat), .pointer (some ⟨bm, 0, none⟩), .pointer (some ⟨bf, 0, none⟩), .pointer (some ⟨ba, 0, none⟩)] w fun e w' => e = .returned (.int .i64 (mF n es (f &&& (f - 1)) : Nat)) ∧ SeekMap n es gm (k + 12 ^ r) w' ∧ w.grownBy w' (some gm)) := Lib.hid
        (HIH.out _ k w hrl HLR.out (by have := HN.out; omega) HE.out ⟨D, HO.out, HT.out⟩)
      have HSK := Lib.hid (fun (x j : Nat) (W : World) (hx : x < n) (h1 : k + 12 ^ r + j * 12 ^ r + 12 ^ r ≤ 1000000000000000) (h2 : w.grownBy W (some gm)) (h3 : SeekMap n es gm (k + 12 ^ r + j * 12 ^ r) W) =>
        HIH.out (diffW (f &&& (f - 1)) (2 ^ x)) (k + 12 ^ r + j * 12 ^ r) W (diffW_sub hn hrl (by have := pow10 hn (Nat.pow_lt_pow_right (a := 2) (by decide) hx); omega)) (HLR.out.less hn hrl (by omega)) h1 (HE.out.grown h2) h3)
      have HDN := Lib.hid (fun M (h : SeekInv n es f 0 M) => h.done HG.out hn hf hf0)
      have HNX := Lib.hid (fun (o M : Nat) (h : SeekInv n es f o M) (ho : o < 2 ^ n) (hz : o ≠ 0) => h.next HG.out hn hf hf0 ho hz)
      have HBX := Lib.hid (HE.out.tab)
      have hf1 : 1 ≤ (f : Int) := by omega
      have HOP := Lib.hid hop
      clear hop hf0
      generalize opW es f = o0 at hop10 hand2 HS HON HOP
      generalize f &&& (f - 1) = R at hrl hr10 hand hand2 HS HLR hM0 HC1 HSK HNX
      generalize nbW es (Lib.ctz 32 f) = X at hnb hand2 HX
      generalize Lib.ctz 32 f = c at hc HTZ HX hc0 hcn
      go_enter Tryd.func43, Tryd.ntmps43
      go_wp2_with (at_lookup; refine wpList_lookup_own_ok_int _ rfl _ _ 61 rfl 38 3 .i64 keyedU Tryd.underlying61 Tryd.underlying3 (zeroI _) gm k D rfl hown _ _ rfl hkey ?_; intro c hat hwc; clear hat hwc)
      refine (HTZ.out _ HBX.out).mono ?_
      rintro e w1 ⟨rfl, rfl⟩
      go_wp2_with fail
      refine HC1.out.mono ?_
      rintro e w1 ⟨rfl, hM1, hB1⟩
      have HM1 := Lib.hid hM1
      have HB1 := Lib.hid hB1
      obtain ⟨b, off, rfl, hcx⟩ := HX.out w1 hB1
      have hca1 := (HE.out.grown hB1).ca
      clear hM1 hB1 HC1 hh hown HX hcm hcf
      go_wp2_with fail
      clear hcx hca1 hand2 hand hnb hop10
      go_loopw [10, 11] (fun m o wr => ∃ (q M j : Nat), q < 2 ^ n ∧ 2 * M ≤ n ∧ m = .int .i64 M ∧ o = .int .u32 q ∧ Hid (j + ones q ≤ 10) ∧ Hid (SeekInv n es f q M) ∧ Hid (SeekMap n es gm (k + 12 ^ r + j * 12 ^ r) wr) ∧ Hid (w.grownBy wr (some gm))) (fun _ o _ => (intOf o).toNat)
      case atStart => exact ⟨o0, _, 0, HOP.out, hM0, rfl, rfl, Lib.hid (by have := HON.out; omega), HS, by rw [Nat.zero_mul, Nat.add_zero]; exact HM1, HB1⟩
      case round =>
        clear HM1 HB1 HS HON HOP
        obtain ⟨q, M, j, hq, hM5, rfl, rfl, HJ, HI, HM, HB⟩ := hrel
        have hq10 := pow10 hn hq
        have HEW := Lib.hid (HE.out.grown HB.out)
        have hcm := HEW.out.cm
        have hcf := HEW.out.cf
        by_cases hq0 : q = 0
        · subst hq0
          obtain rfl : M = mF n es f := HDN.out M HI.out
          obtain ⟨D2, hown2, htab2⟩ := HM.out
          have HT2 := Lib.hid htab2
          have HD2 := Lib.hid hown2.isMap
          have hjr : j * 12 ^ r ≤ 10 * 12 ^ r := Nat.mul_le_mul_right _ (by have := HJ.out; omega)
          have hnm : k + 12 ^ r + j * 12 ^ r < maxLen := by have := HN.out; unfold maxLen; omega
          have HPUT : Hid (∀ w3 : World, w3.ownsMap Tryd.prog 38 (plainElem Tryd.prog 3) gm (k + 12 ^ r + j * 12 ^ r + 1) (D2.put (.int .u32 (f : Int)) (.lit (.int .i64 (mF n es f : Nat)))) → SeekMap n es gm (k + 12 ^ (r + 1)) w3) := Lib.hid fun w3 h =>
            ⟨_, h.mono (by rw [HP.out]; omega), HT2.out.put HD2.out f⟩
          clear htab2 HM hp12 hjr
          generalize hme : mF n es f = M at hM5 HPUT HI ⊢
          have HME := Lib.hid hme
          clear hme
          have hval : plainElem (H := Unit) Tryd.prog 3 (.int .i64 (M : Int)) = some (.lit (.int .i64 (M : Int)), []) := plainElem_int Tryd.underlying3 (WalkArith.wf_i64 (by omega))
          go_wp2_with (at_mapUpdate; refine wpList_mapUpdate_own _ rfl _ _ _ 61 rfl 38 3 keyedU Tryd.underlying61 _ gm _ D2 rfl hown2 hnm _ _ _ rfl rfl hkey _ [] hval ?_; intro w3 hown3 hgrow3)
          have HM3 := Lib.hid (HPUT.out w3 hown3)
          have HB3 : Hid (w.grownBy w3 (some gm)) := Lib.hid (grown_two HB.out hgrow3)
          clear hown2 hown3 hgrow3 HPUT
          go_wp2_with fail
          go_ret
          exact ⟨ret_int (by rw [HME.out]), HM3.out, HB3.out⟩
        · have hx := low_lt hn hq hq0
          have hxp : 2 ^ Lib.ctz 32 q < 1024 := pow10 hn (Nat.pow_lt_pow_right (by decide) hx)
          have hlow := low_u32 q (by omega) hq0
          have hless := less_u32 q (by omega) hq0
          have hdiff := andNot_u32 R (2 ^ Lib.ctz 32 q) (by omega) (by omega)
          have hones := ones_low q hq10 hq0
          have HLT := Lib.hid (low_dec q hq10 hq0).2.1
          have HRQ := Lib.hid (rest_lt hn hq hq0)
          have hj9 : j ≤ 9 := by have := HJ.out; omega
          have HJ2 : Hid (j + 1 + ones (q &&& (q - 1)) ≤ 10) := Lib.hid (by have := HJ.out; omega)
          have hj12 : j * 12 ^ r ≤ 9 * 12 ^ r := Nat.mul_le_mul_right _ hj9
          have HCALL := Lib.hid (HSK.out (Lib.ctz 32 q) j wr hx (by have := HN.out; omega) HB.out HM.out)
          have HI2 := Lib.hid (HNX.out q M HI.out hq hq0)
          have hm2 := HMB.out (diffW R (2 ^ Lib.ctz 32 q))
          have hqb : ((q : Int) != 0) = true := by simp; omega
          have hq1 : 1 ≤ (q : Int) := by omega
          have HMM : Hid (∀ W, SeekMap n es gm (k + 12 ^ r + j * 12 ^ r + 12 ^ r) W → SeekMap n es gm (k + 12 ^ r + (j + 1) * 12 ^ r) W) := Lib.hid fun W h => by rw [Nat.succ_mul, ← Nat.add_assoc]; exact h
          clear hones hj12 hq0 HI
          generalize diffW R (2 ^ Lib.ctz 32 q) = Y at hdiff HCALL HI2 hm2
          generalize 2 ^ Lib.ctz 32 q = px at hxp hlow hdiff
          generalize q &&& (q - 1) = q2 at hless HJ2 HI2 HLT HRQ
          generalize mF n es Y = M2 at HCALL HI2 hm2
          go_wp2_with fail
          refine HCALL.out.mono ?_
          rintro e w2 ⟨rfl, hM2, hB2⟩
          have HM2 := Lib.hid (HMM.out _ hM2)
          have HB2 : Hid (w.grownBy w2 (some gm)) := Lib.hid (grown_two HB.out hB2)
          clear hM2 hB2 HCALL
          go_wp2_with fail
          go_roundw
          case rel => exact ⟨q2, max M (1 + M2), j + 1, HRQ.out, by have := HI2.out.some_; have := HMB.out f; omega, congrArg (Value.int .i64) (by split <;> omega), rfl, HJ2, HI2, HM2, HB2⟩
          case measure => have := HLT.out; simp [intOf]; omega
    · have HV : Hid (D.atKey (.int .u32 (f : Int)) (.lit (.int .i64 0)) = .lit (.int .i64 (mF n es f : Nat))) := Lib.hid (HT.out.right f hh)
      have HMM : Hid (SeekMap n es gm (k + 12 ^ (r + 1)) w) := Lib.hid ⟨D, HO.out.mono (by omega), HT.out⟩
      clear HIH
      go_enter Tryd.func43, Tryd.ntmps43
      go_wp2_with (at_lookup; refine wpList_lookup_own_ok_int _ rfl _ _ 61 rfl 38 3 .i64 keyedU Tryd.underlying61 Tryd.underlying3 (zeroI _) gm k D rfl hown _ _ rfl hkey ?_; intro c hat hwc; have HC : Hid (c = (mF n es f : Nat)) := Lib.hid (by have h := HV.out; rw [hat] at h; injection h with h; injection h); clear hat hwc)
      go_ret
      exact ⟨ret_int HC.out, HMM.out, World.grownBy.refl _ _⟩
end Go.Proofs.YthfgbgmkiggjmacDoor
