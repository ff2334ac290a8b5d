/- The reference's bond: how many edges a bond can have from the k-th on, with a table of what was reckoned already. -/
import Derived.Test.YthfgbgmkiggjmacDoorSeekP
import Derived.Test.YthfgbgmkiggjmacDoorMapU
import Derived.Test.YthfgbgmkiggjmacDoorBitSize
import Derived.Test.YthfgbgmkiggjmacDoorRefCheck
namespace Go.Proofs.YthfgbgmkiggjmacDoor
open Go.RowKit Go.Maps

theorem EdgesAt.grown {w w' : World} {gm n : Nat} {A : Option Addr} {es : List E3} (h : EdgesAt w gm A n es) (hg : w.grownBy w' (some gm)) (hl : gm ≤ w.heap.size) : EdgesAt w' gm A n es :=
  h.keep fun p hp => World.cell?_of_block (w := w) (hg.block p.block (by omega) (fun e => by injection e; omega))
theorem bN_le_r (es : List E3) : ∀ r k u, bN es r k u ≤ r
  | 0, _, _ => Nat.le_refl _
  | r + 1, k, u => by
    have h1 := bN_le_r es r (k + 1) u
    have h2 := bN_le_r es r (k + 1) (withK es u k)
    unfold bN
    split <;> omega
def bondV (es : List E3) (x : Int) : Int := (bN es (es.length - x.toNat % 64) (x.toNat % 64) (x.toNat / 64) : Nat)
theorem bondV_key (es : List E3) {k u : Nat} (hk : k < 64) : bondV es ((u : Int) * 64 + (k : Int)) = (bN es (es.length - k) k u : Nat) := by
  unfold bondV
  rw [show ((u : Int) * 64 + (k : Int)).toNat = u * 64 + k by omega, show (u * 64 + k) % 64 = k by omega, show (u * 64 + k) / 64 = u by omega]
def RefMap (es : List E3) (gm q : Nat) (w : World) : Prop := Memo (fun _ => False) (bondV es) gm q w
set_option maxRecDepth 100000 in
theorem RefMap.put {es : List E3} {gm q k u M : Nat} {w3 : World} {D2 : DataW Unit} (h2 : MemoD (fun _ => False) (bondV es) D2) (hD : IsMap D2) (hk : k < 64) (hM : bN es (es.length - k) k u = M)
    (h : w3.ownsMap Tryd.prog 38 (plainElem Tryd.prog 3) gm q (D2.put (.int .u32 ((u : Int) * 64 + (k : Int))) (.lit (.int .i64 (M : Int))))) : RefMap es gm q w3 := by
  refine ⟨_, h, ?_⟩
  rw [← hM, ← bondV_key es hk]
  exact h2.put hD _
theorem or_add_dec10 : ∀ t, t < 1024 → ∀ j, j < 10 → t.testBit j = false → t ||| 2 ^ j = t + 2 ^ j := by decide +kernel
theorem bN_no {es : List E3} {r k u : Nat} (h : freeK es u k = false) : bN es (r + 1) k u = bN es r (k + 1) u := by
  rw [bN, if_neg (by simp [h])]
theorem bN_yes {es : List E3} {r k u : Nat} (h : freeK es u k = true) : bN es (r + 1) k u = max (bN es r (k + 1) u) (1 + bN es r (k + 1) (withK es u k)) := by
  rw [bN, if_pos h]

set_option maxRecDepth 100000 in
set_option maxHeartbeats 4000000 in
theorem refBond_any (m len cap gm : Nat) (A : Option Addr) (es : List E3) (hm : m ≤ 10) (hg : goodE m es) (hlen : len ≤ 45) (hl : es.length = len) (r : Nat) :
    ∀ (k u q : Nat) (w : World), k + r = len → u < 2 ^ m → q + 2 ^ r ≤ 10000000000000000 → EdgesAt w gm A len es → RefMap es gm q w →
    Calls Tryd.prog 33 #[.agg #[.int .i64 m, .slice A len cap], .int .i64 k, .int .u32 u, .map (some gm)] w fun e w' => e = .returned (.int .i64 (bN es r k u : Nat)) ∧ RefMap es gm (q + 2 ^ r - 1) w' ∧ w.grownBy w' (some gm) := by
  induction r with
  | zero =>
    intro k u q w hk hu hq hE hM
    have HM : Hid (RefMap es gm (q + 2 ^ 0 - 1) (bx w m A len cap) ∧ w.grownBy (bx w m A len cap) (some gm)) := Lib.hid ⟨(hM.kept (World.grownBy_alloc w _ none) (by simp)).more (by omega), World.grownBy_alloc w _ _⟩
    obtain rfl : k = len := by omega
    clear hE hM hk hq hl hg
    go_enter Tryd.func33, Tryd.ntmps33
    go_wp2_with fail
    go_ret
    exact ⟨rfl, HM.out⟩
  | succ r ih =>
    intro k u q w hk hu hq hE hM
    have HIH := Lib.hid ih
    have HE := Lib.hid hE
    have HG := Lib.hid hg
    have HL := Lib.hid hl
    have hkl : k < len := by omega
    have hne : ((k : Int) == (len : Int)) = false := by
      have : ¬ (k : Int) = (len : Int) := by omega
      simpa using this
    have hgs := hM.lt
    obtain ⟨D, hown0, htab⟩ := hM
    have hown : (bx w m A len cap).ownsMap Tryd.prog 38 (plainElem Tryd.prog 3) gm q D := hown0.kept (World.grownBy_alloc w _ none) (by simp)
    have HT := Lib.hid htab
    have HO := Lib.hid hown
    have HGB : Hid (w.grownBy (bx w m A len cap) (some gm)) := Lib.hid (World.grownBy_alloc w _ _)
    have HGS := Lib.hid hgs
    have hu10 := pow10 hm hu
    have hp2 : 1 ≤ 2 ^ r := Nat.one_le_pow _ _ (by omega)
    have HP : Hid (2 ^ (r + 1) = 2 * 2 ^ r) := Lib.hid (by rw [Nat.pow_succ]; omega)
    have HN : Hid (q + 2 * 2 ^ r ≤ 10000000000000000) := Lib.hid (by rw [← HP.out]; exact hq)
    have hkey : keyOf Tryd.prog 38 (.int .u32 ((u : Int) * 64 + (k : Int))) = some (.int .u32 ((u : Int) * 64 + (k : Int))) := keyOf_int_mk Tryd.underlying38 (by simp [Lit.wf, IntKind.min, IntKind.max, IntKind.signed, IntKind.bits]; omega)
    have HRK : Hid (es.length - k = r + 1) := Lib.hid (by omega)
    have hk64 : k < 64 := by omega
    clear ih hE htab hq hg hown0 hgs
    cases hh : Maps.has D (.int .u32 ((u : Int) * 64 + (k : Int)))
    · have HC1 : Hid (Calls Tryd.prog 33 #[.agg #[.int .i64 m, .slice A len cap], .int .i64 ((k : Int) + 1), .int .u32 u, .map (some gm)] (bx w m A len cap) fun e w' => e = .returned (.int .i64 (bN es r (k + 1) u : Nat)) ∧ RefMap es gm (q + 2 ^ r - 1) w' ∧ (bx w m A len cap).grownBy w' (some gm)) := Lib.hid
        (HIH.out (k + 1) u q _ (by omega) hu (by have := HN.out; omega) (HE.out.grown HGB.out (Nat.le_of_lt HGS.out)) ⟨D, HO.out, HT.out⟩)
      have hb1 := bN_le_r es r (k + 1) u
      have HEW : Hid (∀ W, w.grownBy W (some gm) → ∃ b off x, A = some ⟨b, off, none⟩ ∧ b < W.heap.size ∧ es[k]? = some x ∧ edgeCells W b (off + k * 3) x) := Lib.hid fun W h => by
        obtain ⟨b, off, x, h1, h2, h3, h4⟩ := (HE.out.grown h (Nat.le_of_lt HGS.out)).at_ hkl
        exact ⟨b, off, x, h1, by have := h.size; have := HGS.out; omega, h3, h4⟩
      have HBX : Hid (∀ W, (bx w m A len cap).grownBy W (some gm) → W.cell? ⟨w.heap.size, 0, none⟩ = some (.int .i64 m) ∧ W.cell? ⟨w.heap.size, 1, none⟩ = some (.slice A len cap) ∧ w.heap.size < W.heap.size) := Lib.hid fun W h => by
        have hs0 : (bx w m A len cap).heap.size = w.heap.size + 1 := by simp [bx]
        have hk : ∀ o, W.cell? ⟨w.heap.size, o, none⟩ = (bx w m A len cap).cell? ⟨w.heap.size, o, none⟩ := fun o => World.cell?_of_block (w := bx w m A len cap) (h.block w.heap.size (by omega) (fun e => by injection e with e; have := HGS.out; omega))
        exact ⟨(hk 0).trans (by simp [bx, go_sem]), (hk 1).trans (by simp [bx, go_sem]), by have := h.size; omega⟩
      go_enter Tryd.func33, Tryd.ntmps33
      go_wp2_with (at_lookup; refine wpList_lookup_own_ok_int _ rfl _ _ 61 rfl 38 3 .i64 keyedU Tryd.underlying61 Tryd.underlying3 (zeroI _) gm q D rfl hown _ _ rfl hkey ?_; intro c hat hwc; clear hat hwc)
      refine HC1.out.mono ?_
      rintro e w1 ⟨rfl, hM1, hG1⟩
      have HM1 := Lib.hid hM1
      have HG1 : Hid (w.grownBy w1 (some gm)) := Lib.hid (grown_two HGB.out hG1)
      obtain ⟨hbx0, hbx1, hws⟩ := HBX.out w1 hG1
      obtain ⟨b, off, ⟨a0, a1, a2⟩, rfl, hbl, hx, hc0, hc1, hc2⟩ := HEW.out w1 HG1.out
      have hkl2 : k < es.length := by rw [HL.out]; exact hkl
      obtain ⟨c, hx2, hAn, hBn, hne2, _⟩ := ends HG.out hkl2
      rw [hx2] at hx
      injection hx with hx
      injection hx with e0 hx
      injection hx with e1 e2
      subst e0 e1 e2
      simp only at hc0 hc1 hc2
      have HWK : Hid (withK es u k = u ||| 2 ^ eA es k ||| 2 ^ eB es k) := Lib.hid rfl
      have HFK : Hid (freeK es u k = (!u.testBit (eA es k) && !u.testBit (eB es k))) := Lib.hid rfl
      have HBA := Lib.hid (fun (bb : Bool) (h : u.testBit (eA es k) = bb) (W : World) => bit_nat u (eA es k) bb (by omega) (by omega) h W)
      have HBB := Lib.hid (fun (bb : Bool) (h : u.testBit (eB es k) = bb) (W : World) => bit_nat u (eB es k) bb (by omega) (by omega) h W)
      have hw64 : (es.length - k) = r + 1 := HRK.out
      have HGA : Hid (w.grownBy (w1.alloc (.cells #[.int .i64 (eA es k), .int .i64 (eB es k), .int .i64 c] 53)) (some gm)) := Lib.hid (grown_two HG1.out (World.grownBy_alloc w1 _ _))
      have HMA : Hid (RefMap es gm (q + 2 ^ r - 1) (w1.alloc (.cells #[.int .i64 (eA es k), .int .i64 (eB es k), .int .i64 c] 53))) := Lib.hid (HM1.out.kept (World.grownBy_alloc w1 _ none) (by simp))
      have HPUT : Hid (∀ (W W3 : World) (D2 : DataW Unit) (q2 M : Nat), MemoD (fun _ => False) (bondV es) D2 → IsMap D2 → bN es (r + 1) k u = M → q2 + 1 ≤ q + 2 ^ (r + 1) - 1 → w.grownBy W (some gm) → W3.ownsMap Tryd.prog 38 (plainElem Tryd.prog 3) gm (q2 + 1) (D2.put (.int .u32 ((u : Int) * 64 + (k : Int))) (.lit (.int .i64 (M : Int)))) → W.grownBy W3 (some gm) → RefMap es gm (q + 2 ^ (r + 1) - 1) W3 ∧ w.grownBy W3 (some gm)) := Lib.hid fun W W3 D2 q2 M h1 h2 h3 h4 h5 h6 h7 =>
        ⟨(RefMap.put h1 h2 hk64 (by rw [hw64]; exact h3) h6).more h4, grown_two h5 h7⟩
      clear hM1 hG1 HC1 hh hown HBX HEW hx2 hw64
      by_cases hfree : freeK es u k = true
      · have hbits : u.testBit (eA es k) = false ∧ u.testBit (eB es k) = false := by
          rw [HFK.out] at hfree
          simpa using hfree
        have hor1 := or_add_dec10 u hu10 (eA es k) (by omega) hbits.1
        have hpi : 2 ^ eA es k < 1024 := pow10 hm (Nat.pow_lt_pow_right (by decide) hAn)
        have hpj : 2 ^ eB es k < 1024 := pow10 hm (Nat.pow_lt_pow_right (by decide) hBn)
        have hu2 : u ||| 2 ^ eA es k < 1024 := Nat.or_lt_two_pow (n := 10) hu10 hpi
        have hor2 := or_add_dec10 (u ||| 2 ^ eA es k) hu2 (eB es k) (by omega) (by rw [Nat.testBit_or, hbits.2, Nat.testBit_two_pow]; simp [hne2])
        have hwl : withK es u k < 2 ^ m := Nat.or_lt_two_pow (Nat.or_lt_two_pow hu (Nat.pow_lt_pow_right (by decide) hAn)) (Nat.pow_lt_pow_right (by decide) hBn)
        have hsum : u + 2 ^ eA es k + 2 ^ eB es k = withK es u k := by rw [HWK.out, hor2, hor1]
        have hwl10 := pow10 hm hwl
        have hb2 := bN_le_r es r (k + 1) (withK es u k)
        have HY := Lib.hid (bN_yes (r := r) hfree)
        have HCALL : Hid (Calls Tryd.prog 33 #[.agg #[.int .i64 m, .slice (some ⟨b, off, none⟩) len cap], .int .i64 ((k : Int) + 1), .int .u32 ((u : Int) + ((2 ^ eA es k : Nat) : Int) + ((2 ^ eB es k : Nat) : Int)), .map (some gm)] (w1.alloc (.cells #[.int .i64 (eA es k), .int .i64 (eB es k), .int .i64 c] 53)) fun e w' => e = .returned (.int .i64 (bN es r (k + 1) (withK es u k) : Nat)) ∧ RefMap es gm (q + 2 ^ r - 1 + 2 ^ r - 1) w' ∧ (w1.alloc (.cells #[.int .i64 (eA es k), .int .i64 (eB es k), .int .i64 c] 53)).grownBy w' (some gm)) := Lib.hid (by
          have h := HIH.out (k + 1) (withK es u k) (q + 2 ^ r - 1) _ (by omega) hwl (by have := HN.out; omega) (HE.out.grown HGA.out (Nat.le_of_lt HGS.out)) HMA.out
          rw [← hsum] at h ⊢
          rw [show (u : Int) + ((2 ^ eA es k : Nat) : Int) + ((2 ^ eB es k : Nat) : Int) = ((u + 2 ^ eA es k + 2 ^ eB es k : Nat) : Int) by omega]
          exact h)
        have hsi : (2 : Int) ^ eA es k % 4294967296 = ((2 ^ eA es k : Nat) : Int) := pow_mod _ (by omega)
        have hsj : (2 : Int) ^ eB es k % 4294967296 = ((2 ^ eB es k : Nat) : Int) := pow_mod _ (by omega)
        have hti : IntKind.u32.wrap ((2 : Int) ^ eA es k) = ((2 ^ eA es k : Nat) : Int) := by rw [wrap_u32n]; exact hsi
        have htj : IntKind.u32.wrap ((2 : Int) ^ eB es k) = ((2 ^ eB es k : Nat) : Int) := by rw [wrap_u32n]; exact hsj
        have hup : u + 2 ^ eA es k < 4294967296 := by omega
        have hup2 : u + 2 ^ eA es k + 2 ^ eB es k < 4294967296 := by omega
        have HBA1 := Lib.hid (HBA.out false hbits.1)
        have HBB1 := Lib.hid (HBB.out false hbits.2)
        have hia : (eA es k : Int) < 32 := by omega
        have hib : (eB es k : Int) < 32 := by omega
        clear hfree hbits hor1 hor2 hu2 hwl hsum hwl10 HWK HFK HBA HBB HMA
        generalize bN es r (k + 1) (withK es u k) = M2 at hb2 HY HCALL
        generalize bN es r (k + 1) u = M1 at hb1 HY
        generalize 2 ^ eA es k = pi at hpi hsi hti hup hup2 HCALL
        generalize 2 ^ eB es k = pj at hpj hsj htj hup2 HCALL
        generalize eA es k = ia at *
        generalize eB es k = ib at *
        go_wp2_with fail
        refine (HBA1.out _).mono ?_
        rintro e w2 ⟨rfl, rfl⟩
        go_wp2_with fail
        refine (HBB1.out _).mono ?_
        rintro e w2 ⟨rfl, rfl⟩
        go_wp2_with fail
        refine HCALL.out.mono ?_
        rintro e w2 ⟨rfl, hM2, hG2⟩
        have HG2 : Hid (w.grownBy w2 (some gm)) := Lib.hid (grown_two HGA.out hG2)
        obtain ⟨D2, hown2, htab2⟩ := hM2
        have HT2 := Lib.hid htab2
        have HD2 := Lib.hid hown2.isMap
        have hnm : q + 2 ^ r - 1 + 2 ^ r - 1 < maxLen := by have := HN.out; unfold maxLen; omega
        clear hG2 HCALL htab2
        by_cases hmx : M1 < 1 + M2
        · have hd : decide ((M1 : Int) < 1 + (M2 : Int)) = true := decide_eq_true (by omega)
          have HV : Hid (bN es (r + 1) k u = 1 + M2) := Lib.hid (by rw [HY.out]; omega)
          have hval : plainElem (H := Unit) Tryd.prog 3 (.int .i64 (1 + (M2 : Int))) = some (.lit (.int .i64 (1 + (M2 : Int))), []) := plainElem_int Tryd.underlying3 (WalkArith.wf_i64 (by omega))
          go_wp2_with (at_mapUpdate; refine wpList_mapUpdate_own _ rfl _ _ _ 61 rfl 38 3 keyedU Tryd.underlying61 _ gm _ D2 rfl hown2 hnm _ _ _ rfl rfl hkey _ [] hval ?_; intro w3 hown3 hgrow3)
          have HF := Lib.hid (HPUT.out w2 w3 D2 (q + 2 ^ r - 1 + 2 ^ r - 1) (1 + M2) HT2.out HD2.out HV.out (by have := HP.out; have := Nat.two_pow_pos r; omega) HG2.out (by rw [Int.natCast_add]; exact hown3) hgrow3)
          clear hown2 hown3 hgrow3
          go_wp2_with fail
          go_ret
          exact ⟨ret_int (by rw [HV.out]; omega), HF.out⟩
        · have hd : decide ((M1 : Int) < 1 + (M2 : Int)) = false := decide_eq_false (by omega)
          have HV : Hid (bN es (r + 1) k u = M1) := Lib.hid (by rw [HY.out]; omega)
          have hval : plainElem (H := Unit) Tryd.prog 3 (.int .i64 (M1 : Int)) = some (.lit (.int .i64 (M1 : Int)), []) := plainElem_int Tryd.underlying3 (WalkArith.wf_i64 (by omega))
          go_wp2_with (at_mapUpdate; refine wpList_mapUpdate_own _ rfl _ _ _ 61 rfl 38 3 keyedU Tryd.underlying61 _ gm _ D2 rfl hown2 hnm _ _ _ rfl rfl hkey _ [] hval ?_; intro w3 hown3 hgrow3)
          have HF := Lib.hid (HPUT.out w2 w3 D2 (q + 2 ^ r - 1 + 2 ^ r - 1) M1 HT2.out HD2.out HV.out (by have := HP.out; have := Nat.two_pow_pos r; omega) HG2.out hown3 hgrow3)
          clear hown2 hown3 hgrow3
          go_wp2_with fail
          go_ret
          exact ⟨ret_int (by rw [HV.out]), HF.out⟩
      · have hff : freeK es u k = false := by simpa using hfree
        have HV := Lib.hid (bN_no (r := r) hff)
        obtain ⟨D2, hown2, htab2⟩ := HMA.out
        have HT2 := Lib.hid htab2
        have HD2 := Lib.hid hown2.isMap
        have hnm : q + 2 ^ r - 1 < maxLen := by have := HN.out; unfold maxLen; omega
        have hbb : u.testBit (eA es k) = true ∨ (u.testBit (eA es k) = false ∧ u.testBit (eB es k) = true) := by
          rw [HFK.out] at hff
          cases h1 : u.testBit (eA es k) with
          | true => exact .inl rfl
          | false => rw [h1] at hff; exact .inr ⟨rfl, by simpa using hff⟩
        clear hfree hff HWK HFK HMA htab2
        generalize bN es r (k + 1) u = M1 at hb1 HV
        have hval : plainElem (H := Unit) Tryd.prog 3 (.int .i64 (M1 : Int)) = some (.lit (.int .i64 (M1 : Int)), []) := plainElem_int Tryd.underlying3 (WalkArith.wf_i64 (by omega))
        rcases hbb with h1 | ⟨h1, h2⟩
        · have HBA1 := Lib.hid (HBA.out true h1)
          clear h1 HBA HBB
          generalize eA es k = ia at *
          generalize eB es k = ib at *
          go_wp2_with fail
          refine (HBA1.out _).mono ?_
          rintro e w2 ⟨rfl, rfl⟩
          go_wp2_with (at_mapUpdate; refine wpList_mapUpdate_own _ rfl _ _ _ 61 rfl 38 3 keyedU Tryd.underlying61 _ gm _ D2 rfl hown2 hnm _ _ _ rfl rfl hkey _ [] hval ?_; intro w3 hown3 hgrow3)
          have HF := Lib.hid (HPUT.out _ w3 D2 (q + 2 ^ r - 1) M1 HT2.out HD2.out HV.out (by have := HP.out; have := Nat.two_pow_pos r; omega) HGA.out hown3 hgrow3)
          clear hown2 hown3 hgrow3
          go_wp2_with fail
          go_ret
          exact ⟨ret_int (by rw [HV.out]), HF.out⟩
        · have HBA1 := Lib.hid (HBA.out false h1)
          have HBB1 := Lib.hid (HBB.out true h2)
          clear h1 h2 HBA HBB
          generalize eA es k = ia at *
          generalize eB es k = ib at *
          go_wp2_with fail
          refine (HBA1.out _).mono ?_
          rintro e w2 ⟨rfl, rfl⟩
          go_wp2_with fail
          refine (HBB1.out _).mono ?_
          rintro e w2 ⟨rfl, rfl⟩
          go_wp2_with (at_mapUpdate; refine wpList_mapUpdate_own _ rfl _ _ _ 61 rfl 38 3 keyedU Tryd.underlying61 _ gm _ D2 rfl hown2 hnm _ _ _ rfl rfl hkey _ [] hval ?_; intro w3 hown3 hgrow3)
          have HF := Lib.hid (HPUT.out _ w3 D2 (q + 2 ^ r - 1) M1 HT2.out HD2.out HV.out (by have := HP.out; have := Nat.two_pow_pos r; omega) HGA.out hown3 hgrow3)
          clear hown2 hown3 hgrow3
          go_wp2_with fail
          go_ret
          exact ⟨ret_int (by rw [HV.out]), HF.out⟩
    · have HV : Hid (D.atKey (.int .u32 ((u : Int) * 64 + (k : Int))) (.lit (.int .i64 0)) = .lit (.int .i64 (bN es (r + 1) k u : Nat))) := Lib.hid (by rw [HT.out.right _ hh, bondV_key es hk64, HRK.out])
      have HMM : Hid (RefMap es gm (q + 2 ^ (r + 1) - 1) (bx w m A len cap)) := Lib.hid ⟨D, HO.out.mono (by rw [HP.out]; omega), HT.out⟩
      go_enter Tryd.func33, Tryd.ntmps33
      go_wp2_with (at_lookup; refine wpList_lookup_own_ok_int _ rfl _ _ 61 rfl 38 3 .i64 keyedU Tryd.underlying61 Tryd.underlying3 (zeroI _) gm q D rfl hown _ _ rfl hkey ?_; intro c hat hwc; have HC : Hid (c = (bN es (r + 1) k u : Nat)) := Lib.hid (by have h := HV.out; rw [hat] at h; injection h with h; injection h); clear hat hwc)
      go_ret
      exact ⟨ret_int HC.out, HMM.out, HGB.out⟩
end Go.Proofs.YthfgbgmkiggjmacDoor
