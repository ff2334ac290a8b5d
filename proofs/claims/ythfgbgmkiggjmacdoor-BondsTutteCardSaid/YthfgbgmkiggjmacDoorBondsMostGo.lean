/- bonds.Most: the first of the bonds with the most edges. bonds.Most, as a caller reads it. No conditions. -/
import Derived.Test.YthfgbgmkiggjmacDoorSeekerGo
import Derived.Test.YthfgbgmkiggjmacDoorNeigh
import Derived.Test.YthfgbgmkiggjmacDoorOwn
import Derived.Test.YthfgbgmkiggjmacDoorIntsAny
namespace Go.Proofs.YthfgbgmkiggjmacDoor
open Go.RowKit Go.Maps

theorem SeekEnv.below {n cap ba bm bf gm B : Nat} {ar : List Nat} {A : Option Addr} {w w' : World} (h : SeekEnv n ar cap A ba bm bf gm w) (hb : Below B w w') (hB : ba < B ∧ bm < B ∧ bf < B ∧ gm < B) (hT : 0 < B) : SeekEnv n ar cap A ba bm bf gm w' := by
  obtain ⟨l1, l2, l3, l4⟩ := h.la
  have hs := hb.size
  exact ⟨(hb.cell (p := ⟨ba, 0, none⟩) hB.1).trans h.ca, (hb.cell (p := ⟨bm, 0, none⟩) hB.2.1).trans h.cm, (hb.cell (p := ⟨bf, 0, none⟩) hB.2.2.1).trans h.cf, h.words.below (hb.mono (by omega)), h.tab.below hb hT, ⟨by omega, by omega, by omega, by omega⟩, h.ne⟩
set_option maxRecDepth 100000 in
theorem seek_all (n cap ba bm bf gm : Nat) (A : Option Addr) (es : List E3) (hn : n ≤ 10) (hg : goodE n es) (f k : Nat) (w : World) (hf : f < 2 ^ n) (hk : k + 61917364224 ≤ 1000000000000000) (hE : SeekEnv n (nbL n es) cap A ba bm bf gm w) (hM : SeekMap n es gm k w) :
    Calls Tryd.prog 43 #[.int .u32 f, .pointer (some ⟨bm, 0, none⟩), .pointer (some ⟨bf, 0, none⟩), .pointer (some ⟨ba, 0, none⟩)] w fun e w' => e = .returned (.int .i64 (mF n es f : Nat)) ∧ SeekMap n es gm (k + 61917364224) w' ∧ w.grownBy w' (some gm) :=
  seek_any n cap ba bm bf gm A es hn hg 10 f k w hf (Lv.all hn hf) hk hE hM

set_option maxRecDepth 100000 in
set_option maxHeartbeats 400000 in
theorem mostB_bad (n : Int) (A : Option Addr) (len cap : Nat) (es : List E3) (v : Int) (w : World) (hE : EdgesAt w w.heap.size A len es) (hv : gcheck n es = v) (hv0 : v ≠ 0) :
    Calls Tryd.prog 13 #[.agg #[.int .i64 n, .slice A len cap]] w fun e w' => e = .returned (.tuple #[.slice none 0 0, .int .i64 v]) ∧ Below w.heap.size w w' := by
  have HE := Lib.hid (show EdgesAt (bx w n A len cap) (bx w n A len cap).heap.size A len es from (hE.alloc (Nat.le_refl _) _).more (by simp [bx]))
  have HV := Lib.hid hv
  have HV0 := Lib.hid hv0
  have hb0 : (v != 0) = true := by simpa using hv0
  clear hE hv hv0
  go_enter Tryd.func13, Tryd.ntmps13
  go_wp2_with fail
  refine (neighbours_bad n A len cap es v _ (by exact HE.out) HV.out HV0.out).mono ?_
  rintro e w1 ⟨rfl, hb1⟩
  go_wp2_with fail
  go_ret2
  exact ⟨rfl, ((Below.refl _ _).alloc (Nat.le_refl _) _).trans (hb1.mono (by simp))⟩

set_option maxRecDepth 100000 in
set_option maxHeartbeats 4000000 in
theorem mostB_good (m : Nat) (A : Option Addr) (len cap : Nat) (es : List E3) (w : World) (hE : EdgesAt w w.heap.size A len es) (hv : gcheck m es = 0) (hT : Tab w) :
    Calls Tryd.prog 13 #[.agg #[.int .i64 m, .slice A len cap]] w fun e w' => (∃ v, e = .returned (.tuple #[v, .int .i64 0]) ∧ w'.ownsRow w.heap.size 3 1 v (bndL es es.length 0 0).length (bV (bndL es es.length 0 0))) ∧ Below w.heap.size w w' := by
  obtain ⟨_, hm10', hl45, hgood⟩ := good_of_gcheck hv
  have hm10 : m ≤ 10 := by omega
  have hlen : len ≤ 45 := by have := hE.1; omega
  have HE := Lib.hid (show EdgesAt (bx w m A len cap) (bx w m A len cap).heap.size A len es from (hE.alloc (Nat.le_refl _) _).more (by simp [bx]))
  have HE0 := Lib.hid hE
  have HG := Lib.hid hgood
  have HV := Lib.hid hv
  have HL := Lib.hid hE.1
  have HT := Lib.hid hT
  obtain ⟨i0, hi, hz0, hz1, hz2⟩ := info_parts infoInt
  have HI := Lib.hid hi
  have HI0 := Lib.hid hz0
  have HI1 := Lib.hid hz1
  have HI2 := Lib.hid hz2
  clear hE hv hgood hl45 hT hi hz0 hz1 hz2
  go_enter Tryd.func13, Tryd.ntmps13
  go_wp2_with fail
  refine (neighbours_any m A len cap es _ (by exact HE.out) HV.out).mono ?_
  rintro e w1 ⟨g, rfl, hR, hgs, hb1⟩
  have hb1' : Below (bx w m A len cap).heap.size (bx w m A len cap) w1 := hb1
  have hBx : Below w.heap.size w (bx w m A len cap) := (Below.refl _ _).alloc (Nat.le_refl _) _
  have hs0 : (bx w m A len cap).heap.size = w.heap.size + 1 := by simp [bx]
  have hs1 : w.heap.size < w1.heap.size := by have := hb1'.size; omega
  have hW1 : WordsAt w1 w1.heap.size (some ⟨g, 0, none⟩) m (nbL m es) := by
    have h := WordsAt.of_row hR (B := w1.heap.size) hR.lt
    rwa [nbL_length] at h
  have hbx0 : w1.cell? ⟨w.heap.size, 0, none⟩ = some (.int .i64 m) := by rw [hb1'.cell (p := ⟨w.heap.size, 0, none⟩) (by show w.heap.size < _; omega)]; simp [bx, go_sem]
  have hbx1 : w1.cell? ⟨w.heap.size, 1, none⟩ = some (.slice A len cap) := by rw [hb1'.cell (p := ⟨w.heap.size, 1, none⟩) (by show w.heap.size < _; omega)]; simp [bx, go_sem]
  have HB1 : Hid (Below w.heap.size w w1) := Lib.hid (hBx.trans (hb1'.mono (by omega)))
  have HW1 := Lib.hid hW1
  have HS1 := Lib.hid hs1
  have HX0 := Lib.hid hbx0
  have HX1 := Lib.hid hbx1
  clear hR hgs hb1 hb1' hBx hs0 hW1 hbx0 hbx1 hs1
  go_wp2_with fail
  refine (seeker_any m m (some ⟨g, 0, none⟩) es w1 HW1.out (HT.out.go_ HB1.out) HG.out).mono ?_
  rintro e w2 ⟨rfl, hE2, hM2, hb2, hsz2⟩
  have HS2 := Lib.hid hsz2
  have HE2 := Lib.hid hE2
  have HM2 := Lib.hid hM2
  have HB2 : Hid (Below w.heap.size w w2) := Lib.hid (HB1.out.trans (hb2.mono (Nat.le_of_lt HS1.out)))
  have hbx0 : w2.cell? ⟨w.heap.size, 0, none⟩ = some (.int .i64 m) := (hb2.cell (p := ⟨w.heap.size, 0, none⟩) HS1.out).trans HX0.out
  have hbx1 : w2.cell? ⟨w.heap.size, 1, none⟩ = some (.slice A len cap) := (hb2.cell (p := ⟨w.heap.size, 1, none⟩) HS1.out).trans HX1.out
  clear hE2 hM2 hb2 hsz2
  go_wp2_with fail
  refine (all_any m w2 hm10).mono ?_
  rintro e w3 ⟨rfl, rfl⟩
  go_wp2_with fail
  clear hbx0 hbx1
  have HT3 : Hid (0 < w1.heap.size + 4) := Lib.hid (by have := (HT.out.go_ HB1.out).1; omega)
  have hs2 : w2.heap.size = w1.heap.size + 4 := HS2.out
  go_loopw [6, 8, 28] (fun v f j wr => ∃ (k R : Nat) (l : List Nat), k ≤ len ∧ R < 2 ^ m ∧ l.length ≤ k ∧ j = .int .i64 k ∧ f = .int .u32 R ∧ Hid (MostGoInv m es k R l) ∧ Hid (wr.ownsRow (w1.heap.size + 4) 3 1 v l.length (bV l)) ∧ Hid (SeekEnv m (nbL m es) m (some ⟨g, 0, none⟩) w1.heap.size (w1.heap.size + 2) (w1.heap.size + 3) (w1.heap.size + 1) wr) ∧ Hid (SeekMap m es (w1.heap.size + 1) (1 + k * 123834728448) wr) ∧ Hid (Below w.heap.size w wr ∧ w1.heap.size + 4 ≤ wr.heap.size)) (fun _ _ j _ => len - (intOf j).toNat)
  case atStart => exact ⟨0, 2 ^ m - 1, [], Nat.zero_le _, by have := Nat.two_pow_pos m; omega, Nat.le_refl _, rfl, rfl, Lib.hid MostGoInv.start, Lib.hid (World.ownsRow_nil ..), HE2, HM2, Lib.hid ⟨HB2.out, Nat.le_of_eq hs2.symm⟩⟩
  case round =>
    clear HE2 HM2 HB2 hs2
    obtain ⟨k, R, l, hk, hR, hll, rfl, rfl, HMI, HO, HSE, HSM, HBW⟩ := hrel
    have hR10 := pow10 hm10 hR
    by_cases hlt : k < len
    · obtain ⟨b, off, ⟨a0, a1, a2⟩, rfl, hb, hx, hc0, hc1, hc2⟩ := (HE0.out.below HBW.out.1).at_ hlt
      have hkl : k < es.length := by rw [HL.out]; exact hlt
      obtain ⟨c, hx2, hAn, hBn, hne, _⟩ := ends HG.out hkl
      rw [hx2] at hx
      injection hx with hx
      injection hx with e0 hx
      injection hx with e1 e2
      subst e0 e1 e2
      simp only at hc0 hc1 hc2
      have HTK := Lib.hid (fun (h1 : R &&& (2 ^ eA es k ||| 2 ^ eB es k) = 2 ^ eA es k ||| 2 ^ eB es k) (h2 : 1 + mF m es (diffW R (2 ^ eA es k ||| 2 ^ eB es k)) = mF m es R) => HMI.out.take HG.out hm10 hR hkl h1 h2)
      have HSKP := Lib.hid (fun (h1 : R &&& (2 ^ eA es k ||| 2 ^ eB es k) = 2 ^ eA es k ||| 2 ^ eB es k → ¬ 1 + mF m es (diffW R (2 ^ eA es k ||| 2 ^ eB es k)) = mF m es R) => HMI.out.skip HG.out hm10 hR hkl h1)
      have hpi : 2 ^ eA es k < 1024 := pow10 hm10 (Nat.pow_lt_pow_right (by decide) hAn)
      have hpj : 2 ^ eB es k < 1024 := pow10 hm10 (Nat.pow_lt_pow_right (by decide) hBn)
      have hor := or_u32 (2 ^ eA es k) (2 ^ eB es k) (by omega) (by omega)
      have hEl : 2 ^ eA es k ||| 2 ^ eB es k < 1024 := Nat.or_lt_two_pow (n := 10) hpi hpj
      have hsi : (2 : Int) ^ eA es k % 4294967296 = ((2 ^ eA es k : Nat) : Int) := pow_mod _ (by omega)
      have hsj : (2 : Int) ^ eB es k % 4294967296 = ((2 ^ eB es k : Nat) : Int) := pow_mod _ (by omega)
      have hti : IntKind.u32.wrap ((2 : Int) ^ eA es k) = ((2 ^ eA es k : Nat) : Int) := by rw [wrap_u32n]; exact hsi
      have htj : IntKind.u32.wrap ((2 : Int) ^ eB es k) = ((2 ^ eB es k : Nat) : Int) := by rw [wrap_u32n]; exact hsj
      have hand := and_u32 R (2 ^ eA es k ||| 2 ^ eB es k) (by omega) (by omega)
      have hdf := andNot_u32 R (2 ^ eA es k ||| 2 ^ eB es k) (by omega) (by omega)
      have hDl : diffW R (2 ^ eA es k ||| 2 ^ eB es k) < 2 ^ m := diffW_sub hm10 hR (by omega)
      generalize 2 ^ eA es k ||| 2 ^ eB es k = E at HTK HSKP hor hEl hand hdf hDl
      generalize 2 ^ eA es k = pi at hpi hor hsi hti
      generalize 2 ^ eB es k = pj at hpj hor hsj htj
      have hi0 : (0 : Int) ≤ (eA es k : Int) := by omega
      have hj0 : (0 : Int) ≤ (eB es k : Int) := by omega
      have hi32 : (eA es k : Int) ≤ 32 := by omega
      have hj32 : (eB es k : Int) ≤ 32 := by omega
      generalize eA es k = ia at *
      generalize eB es k = ib at *
      have hw1s : w.heap.size ≤ w1.heap.size := Nat.le_of_lt HS1.out
      -- what stays when only blocks of the call's own beyond the table are written
      have HKEEP : Hid (∀ W, Below (w1.heap.size + 4) wr W → SeekEnv m (nbL m es) m (some ⟨g, 0, none⟩) w1.heap.size (w1.heap.size + 2) (w1.heap.size + 3) (w1.heap.size + 1) W ∧ SeekMap m es (w1.heap.size + 1) (1 + k * 123834728448) W ∧ Below w.heap.size w W ∧ w1.heap.size + 4 ≤ W.heap.size) := Lib.hid fun W hW =>
        ⟨HSE.out.below hW ⟨by omega, by omega, by omega, by omega⟩ HT3.out, HSM.out.below hW (by omega), HBW.out.1.trans (hW.mono (by omega)), Nat.le_trans HBW.out.2 hW.size⟩
      have HOB : Hid (Below (w1.heap.size + 4) wr (wr.alloc (.cells #[.int .i64 ia, .int .i64 ib, .int .i64 c] 53))) := Lib.hid ((Below.refl _ _).alloc HBW.out.2 _)
      have HOA : Hid ((wr.alloc (.cells #[.int .i64 ia, .int .i64 ib, .int .i64 c] 53)).ownsRow (w1.heap.size + 4) 3 1 u6 l.length (bV l)) := Lib.hid (HO.out.alloc _)
      have hbr : b < wr.heap.size := by have := HBW.out.1.size; omega
      have hki : (k : Int) < (len : Int) := by omega
      have hk0 : (0 : Int) ≤ (k : Int) := by omega
      clear hx2 hne HMI
      by_cases hfr : R &&& E = E
      · have hfb : (((R &&& E : Nat) : Int) == (E : Int)) = true := by rw [hfr]; simp
        have HTK1 : Hid (1 + mF m es (diffW R E) = mF m es R → MostGoInv m es (k + 1) (diffW R E) (l ++ [k])) := Lib.hid (HTK.out hfr)
        have HSK1 : Hid (¬ 1 + mF m es (diffW R E) = mF m es R → MostGoInv m es (k + 1) R l) := Lib.hid fun h => HSKP.out fun _ => h
        have HDL := Lib.hid hDl
        have HCALL : Hid (∀ (W : World) (f q : Nat), f < 2 ^ m → q + 61917364224 ≤ 1000000000000000 → SeekEnv m (nbL m es) m (some ⟨g, 0, none⟩) w1.heap.size (w1.heap.size + 2) (w1.heap.size + 3) (w1.heap.size + 1) W → SeekMap m es (w1.heap.size + 1) q W → Calls Tryd.prog 43 #[.int .u32 f, .pointer (some ⟨w1.heap.size + 2, 0, none⟩), .pointer (some ⟨w1.heap.size + 3, 0, none⟩), .pointer (some ⟨w1.heap.size, 0, none⟩)] W fun e w' => e = .returned (.int .i64 (mF m es f : Nat)) ∧ SeekMap m es (w1.heap.size + 1) (q + 61917364224) w' ∧ W.grownBy w' (some (w1.heap.size + 1))) := Lib.hid fun W f q hf hq h1 h2 =>
          seek_all m m w1.heap.size (w1.heap.size + 2) (w1.heap.size + 3) (w1.heap.size + 1) (some ⟨g, 0, none⟩) es hm10 HG.out f q W hf hq h1 h2
        have HM1 := mF_le HG.out (diffW R E)
        have HM2 := mF_le HG.out R
        clear HTK HSKP hfr
        generalize R &&& E = Q at hand hfb
        generalize diffW R E = D at hdf hDl HTK1 HSK1 HDL HM1
        have HF := Lib.hid (HKEEP.out _ (by exact HOB.out.drew))
        have hcb : 1 + k * 123834728448 + 61917364224 + 61917364224 ≤ 1000000000000000 := by omega
        go_wp2_with fail
        go_region
        go_wp2_with fail
        refine (HCALL.out _ D _ HDL.out (by omega) HF.out.1 HF.out.2.1).mono ?_
        rintro e w4 ⟨rfl, hM4, hG4⟩
        have HE4 := Lib.hid (HF.out.1.grown hG4)
        have HM4 := Lib.hid hM4
        have HO4 : Hid (w4.ownsRow (w1.heap.size + 4) 3 1 u6 l.length (bV l)) := Lib.hid (own_keep_map (by exact HOA.out) hG4 (by omega))
        have HB4 : Hid (Below w.heap.size w w4 ∧ w1.heap.size + 4 ≤ w4.heap.size) := Lib.hid ⟨HF.out.2.2.1.grown hG4 HF.out.2.2.1.size (fun j hj => by cases hj; omega), Nat.le_trans HF.out.2.2.2 hG4.size⟩
        clear hM4 hG4
        go_wp2_with fail
        refine (HCALL.out _ R _ hR hcb HE4.out HM4.out).mono ?_
        rintro e w5 ⟨rfl, hM5, hG5⟩
        have HE5 := Lib.hid (HE4.out.grown hG5)
        have HM5 : Hid (SeekMap m es (w1.heap.size + 1) (1 + (k + 1) * 123834728448) w5) := Lib.hid (hM5.more (by omega))
        have HO5 : Hid (w5.ownsRow (w1.heap.size + 4) 3 1 u6 l.length (bV l)) := Lib.hid (own_keep_map HO4.out hG5 (by omega))
        have HB5 : Hid (Below w.heap.size w w5 ∧ w1.heap.size + 4 ≤ w5.heap.size) := Lib.hid ⟨HB4.out.1.grown hG5 HB4.out.1.size (fun j hj => by cases hj; omega), Nat.le_trans HB4.out.2 hG5.size⟩
        clear hM5 hG5 HM4 HE4 HO4 HB4 HCALL
        by_cases hmx : 1 + mF m es D = mF m es R
        · have HN := Lib.hid (HTK1.out hmx)
          clear HTK1 HSK1
          generalize mF m es D = X1 at HM1 hmx
          generalize mF m es R = X2 at HM2 hmx
          have hd : ((1 : Int) + (X1 : Int) == (X2 : Int)) = true := by
            have : (1 : Int) + (X1 : Int) = (X2 : Int) := by omega
            simpa using this
          clear hmx
          have HFIN : Hid (∀ (v' : Value) (w6 : World), w6.ownsRow (w1.heap.size + 4) 3 1 v' (l.length + 1) (bV l ++ [.int .i64 (k : Int)]) → (w5.alloc (.cells #[.int .i64 k] 3)).grownBy w6 u6.ownBlock → w6.ownsRow (w1.heap.size + 4) 3 1 v' (l ++ [k]).length (bV (l ++ [k])) ∧ SeekEnv m (nbL m es) m (some ⟨g, 0, none⟩) w1.heap.size (w1.heap.size + 2) (w1.heap.size + 3) (w1.heap.size + 1) w6 ∧ SeekMap m es (w1.heap.size + 1) (1 + (k + 1) * 123834728448) w6 ∧ Below w.heap.size w w6 ∧ w1.heap.size + 4 ≤ w6.heap.size) := Lib.hid fun v' w6 h1 h2 => by
            have hb6 : Below (w1.heap.size + 4) w5 w6 := ((Below.refl _ _).alloc HB5.out.2 _).grown h2 (by have := HB5.out.2; simp; omega) (own_base HO5.out)
            refine ⟨by rw [bV_snoc, List.length_append]; exact h1, HE5.out.below hb6 ⟨by omega, by omega, by omega, by omega⟩ HT3.out, HM5.out.below hb6 (by omega), HB5.out.1.trans (hb6.mono (by omega)), Nat.le_trans HB5.out.2 hb6.size⟩
          go_wp2_with (at_builtin; refine wpList_append_own _ rfl _ _ 33 rfl (w1.heap.size + 4) 3 i0 (.int .i64 0) 1 8 Tryd.underlying33 HI.out HI0.out HI1.out HI2.out rfl (by decide) _ _ _ rfl (HO5.out.alloc _) ⟨w5.heap.size, 0, none⟩ 1 1 [.int .i64 (k : Int)] rfl rfl ?c1 ?c2 ?c3 ?c4 ?c5 ?_)
          try (case c1 => exact cell_one_new _ _ _)
          case c2 => simp [Value.oneCell']
          case c3 => unfold maxLen; omega
          case c4 => omega
          case c5 => have := HB5.out.2; simp; omega
          intro v' w6 hown' hgrow _
          have HR6 := Lib.hid (HFIN.out v' w6 hown' hgrow)
          clear hown' hgrow
          go_wp2_with fail
          go_roundw
          case rel => exact ⟨k + 1, D, l ++ [k], by omega, HDL.out, by simp; omega, by go_num, rfl, HN, Lib.hid HR6.out.1, Lib.hid HR6.out.2.1, Lib.hid HR6.out.2.2.1, Lib.hid HR6.out.2.2.2⟩
          case measure => simp [intOf]; omega
        · have HN := Lib.hid (HSK1.out hmx)
          clear HTK1 HSK1
          generalize mF m es D = X1 at HM1 hmx
          generalize mF m es R = X2 at HM2 hmx
          have hd : ((1 : Int) + (X1 : Int) == (X2 : Int)) = false := by
            have : ¬ (1 : Int) + (X1 : Int) = (X2 : Int) := by omega
            simpa using this
          clear hmx
          go_wp2_with fail
          go_roundw
          case rel => exact ⟨k + 1, R, l, by omega, hR, by omega, by go_num, rfl, HN, HO5, HE5, HM5, HB5⟩
          case measure => simp [intOf]; omega
      · have hfb : (((R &&& E : Nat) : Int) == (E : Int)) = false := by
          have : ¬ ((R &&& E : Nat) : Int) = (E : Int) := by omega
          simpa using this
        have HN : Hid (MostGoInv m es (k + 1) R l) := Lib.hid (HSKP.out fun h => absurd h hfr)
        clear HTK HSKP hfr hdf hDl
        generalize R &&& E = Q at hand hfb
        have HF := Lib.hid (HKEEP.out _ (by exact HOB.out.drew))
        go_wp2_with fail
        go_region
        go_wp2_with fail
        go_roundw
        case rel => exact ⟨k + 1, R, l, by omega, hR, by omega, by go_num, rfl, HN, Lib.hid (by exact HOA.out), Lib.hid HF.out.1, Lib.hid (HF.out.2.1.more (by omega)), Lib.hid HF.out.2.2⟩
        case measure => simp [intOf]; omega
    · obtain rfl : k = len := by omega
      have HE : Hid (l = bndL es es.length 0 0) := Lib.hid (by have h := HMI.out; rw [← HL.out] at h; exact h.done)
      have HOW : Hid (wr.ownsRow w.heap.size 3 1 u6 (bndL es es.length 0 0).length (bV (bndL es es.length 0 0))) := Lib.hid (by rw [← HE.out]; exact own_low HO.out (by have := HS1.out; omega))
      clear HMI HO
      go_wp2_with fail
      go_ret2
      exact ⟨⟨_, rfl, HOW.out⟩, HBW.out.1⟩
end Go.Proofs.YthfgbgmkiggjmacDoor
namespace Go.Proofs.YthfgbgmkiggjmacDoor
open Go.RowKit

/-- The first of the best bonds, as ints. -/
def bI (es : List E3) : List Int := (bndL es es.length 0 0).map fun k : Nat => (k : Int)
theorem bI_len (es : List E3) : (bI es).length = (bndL es es.length 0 0).length := by simp [bI]
theorem bI_val (es : List E3) : bV (bndL es es.length 0 0) = (bI es).map (Value.int .i64) := by simp [bI, bV]
theorem bnd_len {n : Nat} {es : List E3} (hg : goodE n es) : 2 * (bndL es es.length 0 0).length ≤ n := by
  obtain ⟨h1, _, _, _⟩ := bndL_ok (es := es) es.length 0 0 (by omega)
  rw [← cov_size hg h1]
  have := sizeP_not (covK es (bndL es es.length 0 0)) n
  omega
set_option maxRecDepth 100000 in
theorem own_ints {w w' : World} {v : Value} {es : List E3} (h : w'.ownsRow w.heap.size 3 1 v (bndL es es.length 0 0).length (bV (bndL es es.length 0 0))) : ∃ A c, v = .slice A (bndL es es.length 0 0).length c ∧ IntsAt w' w'.heap.size A (bndL es es.length 0 0).length (bI es) ∧ (bndL es es.length 0 0).length ≤ c := by
  obtain ⟨A, c, rfl⟩ := own_form h
  rw [bI_val] at h
  refine ⟨A, c, rfl, IntsAt.of_own h (Nat.le_refl _), ?_⟩
  rcases h.2 with ⟨h4, h5⟩ | ⟨g, cap', cur, h4, _, _, h5, _⟩
  · rw [h5]; exact Nat.zero_le _
  · injection h4 with _ _ h6
    omega
set_option maxRecDepth 100000 in
/-- bonds.Most of a graph that is right. -/
theorem mostB_v (m : Nat) (A : Option Addr) (len cap : Nat) (es : List E3) (w : World) (hE : EdgesAt w w.heap.size A len es) (hv : gcheck m es = 0) (hT : Tab w) :
    Calls Tryd.prog 13 #[.agg #[.int .i64 m, .slice A len cap]] w fun e w' => (∃ A1 c1, e = .returned (.tuple #[.slice A1 (bndL es es.length 0 0).length c1, .int .i64 0]) ∧ (bndL es es.length 0 0).length ≤ c1 ∧ Hid (IntsAt w' w'.heap.size A1 (bndL es es.length 0 0).length (bI es))) ∧ Hid (Below w.heap.size w w') :=
  (mostB_good m A len cap es w hE hv hT).mono fun e w' ⟨⟨v, h1, h2⟩, h3⟩ => by
    obtain ⟨A1, c1, rfl, h4, h5⟩ := own_ints h2
    exact ⟨⟨A1, c1, h1, h5, Lib.hid h4⟩, Lib.hid h3⟩
end Go.Proofs.YthfgbgmkiggjmacDoor
