/- pairs.pairUp: one on the left is paired, or whoever was asked shows why not. -/
import Derived.Test.YtblbjiogojldhaaDoorWordsAt
import Derived.Test.YtblbjiogojldhaaDoorKuhnP
namespace Go.Proofs.YtblbjiogojldhaaDoor
open Go.RowKit

def i64V (x : Int) : Value := .int .i64 x
/-- What a search has brought: b: was one found? h1: whom each has then; a1: who was asked. -/
structure UpRel (xs : List Nat) (L a : Nat) (h : List Int) (b : Bool) (h1 : List Int) (a1 : Nat) : Prop where
  lt : a1 < 256
  sub : ∀ j, a.testBit j = true → a1.testBit j = true
  yes : b = true → h1.length = 8 ∧ (∀ v : Int, h1.count v + (if v = -1 then 1 else 0) = h.count v + (if v = (L : Int) then 1 else 0)) ∧ ∀ j, j < 8 → h1.getD j (-1) ≠ h.getD j (-1) → a.testBit j = false ∧ 0 ≤ h1.getD j (-1) ∧ nearF xs (h1.getD j (-1)).toNat j = true
  no : b = false → h1 = h ∧ (∀ j, j < 8 → nearF xs L j = true → a1.testBit j = true) ∧ ∀ j, j < 8 → a1.testBit j = true → a.testBit j = false → 0 ≤ h.getD j (-1) ∧ ∀ j', j' < 8 → nearF xs (h.getD j (-1)).toNat j' = true → a1.testBit j' = true
/-- As far as those on the right below k were asked. -/
structure UpInv (xs : List Nat) (L a : Nat) (h : List Int) (k cur : Nat) : Prop where
  lt : cur < 256
  ge : a ≤ cur
  sub : ∀ j, a.testBit j = true → cur.testBit j = true
  met : ∀ j, j < k → nearF xs L j = true → cur.testBit j = true
  shut : ∀ j, j < 8 → cur.testBit j = true → a.testBit j = false → 0 ≤ h.getD j (-1) ∧ ∀ j', j' < 8 → nearF xs (h.getD j (-1)).toNat j' = true → cur.testBit j' = true
section
variable {xs : List Nat} {L a k cur a1 : Nat} {h h1 : List Int}
theorem UpInv.start (ha : a < 256) : UpInv xs L a h 0 a := ⟨ha, Nat.le_refl _, fun _ h => h, fun j hj => by omega, fun j _ h1 h2 => by rw [h1] at h2; cases h2⟩
theorem UpInv.far (H : UpInv xs L a h k cur) (hn : nearF xs L k = false) : UpInv xs L a h (k + 1) cur := by
  refine ⟨H.lt, H.ge, H.sub, fun j hj h1 => ?_, H.shut⟩
  rcases Nat.lt_or_ge j k with h2 | h2
  · exact H.met j h2 h1
  · obtain rfl : j = k := by omega
    rw [hn] at h1; cases h1
theorem UpInv.met_ (H : UpInv xs L a h k cur) (hc : cur.testBit k = true) : UpInv xs L a h (k + 1) cur := by
  refine ⟨H.lt, H.ge, H.sub, fun j hj h1 => ?_, H.shut⟩
  rcases Nat.lt_or_ge j k with h2 | h2
  · exact H.met j h2 h1
  · obtain rfl : j = k := by omega
    exact hc
theorem or_bit_self (s k : Nat) : (s ||| 2 ^ k).testBit k = true := by rw [Nat.testBit_or, Nat.testBit_two_pow]; simp
theorem or_bit_of {s k j : Nat} (h : s.testBit j = true) : (s ||| 2 ^ k).testBit j = true := by rw [Nat.testBit_or, h]; rfl
theorem or_bit_not {s k j : Nat} (hj : j ≠ k) : (s ||| 2 ^ k).testBit j = s.testBit j := by
  rw [Nat.testBit_or, Nat.testBit_two_pow]
  simp [show ¬ k = j from fun e => hj e.symm]
theorem or_pow_lt {s k : Nat} (hs : s < 256) (hk : k < 8) : s ||| 2 ^ k < 256 := Nat.or_lt_two_pow (n := 8) hs (Nat.pow_lt_pow_right (by decide) hk)
theorem or_pow_gt {s k : Nat} (hs : s.testBit k = false) : s < s ||| 2 ^ k := by
  have h1 : s ≤ s ||| 2 ^ k := Nat.left_le_or
  rcases Nat.lt_or_ge s (s ||| 2 ^ k) with h | h
  · exact h
  · have : s = s ||| 2 ^ k := by omega
    have h2 := or_bit_self s k
    rw [← this, hs] at h2; cases h2
theorem UpInv.step (H : UpInv xs L a h k cur) (hk : k < 8) (hh : 0 ≤ h.getD k (-1)) (U : UpRel xs (h.getD k (-1)).toNat (cur ||| 2 ^ k) h false h1 a1) : UpInv xs L a h (k + 1) a1 := by
  obtain ⟨_, u2, u3⟩ := U.no rfl
  have hs : ∀ j, cur.testBit j = true → a1.testBit j = true := fun j hj => U.sub j (or_bit_of hj)
  have hkb : a1.testBit k = true := U.sub k (or_bit_self _ _)
  refine ⟨U.lt, ?_, fun j hj => hs j (H.sub j hj), fun j hj h1 => ?_, fun j hj8 h1 h2 => ?_⟩
  · have hz := H.ge
    have : cur ≤ a1 := by
      apply Nat.le_of_not_lt
      intro hlt
      have he : a1 ||| cur = a1 := by
        apply Nat.eq_of_testBit_eq
        intro j
        rw [Nat.testBit_or]
        cases hc : cur.testBit j with
        | false => simp
        | true => simp [hs j hc]
      have : cur ≤ a1 ||| cur := Nat.right_le_or
      omega
    omega
  · rcases Nat.lt_or_ge j k with h2 | h2
    · exact hs j (H.met j h2 h1)
    · obtain rfl : j = k := by omega
      exact hkb
  · cases hc : cur.testBit j with
    | true =>
      obtain ⟨g1, g2⟩ := H.shut j hj8 hc h2
      exact ⟨g1, fun j' hj' hn => hs j' (g2 j' hj' hn)⟩
    | false =>
      by_cases hjk : j = k
      · subst hjk
        exact ⟨hh, u2⟩
      · exact u3 j hj8 h1 (by rw [or_bit_not hjk]; exact hc)
theorem UpInv.none (H : UpInv xs L a h 8 cur) : UpRel xs L a h false h cur := ⟨H.lt, H.sub, (fun h => by cases h), fun _ => ⟨rfl, fun j hj hn => H.met j hj hn, H.shut⟩⟩
theorem count_set {v x : Int} : ∀ (l : List Int) (k : Nat), k < l.length → (l.set k x).count v + (if v = l.getD k (-1) then 1 else 0) = l.count v + (if v = x then 1 else 0)
  | y :: l, 0, _ => by
    have e1 : (((y :: l).set 0 x).count v) = l.count v + if x = v then 1 else 0 := by
      rw [List.set_cons_zero, List.count_cons]; simp
    have e2 : (y :: l).count v = l.count v + if y = v then 1 else 0 := by rw [List.count_cons]; simp
    have e3 : (y :: l).getD 0 (-1) = y := rfl
    rw [e1, e2, e3]
    have e4 : (if x = v then 1 else 0) = (if v = x then 1 else 0 : Nat) := by split <;> split <;> omega
    have e5 : (if y = v then 1 else 0) = (if v = y then 1 else 0 : Nat) := by split <;> split <;> omega
    omega
  | y :: l, k + 1, h => by
    have ih := count_set (v := v) (x := x) l k (by simpa using h)
    simp only [List.set_cons_succ, List.getD_cons_succ, List.count_cons]
    omega
theorem getD_set_self {l : List Int} {k : Nat} {x : Int} (hk : k < l.length) : (l.set k x).getD k (-1) = x := by
  rw [List.getD_eq_getElem?_getD, List.getElem?_set_self hk]; rfl
theorem getD_set_ne {l : List Int} {k j : Nat} {x : Int} (hk : j ≠ k) : (l.set k x).getD j (-1) = l.getD j (-1) := by
  rw [List.getD_eq_getElem?_getD, List.getElem?_set_ne (fun e => hk e.symm), List.getD_eq_getElem?_getD]
/-- Nobody has it: it is taken. -/
theorem UpInv.free (H : UpInv xs L a h k cur) (hl : h.length = 8) (hk : k < 8) (hn : nearF xs L k = true) (hc : cur.testBit k = false) (h0 : h.getD k (-1) = -1) : UpRel xs L a h true (h.set k (L : Int)) (cur ||| 2 ^ k) := by
  refine ⟨or_pow_lt H.lt hk, fun j hj => or_bit_of (H.sub j hj), fun _ => ⟨by rw [List.length_set]; exact hl, fun v => ?_, fun j hj hne => ?_⟩, fun h => by cases h⟩
  · have := count_set (v := v) (x := (L : Int)) h k (by omega)
    rw [h0] at this
    exact this
  · by_cases hjk : j = k
    · subst hjk
      rw [getD_set_self (by omega)]
      refine ⟨?_, by omega, by rw [Int.toNat_natCast]; exact hn⟩
      cases ha : a.testBit j with
      | false => rfl
      | true => rw [H.sub j ha] at hc; cases hc
    · rw [getD_set_ne hjk] at hne
      exact absurd rfl hne
/-- Whoever has it gets another one. -/
theorem UpInv.other (H : UpInv xs L a h k cur) (hk : k < 8) (hn : nearF xs L k = true) (hc : cur.testBit k = false) (h0 : 0 ≤ h.getD k (-1)) (U : UpRel xs (h.getD k (-1)).toNat (cur ||| 2 ^ k) h true h1 a1) :
    UpRel xs L a h true (h1.set k (L : Int)) a1 := by
  obtain ⟨u1, u2, u3⟩ := U.yes rfl
  have hk1 : h1.getD k (-1) = h.getD k (-1) := by
    apply Classical.byContradiction
    intro hne
    have := (u3 k hk hne).1
    rw [or_bit_self] at this; cases this
  have hsub : ∀ j, a.testBit j = true → (cur ||| 2 ^ k).testBit j = true := fun j hj => or_bit_of (H.sub j hj)
  refine ⟨U.lt, fun j hj => U.sub j (hsub j hj), fun _ => ⟨by rw [List.length_set]; exact u1, fun v => ?_, fun j hj hne => ?_⟩, fun h => by cases h⟩
  · have e1 := count_set (v := v) (x := (L : Int)) h1 k (by omega)
    have e2 := u2 v
    rw [hk1] at e1
    rw [show ((h.getD k (-1)).toNat : Int) = h.getD k (-1) by omega] at e2
    omega
  · have hnot : (cur ||| 2 ^ k).testBit j = false → a.testBit j = false := fun h2 => by
      cases ha : a.testBit j with
      | false => rfl
      | true => rw [hsub j ha] at h2; cases h2
    by_cases hjk : j = k
    · subst hjk
      rw [getD_set_self (by omega)]
      refine ⟨?_, by omega, by rw [Int.toNat_natCast]; exact hn⟩
      cases ha : a.testBit j with
      | false => rfl
      | true => rw [H.sub j ha] at hc; cases hc
    · rw [getD_set_ne hjk] at hne ⊢
      obtain ⟨g1, g2⟩ := u3 j hj hne
      exact ⟨hnot g1, g2⟩
end

def UpPost (xs : List Nat) (L a : Nat) (h : List Int) (gh ga : Nat) (w : World) (e : Ending) (w' : World) : Prop :=
  ∃ (b : Bool) (h1 : List Int) (a1 : Nat), e = .returned (.bool b) ∧ RowOf w' gh 49 (h1.map i64V) ∧ RowOf w' ga 31 [.int .u32 a1] ∧ Below gh w w' ∧ UpRel xs L a h b h1 a1

set_option maxRecDepth 100000 in
set_option maxHeartbeats 4000000 in
theorem pairUp_any (len cap gh ga : Nat) (A : Option Addr) (xs : List Nat) (hx : W8 xs) (hgg : gh < ga) (m : Nat) :
    ∀ (L a : Nat) (h : List Int) (w : World), 256 - a ≤ m → a < 256 → L < len → h.length = 8 → (∀ x ∈ h, x = -1 ∨ (0 ≤ x ∧ x < (len : Int))) → WordsAt w gh A len xs → RowOf w gh 49 (h.map i64V) → RowOf w ga 31 [.int .u32 a] →
    Calls Tryd.prog 30 #[.pointer (some ⟨gh, 0, none⟩), .slice A len cap, .int .i64 L, .pointer (some ⟨ga, 0, none⟩)] w (UpPost xs L a h gh ga w) := by
  induction m with
  | zero => intro L a h w hm ha; omega
  | succ m ih =>
    intro L a h w hm ha hL h8 hr hA hRh hRa
    have HIH := Lib.hid ih
    have HX := Lib.hid hx
    have HA := Lib.hid hA
    have H8 := Lib.hid h8
    have HRG := Lib.hid hr
    have HST : Hid (UpInv xs L a h 0 a ∧ RowOf w gh 49 (h.map i64V) ∧ RowOf w ga 31 [.int .u32 a]) := Lib.hid ⟨UpInv.start ha, hRh, hRa⟩
    have HGG : Hid (gh ≠ ga ∧ ga ≠ gh) := Lib.hid ⟨by omega, by omega⟩
    clear hx hA h8 hr hRh hRa ih
    have iL0 : (0 : Int) ≤ (L : Int) := by omega
    have iL1 : (L : Int) < (len : Int) := by omega
    go_enter Tryd.func30, Tryd.ntmps30
    go_wp2_with fail
    go_loopw [11] (fun j wr => ∃ (k cur : Nat), k ≤ 8 ∧ j = .int .i64 k ∧ Hid (UpInv xs L a h k cur ∧ RowOf wr gh 49 (h.map i64V) ∧ RowOf wr ga 31 [.int .u32 cur]) ∧ Below gh w wr) (fun j _ => 8 - (intOf j).toNat)
    case atStart => exact ⟨0, a, by omega, rfl, HST, Below.refl _ _⟩
    case round =>
      clear HST
      obtain ⟨k, cur, hk, rfl, HI, hB⟩ := hrel
      by_cases hlt : k < 8
      · have HA2 : Hid (WordsAt wr gh A len xs) := Lib.hid (HA.out.below hB)
        obtain ⟨b, off, rfl, hbl, hc⟩ := HA2.out.at_ hL
        have hX := HX.out.at_ L
        have hNE : Hid (nearF xs L k = (xs.getD L 0).testBit k) := Lib.hid rfl
        have hcur := HI.out.1.lt
        have ca := HI.out.2.2.cell (i := 0) rfl
        have fa := HI.out.2.2.frozen 0
        have hp : 2 ^ k < 2 ^ 8 := Nat.pow_lt_pow_right (by decide) hlt
        rw [show 2 ^ 8 = 256 from rfl] at hp
        have hsk : (2 : Int) ^ k % 4294967296 = ((2 ^ k : Nat) : Int) := pow_mod k (by omega)
        have htk : IntKind.u32.wrap ((2 : Int) ^ k) = ((2 ^ k : Nat) : Int) := by rw [wrap_u32n]; exact hsk
        have hY := and_u32 (xs.getD L 0) (2 ^ k) (by omega) (by omega)
        have hYb := and_pow_ne (xs.getD L 0) k
        have hZ := and_u32 cur (2 ^ k) (by omega) (by omega)
        have hZb := and_pow_ne cur k
        have hO := or_u32 cur (2 ^ k) (by omega) (by omega)
        have ik0 : (0 : Int) ≤ (k : Int) := by omega
        have ik1 : (k : Int) < 8 := by omega
        have HYb := Lib.hid hYb
        have HZb := Lib.hid hZb
        clear hYb hZb
        generalize xs.getD L 0 = X at hc hX hNE hY HYb
        cases hb : X.testBit k
        · have hY0 : bits .and .u32 (X : Int) ((2 ^ k : Nat) : Int) = 0 := by
            rw [hY]
            have : X &&& 2 ^ k = 0 := Classical.byContradiction fun h => by have := HYb.out.1 h; rw [hb] at this; cases this
            rw [this]; rfl
          have HN := Lib.hid (HI.out.1.far (by rw [hNE.out]; exact hb))
          have HR1 := Lib.hid HI.out.2
          clear hY hZ hO HI hNE hb HYb HZb
          generalize 2 ^ k = p at hp hsk htk hY0
          go_wp2_with fail
          go_roundw
          case rel => exact ⟨k + 1, cur, by omega, by go_num, Lib.hid ⟨HN.out, HR1.out⟩, hB⟩
          case measure => simp [intOf]; omega
        · have hYn : (((X &&& 2 ^ k : Nat) : Int) == 0) = false := by
            have h1 := HYb.out.2 hb
            have : ((X &&& 2 ^ k : Nat) : Int) ≠ 0 := by omega
            simpa using h1
          have HNB : Hid (nearF xs L k = true) := Lib.hid (by rw [hNE.out]; exact hb)
          cases hcb : cur.testBit k
          · have hZ0 : bits .and .u32 (cur : Int) ((2 ^ k : Nat) : Int) = 0 := by
              rw [hZ]
              have : cur &&& 2 ^ k = 0 := Classical.byContradiction fun h => by have := HZb.out.1 h; rw [hcb] at this; cases this
              rw [this]; rfl
            have HCB := Lib.hid hcb
            have hck : wr.cell? ⟨gh, k, none⟩ = some (.int .i64 (h.getD k (-1))) := HI.out.2.1.cell (by
              have hl8 : k < h.length := by have := H8.out; omega
              rw [List.getElem?_map, List.getD_eq_getElem?_getD, List.getElem?_eq_getElem hl8]; rfl)
            have fk := HI.out.2.1.frozen k
            have HRH : Hid (RowOf (wr.setCell ⟨ga, 0, none⟩ (.int .u32 (cur ||| 2 ^ k : Nat))) gh 49 (h.map i64V)) := Lib.hid (HI.out.2.1.far HGG.out.1 _)
            have HRA : Hid (RowOf (wr.setCell ⟨ga, 0, none⟩ (.int .u32 (cur ||| 2 ^ k : Nat))) ga 31 [.int .u32 (cur ||| 2 ^ k : Nat)]) := Lib.hid (HI.out.2.2.set_ 0 _)
            have HBW : Hid (Below gh w (wr.setCell ⟨ga, 0, none⟩ (.int .u32 (cur ||| 2 ^ k : Nat)))) := Lib.hid (hB.setCell (p := ⟨ga, 0, none⟩) (by show gh ≤ ga; omega) _)
            have HAW : Hid (WordsAt (wr.setCell ⟨ga, 0, none⟩ (.int .u32 (cur ||| 2 ^ k : Nat))) gh (some ⟨b, off, none⟩) len xs) := Lib.hid (HA.out.below HBW.out)
            have hqg : 256 - (cur ||| 2 ^ k) ≤ m := by
              have h1 := or_pow_gt hcb
              have h2 := HI.out.1.ge
              omega
            have hql : cur ||| 2 ^ k < 256 := or_pow_lt hcur hlt
            have HI1 := Lib.hid HI.out.1
            have hkc : wr.cell? ⟨ga, 0, none⟩ = some (.int .u32 cur) := ca
            have gne : ¬ gh = ga := HGG.out.1
            have gne2 : ¬ ga = gh := HGG.out.2
            by_cases h0 : h.getD k (-1) < 0
            · have h0e : h.getD k (-1) = -1 := by
                have hl8 : k < h.length := by have := H8.out; omega
                have := HRG.out (h.getD k (-1)) (by rw [List.getD_eq_getElem?_getD, List.getElem?_eq_getElem hl8]; exact List.getElem_mem _)
                omega
              rw [h0e] at hck
              have HE : Hid (UpPost xs L a h gh ga w (.returned (.bool true)) ((wr.setCell ⟨ga, 0, none⟩ (.int .u32 (cur ||| 2 ^ k : Nat))).setCell ⟨gh, k, none⟩ (.int .i64 L))) := Lib.hid
                ⟨true, h.set k (L : Int), cur ||| 2 ^ k, rfl, by rw [List.map_set]; exact HRH.out.set_ k _, HRA.out.far HGG.out.2 _, HBW.out.setCell (p := ⟨gh, k, none⟩) (Nat.le_refl _) _, HI1.out.free H8.out hlt HNB.out HCB.out h0e⟩
              clear hb hcb h0 h0e HI HI1 hNE HYb HZb HRH HRA HBW HAW hqg
              generalize cur ||| 2 ^ k = q at hO hql HE
              generalize X &&& 2 ^ k = y at hY hYn
              generalize 2 ^ k = p at hp hsk htk hY hZ0 hO
              clear hZ
              go_wp2_with fail
              go_ret
              exact HE.out
            · obtain ⟨v, hv⟩ := Int.eq_ofNat_of_zero_le (show 0 ≤ h.getD k (-1) by omega)
              have hvl : v < len := by
                have hl8 : k < h.length := by have := H8.out; omega
                have := HRG.out (h.getD k (-1)) (by rw [List.getD_eq_getElem?_getD, List.getElem?_eq_getElem hl8]; exact List.getElem_mem _)
                omega
              have HV : Hid (h.getD k (-1) = (v : Int)) := Lib.hid hv
              have HT : Hid ((h.getD k (-1)).toNat = v) := Lib.hid (by rw [hv, Int.toNat_natCast])
              rw [hv] at hck
              have HCALL : Hid (Calls Tryd.prog 30 #[.pointer (some ⟨gh, 0, none⟩), .slice (some ⟨b, off, none⟩) len cap, .int .i64 v, .pointer (some ⟨ga, 0, none⟩)] (wr.setCell ⟨ga, 0, none⟩ (.int .u32 (cur ||| 2 ^ k : Nat))) (UpPost xs v (cur ||| 2 ^ k) h gh ga (wr.setCell ⟨ga, 0, none⟩ (.int .u32 (cur ||| 2 ^ k : Nat))))) := Lib.hid
                (HIH.out v (cur ||| 2 ^ k) h _ hqg hql hvl H8.out HRG.out HAW.out HRH.out HRA.out)
              have HYES : Hid (∀ (h1 : List Int) (a1 : Nat) (w2 : World), UpRel xs v (cur ||| 2 ^ k) h true h1 a1 → RowOf w2 gh 49 (h1.map i64V) → RowOf w2 ga 31 [.int .u32 a1] → Below gh (wr.setCell ⟨ga, 0, none⟩ (.int .u32 (cur ||| 2 ^ k : Nat))) w2 → UpPost xs L a h gh ga w (.returned (.bool true)) (w2.setCell ⟨gh, k, none⟩ (.int .i64 L))) := Lib.hid fun h1 a1 w2 hU g1 g2 g3 =>
                ⟨true, h1.set k (L : Int), a1, rfl, by rw [List.map_set]; exact g1.set_ k _, g2.far HGG.out.2 _, (HBW.out.trans g3).setCell (p := ⟨gh, k, none⟩) (Nat.le_refl _) _, HI1.out.other hlt HNB.out HCB.out (by rw [HV.out]; omega) (by rw [HT.out]; exact hU)⟩
              have HNO : Hid (∀ (h1 : List Int) (a1 : Nat), UpRel xs v (cur ||| 2 ^ k) h false h1 a1 → h1 = h ∧ UpInv xs L a h (k + 1) a1) := Lib.hid fun h1 a1 hU =>
                ⟨(hU.no rfl).1, HI1.out.step hlt (by rw [HV.out]; omega) (by rw [HT.out]; exact hU)⟩
              clear hb hcb h0 hv HV HT HI HI1 hNE HYb HZb HRH HRA HAW hqg
              have HBS : Hid (∀ w2, Below gh (wr.setCell ⟨ga, 0, none⟩ (.int .u32 (cur ||| 2 ^ k : Nat))) w2 → Below gh w w2) := Lib.hid fun w2 h => HBW.out.trans h
              clear HBW
              generalize cur ||| 2 ^ k = q at hO hql HCALL HYES HNO HBS
              generalize X &&& 2 ^ k = y at hY hYn
              generalize 2 ^ k = p at hp hsk htk hY hZ0 hO
              clear hZ
              go_wp2_with fail
              refine HCALL.out.mono ?_
              rintro e w2 ⟨b1, h1, a1, rfl, g1, g2, g3, hU⟩
              have G1 := Lib.hid g1
              have G2 := Lib.hid g2
              have G3 := Lib.hid g3
              have GU := Lib.hid hU
              cases b1
              · obtain ⟨e1, hN⟩ := HNO.out h1 a1 GU.out
                have HN := Lib.hid hN
                have HE1 := Lib.hid e1
                clear g1 g2 g3 hU e1 hN HNO HYES HCALL
                go_wp2_with fail
                go_roundw
                case rel => exact ⟨k + 1, a1, by omega, by go_num, Lib.hid ⟨HN.out, by rw [← HE1.out]; exact G1.out, G2.out⟩, HBS.out _ G3.out⟩
                case measure => simp [intOf]; omega
              · have HE := Lib.hid (HYES.out h1 a1 w2 GU.out G1.out G2.out G3.out)
                have hl1 : h1.length = 8 := (GU.out.yes rfl).1
                have ck1 : w2.cell? ⟨gh, k, none⟩ = some (.int .i64 (h1.getD k (-1))) := G1.out.cell (by
                  have hl8 : k < h1.length := by omega
                  rw [List.getElem?_map, List.getD_eq_getElem?_getD, List.getElem?_eq_getElem hl8]; rfl)
                have fk1 := G1.out.frozen k
                clear g1 g2 g3 hU HNO HYES HCALL hl1
                generalize h1.getD k (-1) = z1 at ck1
                go_wp2_with fail
                go_ret
                exact HE.out
          · have hZn : (((cur &&& 2 ^ k : Nat) : Int) != 0) = true := by
              have h1 := HZb.out.2 hcb
              have : ((cur &&& 2 ^ k : Nat) : Int) ≠ 0 := by omega
              simpa using h1
            have HN := Lib.hid (HI.out.1.met_ hcb)
            have HR1 := Lib.hid HI.out.2
            clear hO HI hNE hb HYb HZb hcb
            generalize X &&& 2 ^ k = y at hY hYn
            generalize cur &&& 2 ^ k = z at hZ hZn
            generalize 2 ^ k = p at hp hsk htk hY hZ
            go_wp2_with fail
            go_roundw
            case rel => exact ⟨k + 1, cur, by omega, by go_num, Lib.hid ⟨HN.out, HR1.out⟩, hB⟩
            case measure => simp [intOf]; omega
      · obtain rfl : k = 8 := by omega
        have HE : Hid (UpPost xs L a h gh ga w (.returned (.bool false)) wr) := Lib.hid ⟨false, h, cur, rfl, HI.out.2.1, HI.out.2.2, hB, HI.out.1.none⟩
        clear HI
        go_wp2_with fail
        go_ret
        exact HE.out
end Go.Proofs.YtblbjiogojldhaaDoor
