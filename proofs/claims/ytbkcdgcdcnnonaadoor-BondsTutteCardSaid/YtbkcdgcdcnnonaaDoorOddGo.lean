/- bonds.firstPart and bonds.oddParts: how many parts with an odd number of nodes there are among some nodes. -/
import Derived.Test.YtbkcdgcdcnnonaaDoorSeekGo
import Derived.Test.YtbkcdgcdcnnonaaDoorOnes
namespace Go.Proofs.YtbkcdgcdcnnonaaDoor
open Go.RowKit

theorem diff_less {n R p v : Nat} (hn : n ≤ 10) (hR : R < 2 ^ n) (hp : p < 2 ^ n) (hv : R.testBit v = true) (hpv : p.testBit v = true) : diffW R p < R := by
  have h1024 : 2 ^ n ≤ 1024 := by rw [show 1024 = 2 ^ 10 from rfl]; exact Nat.pow_le_pow_right (by decide) hn
  have hb := fun i => diffW_testBit R p i (by omega) (by omega)
  have he : diffW R p = R &&& diffW R p := by
    apply Nat.eq_of_testBit_eq
    intro i
    rw [Nat.testBit_and, hb]
    cases R.testBit i <;> rfl
  have hle : diffW R p ≤ R := by rw [he]; exact Nat.and_le_left
  rcases Nat.lt_or_eq_of_le hle with h | h
  · exact h
  · exfalso
    have := hb v
    rw [h, hv, hpv] at this; cases this
section
variable {n : Nat} {es : List E3} {T : Nat → Bool} {lab : Nat → Nat}
theorem first_bits (hn : n ≤ 10) {R : Nat} (hR : R < 2 ^ n) (h0 : R ≠ 0) : ∃ c, c < n ∧ c < 32 ∧ R.testBit c = true ∧ bits .and .u32 (R : Int) (-(R : Int) % 4294967296) = ((2 ^ c : Nat) : Int) ∧ 2 ^ c < 2 ^ n := by
  have hc := low_lt hn hR h0
  exact ⟨Lib.ctz 32 R, hc, by omega, low_bit hn hR h0, low_u32 R (by have := pow10 hn hR; omega) h0, Nat.pow_lt_pow_right (by decide) hc⟩

set_option maxRecDepth 100000 in
set_option maxHeartbeats 1000000 in
theorem firstPart_any (cap R : Nat) (A : Option Addr) (w : World) (hA : WordsAt w w.heap.size A n (nbL n es)) (hT : Tab w) (hn : n ≤ 10) (hg : goodE n es) (hL : LabOK (adjE es) n T lab) (hW : Whole n lab T R) (h0 : R ≠ 0) :
    Calls Tryd.prog 31 #[.slice A n cap, .int .u32 R] w fun e w' => (∃ p : Nat, e = .returned (.int .u32 p) ∧ p < 2 ^ n ∧ ∃ v, R.testBit v = true ∧ p.testBit v = true ∧ ∀ i, p.testBit i = (R.testBit i && decide (lab i = lab v))) ∧ w = w' := by
  have hR := hW.1
  have hR10 := pow10 hn hR
  obtain ⟨v, hvn, _, hv, hlow, hvp⟩ := first_bits hn hR h0
  have hvp10 := pow10 hn hvp
  have HA := Lib.hid hA
  have HT := Lib.hid hT
  have HG := Lib.hid hg
  have HST := Lib.hid (PartInv.start (n := n) (es := es) (lab := lab) hv)
  have HVP := Lib.hid hvp
  have HNX := Lib.hid (fun (p q : Nat) (hp : p < 2 ^ n) (hq : q < 2 ^ n) (hq0 : q ≠ 0) (h : PartInv n es lab R v p q) => h.next hg hn hL hW.2.1 hR hp hq hq0)
  have HDN := Lib.hid (fun (p : Nat) (h : PartInv n es lab R v p 0) (i : Nat) => h.done hL hW hv i)
  have HV := Lib.hid hv
  have hR1 : 1 ≤ (R : Int) := by omega
  clear hA hT hg hL hW hv h0 hvn
  generalize 2 ^ v = pv at hlow hvp hvp10 HST HVP
  go_enter Tryd.func31, Tryd.ntmps31
  go_wp2_with fail
  clear hlow hvp hvp10
  go_loop [5, 6] (fun a b => ∃ p q : Nat, p < 2 ^ n ∧ q < 2 ^ n ∧ a = .int .u32 p ∧ b = .int .u32 q ∧ Hid (PartInv n es lab R v p q)) (fun a _ => 1024 - (intOf a).toNat)
  case atStart => exact ⟨0, pv, Nat.two_pow_pos n, HVP.out, rfl, rfl, HST⟩
  case round =>
    obtain ⟨p, q, hp, hq, rfl, rfl, HP⟩ := hrel
    have hp10 := pow10 hn hp
    have hq10 := pow10 hn hq
    by_cases hq0 : q = 0
    · subst hq0
      have HE := Lib.hid (HDN.out p HP.out)
      have HPV : Hid (p.testBit v = true) := Lib.hid (by rw [HE.out v, HV.out]; simp)
      have HPL := Lib.hid hp
      clear HP
      go_wp2_with fail
      go_ret
      exact ⟨⟨p, rfl, HPL.out, v, HV.out, HPV.out, HE.out⟩, rfl⟩
    · have hc := low_lt hn hq hq0
      have hc32 : (Lib.ctz 32 q : Int) ≤ 32 := by omega
      have hpc : 2 ^ Lib.ctz 32 q < 2 ^ n := Nat.pow_lt_pow_right (by decide) hc
      have hpc10 := pow10 hn hpc
      have hsc : (2 : Int) ^ Lib.ctz 32 q % 4294967296 = ((2 ^ Lib.ctz 32 q : Nat) : Int) := pow_mod _ (by omega)
      have htc : IntKind.u32.wrap ((2 : Int) ^ Lib.ctz 32 q) = ((2 ^ Lib.ctz 32 q : Nat) : Int) := by rw [wrap_u32n]; exact hsc
      have hnb : nbW es (Lib.ctz 32 q) < 1024 := pow10 hn (by have := nbW_lt HG.out (Lib.ctz 32 q) es.length; rwa [List.take_length] at this)
      have hor1 := or_u32 p (2 ^ Lib.ctz 32 q) (by omega) (by omega)
      have hpo := Nat.or_lt_two_pow hp hpc
      have hpo10 := pow10 hn hpo
      have hq1024 : q ||| nbW es (Lib.ctz 32 q) < 1024 := Nat.or_lt_two_pow (n := 10) hq10 hnb
      have hor2 := or_u32 q (nbW es (Lib.ctz 32 q)) (by omega) (by omega)
      have hnd : (q ||| nbW es (Lib.ctz 32 q)) &&& R < 2 ^ n := Nat.and_lt_two_pow _ hR
      have hnd10 := pow10 hn hnd
      have hand := and_u32 (q ||| nbW es (Lib.ctz 32 q)) R (by omega) (by omega)
      have hdf := andNot_u32 ((q ||| nbW es (Lib.ctz 32 q)) &&& R) (p ||| 2 ^ Lib.ctz 32 q) (by omega) (by omega)
      have HN := Lib.hid (HNX.out p q hp hq hq0 HP.out)
      have HNL : Hid (nextF es R p q < 2 ^ n) := Lib.hid (diffW_sub hn hnd (by omega))
      have HGR := Lib.hid (HP.out.grow hn hq hq0)
      have HTZ := Lib.hid (tz_any q w (by omega) hq0 HT.out)
      have HOL := Lib.hid hpo
      have hqb : ((q : Int) != 0) = true := by simp; omega
      obtain ⟨b, off, rfl, _, hcx⟩ := HA.out.at_ hc
      rw [List.getD_eq_getElem?_getD, nbL_get es hc] at hcx
      have hcx2 : w.cell? ⟨b, off + Lib.ctz 32 q, none⟩ = some (.int .u32 (nbW es (Lib.ctz 32 q) : Nat)) := hcx
      have hc0 : (0 : Int) ≤ (Lib.ctz 32 q : Int) := by omega
      have hcn : (Lib.ctz 32 q : Int) < (n : Int) := by omega
      unfold nextF at HN HNL
      clear hcx HP hq0 hnd hpo
      generalize diffW ((q ||| nbW es (Lib.ctz 32 q)) &&& R) (p ||| 2 ^ Lib.ctz 32 q) = q2 at hdf HN HNL
      generalize (q ||| nbW es (Lib.ctz 32 q)) &&& R = q3 at hand hdf hnd10
      generalize q ||| nbW es (Lib.ctz 32 q) = q4 at hand hor2 hq1024
      generalize p ||| 2 ^ Lib.ctz 32 q = p2 at hor1 hdf HN HGR HOL hpo10
      generalize nbW es (Lib.ctz 32 q) = X at hcx2 hor2 hnb
      generalize 2 ^ Lib.ctz 32 q = pc at hpc hpc10 hsc htc hor1
      generalize Lib.ctz 32 q = c at hc hc32 hsc htc hcx2 hc0 hcn HTZ
      go_wp2_with fail
      refine HTZ.out.mono ?_
      rintro e w1 ⟨rfl, rfl⟩
      go_wp2_with fail
      go_round
      case rel => exact ⟨p2, q2, HOL.out, HNL.out, rfl, rfl, HN⟩
      case measure => have := HGR.out; simp [intOf]; omega

theorem whole_all {R : Nat} (hR : R < 2 ^ n) : Whole n lab (fun i => R.testBit i) R := ⟨hR, fun _ h => h, fun _ _ _ _ _ h _ _ => h⟩
theorem lab_word (hg : goodE n es) {R : Nat} (hR : R < 2 ^ n) : LabOK (adjE es) n (fun i => R.testBit i) (minR (offE (cmpW n R) es)) :=
  lab_congr (fun i hi => by unfold offW; rw [cmpW_bit hR]; simp [hi]) (lab_wall hg (cmpW n R))
theorem odd_word {R : Nat} (hR : R < 2 ^ n) : oddW n es (cmpW n R) = oddS n (minR (offE (cmpW n R) es)) (fun i => R.testBit i) :=
  oddS_congr fun i hi => by unfold offW; rw [cmpW_bit hR]; simp [hi]

set_option maxRecDepth 100000 in
set_option maxHeartbeats 1000000 in
theorem oddParts_any (cap R : Nat) (A : Option Addr) (w : World) (hA : WordsAt w w.heap.size A n (nbL n es)) (hT : Tab w) (hn : n ≤ 10) (hg : goodE n es) (hR : R < 2 ^ n) :
    Calls Tryd.prog 22 #[.slice A n cap, .int .u32 R] w fun e w' => e = .returned (.int .i64 (oddW n es (cmpW n R) : Nat)) ∧ ∃ k, w' = w.drewN k := by
  have HA := Lib.hid hA
  have HT := Lib.hid hT
  have HG := Lib.hid hg
  have hL := lab_word hg hR
  have HS : Hid (Whole n (minR (offE (cmpW n R) es)) (fun i => R.testBit i) R) := Lib.hid (whole_all hR)
  have HO := Lib.hid (odd_word (es := es) hR)
  have HB : Hid (oddW n es (cmpW n R) ≤ n) := Lib.hid (odd_le _)
  generalize oddW n es (cmpW n R) = O at HO HB ⊢
  generalize minR (offE (cmpW n R) es) = lab at hL HS HO
  have HL := Lib.hid hL
  have hR10 := pow10 hn hR
  clear hA hT hg hL
  go_enter Tryd.func22, Tryd.ntmps22
  go_wp2_with fail
  go_loopw [1, 5] (fun a b wr => ∃ S c q : Nat, S < 2 ^ n ∧ c ≤ n ∧ a = .int .u32 S ∧ b = .int .i64 c ∧ Hid (Whole n lab (fun i => R.testBit i) S) ∧ Hid (c + oddS n lab (fun i => S.testBit i) = O) ∧ wr = w.drewN q) (fun a _ _ => (intOf a).toNat)
  case atStart => exact ⟨R, 0, 0, hR, Nat.zero_le _, rfl, rfl, HS, Lib.hid (by rw [HO.out]; omega), rfl⟩
  case round =>
    clear HS
    obtain ⟨S, c, q, hS, hc, rfl, rfl, HW, HC, rfl⟩ := hrel
    have hS10 := pow10 hn hS
    by_cases hS0 : S = 0
    · subst hS0
      have HE : Hid (c = O) := Lib.hid (by have := HC.out; rw [odd_none] at this; omega)
      clear HC
      go_wp2_with fail
      go_ret
      exact ⟨ret_int (by rw [HE.out]), q, rfl⟩
    · have hqb : ((S : Int) != 0) = true := by simp; omega
      have HFP := Lib.hid (firstPart_any cap S A (w.drewN q) (by exact HA.out.drewN q) (by exact HT.out) hn HG.out HL.out HW.out hS0)
      have HON := Lib.hid (fun (x : Nat) (W : World) (h : x < 1024) => ones_any x W h)
      clear hS0
      go_wp2_with fail
      refine HFP.out.mono ?_
      rintro e w1 ⟨⟨p, rfl, hp, v, hv, hpv, hpart⟩, rfl⟩
      have hp10 := pow10 hn hp
      obtain ⟨hW2, hodd⟩ := odd_part hn HL.out HW.out hv hp hpart
      rw [← ones_size hn hp] at hodd
      have hlt := diff_less hn hS hp hv hpv
      have hdf := andNot_u32 S p (by omega) (by omega)
      have HW2 := Lib.hid hW2
      have HD2 := Lib.hid hW2.1
      have HLT := Lib.hid hlt
      have HO2 : Hid (c + ones p % 2 + oddS n lab (fun i => (diffW S p).testBit i) = O) := Lib.hid (by have := HC.out; omega)
      have HB2 : Hid (c + ones p % 2 ≤ n) := Lib.hid (by have := HO2.out; have := HB.out; omega)
      have ho10 := ones_le p
      have hmod : (ones p : Int).tmod 2 = ((ones p % 2 : Nat) : Int) := by rw [Int.tmod_eq_emod_of_nonneg (by omega)]; omega
      have HO1 := Lib.hid (HON.out p (w.drewN q) hp10)
      clear hW2 hodd hv hpv hpart hlt HC HFP
      generalize diffW S p = S2 at hdf HW2 HD2 HLT HO2
      generalize ones p = o at ho10 hmod HO2 HB2 HO1
      go_wp2_with fail
      refine HO1.out.mono ?_
      rintro e w1 ⟨rfl, kq, rfl⟩
      go_wp2_with fail
      go_roundw
      case rel => exact ⟨S2, c + o % 2, _, HD2.out, HB2.out, rfl, by go_num, HW2, HO2, rfl⟩
      case measure => have := HLT.out; simp [intOf]; omega
end
end Go.Proofs.YtbkcdgcdcnnonaaDoor
