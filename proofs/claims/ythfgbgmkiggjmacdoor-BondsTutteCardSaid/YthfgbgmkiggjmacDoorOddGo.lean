/- bonds.oddParts: how many parts with an odd number of nodes there are among some nodes. -/
import Derived.Test.YthfgbgmkiggjmacDoorSeekGo
import Derived.Test.YthfgbgmkiggjmacDoorLinkedP
import Derived.Test.YthfgbgmkiggjmacDoorOnes
namespace Go.Proofs.YthfgbgmkiggjmacDoor
open Go.RowKit

theorem diff_less {n R p v : Nat} (hn : n ≤ 10) (hR : R < 2 ^ n) (hp : p < 2 ^ n) (hv : R.testBit v = true) (hpv : p.testBit v = true) : diffW R p < R := by
  have h1024 : 2 ^ n ≤ 1024 := by rw [show 1024 = 2 ^ 10 from rfl]; exact Nat.pow_le_pow_right (by decide) hn
  have hb := fun i => diffW_testBit R p i (by omega) (by omega)
  have he : diffW R p = R &&& diffW R p := by
    apply Nat.eq_of_testBit_eq
    intro i
    rw [Nat.testBit_and, hb]
    cases R.testBit i <;> rfl
  have hle : diffW R p ≤ R := by rw [he]; exact Nat.and_le_left
  rcases Nat.lt_or_eq_of_le hle with h | h
  · exact h
  · exfalso
    have := hb v
    rw [h, hv, hpv] at this; cases this
section
variable {n : Nat} {es : List E3} {T : Nat → Bool} {lab : Nat → Nat}
/-- The word of a part is all that the least node of it is linked with. -/
theorem linked_part (hn : n ≤ 10) (hg : goodE n es) (hL : LabOK (adjE es) n T lab) {R v : Nat} (hW : Whole n lab T R) (hv : R.testBit v = true) (i : Nat) : (linkedW n (nbL n es) R v).testBit i = (R.testBit i && decide (lab i = lab v)) := by
  have hvn := bit_lt hW.1 hv
  have hpin : ∀ k j, wk (stepW es R) k v j → R.testBit j = true ∧ lab j = lab v := by
    intro k
    induction k with
    | zero => intro j hj; cases hj; exact ⟨hv, rfl⟩
    | succ k ih =>
      rintro j ⟨x, hx, hst⟩
      unfold stepW at hst
      rw [Bool.and_eq_true] at hst
      obtain ⟨h1, h2⟩ := ih x hx
      obtain ⟨h3, h4, _⟩ := adjE_lt hg hst.1
      exact ⟨hst.2, (hL.near x j h3 h4 (hW.2.1 x h1) (hW.2.1 j hst.2) hst.1).symm.trans h2⟩
  rw [Bool.eq_iff_iff, Bool.and_eq_true, decide_eq_true_eq, linkedW_bit hn hg hvn]
  refine ⟨fun ⟨k, hk⟩ => hpin k i hk, fun ⟨h1, h2⟩ => ?_⟩
  have hin := bit_lt hW.1 h1
  obtain ⟨k, hk⟩ := hL.far v i hvn hin (hW.2.1 v hv) (hW.2.1 i h1) h2.symm
  refine lnk_shut (P := fun j => ∃ k, wk (stepW es R) k v j) (fun x y hx hy hP ha hT => ?_) hin (hW.2.1 i h1) hk ⟨0, rfl⟩
  obtain ⟨q, hq⟩ := hP
  obtain ⟨h3, h4⟩ := hpin q x hq
  have h5 := hL.near x y hx hy (hW.2.1 x h3) hT ha
  have h6 := hW.2.2 x y hx hy (hW.2.1 x h3) hT h5 h3
  exact ⟨q + 1, x, hq, by unfold stepW; rw [ha, h6]; rfl⟩
set_option maxRecDepth 100000 in
theorem partOf_any (cap R : Nat) (A : Option Addr) (w : World) (hA : WordsAt w w.heap.size A n (nbL n es)) (hT : Tab w) (hn : n ≤ 10) (hg : goodE n es) (hL : LabOK (adjE es) n T lab) (hW : Whole n lab T R) (h0 : R ≠ 0) :
    Calls Tryd.prog 40 #[.slice A n cap, .int .i64 (Lib.ctz 32 R : Nat), .int .u32 R] w fun e w' => (∃ p : Nat, e = .returned (.int .u32 p) ∧ p < 2 ^ n ∧ ∃ v, R.testBit v = true ∧ p.testBit v = true ∧ ∀ i, p.testBit i = (R.testBit i && decide (lab i = lab v))) ∧ Below w.heap.size w w' := by
  have hR10 := pow10 hn hW.1
  have hv := low_bit hn hW.1 h0
  have hvn := low_lt hn hW.1 h0
  have hp := linked_part hn hg hL hW hv
  refine (linkedW_any n (Lib.ctz 32 R) hn hvn A cap (nbL n es) (nbL_words hg) R (by omega) w hA hT).mono ?_
  rintro e w' ⟨rfl, hB⟩
  exact ⟨⟨_, rfl, allTo_lt n _, _, hv, by rw [hp, hv]; simp, hp⟩, hB⟩

theorem whole_all {R : Nat} (hR : R < 2 ^ n) : Whole n lab (fun i => R.testBit i) R := ⟨hR, fun _ h => h, fun _ _ _ _ _ h _ _ => h⟩
theorem lab_word (hg : goodE n es) {R : Nat} (hR : R < 2 ^ n) : LabOK (adjE es) n (fun i => R.testBit i) (minR (offE (cmpW n R) es)) :=
  lab_congr (fun i hi => by unfold offW; rw [cmpW_bit hR]; simp [hi]) (lab_wall hg (cmpW n R))
theorem odd_word {R : Nat} (hR : R < 2 ^ n) : oddW n es (cmpW n R) = oddS n (minR (offE (cmpW n R) es)) (fun i => R.testBit i) :=
  oddS_congr fun i hi => by unfold offW; rw [cmpW_bit hR]; simp [hi]

set_option maxRecDepth 100000 in
set_option maxHeartbeats 1000000 in
theorem oddParts_any (cap R : Nat) (A : Option Addr) (w : World) (hA : WordsAt w w.heap.size A n (nbL n es)) (hT : Tab w) (hn : n ≤ 10) (hg : goodE n es) (hR : R < 2 ^ n) :
    Calls Tryd.prog 34 #[.slice A n cap, .int .u32 R] w fun e w' => e = .returned (.int .i64 (oddW n es (cmpW n R) : Nat)) ∧ Below w.heap.size w w' := by
  have HA := Lib.hid hA
  have HT := Lib.hid hT
  have HG := Lib.hid hg
  have hL := lab_word hg hR
  have HS : Hid (Whole n (minR (offE (cmpW n R) es)) (fun i => R.testBit i) R) := Lib.hid (whole_all hR)
  have HO := Lib.hid (odd_word (es := es) hR)
  have HB : Hid (oddW n es (cmpW n R) ≤ n) := Lib.hid (odd_le _)
  generalize oddW n es (cmpW n R) = O at HO HB ⊢
  generalize minR (offE (cmpW n R) es) = lab at hL HS HO
  have HL := Lib.hid hL
  have hR10 := pow10 hn hR
  clear hA hT hg hL
  go_enter Tryd.func34, Tryd.ntmps34
  go_wp2_with fail
  go_loopw [1, 5] (fun a b wr => ∃ S c : Nat, S < 2 ^ n ∧ c ≤ n ∧ a = .int .u32 S ∧ b = .int .i64 c ∧ Hid (Whole n lab (fun i => R.testBit i) S) ∧ Hid (c + oddS n lab (fun i => S.testBit i) = O) ∧ Hid (Below w.heap.size w wr)) (fun a _ _ => (intOf a).toNat)
  case atStart => exact ⟨R, 0, hR, Nat.zero_le _, rfl, rfl, HS, Lib.hid (by rw [HO.out]; omega), Lib.hid (Below.refl _ _)⟩
  case round =>
    clear HS
    obtain ⟨S, c, hS, hc, rfl, rfl, HW, HC, HBw⟩ := hrel
    have hS10 := pow10 hn hS
    by_cases hS0 : S = 0
    · subst hS0
      have HE : Hid (c = O) := Lib.hid (by have := HC.out; rw [odd_none] at this; omega)
      clear HC
      go_wp2_with fail
      go_ret
      exact ⟨ret_int (by rw [HE.out]), HBw.out⟩
    · have hqb : ((S : Int) != 0) = true := by simp; omega
      have HTZ := Lib.hid (fun W (h : Tab W) => tz_any S W (by omega) hS0 h)
      have HFP := Lib.hid (fun W (h1 : WordsAt W W.heap.size A n (nbL n es)) (h2 : Tab W) => partOf_any cap S A W h1 h2 hn HG.out HL.out HW.out hS0)
      have HON := Lib.hid (fun (x : Nat) (W : World) (h : x < 1024) => ones_any x W h)
      clear hS0
      go_wp2_with fail
      refine (HTZ.out _ (by exact HT.out.go_ HBw.out)).mono ?_
      rintro e w3 ⟨rfl, rfl⟩
      go_wp2_with fail
      refine (HFP.out _ (by exact HA.out.go_ HBw.out) (by exact HT.out.go_ HBw.out)).mono ?_
      rintro e w1 ⟨⟨p, rfl, hp, v, hv, hpv, hpart⟩, hB1⟩
      have HB1 : Hid (Below w.heap.size w w1) := Lib.hid (HBw.out.trans (hB1.mono HBw.out.size))
      have hp10 := pow10 hn hp
      obtain ⟨hW2, hodd⟩ := odd_part hn HL.out HW.out hv hp hpart
      rw [← ones_size hn hp] at hodd
      have hlt := diff_less hn hS hp hv hpv
      have hdf := andNot_u32 S p (by omega) (by omega)
      have HW2 := Lib.hid hW2
      have HD2 := Lib.hid hW2.1
      have HLT := Lib.hid hlt
      have HO2 : Hid (c + ones p % 2 + oddS n lab (fun i => (diffW S p).testBit i) = O) := Lib.hid (by have := HC.out; omega)
      have HB2 : Hid (c + ones p % 2 ≤ n) := Lib.hid (by have := HO2.out; have := HB.out; omega)
      have ho10 := ones_le p
      have hmod : (ones p : Int).tmod 2 = ((ones p % 2 : Nat) : Int) := by rw [Int.tmod_eq_emod_of_nonneg (by omega)]; omega
      have HO1 := Lib.hid (HON.out p w1 hp10)
      clear hW2 hodd hv hpv hpart hlt HC HFP HTZ hB1
      generalize diffW S p = S2 at hdf HW2 HD2 HLT HO2
      generalize ones p = o at ho10 hmod HO2 HB2 HO1
      go_wp2_with fail
      refine HO1.out.mono ?_
      rintro e w1 ⟨rfl, kq, rfl⟩
      go_wp2_with fail
      go_roundw
      case rel => exact ⟨S2, c + o % 2, HD2.out, HB2.out, rfl, by go_num, HW2, HO2, Lib.hid (below_drewN HB1.out _)⟩
      case measure => have := HLT.out; simp [intOf]; omega
end
end Go.Proofs.YthfgbgmkiggjmacDoor
