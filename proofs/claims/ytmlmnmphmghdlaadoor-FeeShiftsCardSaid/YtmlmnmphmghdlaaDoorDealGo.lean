/- The program's fee of one more (a closure), and cheapest. Conditions: the fees and the table of words lie as the structure DealW says. -/
import Derived.Test.YtmlmnmphmghdlaaDoorDealP
import Derived.Test.YtmlmnmphmghdlaaDoorRefFees
import Derived.Test.YtmlmnmphmghdlaaDoorWordsAt
import Derived.Test.YtmlmnmphmghdlaaDoorMatQ
import Derived.Test.YtmlmnmphmghdlaaDoorTz
import Derived.Test.YtmlmnmphmghdlaaDoorOnes
import Derived.Deep.QuietTactic
import Derived.BigQuiet
namespace Go.Proofs.YtmlmnmphmghdlaaDoor
open Go.RowKit

def feeQ (Ls : List (List Int)) (i j : Nat) : Int := (Ls.getD i []).getD j 0
structure DealW (B b1 b2 g : Nat) (A : Option Addr) (n c : Nat) (Ls : List (List Int)) (T : Nat → Int) (W : World) : Prop where
  side : SideAt W B A n c Ls
  box1 : W.cell? ⟨b1, 0, none⟩ = some (.slice A n c)
  box2 : W.cell? ⟨b2, 0, none⟩ = some (.slice (some ⟨g, 0, none⟩) (2 ^ n) (2 ^ n))
  row : RowQ W g (2 ^ n) T
  tab : Tab W
section
variable {B b1 b2 g : Nat} {A : Option Addr} {n c : Nat} {Ls : List (List Int)} {T : Nat → Int} {W : World}
theorem DealW.drewN (h : DealW B b1 b2 g A n c Ls T W) (k : Nat) : DealW B b1 b2 g A n c Ls T (W.drewN k) := ⟨h.side.drewN k, h.box1, h.box2, h.row.drewN k, h.tab⟩
theorem DealW.drew (h : DealW B b1 b2 g A n c Ls T W) : DealW B b1 b2 g A n c Ls T W.drew := ⟨h.side.drew, h.box1, h.box2, h.row.drew, h.tab⟩
theorem feeQ_at {i j : Nat} {xs : List Int} {x : Int} (h1 : Ls[i]? = some xs) (h2 : xs[j]? = some x) : feeQ Ls i j = x := by
  have e : Ls.getD i [] = xs := by rw [List.getD_eq_getElem?_getD, h1]; rfl
  unfold feeQ
  rw [e, List.getD_eq_getElem?_getD, h2]; rfl
theorem feeQ_abs (hr : ∀ r, r ∈ Ls → InRow r) (i j : Nat) : -1048576 ≤ feeQ Ls i j ∧ feeQ Ls i j ≤ 1048576 := by
  cases h1 : Ls[i]? with
  | none =>
    have e : Ls.getD i [] = [] := by rw [List.getD_eq_getElem?_getD, h1]; rfl
    unfold feeQ
    rw [e]; simp
  | some xs =>
    cases h2 : xs[j]? with
    | none =>
      have e : Ls.getD i [] = xs := by rw [List.getD_eq_getElem?_getD, h1]; rfl
      unfold feeQ
      rw [e, List.getD_eq_getElem?_getD, h2]; simp
    | some x => rw [feeQ_at h1 h2]; exact hr xs (List.mem_of_getElem? h1) x (List.mem_of_getElem? h2)
end
set_option maxRecDepth 100000 in
set_option maxHeartbeats 1000000 in
theorem dealFee_any (B b1 b2 g : Nat) (A : Option Addr) (n c : Nat) (Ls : List (List Int)) (T : Nat → Int) (t j : Nat) (v : Int) (w : World) (hD : DealW B b1 b2 g A n c Ls T w)
    (hn : n ≤ 8) (hs : SquareF Ls) (hr : ∀ r, r ∈ Ls → InRow r) (ht : t < 2 ^ n) (hj : j < n) (hb : t.testBit j = false) (hT : -100000000 ≤ T (t ||| 2 ^ j) ∧ T (t ||| 2 ^ j) ≤ 100000000) (hv : feeQ Ls (ones t) j + T (t ||| 2 ^ j) = v) :
    Calls Tryd.prog 13 #[.int .u32 t, .int .i64 j, .pointer (some ⟨b1, 0, none⟩), .pointer (some ⟨b2, 0, none⟩)] w fun e w' => e = .returned (.int .i64 v) ∧ ∃ k, w' = w.drewN k := by
  have h256 : 2 ^ n ≤ 256 := by rw [show 256 = 2 ^ 8 from rfl]; exact Nat.pow_le_pow_right (by decide) hn
  have ho : ones t < n := by
    refine (ones_full_dec n (by omega)).2 t ?_
    apply Classical.byContradiction
    intro h
    obtain rfl : t = 2 ^ n - 1 := by omega
    rw [Nat.testBit_two_pow_sub_one, decide_eq_true hj] at hb
    cases hb
  have hq : t ||| 2 ^ j < 2 ^ n := Nat.or_lt_two_pow ht (Nat.pow_lt_pow_right (by decide) hj)
  obtain ⟨b, off, xs, A', c', rfl, _, hx, hc, hI, _, _⟩ := hD.side.get ho
  have hxl : xs.length = n := by have := hs xs (List.mem_of_getElem? hx); rw [this]; exact hD.side.len
  obtain ⟨b', off', x, rfl, _, hxx, hcx⟩ := hI.at_ (show j < xs.length by omega)
  have hfee := feeQ_at hx hxx
  obtain ⟨x1, x2⟩ := hr xs (List.mem_of_getElem? hx) x (List.mem_of_getElem? hxx)
  have k1 := hD.box1
  have k2 := hD.box2
  have kT := hD.row.cell hq
  have hpj : 2 ^ j < 2 ^ 8 := Nat.pow_lt_pow_right (by decide) (by omega)
  rw [show 2 ^ 8 = 256 from rfl] at hpj
  have hsj : (2 : Int) ^ j % 4294967296 = ((2 ^ j : Nat) : Int) := pow_mod j (by omega)
  have htj : IntKind.u32.wrap ((2 : Int) ^ j) = ((2 ^ j : Nat) : Int) := by rw [wrap_u32n]; exact hsj
  have hor := or_u32 t (2 ^ j) (by omega) (by omega)
  rw [hfee] at hv
  rw [hxl] at hc
  have HV := Lib.hid hv
  have HO := Lib.hid (fun w => ones_any t w (by omega))
  clear hx hxx hI hD hs hr hfee hv
  obtain ⟨q, hqe⟩ : ∃ q, q = t ||| 2 ^ j := ⟨_, rfl⟩
  rw [← hqe] at hor kT hT hq HV
  obtain ⟨z, hz⟩ : ∃ z, z = T q := ⟨_, rfl⟩
  rw [← hz] at kT hT HV
  obtain ⟨pj, hpe⟩ : ∃ pj, pj = 2 ^ j := ⟨_, rfl⟩
  rw [← hpe] at hpj hsj htj hor
  obtain ⟨N, hN⟩ : ∃ N, N = 2 ^ n := ⟨_, rfl⟩
  rw [← hN] at hq k2 h256 ht
  obtain ⟨o, hoe⟩ : ∃ o, o = ones t := ⟨_, rfl⟩
  rw [← hoe] at HO ho hc
  obtain ⟨hT1, hT2⟩ := hT
  clear hqe hz hpe hN hb hoe
  have io0 : (0 : Int) ≤ (o : Int) := by omega
  have io1 : (o : Int) < (n : Int) := by omega
  have ij0 : (0 : Int) ≤ (j : Int) := by omega
  have ij1 : (j : Int) < (n : Int) := by omega
  have iq0 : (0 : Int) ≤ (q : Int) := by omega
  have iq1 : (q : Int) < (N : Int) := by omega
  go_enter Tryd.func13, Tryd.ntmps13
  go_wp2_with (go_at_call 14; refine (HO.out _).mono ?_; rintro e w1 ⟨rfl, q1, rfl⟩)
  go_quiet (fail)
  go_wp2
  go_ret
  exact ⟨ret_int HV.out, _, by rw [World.drewN_drewN]⟩

set_option maxRecDepth 100000 in
set_option maxHeartbeats 1000000 in
theorem cheapest_any (B b1 b2 g : Nat) (A : Option Addr) (n c : Nat) (Ls : List (List Int)) (T F : Nat → Int) (t b : Nat) (w : World) (hD : DealW B b1 b2 g A n c Ls T w)
    (hn : n ≤ 8) (hs : SquareF Ls) (hr : ∀ r, r ∈ Ls → InRow r) (ht : t < 2 ^ n - 1) (hT : ∀ j, j < n → t.testBit j = false → -100000000 ≤ T (t ||| 2 ^ j) ∧ T (t ||| 2 ^ j) ≤ 100000000)
    (hF : ∀ j, feeQ Ls (ones t) j + T (t ||| 2 ^ j) = F j) (hf : FirstLe F n t b) :
    Calls Tryd.prog 15 #[.int .u32 ((2 ^ n - 1 : Nat) : Int), .int .u32 t, .func (.func 13) #[] #[.pointer (some ⟨b1, 0, none⟩), .pointer (some ⟨b2, 0, none⟩)]] w fun e w' => e = .returned (.int .i64 b) ∧ ∃ k, w' = w.drewN k := by
  have h256 : 2 ^ n ≤ 256 := by rw [show 256 = 2 ^ 8 from rfl]; exact Nat.pow_le_pow_right (by decide) hn
  have HFEE := Lib.hid (fun (q j : Nat) (hj : j < n) (hb : t.testBit j = false) => dealFee_any B b1 b2 g A n c Ls T t j (F j) (w.drewN q) (hD.drewN q) hn hs hr (by omega) hj hb (hT j hj hb) (hF j))
  have HTAB := Lib.hid hD.tab
  have HF := Lib.hid hf
  have HST := Lib.hid (CheapI.start (F := F) hn ht)
  have hdf := andNot_u32 (2 ^ n - 1) t (by omega) (by omega)
  have HU0 := Lib.hid (open_some hn ht)
  have hU := open_lt (t := t) hn (by omega)
  generalize diffW (2 ^ n - 1) t = U at *
  have HAL : Hid (∀ z : Nat, z = 2 ^ n - 1 → z < 256) := Lib.hid (by omega)
  obtain ⟨al, hal⟩ : ∃ al, al = 2 ^ n - 1 := ⟨_, rfl⟩
  rw [← hal] at hdf ⊢
  have hal2 := HAL.out al hal
  have ht2 : t < al := by omega
  clear hD hs hr hT hF hf HAL hal h256 ht
  go_enter Tryd.func15, Tryd.ntmps15
  go_wp2_with fail
  refine (tz_any U _ (by omega) HU0.out (by exact HTAB.out)).mono ?_
  rintro e w1 ⟨rfl, rfl⟩
  go_wp2_with fail
  go_loopw [7, 8] (fun x y wr => ∃ o bb q : Nat, x = .int .i64 bb ∧ y = .int .u32 o ∧ Hid (CheapI F n t o bb) ∧ Hid (wr = w.drewN q)) (fun _ y _ => (intOf y).toNat)
  case atStart => exact ⟨U, _, 0, rfl, rfl, HST.out, Lib.hid rfl⟩
  case round =>
    clear HST HU0 hdf
    obtain ⟨o, bb, q, rfl, rfl, HI, HW⟩ := hrel
    by_cases h0 : o = 0
    · have HE : Hid (bb = b) := Lib.hid (by have h := HI.out; rw [h0] at h; exact h.done.one HF.out)
      have hzb : ((o : Int) != 0) = false := by rw [h0]; rfl
      clear h0
      go_wp2_with fail
      go_ret
      exact ⟨by rw [HE.out]; rfl, q, HW.out⟩
    · obtain ⟨k1, k2, k3⟩ := HI.out.low h0
      have HN := Lib.hid (HI.out.step h0)
      have hbb : bb < n ∧ t.testBit bb = false := by
        obtain ⟨_, m, _, h1, h2, _⟩ := HI.out
        exact ⟨h1, h2⟩
      have HK := Lib.hid (And.intro k1 k2)
      have HB := Lib.hid hbb
      have H0 := Lib.hid h0
      have hzb : ((o : Int) != 0) = true := by simp; omega
      have hq1 : 1 ≤ (o : Int) := by omega
      have hand : bits .and .u32 (o : Int) ((o : Int) - 1) = ((o &&& (o - 1) : Nat) : Int) := by
        rw [show (o : Int) - 1 = ((o - 1 : Nat) : Int) by omega]
        exact and_u32 o (o - 1) (by omega) (by omega)
      have hle : o &&& (o - 1) ≤ o - 1 := Nat.and_le_right
      obtain ⟨k, hk⟩ : ∃ k, k = Lib.ctz 32 o := ⟨_, rfl⟩
      have HTZ := Lib.hid (tz_any o wr (by omega) h0 (by rw [HW.out]; exact HTAB.out))
      rw [← hk] at HK HN HTZ
      clear k1 k2 h0 hbb hk
      obtain ⟨o2, ho2⟩ : ∃ o2, o2 = o &&& (o - 1) := ⟨_, rfl⟩
      rw [← ho2] at hand hle HN
      clear ho2
      by_cases hlt : F k < F bb
      · rw [if_pos hlt] at HN
        go_wp2_with fail
        refine HTZ.out.mono ?_
        rintro e w2 ⟨rfl, rfl⟩
        go_wp2_with fail
        refine (by rw [HW.out]; exact (HFEE.out q k HK.out.1 HK.out.2).mono (R' := fun e w' => e = .returned (.int .i64 (F k)) ∧ ∃ q', w' = w.drewN q') (fun e w' ⟨h1, q', h2⟩ => ⟨h1, _, h2.trans (World.drewN_drewN ..)⟩) : Calls _ _ _ wr fun e w' => e = .returned (.int .i64 (F k)) ∧ ∃ q', w' = w.drewN q').mono ?_
        rintro e w3 ⟨rfl, q3, hw3⟩
        have HW3 := Lib.hid hw3
        clear hw3
        go_wp2_with fail
        refine (by rw [HW3.out]; exact (HFEE.out q3 bb HB.out.1 HB.out.2).mono (R' := fun e w' => e = .returned (.int .i64 (F bb)) ∧ ∃ q', w' = w.drewN q') (fun e w' ⟨h1, q', h2⟩ => ⟨h1, _, h2.trans (World.drewN_drewN ..)⟩) : Calls _ _ _ w3 fun e w' => e = .returned (.int .i64 (F bb)) ∧ ∃ q', w' = w.drewN q').mono ?_
        rintro e w4 ⟨rfl, q4, hw4⟩
        have HW4 := Lib.hid hw4
        clear hw4
        go_wp2_with fail
        go_roundw
        case rel => exact ⟨o2, k, q4, rfl, rfl, HN, HW4⟩
        case measure => simp [intOf]; omega
      · rw [if_neg hlt] at HN
        have hltb : decide (F k < F bb) = false := decide_eq_false hlt
        clear hlt
        go_wp2_with fail
        refine HTZ.out.mono ?_
        rintro e w2 ⟨rfl, rfl⟩
        go_wp2_with fail
        refine (by rw [HW.out]; exact (HFEE.out q k HK.out.1 HK.out.2).mono (R' := fun e w' => e = .returned (.int .i64 (F k)) ∧ ∃ q', w' = w.drewN q') (fun e w' ⟨h1, q', h2⟩ => ⟨h1, _, h2.trans (World.drewN_drewN ..)⟩) : Calls _ _ _ wr fun e w' => e = .returned (.int .i64 (F k)) ∧ ∃ q', w' = w.drewN q').mono ?_
        rintro e w3 ⟨rfl, q3, hw3⟩
        have HW3 := Lib.hid hw3
        clear hw3
        go_wp2_with fail
        refine (by rw [HW3.out]; exact (HFEE.out q3 bb HB.out.1 HB.out.2).mono (R' := fun e w' => e = .returned (.int .i64 (F bb)) ∧ ∃ q', w' = w.drewN q') (fun e w' ⟨h1, q', h2⟩ => ⟨h1, _, h2.trans (World.drewN_drewN ..)⟩) : Calls _ _ _ w3 fun e w' => e = .returned (.int .i64 (F bb)) ∧ ∃ q', w' = w.drewN q').mono ?_
        rintro e w4 ⟨rfl, q4, hw4⟩
        have HW4 := Lib.hid hw4
        clear hw4
        go_wp2_with fail
        go_roundw
        case rel => exact ⟨o2, bb, q4, rfl, rfl, HN, HW4⟩
        case measure => simp [intOf]; omega
end Go.Proofs.YtmlmnmphmghdlaaDoor
