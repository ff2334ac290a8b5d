/- pairs.firstRight: the least one on the right whom the first one on the left may have without a pair less. -/
import Derived.Test.YtblbjiogojldhaaDoorHowMany
import Derived.Test.YtblbjiogojldhaaDoorTz
import Derived.Deep.RegionWith
import Derived.RegionTactic
import Derived.BigRegion
import Derived.ChangeAlike
import Derived.IntWalk
namespace Go.Proofs.YtblbjiogojldhaaDoor
open Go.RowKit

theorem mxR_drop (xs : List Nat) (k n : Nat) : ∀ (r i : Nat) (c : Nat → Nat), mxR (nearF (xs.drop k)) n r i c = mxR (nearF xs) n r (i + k) c
  | 0, _, _ => rfl
  | r + 1, i, c => by
    have hn : ∀ j, nearF (xs.drop k) i j = nearF xs (i + k) j := fun j => by
      unfold nearF
      rw [List.getD_eq_getElem?_getD, List.getD_eq_getElem?_getD, List.getElem?_drop, Nat.add_comm]
    simp only [mxR]
    rw [mxR_drop xs k n r (i + 1) c, show i + 1 + k = i + k + 1 by omega]
    refine maxTo_congr n fun j _ => ?_
    rw [hn j, mxR_drop xs k n r (i + 1) _, show i + 1 + k = i + k + 1 by omega]
/-- Whom the first one is given. -/
def frZ (xs : List Nat) (r i t : Nat) : Int := match (List.range 8).find? (fitP (nearF xs) 8 r i (cT t)) with
  | some j => (j : Int)
  | none => -1
theorem find_of {p : Nat → Bool} {n j : Nat} (hj : j < n) (hp : p j = true) (h : ∀ k, k < j → p k = false) : (List.range n).find? p = some j := by
  cases hf : (List.range n).find? p with
  | none => have := find_none hf j hj; rw [hp] at this; cases this
  | some k =>
    obtain ⟨h1, h2, h3⟩ := find_some hf
    rcases Nat.lt_trichotomy j k with h4 | h4 | h4
    · have := h3 j h4; rw [hp] at this; cases this
    · rw [h4]
    · have := h k h4; rw [h2] at this; cases this
theorem find_not {p : Nat → Bool} {n : Nat} (h : ∀ k, k < n → p k = false) : (List.range n).find? p = none := by
  cases hf : (List.range n).find? p with
  | none => rfl
  | some k =>
    obtain ⟨h1, h2, _⟩ := find_some hf
    have := h k h1; rw [h2] at this; cases this
theorem low_dec : ∀ r, r < 256 → r ≠ 0 → Lib.ctz 32 r < 8 ∧ r.testBit (Lib.ctz 32 r) = true ∧ (∀ j, j < 8 → j < Lib.ctz 32 r → r.testBit j = false) ∧ (∀ j, j < 8 → (r &&& (r - 1)).testBit j = (r.testBit j && j != Lib.ctz 32 r)) ∧ r &&& (r - 1) < r := by decide +kernel
/-- As far as those on the right were tried: r: those still to try. -/
structure TryInv (xs : List Nat) (n i t r : Nat) : Prop where
  lt : r < 256
  may : ∀ j, r.testBit j = true → nearF xs i j = true ∧ t.testBit j = false
  done : ∀ j, j < 8 → r.testBit j = false → fitP (nearF xs) 8 n i (cT t) j = false
section
variable {xs : List Nat} {n i t r : Nat}
theorem TryInv.start (hx : W8 xs) (ht : t < 256) : TryInv xs n i t (diffW (xs.getD i 0) t) := by
  have hb := hx.at_ i
  have hd := fun j => diffW_testBit (xs.getD i 0) t j (by omega) (by omega)
  refine ⟨?_, fun j hj => ?_, fun j hj h => ?_⟩
  · apply Nat.lt_of_not_le
    intro h
    obtain ⟨j, hj, h1⟩ := Nat.exists_ge_and_testBit_of_ge_two_pow (n := 8) h
    rw [hd j, bit_high hb hj] at h1
    cases h1
  · rw [hd j] at hj
    simp only [Bool.and_eq_true, Bool.not_eq_true'] at hj
    exact hj
  · rw [hd j] at h
    cases hf : fitP (nearF xs) 8 n i (cT t) j with
    | false => rfl
    | true =>
      obtain ⟨g1, g2, _⟩ := fitP_iff.1 hf
      have g1' : (xs.getD i 0).testBit j = true := g1
      have : t.testBit j = false := by
        unfold cT at g2
        cases hb : t.testBit j with
        | false => rfl
        | true => rw [hb, if_pos rfl] at g2; omega
      rw [g1', this] at h
      cases h
theorem TryInv.next (H : TryInv xs n i t r) (h0 : r ≠ 0) (hf : fitP (nearF xs) 8 n i (cT t) (Lib.ctz 32 r) = false) : TryInv xs n i t (r &&& (r - 1)) := by
  obtain ⟨_, _, _, h4, h5⟩ := low_dec r H.lt h0
  have hlt := H.lt
  refine ⟨by omega, fun j hj => ?_, fun j hj h => ?_⟩
  · rcases Nat.lt_or_ge j 8 with h8 | h8
    · rw [h4 j h8] at hj
      simp only [Bool.and_eq_true] at hj
      exact H.may j hj.1
    · rw [bit_high (by omega) h8] at hj; cases hj
  · rw [h4 j hj] at h
    by_cases hr : r.testBit j = true
    · rw [hr] at h
      simp at h
      rw [h]; exact hf
    · exact H.done j hj (by simpa using hr)
theorem TryInv.found (H : TryInv xs n i t r) (h0 : r ≠ 0) (hf : fitP (nearF xs) 8 n i (cT t) (Lib.ctz 32 r) = true) : frZ xs n i t = (Lib.ctz 32 r : Nat) := by
  obtain ⟨h1, h2, h3, _, _⟩ := low_dec r H.lt h0
  unfold frZ
  rw [find_of h1 hf fun k hk => H.done k (by omega) (h3 k (by omega) hk)]
theorem TryInv.end_ (H : TryInv xs n i t 0) : frZ xs n i t = -1 := by
  unfold frZ
  rw [find_not fun k hk => H.done k hk (Nat.zero_testBit k)]
theorem TryInv.fit (H : TryInv xs n i t r) (h0 : r ≠ 0) : fitP (nearF xs) 8 n i (cT t) (Lib.ctz 32 r) = decide (1 + mxR (nearF xs) 8 n (i + 1) (cT (t ||| 2 ^ Lib.ctz 32 r)) = mxR (nearF xs) 8 (n + 1) i (cT t)) := by
  obtain ⟨_, h2, _⟩ := low_dec r H.lt h0
  obtain ⟨g1, g2⟩ := H.may _ h2
  unfold fitP
  rw [g1, cT_dec g2, decide_eq_true (show 0 < cT t (Lib.ctz 32 r) by unfold cT; rw [if_neg (by simp [g2])]; omega)]
  simp
end

set_option maxRecDepth 100000 in
set_option maxHeartbeats 4000000 in
theorem firstRight_any (n cap t : Nat) (b off : Nat) (xs : List Nat) (w : World) (hA : WordsAt w w.heap.size (some ⟨b, off, none⟩) (n + 1) xs) (hl : n < 8) (hcap : n + 1 ≤ cap) (hm : cap ≤ 9223372036854775807) (hx : W8 xs) (ht : t < 256) (hT : Tab w) :
    Calls Tryd.prog 20 #[.slice (some ⟨b, off, none⟩) (n + 1) cap, .int .u32 t] w fun e w' => e = .returned (.int .i64 (frZ xs n 0 t)) ∧ Below w.heap.size w w' := by
  have HA := Lib.hid hA
  have HX := Lib.hid hx
  have HT := Lib.hid hT
  have hx0 := hx.at_ 0
  obtain ⟨b', off', e, hbl, hc0'⟩ := hA.at_ (k := 0) (by omega)
  obtain ⟨rfl, rfl⟩ : b = b' ∧ off = off' := by injection e with e; injection e with e1 e2; exact ⟨e1, e2⟩
  have HTI := Lib.hid (TryInv.start (n := n) (i := 0) (t := t) hx ht)
  have HC0 : Hid (∀ wr, Below w.heap.size w wr → wr.cell? ⟨b, off, none⟩ = some (.int .u32 ((xs.getD 0 0 : Nat) : Int))) := Lib.hid fun wr hb => by
    rw [hb.cell (p := ⟨b, off, none⟩) hbl]; exact hc0'
  have hD := andNot_u32 (xs.getD 0 0) t (by omega) (by omega)
  have HM := Lib.hid (howMany_any (n + 1) cap t (some ⟨b, off, none⟩) xs w hA (by omega) hx ht)
  have hml := mxR_le_len (near := nearF xs) (n := 8) (n + 1) 0 (cT t)
  have HME : Hid (∀ r, TryInv xs n 0 t r → r ≠ 0 → fitP (nearF xs) 8 n 0 (cT t) (Lib.ctz 32 r) = decide (1 + mxR (nearF xs) 8 n 1 (cT (t ||| 2 ^ Lib.ctz 32 r)) = mxR (nearF xs) 8 (n + 1) 0 (cT t))) := Lib.hid fun r H h0 => H.fit h0
  clear hA hx e hc0' hT
  generalize mxR (nearF xs) 8 (n + 1) 0 (cT t) = M at HM hml HME
  generalize diffW (xs.getD 0 0) t = d at hD HTI
  generalize hx0e : xs.getD 0 0 = x0 at hx0 HC0 hD
  clear hx0e
  go_enter Tryd.func20, Tryd.ntmps20
  go_wp2_with fail
  refine HM.out.mono ?_
  rintro e w1 ⟨rfl, hb1⟩
  have HB1 := Lib.hid hb1
  have hc0 := HC0.out w1 hb1
  clear hb1
  go_wp2_with fail
  go_loopw [6] (fun o wr => ∃ r : Nat, r < 256 ∧ o = .int .u32 r ∧ Hid (TryInv xs n 0 t r) ∧ Hid (Below w.heap.size w wr)) (fun o _ => (intOf o).toNat)
  case atStart => exact ⟨d, HTI.out.lt, rfl, HTI, HB1⟩
  case round =>
    clear HTI HB1 hc0
    obtain ⟨r, hr, rfl, HI, HB⟩ := hrel
    by_cases h0 : r = 0
    · subst h0
      have HE : Hid (frZ xs n 0 t = -1) := Lib.hid HI.out.end_
      go_wp2_with fail
      go_ret
      exact ⟨ret_int HE.out.symm, HB.out⟩
    · have h0b : ((r : Int) != 0) = true := by
        have : (r : Int) ≠ 0 := by omega
        simpa using this
      obtain ⟨l1, l2, l3, l4, l5⟩ := low_dec r hr h0
      have HTZ := Lib.hid (tz_any r wr (by omega) h0 (HT.out.go_ HB.out))
      have HF := Lib.hid (HME.out r HI.out h0)
      have HNX := Lib.hid (fun h => HI.out.next h0 h)
      have HFO := Lib.hid (fun h => HI.out.found h0 h)
      have hand : bits .and .u32 (r : Int) ((r : Int) - 1) = ((r &&& (r - 1) : Nat) : Int) := by
        have := and_u32 r (r - 1) (by omega) (by omega)
        rwa [show ((r - 1 : Nat) : Int) = (r : Int) - 1 by omega] at this
      clear l2 l3 l4 HI
      generalize Lib.ctz 32 r = z at l1 HTZ HF HNX HFO
      generalize r &&& (r - 1) = r2 at l5 HNX hand
      have hpz : 2 ^ z < 2 ^ 8 := Nat.pow_lt_pow_right (by decide) l1
      rw [show 2 ^ 8 = 256 from rfl] at hpz
      have hq : t ||| 2 ^ z < 256 := or_pow_lt ht l1
      have hsz : (2 : Int) ^ z % 4294967296 = ((2 ^ z : Nat) : Int) := pow_mod z (by omega)
      have htz : IntKind.u32.wrap ((2 : Int) ^ z) = ((2 ^ z : Nat) : Int) := by rw [wrap_u32n]; exact hsz
      have hor := or_u32 t (2 ^ z) (by omega) (by omega)
      have HMM : Hid (∀ A' cap' W, WordsAt W W.heap.size A' n (xs.drop 1) → Calls Tryd.prog 26 #[.slice A' n cap', .int .u32 (t ||| 2 ^ z : Nat)] W fun e w' => e = .returned (.int .i64 (mxR (nearF xs) 8 n 1 (cT (t ||| 2 ^ z)) : Nat)) ∧ Below W.heap.size W w') := Lib.hid fun A' cap' W h => by
        have := howMany_any n cap' (t ||| 2 ^ z) A' (xs.drop 1) W h (by omega) (fun x hx => HX.out x (List.mem_of_mem_drop hx)) hq
        rwa [mxR_drop, Nat.zero_add] at this
      have hml2 := mxR_le_len (near := nearF xs) (n := 8) n 1 (cT (t ||| 2 ^ z))
      generalize mxR (nearF xs) 8 n 1 (cT (t ||| 2 ^ z)) = M2 at hml2 HMM HF
      generalize t ||| 2 ^ z = q at hq hor HMM
      generalize 2 ^ z = p at hpz hsz htz hor
      have HW : Hid (WordsAt wr wr.heap.size (some ⟨b, off, none⟩) (n + 1) xs) := Lib.hid ((HA.out.below HB.out).more HB.out.size)
      have HW1 : Hid (WordsAt wr wr.heap.size (some ⟨b, off + 1, none⟩) n (xs.drop 1)) := Lib.hid (by have := HW.out.drop_ (k := 1) (by omega); rwa [Nat.add_sub_cancel] at this)
      rcases (show 1 < cap ∨ cap = 1 by omega) with hc1 | hc1
      · have HCALL := Lib.hid (HMM.out (some ⟨b, off + 1, none⟩) (cap - 1) wr.drew (by exact HW1.out))
        have hcz : (1 : Int) ≤ (cap : Int) := by omega
        by_cases hM : 1 + M2 = M
        · have HR := Lib.hid (HFO.out (by rw [HF.out]; exact decide_eq_true hM))
          have hwr : IntKind.i64.wrap ((1 : Int) + (M2 : Int)) = (M : Int) := by rw [show (1 : Int) + (M2 : Int) = (M : Int) by omega]; exact IntWalk.i64_in _ (by omega)
          clear HF HNX HFO HMM hM
          go_wp2_with (go_at_call 27; refine HTZ.out.mono ?_; rintro e w' ⟨rfl, rfl⟩)
          go_region_with (go_at_call 26; refine HCALL.out.mono ?_; rintro e w2 ⟨rfl, hb2⟩; have HB2 : Hid (Below w.heap.size w w2) := Lib.hid (HB.out.drew.trans (hb2.mono (by exact HB.out.size))); clear hb2)
          all_goals
            clear hwr
            go_wp2_with fail
            go_ret
            exact ⟨ret_int HR.out.symm, HB2.out⟩
        · have HN := Lib.hid (HNX.out (by rw [HF.out]; exact decide_eq_false hM))
          obtain ⟨K, hK⟩ : ∃ K : Nat, 1 + M2 = K := ⟨_, rfl⟩
          have hwr : IntKind.i64.wrap ((1 : Int) + (M2 : Int)) = (K : Int) := by rw [show (1 : Int) + (M2 : Int) = (K : Int) by omega]; exact IntWalk.i64_in _ (by omega)
          have hMb : ((K : Int) == (M : Int)) = false := by
            have : ¬ (K : Int) = (M : Int) := by omega
            simpa using this
          clear hK hml hml2
          clear HF HNX HFO HMM hM
          go_wp2_with (go_at_call 27; refine HTZ.out.mono ?_; rintro e w' ⟨rfl, rfl⟩)
          go_region_with (go_at_call 26; refine HCALL.out.mono ?_; rintro e w2 ⟨rfl, hb2⟩; have HB2 : Hid (Below w.heap.size w w2) := Lib.hid (HB.out.drew.trans (hb2.mono (by exact HB.out.size))); clear hb2)
          all_goals
            clear hwr
            go_wp2_with fail
            go_roundw
            case rel => first | exact ⟨r2, by omega, rfl, HN, HB2⟩ | ((repeat apply Exists.intro); exact ⟨⟨by omega, rfl, HN, HB2⟩, rfl⟩)
            case measure => simp [intOf]; omega
      · have hn0 : ¬ 0 < n := by omega
        have HCALL := Lib.hid (HMM.out (some ⟨b, off, none⟩) 0 wr.drew ⟨by rw [List.length_drop, HW.out.1]; omega, fun h => absurd h hn0⟩)
        subst hc1
        clear hn0 hcap
        by_cases hM : 1 + M2 = M
        · have HR := Lib.hid (HFO.out (by rw [HF.out]; exact decide_eq_true hM))
          have hwr : IntKind.i64.wrap ((1 : Int) + (M2 : Int)) = (M : Int) := by rw [show (1 : Int) + (M2 : Int) = (M : Int) by omega]; exact IntWalk.i64_in _ (by omega)
          clear HF HNX HFO HMM hM
          go_wp2_with (go_at_call 27; refine HTZ.out.mono ?_; rintro e w' ⟨rfl, rfl⟩)
          go_region_with (go_at_call 26; refine HCALL.out.mono ?_; rintro e w2 ⟨rfl, hb2⟩; have HB2 : Hid (Below w.heap.size w w2) := Lib.hid (HB.out.drew.trans (hb2.mono (by exact HB.out.size))); clear hb2)
          all_goals
            clear hwr
            go_wp2_with fail
            go_ret
            exact ⟨ret_int HR.out.symm, HB2.out⟩
        · have HN := Lib.hid (HNX.out (by rw [HF.out]; exact decide_eq_false hM))
          obtain ⟨K, hK⟩ : ∃ K : Nat, 1 + M2 = K := ⟨_, rfl⟩
          have hwr : IntKind.i64.wrap ((1 : Int) + (M2 : Int)) = (K : Int) := by rw [show (1 : Int) + (M2 : Int) = (K : Int) by omega]; exact IntWalk.i64_in _ (by omega)
          have hMb : ((K : Int) == (M : Int)) = false := by
            have : ¬ (K : Int) = (M : Int) := by omega
            simpa using this
          clear hK hml hml2
          clear HF HNX HFO HMM hM
          go_wp2_with (go_at_call 27; refine HTZ.out.mono ?_; rintro e w' ⟨rfl, rfl⟩)
          go_region_with (go_at_call 26; refine HCALL.out.mono ?_; rintro e w2 ⟨rfl, hb2⟩; have HB2 : Hid (Below w.heap.size w w2) := Lib.hid (HB.out.drew.trans (hb2.mono (by exact HB.out.size))); clear hb2)
          all_goals
            clear hwr
            go_wp2_with fail
            go_roundw
            case rel => first | exact ⟨r2, by omega, rfl, HN, HB2⟩ | ((repeat apply Exists.intro); exact ⟨⟨by omega, rfl, HN, HB2⟩, rfl⟩)
            case measure => simp [intOf]; omega
end Go.Proofs.YtblbjiogojldhaaDoor
