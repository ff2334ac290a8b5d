/- teamsterkeep's pairing, paired, words: is a list a pairing, how many have one, may words be? -/
import Derived.Test.YtblbjiogojldhaaDoorBitSize
import Derived.Test.YtblbjiogojldhaaDoorHas
import Derived.Test.YtblbjiogojldhaaDoorPairCheck
import Derived.Test.YtblbjiogojldhaaDoorPairUp
namespace Go.Proofs.YtblbjiogojldhaaDoor
open Go.RowKit

theorem intsAt_take {w : World} {B n k : Nat} {A : Option Addr} {xs : List Int} (h : IntsAt w B A n xs) (hk : k ≤ n) : IntsAt w B A k (xs.take k) := by
  refine ⟨by rw [List.length_take, h.1]; omega, fun hk0 => ?_⟩
  obtain ⟨b, off, e, hb, hc⟩ := h.2 (by omega)
  refine ⟨b, off, e, hb, fun i x hx => hc i x ?_⟩
  rw [List.getElem?_take] at hx
  split at hx
  · exact hx
  · cases hx
/-- One place of a list, behind those ahead of it. -/
def PairAt (xs : List Nat) (ys : List Int) (k : Nat) : Prop := ys.getD k (-1) = -1 ∨ (bitZ (xs.getD k 0) (ys.getD k (-1)) = true ∧ ys.getD k (-1) ∉ ys.take k)
/-- A list that is a pairing. -/
def PairL (xs : List Nat) (ys : List Int) : Prop := ys.length = xs.length ∧ ∀ k, k < ys.length → PairAt xs ys k
/-- The same, from one place on, with a word of those who were had already. -/
def PairF (xs : List Nat) (t i : Nat) (l : List Int) : Prop := ∀ (k : Nat) (x : Int), l[k]? = some x → x = -1 ∨ ∃ j : Nat, x = (j : Int) ∧ j < 8 ∧ nearF xs (i + k) j = true ∧ t.testBit j = false ∧ x ∉ l.take k
theorem cT_pos {t j : Nat} : 0 < cT t j ↔ t.testBit j = false := by
  unfold cT
  cases t.testBit j <;> simp
theorem pairF_iff {xs : List Nat} : ∀ (l : List Int) (t i : Nat), PairF xs t i l ↔ okP (nearF xs) 8 i (cT t) l
  | [], t, i => ⟨fun _ => trivial, fun _ k x hx => by simp at hx⟩
  | y :: l, t, i => by
    constructor
    · intro H
      have hrest : ∀ t', (∀ j : Nat, t'.testBit j = true → t.testBit j = true ∨ (j : Int) = y) → PairF xs t' (i + 1) l := fun t' ht k x hx => by
        rcases H (k + 1) x (by simpa using hx) with h | ⟨j, h1, h2, h3, h4, h5⟩
        · exact .inl h
        · refine .inr ⟨j, h1, h2, by rw [show i + 1 + k = i + (k + 1) by omega]; exact h3, ?_, fun h => h5 (by rw [List.take_succ_cons]; exact List.mem_cons_of_mem _ h)⟩
          cases hb : t'.testBit j with
          | false => rfl
          | true =>
            exfalso
            rcases ht j hb with h6 | h6
            · rw [h4] at h6; cases h6
            · exact h5 (by rw [List.take_succ_cons, h1, h6]; exact List.mem_cons_self ..)
      rcases H 0 y rfl with h | ⟨j, h1, h2, h3, h4, _⟩
      · exact .inl ⟨h, (pairF_iff l t (i + 1)).1 (hrest t fun j h => .inl h)⟩
      · refine .inr ⟨j, h1, h2, h3, cT_pos.2 h4, ?_⟩
        rw [cT_dec h4]
        refine (pairF_iff l _ (i + 1)).1 (hrest _ fun j' hj' => ?_)
        rw [Nat.testBit_or, Nat.testBit_two_pow] at hj'
        simp only [Bool.or_eq_true, decide_eq_true_eq] at hj'
        rcases hj' with h | h
        · exact .inl h
        · exact .inr (by rw [← h, h1])
    · intro H k x hx
      have hrest : ∀ t', PairF xs t' (i + 1) l → (∀ j : Nat, t'.testBit j = false → t.testBit j = false ∧ ((j : Int) ≠ y ∨ y = -1)) → 0 < k → x = -1 ∨ ∃ j : Nat, x = (j : Int) ∧ j < 8 ∧ nearF xs (i + k) j = true ∧ t.testBit j = false ∧ x ∉ (y :: l).take k := fun t' hF ht hk => by
        obtain ⟨k', rfl⟩ : ∃ k', k = k' + 1 := ⟨k - 1, by omega⟩
        rcases hF k' x (by simpa using hx) with h | ⟨j, h1, h2, h3, h4, h5⟩
        · exact .inl h
        · obtain ⟨g1, g2⟩ := ht j h4
          refine .inr ⟨j, h1, h2, by rw [show i + (k' + 1) = i + 1 + k' by omega]; exact h3, g1, ?_⟩
          rw [List.take_succ_cons, List.mem_cons]
          rintro (h6 | h6)
          · rcases g2 with g2 | g2
            · exact g2 (by rw [← h1, h6])
            · omega
          · exact h5 h6
      rcases Nat.eq_zero_or_pos k with rfl | hk
      · simp only [List.getElem?_cons_zero, Option.some.injEq] at hx
        subst hx
        rcases H with ⟨h, _⟩ | ⟨j, h1, h2, h3, h4, _⟩
        · exact .inl h
        · exact .inr ⟨j, h1, h2, h3, cT_pos.1 h4, by simp⟩
      · rcases H with ⟨h, hF⟩ | ⟨j, h1, h2, h3, h4, hF⟩
        · exact hrest t ((pairF_iff l t (i + 1)).2 hF) (fun j hj => ⟨hj, .inr h⟩) hk
        · rw [cT_dec (cT_pos.1 h4)] at hF
          refine hrest _ ((pairF_iff l _ (i + 1)).2 hF) (fun j' hj' => ?_) hk
          rw [Nat.testBit_or, Nat.testBit_two_pow] at hj'
          simp only [Bool.or_eq_false_iff, decide_eq_false_iff_not] at hj'
          exact ⟨hj'.1, .inl fun h => hj'.2 (by omega)⟩
theorem pairL_ok {xs : List Nat} (hx : W8 xs) {ys : List Int} : PairL xs ys ↔ ys.length = xs.length ∧ okP (nearF xs) 8 0 (cT 0) ys := by
  unfold PairL
  refine and_congr Iff.rfl ?_
  rw [← pairF_iff]
  constructor
  · intro H k x hk
    have hl := (List.getElem?_eq_some_iff.1 hk).1
    have hg : ys.getD k (-1) = x := by rw [List.getD_eq_getElem?_getD, hk]; rfl
    have := H k hl
    unfold PairAt at this
    rw [hg] at this
    rcases this with h | ⟨h1, h2⟩
    · exact .inl h
    · unfold bitZ at h1
      simp only [Bool.and_eq_true, decide_eq_true_eq] at h1
      obtain ⟨j, rfl⟩ := Int.eq_ofNat_of_zero_le h1.1
      rw [Int.toNat_natCast] at h1
      refine .inr ⟨j, rfl, ?_, by rw [Nat.zero_add]; exact h1.2, Nat.zero_testBit j, h2⟩
      rcases Nat.lt_or_ge j 8 with h8 | h8
      · exact h8
      · rw [bit_high (hx.at_ k) h8] at h1; exact absurd h1.2 (by simp)
  · intro H k hl
    have hk : ys[k]? = some (ys.getD k (-1)) := by rw [List.getD_eq_getElem?_getD, List.getElem?_eq_getElem hl]; rfl
    rcases H k _ hk with h | ⟨j, h1, _, h3, _, h5⟩
    · exact .inl h
    · refine .inr ⟨?_, h5⟩
      rw [h1]
      unfold bitZ
      rw [Nat.zero_add] at h3
      simp only [Int.toNat_natCast, Bool.and_eq_true, decide_eq_true_eq]
      exact ⟨by omega, h3⟩
/-- How many have one. -/
def geZ (x : Int) : Bool := decide (0 ≤ x)
def cntZ (l : List Int) (k : Nat) : Nat := (l.take k).countP geZ
theorem cntZ_succ {l : List Int} {k : Nat} {x : Int} (h : l[k]? = some x) : cntZ l (k + 1) = cntZ l k + if geZ x = true then 1 else 0 := by
  obtain ⟨hk, rfl⟩ := List.getElem?_eq_some_iff.1 h
  unfold cntZ
  rw [List.take_succ_eq_append_getElem hk, List.countP_append, List.countP_singleton]
theorem cntZ_le (l : List Int) (k : Nat) : cntZ l k ≤ k := Nat.le_trans List.countP_le_length (List.length_take_le _ _)
theorem cntZ_paired {xs : List Nat} {l : List Int} {t i : Nat} (h : okP (nearF xs) 8 i (cT t) l) : cntZ l l.length = pairedL l := by
  unfold cntZ pairedL
  rw [List.take_length]
  apply List.countP_congr
  intro x hx
  obtain ⟨k, hk⟩ := List.getElem?_of_mem hx
  rcases (pairF_iff l t i).2 h k x hk with h1 | ⟨j, h1, _⟩
  · subst h1; simp [geZ]
  · subst h1; simp [geZ]

set_option maxRecDepth 100000 in
set_option maxHeartbeats 1000000 in
theorem paired_any (n cap : Nat) (A : Option Addr) (ys : List Int) (w : World) (hA : IntsAt w w.heap.size A n ys) (hn : n ≤ 1000) :
    Calls Tryd.prog 15 #[.slice A n cap] w fun e w' => e = .returned (.int .i64 (cntZ ys n : Nat)) ∧ w = w' := by
  have HA := Lib.hid hA
  clear hA
  go_enter Tryd.func15, Tryd.ntmps15
  go_wp2
  go_loop [3, 8] (fun p j => ∃ k : Nat, k ≤ n ∧ j = .int .i64 k ∧ p = .int .i64 (cntZ ys k : Nat)) (fun _ j => n - (intOf j).toNat)
  case atStart => exact ⟨0, Nat.zero_le _, rfl, rfl⟩
  case round =>
    obtain ⟨k, hk, rfl, rfl⟩ := hrel
    by_cases hlt : k < n
    · obtain ⟨b, off, x, rfl, _, hx, hc⟩ := HA.out.at_ hlt
      have ik0 : (0 : Int) ≤ (k : Int) := by omega
      have ik1 : (k : Int) < (n : Int) := by omega
      have HN := Lib.hid (cntZ_succ hx)
      have hcl := cntZ_le ys k
      generalize cntZ ys k = p at *
      clear hx
      by_cases h0 : 0 ≤ x
      · have HM : Hid (cntZ ys (k + 1) = p + 1) := Lib.hid (by rw [HN.out, if_pos (by simpa [geZ] using h0)])
        go_wp2
        go_round
        case rel => exact ⟨k + 1, by omega, by go_num, by rw [HM.out]; go_num⟩
        case measure => simp [intOf]; omega
      · have HM : Hid (cntZ ys (k + 1) = p) := Lib.hid (by rw [HN.out, if_neg (by simpa [geZ] using h0)]; rfl)
        go_wp2
        go_round
        case rel => exact ⟨k + 1, by omega, by go_num, by rw [HM.out]⟩
        case measure => simp [intOf]; omega
    · obtain rfl : k = n := by omega
      go_wp2
      go_ret
      exact ⟨rfl, rfl⟩

theorem words_v (len cap : Nat) (A : Option Addr) (xs : List Nat) (v : Bool) (w : World) (hA : WordsAt w w.heap.size A len xs) (hm : len ≤ maxLen) (hx : ∀ x ∈ xs, x < 4294967296) (hv : (pcheck xs == 0) = v) :
    Calls Tryd.prog 12 #[.slice A len cap] w fun e w' => e = .returned (.bool v) ∧ w = w' := by
  have HC := Lib.hid (refCheckP_any len cap A xs w hA hm hx)
  have HV := Lib.hid hv
  clear hA hx hv
  go_enter Tryd.func12, Tryd.ntmps12
  go_wp2_with (go_at_call 8; refine HC.out.mono ?_; rintro e w' ⟨rfl, rfl⟩)
  go_ret
  exact ⟨ret_bool HV.out, rfl⟩

set_option maxRecDepth 100000 in
set_option maxHeartbeats 2000000 in
theorem pairing_v (len cap n cap2 : Nat) (A A2 : Option Addr) (xs : List Nat) (ys : List Int) (v : Bool) (w : World) (hA : WordsAt w w.heap.size A len xs) (hl : len ≤ 8) (hx : W8 xs) (hI : IntsAt w w.heap.size A2 n ys) (hn : n ≤ cap2) (hm : cap2 ≤ maxLen) (hv : v = true ↔ PairL xs ys) :
    Calls Tryd.prog 13 #[.slice A len cap, .slice A2 n cap2] w fun e w' => e = .returned (.bool v) ∧ w = w' := by
  unfold maxLen at hm
  have HA := Lib.hid hA
  have HX := Lib.hid hx
  have HI := Lib.hid hI
  have HV := Lib.hid hv
  have HL1 : Hid (xs.length = len) := Lib.hid hA.1
  have HL2 : Hid (ys.length = n) := Lib.hid hI.1
  clear hA hx hI hv
  by_cases hnl : n = len
  · subst hnl
    go_enter Tryd.func13, Tryd.ntmps13
    go_wp2
    go_loop [14] (fun j => ∃ k : Nat, k ≤ n ∧ j = .int .i64 k ∧ Hid (∀ i, i < k → PairAt xs ys i)) (fun j => n - (intOf j).toNat)
    case atStart => exact ⟨0, Nat.zero_le _, rfl, Lib.hid fun i hi => by omega⟩
    case round =>
      obtain ⟨k, hk, rfl, HK⟩ := hrel
      by_cases hlt : k < n
      · obtain ⟨b, off, rfl, _, hc⟩ := HA.out.at_ hlt
        obtain ⟨b2, off2, x, rfl, _, hy, hc2⟩ := HI.out.at_ hlt
        have ik0 : (0 : Int) ≤ (k : Int) := by omega
        have ik1 : (k : Int) < (n : Int) := by omega
        have ik2 : (k : Int) ≤ (cap2 : Int) := by omega
        have hxk := HX.out.at_ k
        have hg : ys.getD k (-1) = x := by rw [List.getD_eq_getElem?_getD, hy]; rfl
        have HT : Hid (IntsAt w w.heap.size (some ⟨b2, off2, none⟩) k (ys.take k)) := Lib.hid (intsAt_take HI.out (by omega))
        have HN : Hid (PairAt xs ys k → ∀ i, i < k + 1 → PairAt xs ys i) := Lib.hid fun h i hi => by
          rcases Nat.lt_or_ge i k with h1 | h1
          · exact HK.out i h1
          · obtain rfl : i = k := by omega
            exact h
        have HF : Hid (¬ PairAt xs ys k → v = false) := Lib.hid fun h1 => by
          rw [Bool.eq_false_iff]
          intro h
          exact h1 ((HV.out.1 h).2 k (by have := HL2.out; omega))
        have HP : Hid (PairAt xs ys k ↔ x = -1 ∨ (bitZ (xs.getD k 0) x = true ∧ hasI (ys.take k) x = false)) := Lib.hid (by
          unfold PairAt
          rw [hg]
          have : hasI (ys.take k) x = false ↔ x ∉ ys.take k := by rw [Bool.eq_false_iff, ne_eq, hasI_iff]
          rw [this])
        clear HK hy hg
        generalize xs.getD k 0 = X at hc hxk HP
        by_cases h1 : x = -1
        · have HM := Lib.hid (HN.out (HP.out.2 (.inl h1)))
          subst h1
          clear HN HF HP
          go_wp2
          go_round
          case rel => exact ⟨k + 1, by omega, by go_num, HM⟩
          case measure => simp [intOf]; omega
        · have h1b : (x != -1) = true := by simpa using h1
          have h1c : (x == -1) = false := by simpa using h1
          have HH1 := Lib.hid h1
          have HB := Lib.hid (fun (b : Bool) (h : bitZ X x = b) => bit_z X x b (by omega) h w)
          have HHS := Lib.hid (fun (b : Bool) (h : hasI (ys.take k) x = b) => has_v k cap2 x b (some ⟨b2, off2, none⟩) (ys.take k) w HT.out (by omega) h)
          clear h1
          cases hb : bitZ X x
          · have HM := Lib.hid (HF.out fun h => by
              rcases HP.out.1 h with h2 | ⟨h2, _⟩
              · exact HH1.out h2
              · rw [hb] at h2; cases h2)
            have HBB := Lib.hid (HB.out false hb)
            clear HN HF HP HB HHS hb
            go_wp2_with (go_at_call 22; refine HBB.out.mono ?_; rintro e w1 ⟨rfl, rfl⟩)
            go_ret
            exact ⟨ret_bool HM.out.symm, rfl⟩
          · have HBB := Lib.hid (HB.out true hb)
            cases hh : hasI (ys.take k) x
            · have HM := Lib.hid (HN.out (HP.out.2 (.inr ⟨hb, hh⟩)))
              have HHH := Lib.hid (HHS.out false hh)
              clear HN HF HP HB HHS hb hh
              go_wp2_with (first
                | (go_at_call 22; refine HBB.out.mono ?_; rintro e w1 ⟨rfl, rfl⟩)
                | (go_at_call 25; refine HHH.out.mono ?_; rintro e w1 ⟨rfl, rfl⟩))
              go_round
              case rel => exact ⟨k + 1, by omega, by go_num, HM⟩
              case measure => simp [intOf]; omega
            · have HM := Lib.hid (HF.out fun h => by
                rcases HP.out.1 h with h2 | ⟨_, h2⟩
                · exact HH1.out h2
                · rw [hh] at h2; cases h2)
              have HHH := Lib.hid (HHS.out true hh)
              clear HN HF HP HB HHS hb hh
              go_wp2_with (first
                | (go_at_call 22; refine HBB.out.mono ?_; rintro e w1 ⟨rfl, rfl⟩)
                | (go_at_call 25; refine HHH.out.mono ?_; rintro e w1 ⟨rfl, rfl⟩))
              go_ret
              exact ⟨ret_bool HM.out.symm, rfl⟩
      · have HR : Hid (v = true) := Lib.hid (HV.out.2 ⟨by have := HL1.out; have := HL2.out; omega, fun i hi => HK.out i (by have := HL2.out; omega)⟩)
        go_wp2
        go_ret
        exact ⟨ret_bool HR.out.symm, rfl⟩
  · have HR : Hid (v = false) := Lib.hid (by
      rw [Bool.eq_false_iff]
      intro h
      have := (HV.out.1 h).1
      have := HL1.out
      have := HL2.out
      omega)
    have hneI : ((n : Int) != (len : Int)) = true := by
      have : ¬ (n : Int) = (len : Int) := by omega
      simpa using this
    go_enter Tryd.func13, Tryd.ntmps13
    go_wp2
    go_ret
    exact ⟨ret_bool HR.out.symm, rfl⟩
end Go.Proofs.YtblbjiogojldhaaDoor
