/- The statement ColourWhitneySaid, out of the law's walk. No conditions. -/
import Derived.Test.YtpcealcghglopaaBoxB
import Derived.Test.YtpcealcghglopaaCheckGo
import Derived.Test.YtpcealcghglopaaPaintP
import Derived.Test.YtpcealcghglopaaRefCount
import Derived.Test.YtpcealcghglopaaEachV
import Derived.Test.YtpcealcghglopaaMergedGo
import Derived.Test.YtpcealcghglopaaKeepGood
import Derived.Test.YtpcealcghglopaaWordsAt
import Derived.Test.YtpcealcghglopaaTallyGo
import Derived.Test.YtpcealcghglopaaLooseP
import Derived.Test.YtpcealcghglopaaMem
import Derived.Laws.EntriesVeiled
import Derived.Test.YtpcealcghglopaaRows
import Derived.ProofKit
import Derived.Deep.Slices
import Derived.Deep.Strs
import Derived.Lib.SmallJoins
namespace Go.Proofs.Ytpcealcghglopaa
open Go.RowKit

set_option maxRecDepth 100000 in
theorem check_v (n : Int) (A : Option Addr) (len cap : Nat) (es : List E3) (v : Int) (w : World) (hE : EdgesAt w w.heap.size A len es) (hcap : len ≤ cap) (hv : gcheck n es = v) :
    Calls Try.prog 16 #[.agg #[.int .i64 n, .slice A len cap]] w fun e w' => e = .returned (.int .i64 v) ∧ Below w.heap.size w w' := by
  subst hv; exact graphCheck_any n A len cap es w hE hcap
end Go.Proofs.Ytpcealcghglopaa

namespace Go.Proofs.Ytpcealcghglopaa
open Go.RowKit

def LeastTop (w : World) (n : Int) (es : List E3) (e : Ending) (w' : World) : Prop :=
  (gcheck n es ≠ 0 → e = .returned (.tuple #[.int .i64 0, .slice none 0 0, .int .i64 (gcheck n es)])) ∧
  (gcheck n es = 0 → ∃ k l A' c', LeastC (adjE es) n.toNat k l ∧ e = .returned (.tuple #[.int .i64 (k : Int), .slice A' n.toNat c', .int .i64 0]) ∧ IntsAt w' w'.heap.size A' n.toNat (natG l) ∧ n.toNat ≤ c') ∧ Below w.heap.size w w'
def colR (n : Nat) (col : Nat → Nat) : List Int := (List.range n).map fun j => ((col j : Nat) : Int)
def GreedyTop (w : World) (n : Int) (es : List E3) (xs : List Int) (e : Ending) (w' : World) : Prop :=
  (gcheck n es ≠ 0 → e = .returned (.tuple #[.slice none 0 0, .int .i64 (gcheck n es)])) ∧
  (gcheck n es = 0 → ¬ EachP n.toNat xs → e = .returned (.tuple #[.slice none 0 0, .int .i64 2])) ∧
  (gcheck n es = 0 → ∀ o, natG o = xs → EachP n.toNat xs → ∃ col A' c', GreedL (adjE es) o n.toNat col ∧ e = .returned (.tuple #[.slice A' n.toNat c', .int .i64 0]) ∧ IntsAt w' w'.heap.size A' n.toNat (colR n.toNat col) ∧ n.toNat ≤ c') ∧ Below w.heap.size w w'
def CountTop (w : World) (n : Int) (es : List E3) (k : Int) (e : Ending) (w' : World) : Prop :=
  (gcheck n es ≠ 0 → e = .returned (.tuple #[.int .i64 0, .int .i64 (gcheck n es)])) ∧
  (gcheck n es = 0 → (k < 0 ∨ 12 < k) → e = .returned (.tuple #[.int .i64 0, .int .i64 4])) ∧
  (gcheck n es = 0 → ¬ (k < 0 ∨ 12 < k) → ∃ a, PolA n.toNat (looseE es) a ∧ e = .returned (.tuple #[.int .i64 (a (2 ^ n.toNat - 1) k), .int .i64 0])) ∧ Below w.heap.size w w'
/-- A graph's edges, as they are turned. -/
def edgP (es : List E3) : EdgP := ⟨es.length, fun k => (es.getD k default).1.toNat, fun k => (es.getD k default).2.1.toNat⟩
noncomputable def turnsN (n : Nat) (es : List E3) : Int := aoW (edgP es) (2 ^ n - 1)
def TurnedTop (w : World) (n : Int) (es : List E3) (e : Ending) (w' : World) : Prop :=
  (gcheck n es ≠ 0 → e = .returned (.tuple #[.int .i64 0, .int .i64 (gcheck n es)])) ∧
  (gcheck n es = 0 → e = .returned (.tuple #[.int .i64 (turnsN n.toNat es), .int .i64 0])) ∧ Below w.heap.size w w'
theorem loose_edg {es : List E3} (s : Nat) : looseE es s = true ↔ (edgP es).loose s := by
  unfold looseE EdgP.loose
  rw [List.all_eq_true]
  constructor
  · intro h k hk ⟨h1, h2⟩
    have hk' : k < es.length := hk
    have e : es.getD k default = es[k] := by rw [List.getD_eq_getElem?_getD, List.getElem?_eq_getElem hk']; rfl
    have := h _ (List.getElem_mem hk')
    simp only [edgP, e] at h1 h2
    simp [bothE, h1, h2] at this
  · intro h x hx
    obtain ⟨k, hk⟩ := List.getElem?_of_mem hx
    obtain ⟨hk1, hk2⟩ := List.getElem?_eq_some_iff.1 hk
    have e : es.getD k default = x := by rw [List.getD_eq_getElem?_getD, hk]; rfl
    have := h k hk1
    simp only [edgP, e] at this
    simp only [bothE, Bool.not_eq_true', Bool.and_eq_false_iff]
    cases ha : x.1.toNat with
    | _ =>
      rw [← ha]
      by_cases h1 : s.testBit x.1.toNat = true
      · refine .inr ?_
        cases hb : s.testBit x.2.1.toNat with
        | false => rfl
        | true => exact absurd ⟨h1, hb⟩ this
      · exact .inl (by simpa using h1)
end Go.Proofs.Ytpcealcghglopaa

namespace Go.Proofs.Ytpcealcghglopaa
open Go.RowKit

theorem pcW_full (n : Nat) : ∀ j, j ≤ n → pcW (2 ^ n - 1) j = j
  | 0, _ => rfl
  | j + 1, h => by
    rw [pcW, pcW_full n j (by omega), if_pos (by rw [Nat.testBit_two_pow_sub_one]; exact decide_eq_true h)]
theorem pol_top {m k : Nat} {es : List E3} {a : Nat → Int → Int} (ha : PolA m (looseE es) a) (hm : m ≤ 10) (hk : k ≤ 12) : 0 ≤ a (2 ^ m - 1) k ∧ a (2 ^ m - 1) k ≤ 61917364224 := by
  have hp := Nat.two_pow_pos m
  refine ⟨pol_nonneg ha (looseE_zero es) k _ (by omega), ?_⟩
  have h := pol_le ha (looseE_zero es) k (2 ^ m - 1) (by omega)
  rw [pcW_full m m (Nat.le_refl _)] at h
  have h2 : k ^ m ≤ 12 ^ 10 := Nat.le_trans (Nat.pow_le_pow_left hk m) (Nat.pow_le_pow_right (by decide) hm)
  have h3 : (k : Int) ^ m = ((k ^ m : Nat) : Int) := by simp
  rw [h3] at h
  have h4 : (12 : Nat) ^ 10 = 61917364224 := by decide
  omega
set_option maxRecDepth 100000 in
set_option maxHeartbeats 4000000 in
theorem colourWhitney_of (n : Int) (A : Option Addr) (len cap : Nat) (es : List E3) (q : Int) (kk : Int) (w : World) (hE : EdgesAt w w.heap.size A len es) (hcap : len ≤ cap) (hq0 : 0 ≤ q) (hq1 : q ≤ 255)
    (HO : ∀ (n : Int) (A : Option Addr) (len cap : Nat) (es : List E3) W, EdgesAt W W.heap.size A len es → len ≤ cap → Calls Try.prog 22 #[.agg #[.int .i64 n, .slice A len cap], .int .i64 kk] W (CountTop W n es kk)) :
    Calls Try.prog 12 #[.agg #[.int .i64 n, .slice A len cap], .int .u8 q, .int .i64 kk] w fun e w' => e = .returned (.bool true) ∧ Below w.heap.size w w' := by
  have HX := Lib.hid (BoxG.start (n := n) (cap := cap) hE)
  have HOO := Lib.hid HO
  obtain ⟨x, hx⟩ : ∃ x, gcheck n es = x := ⟨_, rfl⟩
  have HCX := Lib.hid hx
  have k0 := HX.out.c0
  have k1 := HX.out.c1
  have HLE : Hid (es.length = len) := Lib.hid hE.1
  clear hE HO
  by_cases h0 : x = 0
  · subst h0
    obtain ⟨hn0, hn1, hl, hg⟩ := good_of_gcheck hx
    obtain ⟨m, rfl⟩ := Int.eq_ofNat_of_zero_le hn0
    have hm10 : m ≤ 10 := by omega
    have hlen : len ≤ 45 := by have := HLE.out; omega
    have HG := Lib.hid hg
    have HCK := Lib.hid (fun W hW => good_v (m : Int) A len cap es true W hW hcap (by rw [hx]; rfl))
    clear hx hg hl
    by_cases hk : kk < 0 ∨ 12 < kk
    · go_enter Try.func12, Try.ntmps12
      go_wp2_with fail
      refine (HOO.out _ _ _ _ _ _ HX.out.edges hcap).mono ?_
      rintro e w1 ⟨_, h2, _, hB⟩
      obtain rfl := h2 HCX.out hk
      have HX1 := Lib.hid (HX.out.next hB)
      have k0' := HX1.out.c0
      have k1' := HX1.out.c1
      clear h2 hB HOO k0 k1
      go_wp2_with fail
      refine (HCK.out _ HX1.out.edges).mono ?_
      rintro e w2 ⟨rfl, hB⟩
      have HX2 := Lib.hid (HX1.out.next hB)
      clear hB k0' k1'
      rcases Int.lt_or_le kk 0 with hk0 | hk0
      · have j1 : decide (kk < 0) = true := decide_eq_true hk0
        clear hk hk0
        go_wp2_with fail
        go_ret
        exact ⟨rfl, HX2.out.below⟩
      · have hk1 : 12 < kk := by omega
        have j1 : decide (kk < 0) = false := decide_eq_false (by omega)
        have j2 : decide (12 < kk) = true := decide_eq_true hk1
        clear hk hk0 hk1
        go_wp2_with fail
        go_ret
        exact ⟨rfl, HX2.out.below⟩
    · obtain ⟨k, rfl⟩ := Int.eq_ofNat_of_zero_le (show 0 ≤ kk by omega)
      have hk12 : k ≤ 12 := by omega
      go_enter Try.func12, Try.ntmps12
      go_wp2_with fail
      refine (HOO.out _ _ _ _ _ _ HX.out.edges hcap).mono ?_
      rintro e w1 ⟨_, _, h2, hB⟩
      obtain ⟨aG, hG, rfl⟩ := h2 HCX.out hk
      have e0 : ((m : Int)).toNat = m := rfl
      rw [e0] at hG
      rw [e0]
      have hGb := pol_top hG hm10 hk12
      obtain ⟨G, hGe⟩ : ∃ G, aG (2 ^ m - 1) (k : Int) = G := ⟨_, rfl⟩
      rw [hGe] at hGb ⊢
      have HGE := Lib.hid hGe
      have HPG := Lib.hid hG
      have HX1 := Lib.hid (HX.out.next hB)
      have k0' := HX1.out.c0
      have k1' := HX1.out.c1
      clear h2 hB k0 k1 e0 hG hGe
      go_wp2_with fail
      refine (HCK.out _ HX1.out.edges).mono ?_
      rintro e w2 ⟨rfl, hB⟩
      have HX2 := Lib.hid (HX1.out.next hB)
      have q0 := HX2.out.c0
      have q1 := HX2.out.c1
      clear hB k0' k1'
      have j1 : decide ((k : Int) < 0) = false := decide_eq_false (by omega)
      have j2 : decide ((12 : Int) < (k : Int)) = false := decide_eq_false (by omega)
      have j3 : decide (12 < k) = false := decide_eq_false (by omega)
      rcases Nat.eq_zero_or_pos len with hl0 | hl0
      · subst hl0
        have hes : es = [] := List.eq_nil_of_length_eq_zero HLE.out
        have hGk : G = ((k ^ m : Nat) : Int) := by
          have hp := Nat.two_pow_pos m
          have h := free_all HPG.out (fun s => by rw [hes]; rfl) k (2 ^ m - 1) (by omega)
          rw [HGE.out, pcW_full m m (Nat.le_refl _)] at h
          rw [h]; simp
        have HGK := Lib.hid hGk
        clear hes hGk
        go_wp2_with fail
        clear q0 q1
        go_loopw [9, 10] (fun x z wr => ∃ (i p : Nat), i ≤ m ∧ x = .int .i64 p ∧ z = .int .i64 i ∧ Hid (p = k ^ i) ∧ Hid (BoxG w m A 0 cap es wr)) (fun _ z _ => m - (intOf z).toNat)
        case atStart => exact ⟨0, 1, Nat.zero_le _, rfl, rfl, Lib.hid rfl, HX2⟩
        case round =>
          clear HX2
          obtain ⟨i, p, hi, rfl, rfl, HP, HXr⟩ := hrel
          have q0 := HXr.out.c0
          have q1 := HXr.out.c1
          by_cases him : i < m
          · have hb2 : p * k ≤ 61917364224 := by
              rw [HP.out, ← Nat.pow_succ]
              exact Nat.le_trans (Nat.pow_le_pow_left hk12 (i + 1)) (Nat.le_trans (Nat.pow_le_pow_right (by decide) (show i + 1 ≤ 10 by omega)) (by decide))
            have hmul : (p : Int) * (k : Int) = ((p * k : Nat) : Int) := by simp
            have HN : Hid (p * k = k ^ (i + 1)) := Lib.hid (by rw [HP.out, Nat.pow_succ])
            obtain ⟨r, hr⟩ : ∃ r, p * k = r := ⟨_, rfl⟩
            rw [hr] at hb2 hmul HN
            have hw : IntKind.i64.wrap (r : Int) = (r : Int) := IntWalk.i64_in _ (by omega)
            have hw2 : IntKind.i64.wrap ((p : Int) * (k : Int)) = (r : Int) := by rw [hmul, hw]
            have hw3 : wrap64 ((p : Int) * (k : Int)) = (r : Int) := by rw [hmul]; unfold wrap64; omega
            clear hr HP hmul
            go_wp2_with fail
            go_roundw
            case rel => exact ⟨i + 1, r, by omega, by first | rfl | go_num, by go_num, HN, HXr⟩
            case measure => simp [intOf]; omega
          · obtain rfl : i = m := by omega
            have hGp : G = (p : Int) := by rw [HGK.out, HP.out]
            have j5 : (G == (p : Int)) = true := by simpa using hGp
            clear HGK HP
            go_wp2_with fail
            go_ret
            exact ⟨rfl, HXr.out.below⟩
      · have j4 : ((len : Int) == 0) = false := by simp; omega
        obtain ⟨i, hil, hrem⟩ : ∃ i : Nat, i < len ∧ Int.tmod q (len : Int) = (i : Int) := by
          obtain ⟨q', rfl⟩ := Int.eq_ofNat_of_zero_le hq0
          exact ⟨q' % len, Nat.mod_lt _ hl0, rfl⟩
        have hie : i < es.length := by rw [HLE.out]; exact hil
        have hi := List.getElem?_eq_getElem hie
        generalize es[i] = e3 at hi
        obtain ⟨p0, p1, p2, p3, p4, _⟩ := edge_ok (HG.out i _ hi)
        obtain ⟨a0, a1, c⟩ := e3
        simp only at p0 p1 p2 p3 p4
        obtain ⟨x, rfl⟩ := Int.eq_ofNat_of_zero_le p0
        obtain ⟨y, rfl⟩ := Int.eq_ofNat_of_zero_le p2
        obtain ⟨m', hm1⟩ : ∃ m', m = m' + 1 := ⟨m - 1, by omega⟩
        have hg' : goodE ((m' + 1 : Nat) : Int) es := by rw [← hm1]; exact HG.out
        have HFV := Lib.hid (fun W hW => fewer_c m i A len cap es W hW hlen)
        have HMV := Lib.hid (fun W hW => by
          have h := merged_any m' i x y c A len cap es W hW hlen (by omega) hg' hi
          rw [← hm1] at h
          exact h)
        have HMP := Lib.hid (merge_p hg' hi)
        have HF0 : Hid (gcheck m (es.eraseIdx i) = 0) := Lib.hid (gcheck_good hm10 (by have := List.length_eraseIdx_le es i; have := HLE.out; omega) (good_lessE HG.out i))
        have HM0 : Hid (gcheck m' (mgE x y es) = 0) := Lib.hid (by
          have h1 := mg_good hg' (show x < m' + 1 by omega) (show y < m' + 1 by omega) (by omega) es.length (Nat.le_refl _)
          have h2 := mgE_len (a := x) (b := y) es es.length
          rw [List.take_length] at h1 h2
          have := HLE.out
          exact gcheck_good (by omega) (by omega) h1)
        have HM1 := Lib.hid hm1
        have hm'10 : m' ≤ 10 := by omega
        clear hi hie hg' p0 p1 p2 p3 p4 hm1 hil
        go_wp2_with fail
        refine (HFV.out _ HX2.out.edges).mono ?_
        rintro e w3 ⟨⟨A1, cap1, hc1, rfl, hE1, _⟩, hB⟩
        have HX3 := Lib.hid (HX2.out.next hB)
        have HE1 := Lib.hid hE1
        clear hB hE1 q0 q1
        have q0 := HX3.out.c0
        have q1 := HX3.out.c1
        go_wp2_with fail
        refine (HOO.out _ _ _ _ _ _ HE1.out hc1).mono ?_
        rintro e w4 ⟨_, _, h2, hB⟩
        obtain ⟨aF, hF, rfl⟩ := h2 HF0.out hk
        have e0 : ((m : Int)).toNat = m := rfl
        rw [e0] at hF
        rw [e0]
        obtain ⟨F, hFe⟩ : ∃ F, aF (2 ^ m - 1) (k : Int) = F := ⟨_, rfl⟩
        rw [hFe]
        have HFE := Lib.hid hFe
        have HPF := Lib.hid hF
        have HX4 := Lib.hid (HX3.out.next hB)
        clear h2 hB hF hFe q0 q1 HE1
        have q0 := HX4.out.c0
        have q1 := HX4.out.c1
        go_wp2_with fail
        refine (HMV.out _ HX4.out.edges).mono ?_
        rintro e w5 ⟨⟨A2, cap2, hc2, rfl, hE2, _⟩, hB⟩
        have HX5 := Lib.hid (HX4.out.next hB)
        have HE2 := Lib.hid hE2
        clear hB hE2 q0 q1
        go_wp2_with fail
        refine (HOO.out _ _ _ _ _ _ HE2.out hc2).mono ?_
        rintro e w6 ⟨_, _, h2, hB⟩
        obtain ⟨aM, hM, rfl⟩ := h2 HM0.out hk
        have e1 : ((m' : Int)).toNat = m' := rfl
        rw [e1] at hM
        rw [e1]
        have hMb := pol_top hM hm'10 hk12
        obtain ⟨M, hMe⟩ : ∃ M, aM (2 ^ m' - 1) (k : Int) = M := ⟨_, rfl⟩
        rw [hMe] at hMb ⊢
        have hFGM : F = G + M := by
          have hF' := HPF.out
          have hG' := HPG.out
          rw [HM1.out] at hF' hG'
          have h := whitney_all HMP.out hF' hG' hM (looseE_zero _) (looseE_zero _) k
          rw [← HM1.out, HFE.out, HGE.out, hMe] at h
          exact h
        have hw : IntKind.i64.wrap (G + M) = G + M := IntWalk.i64_in _ (by omega)
        have HX6 := Lib.hid (HX5.out.next hB)
        have j5 : (F == G + M) = true := by simpa using hFGM
        clear h2 hB hM hMe HE2
        go_wp2_with fail
        go_ret
        exact ⟨rfl, HX6.out.below⟩
  · have HH0 := Lib.hid h0
    have hx0 : (x != 0) = true := by simpa using h0
    have HCK := Lib.hid (fun W hW => good_v n A len cap es false W hW hcap (by rw [hx]; simpa using h0))
    clear hx h0
    go_enter Try.func12, Try.ntmps12
    go_wp2_with fail
    refine (HOO.out _ _ _ _ _ _ HX.out.edges hcap).mono ?_
    rintro e w1 ⟨h1, _, _, hB⟩
    obtain rfl := h1 (by rw [HCX.out]; exact HH0.out)
    rw [HCX.out]
    have HX1 := Lib.hid (HX.out.next hB)
    have k0' := HX1.out.c0
    have k1' := HX1.out.c1
    clear h1 hB HOO k0 k1
    go_wp2_with fail
    refine (HCK.out _ HX1.out.edges).mono ?_
    rintro e w2 ⟨rfl, hB⟩
    have HX2 := Lib.hid (HX1.out.next hB)
    clear hB k0' k1'
    go_wp2_with fail
    go_ret
    exact ⟨rfl, HX2.out.below⟩
end Go.Proofs.Ytpcealcghglopaa

namespace Go.Proofs.Ytpcealcghglopaa
open Go.RowKit

def mkU (n : Nat) (W : World) : World := W.alloc (.cells (madeCells #[.int .u32 0] n) 52)
def mkI (n : Nat) (W : World) : World := W.alloc (.cells (madeCells #[.int .i64 0] n) 3)
theorem mkU_size (n : Nat) (W : World) : (mkU n W).heap.size = W.heap.size + 1 := by unfold mkU; simp
theorem mkI_size (n : Nat) (W : World) : (mkI n W).heap.size = W.heap.size + 1 := by unfold mkI; simp
theorem mkU_below (n : Nat) (W : World) : Below W.heap.size W (mkU n W) := (Below.refl _ _).alloc (Nat.le_refl _) _
theorem mkI_below (n : Nat) (W : World) : Below W.heap.size W (mkI n W) := (Below.refl _ _).alloc (Nat.le_refl _) _
theorem mkU_row (n : Nat) (W : World) : RowOf (mkU n W) W.heap.size 52 (List.replicate n (.int .u32 0)) := RowOf.made W _ n _
theorem mkI_row (n : Nat) (W : World) : RowOf (mkI n W) W.heap.size 3 (List.replicate n (.int .i64 0)) := RowOf.made W _ n _
/-- A box that was laid last. -/
theorem box_new (W : World) (v : Value) (t : TypeId) : RowOf (W.alloc (.cells #[v] t)) W.heap.size t [v] := (MapKept.heap_alloc W _).1
theorem box_next (W : World) (o : Obj) (v : Value) (t : TypeId) : RowOf ((W.alloc o).alloc (.cells #[v] t)) (W.heap.size + 1) t [v] := by
  have h := box_new (W.alloc o) v t
  rw [World.size_alloc] at h
  exact h
set_option maxRecDepth 100000 in
theorem mkU_run (n : Nat) (hn : n ≤ 32) (W : World) : (Instr.makeSlice 55 (.int .i64 (n : Int)) (.int .i64 (n : Int))).run Try.prog W = .ok (.slice (some ⟨W.heap.size, 0, none⟩) n n) (mkU n W) :=
  run_make_row' (P := Try.prog) 55 52 (.int .u32 0) 4 Try.underlying55 (by kernel_rfl) rfl .i64 .i64 n (by omega) (by omega) W
set_option maxRecDepth 100000 in
theorem mkI_run (n : Nat) (hn : n ≤ 32) (W : World) : (Instr.makeSlice 25 (.int .i64 (n : Int)) (.int .i64 (n : Int))).run Try.prog W = .ok (.slice (some ⟨W.heap.size, 0, none⟩) n n) (mkI n W) :=
  run_make_row' (P := Try.prog) 25 3 (.int .i64 0) 8 Try.underlying25 (by kernel_rfl) rfl .i64 .i64 n (by omega) (by omega) W
end Go.Proofs.Ytpcealcghglopaa

namespace Go.Proofs.Ytpcealcghglopaa
open Go.RowKit

set_option maxRecDepth 100000 in
set_option maxHeartbeats 2000000 in
theorem count_any (n cA : Nat) (Aa : Option Addr) (ar : List Nat) (k : Int) (w : World) (hn : n ≤ 10) (hk0 : -1 ≤ k) (hk1 : k ≤ 12) (hW : WordsAt w w.heap.size Aa n ar) (hWl : ∀ i, ar.getD i 0 < 1024) :
    Calls Try.prog 44 #[.slice Aa n cA, .int .i64 k] w fun e w' => e = .returned (.int .i64 (waysN (fun i => ar.getD i 0) k n 0 [])) ∧ Below w.heap.size w w' := by
  have HW := Lib.hid (And.intro hW hWl)
  clear hW hWl
  obtain ⟨W3, hW3⟩ : ∃ W3, mkU n ((w.alloc (.cells #[.slice Aa n cA] 55)).alloc (.cells #[.int .i64 k] 2)) = W3 := ⟨_, rfl⟩
  have hmk := mkU_run n (by omega) ((w.alloc (.cells #[.slice Aa n cA] 55)).alloc (.cells #[.int .i64 k] 2))
  rw [hW3, show ((w.alloc (.cells #[.slice Aa n cA] 55)).alloc (.cells #[.int .i64 k] 2)).heap.size = w.heap.size + 1 + 1 by simp] at hmk
  have HW3 := Lib.hid hW3
  have hR3 := box_next W3 (.cells #[.slice (some ⟨w.heap.size + 1 + 1, 0, none⟩) n n] 55) .nilFunc 78
  have hc3 := hR3.cell (i := 0) rfl
  have hf3 := hR3.frozen 0
  clear hR3
  clear hW3
  go_enter Try.func44, Try.ntmps44
  go_wp2_with fail
  obtain ⟨V, hV⟩ : ∃ V : Value, V = .func (.func 50) #[] #[.pointer (some ⟨w.heap.size, 0, none⟩), .pointer (some ⟨W3.heap.size, 0, none⟩), .pointer (some ⟨W3.heap.size + 1, 0, none⟩), .pointer (some ⟨w.heap.size + 1, 0, none⟩)] := ⟨_, rfl⟩
  rw [← hV]
  have hs2 : ((w.alloc (.cells #[.slice Aa n cA] 55)).alloc (.cells #[.int .i64 k] 2)).heap.size = w.heap.size + 1 + 1 := by simp
  have hs3 : W3.heap.size = w.heap.size + 1 + 1 + 1 := by rw [← HW3.out, mkU_size, hs2]
  have hb2 : Below w.heap.size w ((w.alloc (.cells #[.slice Aa n cA] 55)).alloc (.cells #[.int .i64 k] 2)) := ((Below.refl _ _).alloc (Nat.le_refl _) _).alloc (by simp) _
  have hb3 : Below (w.heap.size + 1 + 1) ((w.alloc (.cells #[.slice Aa n cA] 55)).alloc (.cells #[.int .i64 k] 2)) W3 := by
    have h := mkU_below n ((w.alloc (.cells #[.slice Aa n cA] 55)).alloc (.cells #[.int .i64 k] 2))
    rw [HW3.out, hs2] at h
    exact h
  have rA : RowOf W3 w.heap.size 55 [.slice Aa n cA] := RowOf.below (RowOf.alloc (box_new w _ _) _) hb3 (by omega)
  have rK : RowOf W3 (w.heap.size + 1) 2 [.int .i64 k] := RowOf.below (box_next w _ _ _) hb3 (by omega)
  have rS : RowOf W3 (w.heap.size + 1 + 1) 52 (List.replicate n (.int .u32 0)) := by
    have h := mkU_row n ((w.alloc (.cells #[.slice Aa n cA] 55)).alloc (.cells #[.int .i64 k] 2))
    rw [HW3.out, hs2] at h
    exact h
  obtain ⟨W5, hW5⟩ : ∃ W5, (W3.alloc (.cells #[.slice (some ⟨w.heap.size + 1 + 1, 0, none⟩) n n] 55)).alloc (.cells #[V] 78) = W5 := ⟨_, rfl⟩
  have hb5 : Below W3.heap.size W3 W5 := by rw [← hW5]; exact ((Below.refl _ _).alloc (Nat.le_refl _) _).alloc (by simp) _
  have rB : RowOf W5 W3.heap.size 55 [.slice (some ⟨w.heap.size + 1 + 1, 0, none⟩) n n] := by rw [← hW5]; exact RowOf.alloc (box_new W3 _ _) _
  have rF : RowOf W5 (W3.heap.size + 1) 78 [V] := by rw [← hW5]; exact box_next W3 _ _ _
  have hb05 : Below w.heap.size w W5 := (hb2.trans (hb3.mono (by omega))).trans (hb5.mono (by omega))
  have rS5 := rS.keep hb5
  rw [hW5]
  have HT : Hid (TallyW W5 (w.heap.size + 1 + 1) n [] W5) := Lib.hid ⟨Below.refl _ _, fun _ _ _ => rfl, List.replicate n 0, by simp, by rw [List.nil_append, List.map_replicate]; exact rS5⟩
  have HC := Lib.hid (tally_any W5 n (w.heap.size + 1 + 1) w.heap.size W3.heap.size (W3.heap.size + 1) (w.heap.size + 1) w.heap.size cA Aa ar k hn hk0 hk1 (HW.out.1.below hb05) HW.out.2 (by omega) (by have := rS5.lt; exact this) ((rA.keep hb5).cell (i := 0) rfl) (rB.cell (i := 0) rfl) (by rw [← hV]; exact rF.cell (i := 0) rfl) ((rK.keep hb5).cell (i := 0) rfl) ⟨by omega, by omega, by omega, by omega⟩ n 0 [] W5 (by omega) (Nat.le_refl _) (fun s hs => by simp at hs) HT.out)
  have HB := Lib.hid (And.intro hb05 (And.intro hs3 hb5.size))
  clear hV hs2 hs3 hb2 hb3 rA rK rS hW5 hb5 rB rF hb05 rS5 hc3 hf3 HW HW3 hmk
  refine HC.out.mono ?_
  rintro e W6 ⟨rfl, hT⟩
  have HT6 := Lib.hid hT
  clear hT
  go_wp2_with fail
  go_ret
  exact ⟨rfl, HB.out.1.trans ⟨HT6.out.low.os, HT6.out.low.tape, HT6.out.low.output, HT6.out.low.size, fun b hb => HT6.out.blk b (by have := HB.out.1.size; omega) (by omega)⟩⟩
end Go.Proofs.Ytpcealcghglopaa

namespace Go.Proofs.Ytpcealcghglopaa
open Go.RowKit

theorem ways_graph {m : Nat} {es : List E3} (hg : goodE m es) (k : Int) {a : Nat → Int → Int} (ha : PolA m (looseE es) a) : waysN (fun i => (nbL m es).getD i 0) k m 0 [] = a (2 ^ m - 1) k :=
  ways_all ha loose_down (fun b _ => one_loose hg b) (fun _ _ hb _ hs => put_loose hg (nb := fun i => (nbL m es).getD i 0) (fun i => nb_bit hg hb i) hs) k
set_option maxRecDepth 100000 in
set_option maxHeartbeats 2000000 in
theorem countTop_any (n k : Int) (A : Option Addr) (len cap : Nat) (es : List E3) (w : World) (hE : EdgesAt w w.heap.size A len es) :
    Calls Try.prog 22 #[.agg #[.int .i64 n, .slice A len cap], .int .i64 k] w (CountTop w n es k) := by
  have HX := Lib.hid (BoxG.start (n := n) (cap := cap) hE)
  have k0 := HX.out.c0
  have k1 := HX.out.c1
  obtain ⟨x, hx⟩ : ∃ x, gcheck n es = x := ⟨_, rfl⟩
  by_cases h0 : x = 0
  · subst h0
    obtain ⟨hn0, hn1, hl, hg⟩ := good_of_gcheck hx
    obtain ⟨m, rfl⟩ := Int.eq_ofNat_of_zero_le hn0
    have hm10 : m ≤ 10 := by omega
    have HNB := Lib.hid (fun W hW => neighbours_any m A len cap es W hW hx)
    have HXX := Lib.hid hx
    clear hE hx hn0 hn1 hl
    go_enter Try.func22, Try.ntmps22
    go_wp2_with fail
    refine (HNB.out _ HX.out.edges).mono ?_
    rintro e w1 ⟨g, rfl, hrow, hg0, hB⟩
    have HX1 := Lib.hid (HX.out.next hB)
    have HR := Lib.hid hrow
    clear hB k0 k1 HNB hrow
    by_cases hk : k < 0 ∨ 12 < k
    · have hk' : k < 0 ∨ (0 ≤ k ∧ 12 < k) := by omega
      have HK := Lib.hid hk
      clear hk
      rcases hk' with h1 | ⟨h1, h2⟩
      all_goals
        go_wp2_with fail
        go_ret2
        exact ⟨fun h => absurd HXX.out h, fun _ _ => rfl, fun _ h => absurd HK.out h, HX1.out.below⟩
    · have HK := Lib.hid hk
      have h1 : 0 ≤ k := by omega
      have h2 : k ≤ 12 := by omega
      obtain ⟨T, hT⟩ := tab_ex m (looseE es)
      obtain ⟨y, hy⟩ : ∃ y, waysN (fun i => (nbL m es).getD i 0) k m 0 [] = y := ⟨_, rfl⟩
      have HY : Hid (y = polT m T (2 ^ m - 1) k) := Lib.hid (by rw [← hy]; exact ways_graph hg k (polT_ok hT))
      have HT := Lib.hid hT
      have HCN := Lib.hid (count_any m m (some ⟨g, 0, none⟩) (nbL m es) k w1 hm10 (by omega) h2 (by
        have h := WordsAt.of_row (B := w1.heap.size) HR.out HR.out.lt
        rw [nbL_length] at h
        exact h) (fun i => pow10 hm10 (nbL_words hg i)))
      rw [hy] at HCN
      clear hk hT hy
      go_wp2_with fail
      refine HCN.out.mono ?_
      rintro e w2 ⟨rfl, hB⟩
      have HX2 := Lib.hid (HX1.out.next hB)
      clear hB HCN
      go_wp2_with fail
      go_ret2
      exact ⟨fun h => absurd HXX.out h, fun _ h => absurd h HK.out, fun _ _ => ⟨_, polT_ok HT.out, by rw [show ((m : Int)).toNat = m from rfl, ← HY.out]; rfl⟩, HX2.out.below⟩
  · have hx1 : (x != 0) = true := by simpa using h0
    have HNB := Lib.hid (fun W hW => neighbours_bad n A len cap es x W hW hx h0)
    have HXX := Lib.hid (show gcheck n es ≠ 0 by rw [hx]; exact h0)
    have HXE := Lib.hid hx
    clear hE hx h0
    go_enter Try.func22, Try.ntmps22
    go_wp2_with fail
    refine (HNB.out _ HX.out.edges).mono ?_
    rintro e w1 ⟨rfl, hB⟩
    have HX1 := Lib.hid (HX.out.next hB)
    clear hB k0 k1 HNB
    go_wp2_with fail
    go_ret2
    exact ⟨fun _ => by rw [HXE.out]; rfl, fun h => absurd h HXX.out, fun h => absurd h HXX.out, HX1.out.below⟩
theorem sg_all (n : Nat) : ∀ j, j ≤ n → sgW (2 ^ n - 1) j = if j % 2 = 1 then -1 else 1
  | 0, _ => rfl
  | j + 1, h => by
    have ih := sg_all n j (by omega)
    simp only [sgW]
    rw [ih, Nat.testBit_two_pow_sub_one, if_pos (show decide (j < n) = true from decide_eq_true (by omega))]
    rcases Nat.mod_two_eq_zero_or_one j with h1 | h1
    · rw [if_neg (by omega), if_pos (by omega)]; rfl
    · rw [if_pos h1, if_neg (by omega)]; rfl
theorem turns_eq {m : Nat} {es : List E3} (hg : goodE m es) : turnsN m es = if m % 2 = 1 then -(waysN (fun i => (nbL m es).getD i 0) (-1) m 0 []) else waysN (fun i => (nbL m es).getD i 0) (-1) m 0 [] := by
  obtain ⟨T, hT⟩ := tab_ex m (looseE es)
  have hpos := Nat.two_pow_pos m
  have h := stanley (fun s => loose_edg (es := es) s) (polT_ok hT) (2 ^ m) (2 ^ m - 1) (by omega) (by omega)
  rw [← ways_graph hg (-1) (polT_ok hT), sg_all m m (Nat.le_refl _)] at h
  unfold turnsN
  rw [h]
  split
  · rw [Int.neg_mul, Int.one_mul]
  · rw [Int.one_mul]
set_option maxRecDepth 100000 in
set_option maxHeartbeats 2000000 in
theorem turnedTop_any (n : Int) (A : Option Addr) (len cap : Nat) (es : List E3) (w : World) (hE : EdgesAt w w.heap.size A len es) :
    Calls Try.prog 24 #[.agg #[.int .i64 n, .slice A len cap]] w (TurnedTop w n es) := by
  have HX := Lib.hid (BoxG.start (n := n) (cap := cap) hE)
  have k0 := HX.out.c0
  have k1 := HX.out.c1
  obtain ⟨x, hx⟩ : ∃ x, gcheck n es = x := ⟨_, rfl⟩
  by_cases h0 : x = 0
  · subst h0
    obtain ⟨hn0, hn1, hl, hg⟩ := good_of_gcheck hx
    obtain ⟨m, rfl⟩ := Int.eq_ofNat_of_zero_le hn0
    have hm10 : m ≤ 10 := by omega
    have HNB := Lib.hid (fun W hW => neighbours_any m A len cap es W hW hx)
    have HXX := Lib.hid hx
    clear hE hx hn0 hn1 hl
    go_enter Try.func24, Try.ntmps24
    go_wp2_with fail
    refine (HNB.out _ HX.out.edges).mono ?_
    rintro e w1 ⟨g, rfl, hrow, hg0, hB⟩
    have HX1 := Lib.hid (HX.out.next hB)
    have HR := Lib.hid hrow
    clear hB k0 k1 HNB hrow
    obtain ⟨y, hy⟩ : ∃ y, waysN (fun i => (nbL m es).getD i 0) (-1) m 0 [] = y := ⟨_, rfl⟩
    have hyb : -26559922791424 ≤ y ∧ y ≤ 26559922791424 := by
      have h := ways_abs (k := -1) (by decide) (by decide) (fun i => (nbL m es).getD i 0) m 0 [] (Nat.le_refl _) (by omega)
      have h2 := pow22 hm10
      rw [hy] at h
      omega
    have HT : Hid (turnsN m es = if m % 2 = 1 then -y else y) := Lib.hid (by rw [← hy]; exact turns_eq hg)
    have HCN := Lib.hid (count_any m m (some ⟨g, 0, none⟩) (nbL m es) (-1) w1 hm10 (by decide) (by decide) (by
      have h := WordsAt.of_row (B := w1.heap.size) HR.out HR.out.lt
      rw [nbL_length] at h
      exact h) (fun i => pow10 hm10 (nbL_words hg i)))
    rw [hy] at HCN
    clear hy
    go_wp2_with fail
    refine HCN.out.mono ?_
    rintro e w2 ⟨rfl, hB⟩
    have HX2 := Lib.hid (HX1.out.next hB)
    have q0 := HX2.out.c0
    have q1 := HX2.out.c1
    clear hB HCN
    by_cases hp : m % 2 = 1
    · have HTE : Hid (turnsN m es = -y) := Lib.hid (by rw [HT.out, if_pos hp])
      have hm1 : ((m : Int) % 2 == 1) = true := by simp; omega
      have hw : IntKind.i64.wrap (-y) = -y := IntWalk.i64_in _ (by omega)
      clear hp
      go_wp2_with fail
      go_ret2
      exact ⟨fun h => absurd HXX.out h, fun _ => by rw [show ((m : Int)).toNat = m from rfl, HTE.out]; rfl, HX2.out.below⟩
    · have HTE : Hid (turnsN m es = y) := Lib.hid (by rw [HT.out, if_neg hp])
      have hm1 : ((m : Int) % 2 == 1) = false := by simp; omega
      clear hp
      go_wp2_with fail
      go_ret2
      exact ⟨fun h => absurd HXX.out h, fun _ => by rw [show ((m : Int)).toNat = m from rfl, HTE.out]; rfl, HX2.out.below⟩
  · have hx1 : (x != 0) = true := by simpa using h0
    have HNB := Lib.hid (fun W hW => neighbours_bad n A len cap es x W hW hx h0)
    have HXX := Lib.hid (show gcheck n es ≠ 0 by rw [hx]; exact h0)
    have HXE := Lib.hid hx
    clear hE hx h0
    go_enter Try.func24, Try.ntmps24
    go_wp2_with fail
    refine (HNB.out _ HX.out.edges).mono ?_
    rintro e w1 ⟨rfl, hB⟩
    have HX1 := Lib.hid (HX.out.next hB)
    clear hB k0 k1 HNB
    go_wp2_with fail
    go_ret2
    exact ⟨fun _ => by rw [HXE.out]; rfl, fun h => absurd h HXX.out, HX1.out.below⟩
end Go.Proofs.Ytpcealcghglopaa

namespace Go.Proofs.Ytpcealcghglopaa
open Go.ChangeShapes Go.WideShapes Go.ChangeAt Go.RowKit Go.Joins Go.Deep

set_option maxRecDepth 100000 in
theorem ownK : ownKnob Try.prog.godebug = none := by kernel_rfl
set_option maxRecDepth 100000 in
theorem laidOutO : laidOutB Try.prog = true := by kernel_rfl
set_option maxRecDepth 100000 in
theorem cellsInt : Try.prog.cellsOf 3 = 1 := by kernel_rfl
end Go.Proofs.Ytpcealcghglopaa

namespace Go.Proofs.Ytpcealcghglopaa
open Go.ChangeShapes Go.WideShapes Go.ChangeAt Go.RowKit Go.Joins Go.Deep

set_option maxRecDepth 100000 in
theorem recGraph : Try.prog.readableRec 24 = true := by kernel_rfl
set_option maxRecDepth 100000 in
theorem rowGraph : (24 : TypeId) < Try.prog.types.size := of_decide_eq_true (by kernel_rfl)
set_option maxRecDepth 100000 in
theorem cellsGraph : Try.prog.cellsOf 24 = 2 := by kernel_rfl
set_option maxRecDepth 100000 in
theorem cellsEdge : Try.prog.cellsOf 61 = 3 := by kernel_rfl
set_option maxRecDepth 100000 in
theorem cellsInt64 : Try.prog.cellsOf 2 = 1 := by kernel_rfl

/-- Every number of an edge is an int64. -/
def WfE (e : E3) : Prop := (Lit.int .i64 e.1).wf = true ∧ (Lit.int .i64 e.2.1).wf = true ∧ (Lit.int .i64 e.2.2).wf = true

section
variable {H : Type} {enc : TypeId × Value → H} {W : World} {base : Nat} {spare : Nat → Bool} {held : Bool}

set_option maxRecDepth 100000 in
theorem edge_of {n : Nat} {cs : List Value} {x : DataW H × List MemPlace} (h : DataW.trod enc Try.prog W base spare held n 61 cs = some x) :
    ∃ e : E3, cs = [.int .i64 e.1, .int .i64 e.2.1, .int .i64 e.2.2] ∧ WfE e := by
  obtain ⟨y0, y1, y2, m, _, hlen, h0, h1, h2⟩ := trod_struct3 Try.underlying61 h
  rw [cellsEdge] at hlen
  match cs, hlen with
  | [c0, c1, c2], _ =>
    simp only [cellsInt, cellsInt64, List.drop_zero, List.take_succ_cons, List.take_zero, List.drop_succ_cons] at h0 h1 h2
    obtain ⟨a, e0, _, wa⟩ := DataW.trod_int Try.underlying3 h0
    obtain ⟨b, e1, _, wb⟩ := DataW.trod_int Try.underlying3 h1
    obtain ⟨c, e2, _, wc⟩ := DataW.trod_int Try.underlying2 h2
    simp only [List.cons.injEq, and_true] at e0 e1 e2
    subst e0 e1 e2
    exact ⟨(a, b, c), rfl, wa, wb, wc⟩

set_option maxRecDepth 100000 in
theorem edges_of {n : Nat} {v : Value} {x : DataW H × List MemPlace} (h : DataW.trod enc Try.prog W base spare held n 22 [v] = some x) :
    ∃ (A : Option Addr) (len cap : Nat) (es : List E3), v = .slice A len cap ∧ EdgesAt W W.heap.size A len es ∧ len ≤ cap ∧ ∀ e ∈ es, WfE e := by
  rcases open_slice Try.underlying22 h with ⟨h0, _⟩ | ⟨a, len, cap, m, k, D, Pl, hcs, _, hl, _, hmm, _, hi⟩
  · simp only [List.cons.injEq, and_true] at h0
    subst h0
    exact ⟨none, 0, 0, [], rfl, ⟨rfl, fun h => absurd h (by omega)⟩, Nat.le_refl _, by simp⟩
  · simp only [List.cons.injEq, and_true] at hcs
    subst hcs
    have hlm : len ≤ m := by rw [hmm]; split <;> omega
    have hall : ∀ i, ∃ e : E3, i < len → (∀ j, j < 3 → W.cell? (a.add (i * 3 + j)) = [Value.int .i64 e.1, .int .i64 e.2.1, .int .i64 e.2.2][j]?) ∧ WfE e := fun i => by
      by_cases hlt : i < len
      · obtain ⟨cs', hc, ht⟩ := hi i (by omega)
        obtain ⟨e, rfl, he⟩ := edge_of ht
        rw [cellsEdge] at hc
        obtain ⟨_, _, hat⟩ := World.cells?_some hc
        exact ⟨e, fun _ => ⟨fun j hj => by rw [← Go.Deep.add_add]; exact hat j hj, he⟩⟩
      · exact ⟨default, fun h => absurd h hlt⟩
    obtain ⟨f, hf⟩ := Classical.axiomOfChoice hall
    refine ⟨some a, len, cap, (List.range len).map f, rfl, ⟨by simp, fun hn => ?_⟩, hl, fun e he => ?_⟩
    · have hz := (hf 0 hn).1 0 (by omega)
      simp only [Nat.zero_mul, Nat.add_zero, List.getElem?_cons_zero] at hz
      obtain ⟨b, off, spot⟩ := a
      have hspot : spot = none := by simpa [Addr.add] using World.cell?_spot hz
      subst hspot
      have hb : b < W.heap.size := by
        rcases Nat.lt_or_ge b W.heap.size with h | h
        · exact h
        · simp [World.cell?, Addr.add, Array.getElem?_eq_none h] at hz
      refine ⟨b, off, rfl, hb, fun i e hie => ?_⟩
      obtain ⟨hil, hie⟩ := List.getElem?_eq_some_iff.1 hie
      simp only [List.length_map, List.length_range] at hil
      simp only [List.getElem_map, List.getElem_range] at hie
      subst hie
      have hc := (hf i hil).1
      refine ⟨?_, ?_, ?_⟩
      · have := hc 0 (by omega); rw [Go.WideShapes.add_plain] at this; simpa using this
      · have := hc 1 (by omega); rw [Go.WideShapes.add_plain] at this; simpa [Nat.add_assoc] using this
      · have := hc 2 (by omega); rw [Go.WideShapes.add_plain] at this; simpa [Nat.add_assoc] using this
    · simp only [List.mem_map, List.mem_range] at he
      obtain ⟨i, hi', rfl⟩ := he
      exact (hf i hi').2

set_option maxRecDepth 100000 in
theorem open_graph {r : Reach} {b0 : Nat} {v : Value} {d : DataW H} {p : List MemPlace} (hv : Value.okWide Try.prog W r b0 24 v) (h : DataW.Trod enc Try.prog W base spare held 24 v d p) :
    ∃ (n : Int) (A : Option Addr) (len cap : Nat) (es : List E3), v = .agg #[.int .i64 n, .slice A len cap] ∧ EdgesAt W W.heap.size A len es ∧ len ≤ cap ∧ (∀ e ∈ es, WfE e) ∧ (Lit.int .i64 n).wf = true := by
  obtain ⟨c0, c1, y0, y1, m, rfl, _, _, hy0, hy1⟩ := open_agg2 Try.underlying24 (by kernel_rfl) cellsGraph hv h
  obtain ⟨n, e0, _, wn⟩ := DataW.trod_int Try.underlying3 hy0
  simp only [List.cons.injEq, and_true] at e0
  subst e0
  obtain ⟨A, len, cap, es, rfl, hE, hl, hw⟩ := edges_of hy1
  exact ⟨n, A, len, cap, es, rfl, hE, hl, hw, wn⟩
end
end Go.Proofs.Ytpcealcghglopaa

namespace Go.Proofs.Ytpcealcghglopaa
open Go.ChangeShapes Go.WideShapes Go.ChangeAt Go.RowKit

theorem u8_rng {q : Int} (h : (Lit.int .u8 q).wf = true) : 0 ≤ q ∧ q ≤ 255 := by
  simp [Lit.wf] at h
  have e1 : IntKind.u8.min = 0 := by decide
  have e2 : IntKind.u8.max = 255 := by decide
  omega
set_option maxRecDepth 100000 in
theorem colourWhitney_any (n : Int) (A : Option Addr) (len cap : Nat) (es : List E3) (q : Int) (k : Int) (w : World) (hE : EdgesAt w w.heap.size A len es) (hcap : len ≤ cap) (_ : ∀ e ∈ es, WfE e) (_ : (Lit.int .i64 n).wf = true) (hq : (Lit.int .u8 q).wf = true) (_ : (Lit.int .i64 k).wf = true) :
    Calls Try.prog 12 #[.agg #[.int .i64 n, .slice A len cap], .int .u8 q, .int .i64 k] w fun e w' => e = .returned (.bool true) ∧ Below w.heap.size w w' :=
  colourWhitney_of n A len cap es q k w hE hcap (u8_rng hq).1 (u8_rng hq).2 (fun n A len cap es W h _ => countTop_any n k A len cap es W h)
set_option maxRecDepth 100000 in
theorem colourWhitney_lifted (os : Os) (started : os.Started) (H : Type) (enc : TypeId × Value → H) :
    ReturnsInHanded {} Try.checked os 12 .any (Rows.colourWhitneySpec.pre6 enc Try.prog Try.f12 Rows.colourWhitneyRow.domain false) (Rows.colourWhitneySpec.post enc Try.prog Try.f12 false true false false) := by
  refine returnsInHanded_of_change (C := Try.checked) ownK started (by kernel_rfl) Try.func12
    (ChangeSpec.witness6 (enc := enc) (C := Try.checked) false ⟨#[], #[.agg #[.int .i64 0, .slice none 0 0], .int .u8 0, .int .i64 0], []⟩ 8 (by kernel_rfl) (by kernel_rfl) (by kernel_rfl) (by kernel_rfl)) ?_
  intro W base args ds gs before hval0 hW _ _
  have hval : ∀ (j : Nat) t v, Try.f12.params[j]? = some t → args[j]? = some v → Value.okWide Try.prog W .any base t v := hval0
  have hW' := hW
  obtain ⟨p, q, hA0, hV, rfl, _, _⟩ := hW
  have hA : DataW.TrodAll enc Try.prog W 0 (fun _ => true) true Try.f12.params.toList args.toList ds p := hA0
  rw [Try.params12] at hA hval
  obtain ⟨v0, v1, v2, d0, d1, d2, p0, p1, p2, rfl, rfl, rfl, h0, h1, h2⟩ := trodAll_three hA
  obtain ⟨rfl, rfl⟩ := trodVars_none hV
  obtain ⟨n0, A0, len0, cap0, es0, rfl, hE0, hcap0, hwf0, hwn0⟩ := open_graph (hval 0 24 v0 rfl rfl) h0
  obtain ⟨x1, rfl, rfl, rfl, wx1⟩ := open_int Try.underlying5 (hval 1 5 v1 rfl rfl) h1
  obtain ⟨x2, rfl, rfl, rfl, wx2⟩ := open_int Try.underlying3 (hval 2 3 v2 rfl rfl) h2
  clear hA0 hval0
  simp only [List.append_nil] at hW'
  refine (colourWhitney_any n0 A0 len0 cap0 es0 x1 x2 W hE0 hcap0 hwf0 hwn0 wx1 wx2).mono fun e W' ⟨he, hb⟩ => ?_
  subst he
  exact ⟨_, rfl, _, _, _, [], (p0), [], hW', trodAll_mk1 (shut_bool Try.underlying4 _), (by have h := trodAll_mk3 (Below.trod laidOutO recGraph rowGraph h0 hb (fun x hx => hW'.lt x hx)) (shut_int Try.underlying5 wx1) (shut_int Try.underlying3 wx2); first | exact h | (simp only [List.append_nil] at h; exact h)), rfl, hb.frame _, fun h => by cases h⟩

theorem colourWhitney_holds : Rows.ColourWhitneySaid :=
  OpenClaim.holds_of_wide 12 Try.f12 rfl rfl rfl rfl rfl rfl rfl ⟨rfl, rfl, rfl, rfl, rfl⟩ rfl rfl rfl rfl rfl (by kernel_rfl) Try.func12 (by kernel_rfl)
    (of_decide_eq_true (by kernel_rfl)) (by unfold Func.isWrapper; first | (rw [if_pos (by decide +kernel)]; kernel_rfl) | (rw [if_neg (by decide +kernel)]; exact ⟨rfl, rfl⟩))
    (fun os started H enc _ => colourWhitney_lifted os started H enc)
#print axioms colourWhitney_holds
end Go.Proofs.Ytpcealcghglopaa
