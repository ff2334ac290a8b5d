/- The statement ColourWelshSaid, out of the law's walk. No conditions. -/
import Derived.Test.YtpcealcghglopaaRows2
import Derived.Test.YtpcealcghglopaaColourTop
import Derived.Test.YtpcealcghglopaaRefGreedy
import Derived.Test.YtpcealcghglopaaBoxB
import Derived.Test.YtpcealcghglopaaInsideV
import Derived.Test.YtpcealcghglopaaRefDist
import Derived.Test.YtpcealcghglopaaHas
import Derived.Test.YtpcealcghglopaaAdj
import Derived.Test.YtpcealcghglopaaCheckGo
import Derived.Test.YtpcealcghglopaaKonigP
import Derived.Test.YtpcealcghglopaaFlowP
import Derived.Test.YtpcealcghglopaaGood
import Derived.Test.YtpcealcghglopaaPlain
import Derived.Test.YtpcealcghglopaaGreedL
import Derived.Test.YtpcealcghglopaaMem
import Derived.Test.YtpcealcghglopaaGreedyTop
import Derived.Deep.QuietTactic
import Derived.BigQuiet
import Derived.Deep.RegionHeld3
import Derived.Test.YtpcealcghglopaaRows
import Derived.ProofKit
import Derived.Deep.Slices
import Derived.Deep.Strs
import Derived.Lib.SmallJoins
namespace Go.Proofs.Ytpcealcghglopaa
open Go.RowKit


set_option maxRecDepth 100000 in
set_option maxHeartbeats 400000 in
theorem ints_same (A1 A2 : Option Addr) (n c1 c2 : Nat) (xs : List Int) (w : World) (h1 : IntsAt w w.heap.size A1 n xs) (h2 : IntsAt w w.heap.size A2 n xs) (hn : n ≤ 4000000000) :
    Calls Try.prog 18 #[.slice A1 n c1, .slice A2 n c2] w fun e w' => e = .returned (.bool true) ∧ ∃ k, w' = w.drewN k := by
  have H1 := Lib.hid h1
  have H2 := Lib.hid h2
  clear h1 h2
  go_enter Try.func18, Try.ntmps18
  go_wp2
  go_loopw [5] (fun j wr => ∃ k q : Nat, k ≤ n ∧ j = .int .i64 k ∧ wr = w.drewN q) (fun j _ => n - (intOf j).toNat)
  case atStart => exact ⟨0, 0, Nat.zero_le _, rfl, rfl⟩
  case round =>
    obtain ⟨k, q, hk, rfl, rfl⟩ := hrel
    by_cases hlt : k < n
    · obtain ⟨b, off, x, rfl, _, hx, hc⟩ := H1.out.at_ hlt
      obtain ⟨b', off', x', rfl, _, hx', hc'⟩ := H2.out.at_ hlt
      obtain rfl : x = x' := by rw [hx] at hx'; injection hx'
      have hki : (k : Int) < (n : Int) := by omega
      have hk0 : (0 : Int) ≤ (k : Int) := by omega
      clear hx hx'
      go_wp2
      go_quiet (fail)
      go_wp2
      go_roundw
      case rel => exact ⟨k + 1, _, by omega, by go_num, rfl⟩
      case measure => simp [intOf]; omega
    · go_wp2
      go_ret
      exact ⟨rfl, q, rfl⟩
end Go.Proofs.Ytpcealcghglopaa

namespace Go.Proofs.Ytpcealcghglopaa
open Go.RowKit

set_option maxRecDepth 100000 in
set_option maxHeartbeats 1000000 in
theorem ints_v (A1 A2 : Option Addr) (n1 n2 c1 c2 : Nat) (xs ys : List Int) (v : Bool) (w : World) (h1 : IntsAt w w.heap.size A1 n1 xs) (h2 : IntsAt w w.heap.size A2 n2 ys) (hn : n1 ≤ 4000000000) (hn2 : n2 ≤ 4000000000) (hv : v = true ↔ xs = ys) :
    Calls Try.prog 18 #[.slice A1 n1 c1, .slice A2 n2 c2] w fun e w' => e = .returned (.bool v) ∧ ∃ k, w' = w.drewN k := by
  have H1 := Lib.hid h1
  have H2 := Lib.hid h2
  have HV := Lib.hid hv
  clear h1 h2 hv
  by_cases hl : n1 = n2
  · subst hl
    go_enter Try.func18, Try.ntmps18
    go_wp2
    go_loopw [5] (fun j wr => ∃ k q : Nat, k ≤ n1 ∧ j = .int .i64 k ∧ Hid (∀ i, i < k → xs[i]? = ys[i]?) ∧ wr = w.drewN q) (fun j _ => n1 - (intOf j).toNat)
    case atStart => exact ⟨0, 0, Nat.zero_le _, rfl, Lib.hid (fun i hi => by omega), rfl⟩
    case round =>
      obtain ⟨k, q, hk, rfl, HS, rfl⟩ := hrel
      by_cases hlt : k < n1
      · obtain ⟨b, off, x, rfl, _, hx, hc⟩ := H1.out.at_ hlt
        obtain ⟨b', off', y, rfl, _, hy, hc'⟩ := H2.out.at_ hlt
        have hki : (k : Int) < (n1 : Int) := by omega
        have hk0 : (0 : Int) ≤ (k : Int) := by omega
        by_cases hxy : x = y
        · subst hxy
          have HS2 : Hid (∀ i, i < k + 1 → xs[i]? = ys[i]?) := Lib.hid fun i hi => by
            rcases Nat.lt_or_ge i k with h | h
            · exact HS.out i h
            · obtain rfl : i = k := by omega
              rw [hx, hy]
          clear hx hy
          go_wp2
          go_quiet (fail)
          go_wp2
          go_roundw
          case rel => exact ⟨k + 1, _, by omega, by go_num, HS2, rfl⟩
          case measure => simp [intOf]; omega
        · have hne : (x != y) = true := by simpa using hxy
          have HR : Hid (v = false) := Lib.hid (by
            rw [Bool.eq_false_iff]
            intro h
            have := HV.out.1 h
            subst this
            rw [hx] at hy
            injection hy with hy
            exact hxy hy)
          clear hx hy
          go_wp2
          go_quiet (fail)
          go_wp2
          go_ret
          exact ⟨ret_bool HR.out.symm, _, World.drewN_drewN _ _ _⟩
      · have HR : Hid (v = true) := Lib.hid (HV.out.2 (List.ext_getElem? fun i => by
          rcases Nat.lt_or_ge i n1 with h | h
          · exact HS.out i (by omega)
          · rw [List.getElem?_eq_none (by rw [H1.out.1]; exact h), List.getElem?_eq_none (by rw [H2.out.1]; exact h)]))
        go_wp2
        go_ret
        exact ⟨ret_bool HR.out.symm, q, rfl⟩
  · have HR : Hid (v = false) := Lib.hid (by
      rw [Bool.eq_false_iff]
      intro h
      have := HV.out.1 h
      subst this
      exact hl (H1.out.1.symm.trans H2.out.1))
    have hb1 : ((n1 : Int) != (n2 : Int)) = true := by simp; omega
    have hb2 : (n1 != n2) = true := by simpa using hl
    go_enter Try.func18, Try.ntmps18
    go_wp2
    go_ret
    exact ⟨ret_bool HR.out.symm, 0, rfl⟩
end Go.Proofs.Ytpcealcghglopaa

namespace Go.Proofs.Ytpcealcghglopaa
open Go.RowKit

theorem each_nat {n : Nat} {xs : List Int} (h : EachP n xs) : ∃ o : List Nat, natG o = xs ∧ o.length = n ∧ o.Nodup ∧ ∀ i ∈ o, i < n := by
  obtain ⟨h1, h2, h3⟩ := h
  have e : natG (xs.map Int.toNat) = xs := by
    unfold natG
    rw [List.map_map]
    conv => rhs; rw [← List.map_id xs]
    refine List.map_congr_left fun x hx => ?_
    have := h3 x hx
    simp only [Function.comp_apply, id_eq]
    omega
  refine ⟨xs.map Int.toNat, e, by simp [h1], ?_, fun i hi => ?_⟩
  · rw [List.Nodup, List.pairwise_map]
    refine List.Pairwise.imp_of_mem (R := fun a b => a ≠ b) (fun ha hb hne => ?_) h2
    have := h3 _ ha
    have := h3 _ hb
    omega
  · obtain ⟨x, hx, rfl⟩ := List.mem_map.1 hi
    have := h3 x hx
    omega
theorem RowC.colR {w : World} {g n : Nat} {col : Nat → Nat} (h : RowC w g n (fun j => ((col j : Nat) : Int))) : IntsAt w w.heap.size (some ⟨g, 0, none⟩) n (colR n col) := by
  unfold Go.Proofs.Ytpcealcghglopaa.colR
  refine ⟨by simp, fun _ => ⟨g, 0, rfl, h.lt, fun i x hx => ?_⟩⟩
  have hi : i < n := by have := (List.getElem?_eq_some_iff.1 hx).1; simpa using this
  rw [List.getElem?_map, List.getElem?_range hi] at hx
  simp only [Option.map_some, Option.some.injEq] at hx
  rw [Nat.zero_add, h.cell hi, hx]
set_option maxRecDepth 100000 in
set_option maxHeartbeats 2000000 in
theorem colourGreedy_of (n : Int) (A : Option Addr) (len cap : Nat) (es : List E3) (A2 : Option Addr) (len2 cap2 : Nat) (xs : List Int) (w : World) (hE : EdgesAt w w.heap.size A len es) (hcap : len ≤ cap) (hI : IntsAt w w.heap.size A2 len2 xs) (hcap2 : len2 ≤ cap2) (hm2 : len2 ≤ 9223372036854775807)
    (HO : ∀ W, EdgesAt W W.heap.size A len es → IntsAt W W.heap.size A2 len2 xs → Calls Try.prog 19 #[.agg #[.int .i64 n, .slice A len cap], .slice A2 len2 cap2] W (GreedyTop W n es xs)) :
    Calls Try.prog 4 #[.agg #[.int .i64 n, .slice A len cap], .slice A2 len2 cap2] w fun e w' => e = .returned (.bool true) ∧ Below w.heap.size w w' := by
  have HX := Lib.hid (BoxG.start (n := n) (cap := cap) hE)
  have HI := Lib.hid (hI.go_ (show Below w.heap.size w (bx w n A len cap) from (Below.refl _ _).alloc (Nat.le_refl _) _))
  have HLX : Hid (xs.length = len2) := Lib.hid hI.1
  have HOO := Lib.hid HO
  obtain ⟨x, hx⟩ : ∃ x, gcheck n es = x := ⟨_, rfl⟩
  have HCX := Lib.hid hx
  have k0 := HX.out.c0
  have k1 := HX.out.c1
  have HCK := Lib.hid (fun W hW => check_v n A len cap es x W hW hcap hx)
  have HLE : Hid (es.length = len) := Lib.hid hE.1
  clear hE HO hI
  by_cases h0 : x = 0
  · subst h0
    obtain ⟨hn0, hn1, hl, hg⟩ := good_of_gcheck hx
    obtain ⟨m, rfl⟩ := Int.eq_ofNat_of_zero_le hn0
    have hm10 : m ≤ 10 := by omega
    have hlen : len ≤ 45 := by have := HLE.out; omega
    have HEV := Lib.hid (fun v W hW hv => each_v A2 len2 cap2 m xs v W hW hm2 (by omega) hcap2 hv)
    clear hx hg hl
    by_cases hp : EachP m xs
    · have HEV1 := Lib.hid (fun W hW => HEV.out true W hW ⟨fun _ => hp, fun _ => rfl⟩)
      obtain ⟨o, ho, hol, hond, holt⟩ := each_nat hp
      have hlm : len2 = m := by have := hp.1; have := HLX.out; omega
      subst hlm
      have HRG := Lib.hid (fun W hW hW2 => refGreedy_any len2 A len cap es A2 cap2 o W hW (by rw [ho]; exact hW2) hm10 hlen hcap2 hond holt)
      have HPP := Lib.hid hp
      have HOE := Lib.hid ho
      clear hp ho hol hond holt HEV
      go_enter Try.func4, Try.ntmps4
      go_wp2_with fail
      refine (HOO.out _ HX.out.edges HI.out).mono ?_
      rintro e w1 ⟨_, _, h3, hB⟩
      obtain ⟨col, A1, c1, hgl, rfl, hi, _⟩ := h3 HCX.out o HOE.out HPP.out
      have e0 : ((len2 : Int)).toNat = len2 := rfl
      rw [e0] at hgl hi
      rw [e0]
      have HGL := Lib.hid hgl
      have HX1 := Lib.hid (HX.out.next hB)
      have HI1 := Lib.hid (HI.out.go_ hB)
      have HA1 := Lib.hid hi
      have k0' := HX1.out.c0
      have k1' := HX1.out.c1
      clear h3 hB hi hgl HOO e0 k0 k1
      go_wp2_with fail
      refine (HCK.out _ HX1.out.edges).mono ?_
      rintro e w2 ⟨rfl, hB⟩
      have HX2 := Lib.hid (HX1.out.next hB)
      have HI2 := Lib.hid (HI1.out.go_ hB)
      have HA2 := Lib.hid (HA1.out.go_ hB)
      have q0 := HX2.out.c0
      have q1 := HX2.out.c1
      clear hB k0' k1'
      go_wp2_with fail
      refine (HEV1.out _ HI2.out).mono ?_
      rintro e w2b ⟨rfl, rfl⟩
      go_wp2_with fail
      refine (HRG.out _ HX2.out.edges HI2.out).mono ?_
      rintro e w3 ⟨g, col', rfl, hrow, hgl', _, hB⟩
      have HX3 := Lib.hid (HX2.out.next hB)
      have HA3 := Lib.hid (HA2.out.go_ hB)
      have HA4 := Lib.hid hrow.colR
      have HEQ : Hid (colR len2 col = colR len2 col') := Lib.hid (by
        unfold colR
        refine List.map_congr_left fun j _ => ?_
        rw [HGL.out.one hgl' j])
      clear hB hrow hgl' q0 q1
      go_wp2_with fail
      refine (ints_v A1 _ len2 len2 c1 len2 _ _ true _ HA3.out HA4.out (by omega) (by omega) ⟨fun _ => HEQ.out, fun _ => rfl⟩).mono ?_
      rintro e w4 ⟨rfl, q, rfl⟩
      go_wp2_with fail
      go_ret
      exact ⟨rfl, below_drewN HX3.out.below _⟩
    · have HEV1 := Lib.hid (fun W hW => HEV.out false W hW ⟨fun h => (by cases h), fun h => absurd h hp⟩)
      have HPP := Lib.hid hp
      clear hp HEV
      go_enter Try.func4, Try.ntmps4
      go_wp2_with fail
      refine (HOO.out _ HX.out.edges HI.out).mono ?_
      rintro e w1 ⟨_, h2, _, hB⟩
      obtain rfl := h2 HCX.out HPP.out
      have HX1 := Lib.hid (HX.out.next hB)
      have HI1 := Lib.hid (HI.out.go_ hB)
      have k0' := HX1.out.c0
      have k1' := HX1.out.c1
      clear h2 hB HOO k0 k1
      go_wp2_with fail
      refine (HCK.out _ HX1.out.edges).mono ?_
      rintro e w2 ⟨rfl, hB⟩
      have HX2 := Lib.hid (HX1.out.next hB)
      have HI2 := Lib.hid (HI1.out.go_ hB)
      have q0 := HX2.out.c0
      have q1 := HX2.out.c1
      clear hB k0' k1'
      go_wp2_with fail
      refine (HEV1.out _ HI2.out).mono ?_
      rintro e w2b ⟨rfl, rfl⟩
      go_wp2_with fail
      go_ret
      exact ⟨rfl, HX2.out.below⟩
  · have HH0 := Lib.hid h0
    have hx0 : (x != 0) = true := by simpa using h0
    have hx1 : (x == 0) = false := by simpa using h0
    clear hx h0
    go_enter Try.func4, Try.ntmps4
    go_wp2_with fail
    refine (HOO.out _ HX.out.edges HI.out).mono ?_
    rintro e w1 ⟨h1, _, _, hB⟩
    obtain rfl := h1 (by rw [HCX.out]; exact HH0.out)
    rw [HCX.out]
    have HX1 := Lib.hid (HX.out.next hB)
    have k0' := HX1.out.c0
    have k1' := HX1.out.c1
    clear h1 hB HOO k0 k1
    go_wp2_with fail
    refine (HCK.out _ HX1.out.edges).mono ?_
    rintro e w2 ⟨rfl, hB⟩
    have HX2 := Lib.hid (HX1.out.next hB)
    clear hB k0' k1'
    go_wp2_with fail
    go_ret
    exact ⟨rfl, HX2.out.below⟩
end Go.Proofs.Ytpcealcghglopaa

namespace Go.Proofs.Ytpcealcghglopaa
open Go.RowKit

def RightL (n : Nat) (es : List E3) (k : Int) (xs : List Int) : Prop := xs.length = n ∧ (∀ x ∈ xs, 0 ≤ x ∧ x < k) ∧ ∀ e ∈ es, xs.getD e.1.toNat 0 ≠ xs.getD e.2.1.toNat 0
theorem allIn_iff {k : Int} {xs : List Int} : xs.all (isIn k) = true ↔ ∀ x ∈ xs, 0 ≤ x ∧ x < k := by
  rw [List.all_eq_true]
  constructor
  · intro h x hx; simpa [isIn] using h x hx
  · intro h x hx; have := h x hx; simp [isIn]; omega
set_option maxRecDepth 100000 in
set_option maxHeartbeats 2000000 in
theorem right_v (n : Nat) (A : Option Addr) (len cap : Nat) (es : List E3) (k : Int) (A2 : Option Addr) (len2 c2 : Nat) (xs : List Int) (v : Bool) (w : World) (hE : EdgesAt w w.heap.size A len es) (hl : len ≤ 45) (hI : InE n es) (h2 : IntsAt w w.heap.size A2 len2 xs) (hn2 : len2 ≤ 9223372036854775807) (hn : n ≤ 10) (hv : v = true ↔ RightL n es k xs) :
    Calls Try.prog 26 #[.agg #[.int .i64 (n : Int), .slice A len cap], .int .i64 k, .slice A2 len2 c2] w fun e w' => e = .returned (.bool v) ∧ Below w.heap.size w w' := by
  have HX := Lib.hid (BoxG.start (n := (n : Int)) (cap := cap) hE)
  have H2 := Lib.hid (h2.go_ (show Below w.heap.size w (bx w n A len cap) from (Below.refl _ _).alloc (Nat.le_refl _) _))
  have HI := Lib.hid hI
  have HV := Lib.hid hv
  have HL : Hid (xs.length = len2) := Lib.hid h2.1
  have HLE : Hid (es.length = len) := Lib.hid hE.1
  have HF : Hid (¬ RightL n es k xs → v = false) := Lib.hid fun h => by
    cases v with
    | false => rfl
    | true => exact absurd (hv.1 rfl) h
  have k0 := HX.out.c0
  have k1 := HX.out.c1
  have HBW := Lib.hid HX.out.below
  clear hE hI h2 hv
  by_cases hlen : len2 = n
  · subst hlen
    obtain ⟨u, hu⟩ : ∃ u, xs.all (isIn k) = u := ⟨_, rfl⟩
    have HU := Lib.hid hu
    have HIN := Lib.hid (fun W hW => inside_v k A2 len2 c2 xs u W hW hn2 hu)
    clear hu
    cases u with
    | false =>
      have HN : Hid (v = false) := Lib.hid (HF.out fun h => by
        have := allIn_iff.2 h.2.1
        rw [HU.out] at this; cases this)
      go_enter Try.func26, Try.ntmps26
      go_wp2_with fail
      refine (HIN.out _ H2.out).mono ?_
      rintro e w1 ⟨rfl, rfl⟩
      go_wp2_with fail
      go_ret
      exact ⟨by rw [HN.out]; first | done | rfl, HBW.out⟩
    | true =>
      go_enter Try.func26, Try.ntmps26
      go_wp2_with fail
      refine (HIN.out _ H2.out).mono ?_
      rintro e w1 ⟨rfl, rfl⟩
      go_wp2_with fail
      clear k0 k1
      go_loopw [23] (fun y wr => ∃ q : Nat, q ≤ len ∧ y = .int .i64 q ∧ Hid (∀ e ∈ es.take q, xs.getD e.1.toNat 0 ≠ xs.getD e.2.1.toNat 0) ∧ Hid (BoxG w (len2 : Int) A len cap es wr)) (fun y _ => len - (intOf y).toNat)
      case atStart => exact ⟨0, Nat.zero_le _, rfl, Lib.hid (fun e he => by simp at he), HX⟩
      case round =>
        obtain ⟨q, hq, rfl, HP, HB⟩ := hrel
        by_cases hlt : q < len
        · obtain ⟨b', off, ⟨a0, a1, a2⟩, rfl, hb, hx, hc0, hc1, hc2⟩ := HB.out.edges.at_ hlt
          have ik0 : (0 : Int) ≤ (q : Int) := by omega
          have ik1 : (q : Int) < (len : Int) := by omega
          obtain ⟨p0, p1, p2, p3⟩ := HI.out _ (List.mem_of_getElem? hx)
          simp only at p0 p1 p2 p3 hc0 hc1 hc2
          obtain ⟨x, rfl⟩ := Int.eq_ofNat_of_zero_le p0
          obtain ⟨y, rfl⟩ := Int.eq_ofNat_of_zero_le p2
          have hxn : x < len2 := by omega
          have hyn : y < len2 := by omega
          have HBA : ∀ o, Hid (BoxG w (len2 : Int) (some ⟨b', off, none⟩) len cap es (wr.alloc o)) := fun o => Lib.hid (HB.out.next ((Below.refl _ _).alloc (Nat.le_refl _) o))
          have h2w : ∀ o, IntsAt (wr.alloc o) (wr.alloc o).heap.size A2 len2 xs := fun o => (H2.out.below (HB.out.box.alloc HB.out.box.size o)).more (HB.out.box.alloc HB.out.box.size o).size
          obtain ⟨o2, ho2⟩ : ∃ o2, o2 = Obj.cells #[.int .i64 (x : Int), .int .i64 (y : Int), .int .i64 a2] 61 (0, 0) := ⟨_, rfl⟩
          obtain ⟨bb, oo, u, rfl, _, hu, hcu⟩ := (h2w o2).at_ hxn
          obtain ⟨v', hv', hcv⟩ : ∃ v', xs[y]? = some v' ∧ (wr.alloc o2).cell? ⟨bb, oo + y, none⟩ = some (.int .i64 v') := by
            obtain ⟨bb', oo', v', e, _, h5, h6⟩ := (h2w o2).at_ hyn
            injection e with e
            injection e with e1 e2
            subst e1 e2
            exact ⟨v', h5, h6⟩
          rw [ho2] at hcu hcv
          have HGU : Hid (xs.getD x 0 = u) := Lib.hid (by rw [List.getD_eq_getElem?_getD, hu]; rfl)
          have HGV : Hid (xs.getD y 0 = v') := Lib.hid (by rw [List.getD_eq_getElem?_getD, hv']; rfl)
          have HM := Lib.hid (List.mem_of_getElem? hx)
          have HS : Hid (es.take (q + 1) = es.take q ++ [((x : Int), (y : Int), a2)]) := Lib.hid (by
            obtain ⟨h3, h4⟩ := List.getElem?_eq_some_iff.1 hx
            rw [List.take_succ_eq_append_getElem h3, h4])
          clear hx hu hv' h2w ho2
          by_cases huv : u = v'
          · have HN : Hid (v = false) := Lib.hid (HF.out fun h => by
              have := h.2.2 _ HM.out
              simp only [Int.toNat_natCast] at this
              rw [HGU.out, HGV.out] at this
              exact this huv)
            have hb2 : (u == v') = true := by simpa using huv
            clear huv HP
            go_wp2_with fail
            go_quiet (fail)
            go_wp2_with fail
            go_ret
            exact ⟨by rw [HN.out]; first | done | rfl, below_drewN ((HBA _).out.below) _⟩
          · have HP2 : Hid (∀ e ∈ es.take (q + 1), xs.getD e.1.toNat 0 ≠ xs.getD e.2.1.toNat 0) := Lib.hid fun e he => by
              rw [HS.out] at he
              rcases List.mem_append.1 he with he | he
              · exact HP.out e he
              · rw [List.mem_singleton.1 he]
                simp only [Int.toNat_natCast]
                rw [HGU.out, HGV.out]
                exact huv
            have hb2 : (u == v') = false := by simpa using huv
            clear huv HP
            go_wp2_with fail
            go_quiet (fail)
            go_wp2_with fail
            go_roundw
            case rel => exact ⟨q + 1, by omega, by go_num, HP2, Lib.hid ((HBA _).out.next (below_drewN (Below.refl _ _) _))⟩
            case measure => simp [intOf]; omega
        · obtain rfl : q = len := by omega
          have HN : Hid (v = true) := Lib.hid (HV.out.2 ⟨HL.out, allIn_iff.1 HU.out, by
            have h := HP.out
            rwa [List.take_of_length_le (by have := HLE.out; omega)] at h⟩)
          clear HP
          go_wp2_with fail
          go_ret
          exact ⟨by rw [HN.out]; first | done | rfl, HB.out.below⟩
  · have HN : Hid (v = false) := Lib.hid (HF.out fun h => hlen (HL.out.symm.trans h.1))
    have hb : ((len2 : Int) != (n : Int)) = true := by simp; omega
    clear hlen
    go_enter Try.func26, Try.ntmps26
    go_wp2_with fail
    go_ret
    exact ⟨by rw [HN.out]; first | done | rfl, HBW.out⟩
end Go.Proofs.Ytpcealcghglopaa

namespace Go.Proofs.Ytpcealcghglopaa
open Go.RowKit

theorem IntsAt.take_ {w : World} {B n k : Nat} {A : Option Addr} {xs : List Int} (h : IntsAt w B A n xs) (hk : k ≤ n) : IntsAt w B A k (xs.take k) :=
  ⟨by rw [List.length_take, h.1]; omega, fun hk0 => by
    obtain ⟨b, off, e, hb, hc⟩ := h.2 (by omega)
    exact ⟨b, off, e, hb, fun i x hx => hc i x (by rw [List.getElem?_take] at hx; split at hx <;> simp_all)⟩⟩
end Go.Proofs.Ytpcealcghglopaa

namespace Go.Proofs.Ytpcealcghglopaa

/-- Is there a way? -/
def Rch (es : List E3) (i j : Nat) : Prop := ∃ k, wk (adjE es) k i j
theorem Rch.refl (es : List E3) (i : Nat) : Rch es i i := ⟨0, rfl⟩
theorem Rch.symm {es : List E3} {i j : Nat} (h : Rch es i j) : Rch es j i := by obtain ⟨k, hk⟩ := h; exact ⟨k, wk_symm (adjE_symm es) hk⟩
theorem Rch.trans {es : List E3} {i j x : Nat} (h : Rch es i x) (h2 : Rch es x j) : Rch es i j := by
  obtain ⟨k, hk⟩ := h
  obtain ⟨l, hl⟩ := h2
  exact ⟨k + l, wk_trans hk hl⟩
theorem Rch.step {es : List E3} {i j x : Nat} (h : Rch es i x) (h2 : adjE es x j = true) : Rch es i j := h.trans ⟨1, wk_one.2 h2⟩

theorem Rch.lt {m : Nat} {es : List E3} (hg : goodE m es) {i j : Nat} (hi : i < m) (h : Rch es i j) : j < m := by obtain ⟨k, hk⟩ := h; exact wk_lt hg hi hk
def Root (es : List E3) (i : Nat) : Prop := ∀ j, j < i → ¬ Rch es i j
theorem rch_add {es : List E3} {a b : Nat} {c : Int} {i : Nat} : ∀ {n j : Nat}, wk (adjE (es ++ [((a : Int), (b : Int), c)])) n i j → Rch es i j ∨ (Rch es i a ∧ Rch es b j) ∨ (Rch es i b ∧ Rch es a j)
  | 0, _, h => by cases h; exact .inl (Rch.refl es i)
  | n + 1, j, ⟨x, hx, hj⟩ => by
    have hadj : adjE es x j = true ∨ (x = a ∧ j = b) ∨ (x = b ∧ j = a) := by
      unfold adjE at hj ⊢
      rw [any_snoc, Bool.or_eq_true] at hj
      rcases hj with h | h
      · exact .inl h
      · right
        simp only [Bool.or_eq_true, Bool.and_eq_true, beq_iff_eq] at h
        omega
    rcases rch_add hx with h | ⟨h1, h2⟩ | ⟨h1, h2⟩
    · rcases hadj with he | ⟨rfl, rfl⟩ | ⟨rfl, rfl⟩
      · exact .inl (h.step he)
      · exact .inr (.inl ⟨h, Rch.refl es _⟩)
      · exact .inr (.inr ⟨h, Rch.refl es _⟩)
    · rcases hadj with he | ⟨rfl, rfl⟩ | ⟨rfl, rfl⟩
      · exact .inr (.inl ⟨h1, h2.step he⟩)
      · exact .inr (.inl ⟨h1, Rch.refl es _⟩)
      · exact .inl h1
    · rcases hadj with he | ⟨rfl, rfl⟩ | ⟨rfl, rfl⟩
      · exact .inr (.inr ⟨h1, h2.step he⟩)
      · exact .inl h1
      · exact .inr (.inr ⟨h1, Rch.refl es _⟩)

open Classical in
noncomputable def rootsN (m : Nat) (es : List E3) : Nat := (List.range m).countP fun i => decide (Root es i)
theorem countP_one {p q : Nat → Bool} (x : Nat) : ∀ l : List Nat, l.Nodup → (∀ i ∈ l, i ≠ x → p i = true → q i = true) → l.countP p ≤ l.countP q + 1
  | [], _, _ => by simp
  | a :: l, hn, h => by
    rw [List.nodup_cons] at hn
    have hall : ∀ (l : List Nat), (∀ i ∈ l, p i = true → q i = true) → l.countP p ≤ l.countP q := fun l hl => List.countP_mono_left hl
    by_cases hax : a = x
    · have h1 := hall l (fun i hi hp => h i (List.mem_cons_of_mem _ hi) (fun e => hn.1 (by rw [hax, ← e]; exact hi)) hp)
      simp only [List.countP_cons]
      split <;> split <;> omega
    · have ih := countP_one x l hn.2 (fun i hi hne hp => h i (List.mem_cons_of_mem _ hi) hne hp)
      have ha := h a (List.mem_cons_self) hax
      simp only [List.countP_cons]
      by_cases hp : p a = true
      · rw [if_pos hp, if_pos (ha hp)]; omega
      · rw [if_neg hp]; split <;> omega
theorem rootsN_add (m : Nat) (es : List E3) (a b : Nat) (c : Int) : rootsN m es ≤ rootsN m (es ++ [((a : Int), (b : Int), c)]) + 1 := by
  unfold rootsN
  -- the two that may be lost: the roots of a and of b; not both
  by_cases hex : ∃ x, Root es x ∧ ¬ Root (es ++ [((a : Int), (b : Int), c)]) x
  · obtain ⟨x, hx, hnx⟩ := hex
    refine countP_one x _ List.nodup_range (fun i _ hne hp => ?_)
    simp only [decide_eq_true_eq] at hp ⊢
    apply Classical.byContradiction
    intro hni
    have key : ∀ y, Root es y → ¬ Root (es ++ [((a : Int), (b : Int), c)]) y → (Rch es y a ∧ ∃ z, z < y ∧ Rch es b z) ∨ (Rch es y b ∧ ∃ z, z < y ∧ Rch es a z) := fun y hy hny => by
      have : ∃ j, j < y ∧ Rch (es ++ [((a : Int), (b : Int), c)]) y j := by
        apply Classical.byContradiction
        intro hno
        exact hny (fun j hj hr => hno ⟨j, hj, hr⟩)
      obtain ⟨j, hj, k, hk⟩ := this
      rcases rch_add hk with h | ⟨h1, h2⟩ | ⟨h1, h2⟩
      · exact absurd h (hy j hj)
      · exact .inl ⟨h1, j, hj, h2⟩
      · exact .inr ⟨h1, j, hj, h2⟩
    have one : ∀ y y', Root es y → Root es y' → Rch es y y' → y = y' := fun y y' hy hy' hr => by
      rcases Nat.lt_trichotomy y y' with h | h | h
      · exact absurd hr.symm (hy' y h)
      · exact h
      · exact absurd hr (hy y' h)
    rcases key x hx hnx with ⟨xa, z, hz, bz⟩ | ⟨xb, z, hz, az⟩
    · rcases key i hp hni with ⟨ia, _⟩ | ⟨ib, z', hz', az'⟩
      · exact hne (one i x hp hx (ia.trans xa.symm))
      · -- i is the root of b, x that of a: i ≤ z < x ≤ z' < i
        have h1 : ¬ z < i := fun hlt => hp z hlt (ib.trans bz)
        have h2 : ¬ z' < x := fun hlt => hx z' hlt (xa.trans az')
        omega
    · rcases key i hp hni with ⟨ia, z', hz', bz'⟩ | ⟨ib, _⟩
      · have h1 : ¬ z < i := fun hlt => hp z hlt (ia.trans az)
        have h2 : ¬ z' < x := fun hlt => hx z' hlt (xb.trans bz')
        omega
      · exact hne (one i x hp hx (ib.trans xb.symm))
  · refine Nat.le_trans (List.countP_mono_left (fun i _ hp => ?_)) (Nat.le_succ _)
    simp only [decide_eq_true_eq] at hp ⊢
    apply Classical.byContradiction
    intro hni
    exact hex ⟨i, hp, hni⟩
theorem rootsN_nil (m : Nat) : rootsN m [] = m := by
  unfold rootsN
  have : ∀ i ∈ List.range m, (@decide (Root [] i) (Classical.propDecidable _)) = true := fun i _ => by
    simp only [decide_eq_true_eq]
    rintro j hj ⟨k, hk⟩
    cases k with
    | zero => cases hk; omega
    | succ k => obtain ⟨x, _, h⟩ := hk; simp [adjE] at h
  rw [List.countP_eq_length.2 this, List.length_range]
theorem rootsN_take {m : Nat} {es : List E3} (hg : goodE m es) : ∀ k, k ≤ es.length → m ≤ rootsN m (es.take k) + k
  | 0, _ => by rw [List.take_zero, rootsN_nil]; omega
  | k + 1, hk => by
    have ih := rootsN_take hg k (by omega)
    have hx : es[k]? = some es[k] := List.getElem?_eq_getElem (by omega)
    obtain ⟨p0, _, p2, _, _, _⟩ := edge_ok (hg k _ hx)
    rw [List.take_succ_eq_append_getElem (by omega)]
    generalize es[k] = e at p0 p2
    obtain ⟨a, b, c⟩ := e
    simp only at p0 p2
    obtain ⟨a, rfl⟩ := Int.eq_ofNat_of_zero_le p0
    obtain ⟨b, rfl⟩ := Int.eq_ofNat_of_zero_le p2
    have := rootsN_add m (es.take k) a b c
    omega
theorem rootsN_ge {m : Nat} {es : List E3} (hg : goodE m es) : m ≤ rootsN m es + es.length := by
  have := rootsN_take hg es.length (Nat.le_refl _)
  rwa [List.take_length] at this

end Go.Proofs.Ytpcealcghglopaa

namespace Go.Proofs.Ytpcealcghglopaa

theorem least_root (F : List E3) (a : Nat) : ∃ r, r ≤ a ∧ Rch F a r ∧ Root F r := by
  obtain ⟨r, h1, h2, h3⟩ := least_of (p := fun r => Rch F a r) a (Rch.refl F a)
  exact ⟨r, h1, h2, fun j hj hr => h3 j hj (h2.trans hr)⟩
noncomputable def minR (F : List E3) (a : Nat) : Nat := (least_root F a).choose
section
variable {F G : List E3} {a b : Nat}
theorem minR_le : minR F a ≤ a := (least_root F a).choose_spec.1
theorem minR_rch : Rch F a (minR F a) := (least_root F a).choose_spec.2.1
theorem minR_root : Root F (minR F a) := (least_root F a).choose_spec.2.2
theorem minR_least (h : Rch F a b) : minR F a ≤ b := by
  rcases Nat.lt_or_ge b (minR F a) with h1 | h1
  · exact absurd (minR_rch.symm.trans h) (minR_root b h1)
  · exact h1
theorem minR_eq : minR F a = minR F b ↔ Rch F a b := by
  constructor
  · intro h
    have h1 : Rch F a (minR F a) := minR_rch
    rw [h] at h1
    exact h1.trans minR_rch.symm
  · intro h
    exact Nat.le_antisymm (minR_least (h.trans minR_rch)) (minR_least (h.symm.trans minR_rch))
theorem root_minR : Root F a ↔ minR F a = a := by
  constructor
  · intro h
    rcases Nat.lt_or_ge (minR F a) a with h1 | h1
    · exact absurd minR_rch (h _ h1)
    · exact Nat.le_antisymm minR_le h1
  · intro h
    have h1 : Root F (minR F a) := minR_root
    rwa [h] at h1
theorem minR_congr (h : ∀ i j, Rch F i j ↔ Rch G i j) : minR F a = minR G a :=
  Nat.le_antisymm (minR_least ((h _ _).2 minR_rch)) (minR_least ((h _ _).1 minR_rch))
end
end Go.Proofs.Ytpcealcghglopaa

namespace Go.Proofs.Ytpcealcghglopaa

/-! Who is linked, and how many parts there are, of any list of edges. -/
theorem adjE_mem {F : List E3} {i j : Nat} : adjE F i j = true ↔ ∃ e ∈ F, (e.1 = (i : Int) ∧ e.2.1 = (j : Int)) ∨ (e.1 = (j : Int) ∧ e.2.1 = (i : Int)) := by
  unfold adjE
  rw [List.any_eq_true]
  simp
theorem Rch.lift {F G : List E3} (h : ∀ e ∈ F, ∀ a b : Nat, e.1 = (a : Int) → e.2.1 = (b : Int) → Rch G a b) {i j : Nat} (hr : Rch F i j) : Rch G i j := by
  obtain ⟨k, hk⟩ := hr
  induction k generalizing j with
  | zero => cases hk; exact Rch.refl G _
  | succ k ih =>
    obtain ⟨x, hx, ha⟩ := hk
    obtain ⟨e, he, h1⟩ := adjE_mem.1 ha
    refine (ih hx).trans ?_
    rcases h1 with ⟨p, q⟩ | ⟨p, q⟩
    · exact h e he _ _ p q
    · exact (h e he _ _ p q).symm
theorem Rch.edge {G : List E3} {e : E3} (he : e ∈ G) {a b : Nat} (h1 : e.1 = (a : Int)) (h2 : e.2.1 = (b : Int)) : Rch G a b := ⟨1, wk_one.2 (adjE_mem.2 ⟨e, he, .inl ⟨h1, h2⟩⟩)⟩
theorem Rch.sub {F G : List E3} (h : ∀ e ∈ F, e ∈ G) {i j : Nat} (hr : Rch F i j) : Rch G i j := hr.lift fun e he _ _ h1 h2 => Rch.edge (h e he) h1 h2
theorem Root.anti {F G : List E3} (h : ∀ i j, Rch F i j → Rch G i j) {i : Nat} (hr : Root G i) : Root F i := fun j hj hr' => hr j hj (h i j hr')
theorem rootsN_mono {F G : List E3} (m : Nat) (h : ∀ i j, Rch F i j → Rch G i j) : rootsN m G ≤ rootsN m F := by
  unfold rootsN
  refine List.countP_mono_left fun i _ hp => ?_
  simp only [decide_eq_true_eq] at hp ⊢
  exact Root.anti h hp
theorem rootsN_congr {F G : List E3} (m : Nat) (h : ∀ i j, Rch F i j ↔ Rch G i j) : rootsN m F = rootsN m G :=
  Nat.le_antisymm (rootsN_mono m fun i j => (h i j).2) (rootsN_mono m fun i j => (h i j).1)
theorem countP_lt {p q : Nat → Bool} {l : List Nat} {x : Nat} (hx : x ∈ l) (h : ∀ i ∈ l, p i = true → q i = true) (hp : p x = false) (hq : q x = true) : l.countP p < l.countP q := by
  induction l with
  | nil => simp at hx
  | cons a l ih =>
    have hm : l.countP p ≤ l.countP q := List.countP_mono_left fun i hi => h i (List.mem_cons_of_mem _ hi)
    simp only [List.countP_cons]
    rcases List.mem_cons.1 hx with rfl | hx
    · rw [if_neg (by simp [hp]), if_pos hq]; omega
    · have := ih hx (fun i hi => h i (List.mem_cons_of_mem _ hi))
      have ha := h a (List.mem_cons_self ..)
      by_cases hpa : p a = true
      · rw [if_pos hpa, if_pos (ha hpa)]; omega
      · rw [if_neg hpa]; split <;> omega
/-- An edge between two parts makes one of them. -/
theorem rootsN_link {F : List E3} {m a b : Nat} {c : Int} (ha : a < m) (hb : b < m) (h : ¬ Rch F a b) : rootsN m (F ++ [((a : Int), (b : Int), c)]) + 1 = rootsN m F := by
  have h1 := rootsN_add m F a b c
  obtain ⟨ra, la, lra, rra⟩ := least_root F a
  obtain ⟨rb, lb, lrb, rrb⟩ := least_root F b
  have hne : ra ≠ rb := fun e => h (lra.trans (by rw [e]; exact lrb.symm))
  have hsub : ∀ i j, Rch F i j → Rch (F ++ [((a : Int), (b : Int), c)]) i j := fun i j hr => hr.sub fun e he => List.mem_append_left _ he
  have hab : Rch (F ++ [((a : Int), (b : Int), c)]) ra rb := ((hsub _ _ lra).symm.trans (Rch.edge (List.mem_append_right _ (List.mem_singleton.2 rfl)) rfl rfl)).trans (hsub _ _ lrb)
  have h2 : rootsN m (F ++ [((a : Int), (b : Int), c)]) < rootsN m F := by
    unfold rootsN
    have key : ∀ x, x < m → Root F x → ¬ Root (F ++ [((a : Int), (b : Int), c)]) x → (List.range m).countP (fun i => @decide (Root (F ++ [((a : Int), (b : Int), c)]) i) (Classical.propDecidable _)) < (List.range m).countP (fun i => @decide (Root F i) (Classical.propDecidable _)) := fun x hx h1 h2 =>
      countP_lt (x := x) (List.mem_range.2 hx) (fun i _ hp => by
        simp only [decide_eq_true_eq] at hp ⊢
        exact Root.anti hsub hp) (by simpa using h2) (by simpa using h1)
    rcases Nat.lt_or_ge ra rb with hlt | hge
    · exact key rb (by omega) rrb (fun hr => hr ra hlt hab.symm)
    · exact key ra (by omega) rra (fun hr => hr rb (by omega) hab)
  omega
theorem InE.nats {m : Nat} {e : E3} (h : 0 ≤ e.1 ∧ e.1 < (m : Int) ∧ 0 ≤ e.2.1 ∧ e.2.1 < (m : Int)) : ∃ (a b : Nat) (c : Int), e = ((a : Int), (b : Int), c) ∧ a < m ∧ b < m := by
  obtain ⟨x, y, c⟩ := e
  obtain ⟨h0, h1, h2, h3⟩ := h
  simp only at h0 h1 h2 h3
  obtain ⟨a, rfl⟩ := Int.eq_ofNat_of_zero_le h0
  obtain ⟨b, rfl⟩ := Int.eq_ofNat_of_zero_le h2
  exact ⟨a, b, c, rfl, by omega, by omega⟩
/-- With more edges there are no more parts; with so many fewer edges at most so many more. -/
theorem rootsN_more {m : Nat} (F : List E3) : ∀ G : List E3, InE m G → rootsN m F ≤ rootsN m (F ++ G) + G.length
  | [], _ => by simp
  | e :: G, h => by
    obtain ⟨a, b, c, rfl, ha, hb⟩ := InE.nats (h e (List.mem_cons_self ..))
    have ih := rootsN_more (F ++ [((a : Int), (b : Int), c)]) G (fun e he => h e (List.mem_cons_of_mem _ he))
    have h1 := rootsN_add m F a b c
    rw [List.append_assoc] at ih
    simp only [List.length_cons]
    show rootsN m F ≤ rootsN m (F ++ ([((a : Int), (b : Int), c)] ++ G)) + _
    omega
theorem rootsN_all {m : Nat} {F : List E3} (h : InE m F) : m ≤ rootsN m F + F.length := by
  have := rootsN_more [] F h
  rw [rootsN_nil] at this
  simpa using this

/-! Places of edges. -/
def edgeAt (es : List E3) (i : Nat) : E3 := es.getD i (0, 0, 0)
def wAt (es : List E3) (i : Nat) : Int := (edgeAt es i).2.2
/-- Is one edge ahead of another one? -/
def aheadB (es : List E3) (j i : Nat) : Bool := decide (wAt es j < wAt es i) || (wAt es j == wAt es i && decide (j < i))
theorem ahead_iff {es : List E3} {j i : Nat} : aheadB es j i = true ↔ wAt es j < wAt es i ∨ (wAt es j = wAt es i ∧ j < i) := by simp [aheadB]
theorem ahead_trans {es : List E3} {i j k : Nat} (h1 : aheadB es i j = true) (h2 : aheadB es j k = true) : aheadB es i k = true := by
  rw [ahead_iff] at *; omega
theorem ahead_irr {es : List E3} {i : Nat} : aheadB es i i = false := by
  cases h : aheadB es i i with
  | false => rfl
  | true => rw [ahead_iff] at h; omega
theorem ahead_total {es : List E3} {i j : Nat} (h : i ≠ j) : aheadB es i j = true ∨ aheadB es j i = true := by
  rw [ahead_iff, ahead_iff]; omega
/-- The edges at some places. -/
def eg (es : List E3) (S : List Nat) : List E3 := S.map (edgeAt es)
theorem eg_len (es : List E3) (S : List Nat) : (eg es S).length = S.length := by simp [eg]
theorem eg_sub {es : List E3} {S T : List Nat} (h : ∀ i ∈ S, i ∈ T) : ∀ e ∈ eg es S, e ∈ eg es T := fun e he => by
  obtain ⟨i, hi, rfl⟩ := List.mem_map.1 he
  exact List.mem_map_of_mem (h i hi)
theorem edgeAt_mem {es : List E3} {i : Nat} (h : i < es.length) : edgeAt es i ∈ es := by
  unfold edgeAt
  rw [List.getD_eq_getElem?_getD, List.getElem?_eq_getElem h]
  exact List.getElem_mem h
theorem eg_in {m : Nat} {es : List E3} (hin : InE m es) {S : List Nat} (h : ∀ i ∈ S, i < es.length) : InE m (eg es S) := fun e he => by
  obtain ⟨i, hi, rfl⟩ := List.mem_map.1 he
  exact hin _ (edgeAt_mem (h i hi))
def allS (es : List E3) : List Nat := List.range es.length
theorem eg_all (es : List E3) : eg es (allS es) = es := by
  apply List.ext_getElem
  · simp [eg, allS]
  · intro i h1 h2
    simp [eg, allS, edgeAt, List.getD_eq_getElem?_getD, List.getElem?_eq_getElem h2]
/-- Those ahead of one. -/
def aheadS (es : List E3) (i : Nat) : List Nat := (allS es).filter fun j => aheadB es j i
theorem mem_aheadS {es : List E3} {i j : Nat} : j ∈ aheadS es i ↔ j < es.length ∧ aheadB es j i = true := by simp [aheadS, allS]
/-- Its nodes are not linked by those ahead of it. -/
def Kept (es : List E3) (i : Nat) : Prop := i < es.length ∧ ∀ a b : Nat, (edgeAt es i).1 = (a : Int) → (edgeAt es i).2.1 = (b : Int) → ¬ Rch (eg es (aheadS es i)) a b
open Classical in
noncomputable def keptS (es : List E3) : List Nat := (allS es).filter fun i => decide (Kept es i)
theorem mem_keptS {es : List E3} {i : Nat} : i ∈ keptS es ↔ Kept es i := by
  simp only [keptS, allS, List.mem_filter, List.mem_range, decide_eq_true_eq]
  exact ⟨fun h => h.2, fun h => ⟨h.1, h⟩⟩

theorem filter_len (p : Nat → Bool) (l : List Nat) : (l.filter p).length = l.countP p := (List.countP_eq_length_filter ..).symm
section
variable {m : Nat} {es : List E3}
theorem aheadS_lt {i j : Nat} (h : aheadB es j i = true) (hj : j < es.length) : (aheadS es j).length < (aheadS es i).length := by
  unfold aheadS
  rw [filter_len, filter_len]
  exact countP_lt (x := j) (List.mem_range.2 hj) (fun k _ hk => ahead_trans hk h) ahead_irr h
/-- An edge's nodes are linked by kept ones that are no later than it. -/
theorem kept_links (hin : InE m es) : ∀ (n i : Nat), (aheadS es i).length < n → i < es.length → ∀ a b : Nat, (edgeAt es i).1 = (a : Int) → (edgeAt es i).2.1 = (b : Int) → ∀ S : List Nat, (∀ j, Kept es j → (aheadB es j i = true ∨ j = i) → j ∈ S) → Rch (eg es S) a b
  | 0, _, h, _, _, _, _, _, _, _ => by omega
  | n + 1, i, hn, hi, a, b, ha, hb, S, hS => by
    by_cases hk : Kept es i
    · exact Rch.edge (List.mem_map_of_mem (hS i hk (.inr rfl))) ha hb
    · have hr : Rch (eg es (aheadS es i)) a b := by
        apply Classical.byContradiction
        intro hno
        exact hk ⟨hi, fun x y hx hy => by
          obtain rfl : x = a := by omega
          obtain rfl : y = b := by omega
          exact hno⟩
      refine hr.lift fun e he x y hx hy => ?_
      obtain ⟨j, hj, rfl⟩ := List.mem_map.1 he
      obtain ⟨hjl, hja⟩ := mem_aheadS.1 hj
      refine kept_links hin n j (by have := aheadS_lt hja hjl; omega) hjl x y hx hy S fun k hk hkj => hS k hk (.inl ?_)
      rcases hkj with h | rfl
      · exact ahead_trans h hja
      · exact hja
/-- The kept ones link whatever all do; those below a weight whatever all below it do. -/
theorem kept_span (hin : InE m es) {T : List Nat} (hT : ∀ i ∈ T, i < es.length) (hdown : ∀ i j, i ∈ T → j < es.length → aheadB es j i = true → j ∈ T) {S : List Nat} (hS : ∀ i, Kept es i → i ∈ T → i ∈ S) {i j : Nat} (h : Rch (eg es T) i j) : Rch (eg es S) i j := by
  refine h.lift fun e he x y hx hy => ?_
  obtain ⟨k, hk, rfl⟩ := List.mem_map.1 he
  refine kept_links hin _ k (Nat.lt_succ_self _) (hT k hk) x y hx hy S fun l hl hlk => hS l hl ?_
  rcases hlk with h | rfl
  · exact hdown k l hk hl.1 h
  · exact hk

/-- Some of a list is the last of it. -/
theorem last_of {S : List Nat} (h : S ≠ []) : ∃ i ∈ S, ∀ j ∈ S, j ≠ i → aheadB es j i = true := by
  induction S with
  | nil => exact absurd rfl h
  | cons x S ih =>
    by_cases hS : S = []
    · subst hS
      exact ⟨x, List.mem_cons_self .., fun j hj hne => by simp at hj; exact absurd hj hne⟩
    · obtain ⟨i, hi, hl⟩ := ih hS
      by_cases hxi : x = i
      · subst hxi
        exact ⟨x, List.mem_cons_self .., fun j hj hne => by
          rcases List.mem_cons.1 hj with rfl | hj
          · exact absurd rfl hne
          · exact hl j hj hne⟩
      · rcases ahead_total (es := es) hxi with h1 | h1
        · refine ⟨i, List.mem_cons_of_mem _ hi, fun j hj hne => ?_⟩
          rcases List.mem_cons.1 hj with rfl | hj
          · exact h1
          · exact hl j hj hne
        · refine ⟨x, List.mem_cons_self .., fun j hj hne => ?_⟩
          rcases List.mem_cons.1 hj with rfl | hj
          · exact absurd rfl hne
          · by_cases hji : j = i
            · rw [hji]; exact h1
            · exact ahead_trans (hl j hj hji) h1
theorem rch_perm {F G : List E3} (h : F.Perm G) (i j : Nat) : Rch F i j ↔ Rch G i j := ⟨fun hr => hr.sub fun _ he => h.mem_iff.1 he, fun hr => hr.sub fun _ he => h.mem_iff.2 he⟩
/-- Of kept ones each makes a part fewer. -/
theorem kept_count (hin : InE m es) : ∀ (n : Nat) (S : List Nat), S.length = n → S.Nodup → (∀ i ∈ S, Kept es i) → rootsN m (eg es S) + S.length = m
  | 0, S, hl, _, _ => by
    have : S = [] := List.length_eq_zero_iff.1 hl
    subst this
    simp [eg, rootsN_nil]
  | n + 1, S, hl, hn, hk => by
    obtain ⟨i, hi, hlast⟩ := last_of (es := es) (S := S) (fun h => by rw [h] at hl; simp at hl)
    have hp := List.perm_cons_erase hi
    have hlen : (S.erase i).length = n := by have := List.length_erase_of_mem hi; omega
    have ih := kept_count hin n (S.erase i) hlen (hn.erase i) (fun j hj => hk j (List.mem_of_mem_erase hj))
    obtain ⟨a, b, c, he, ha, hb⟩ := InE.nats (hin _ (edgeAt_mem (hk i hi).1))
    have hno : ¬ Rch (eg es (S.erase i)) a b := fun hr => by
      refine (hk i hi).2 a b (by rw [he]) (by rw [he]) (hr.sub (eg_sub fun j hj => ?_))
      have hjS := List.mem_of_mem_erase hj
      refine mem_aheadS.2 ⟨(hk j hjS).1, hlast j hjS fun e => ?_⟩
      subst e
      exact (hn.not_mem_erase) hj
    have h1 := rootsN_link (c := c) ha hb hno
    have h2 : rootsN m (eg es S) = rootsN m (eg es (S.erase i) ++ [((a : Int), (b : Int), c)]) := rootsN_congr m fun x y => by
      rw [rch_perm (F := eg es S) (G := eg es (S.erase i) ++ [((a : Int), (b : Int), c)])]
      have h3 : (eg es S).Perm (eg es (i :: S.erase i)) := hp.map _
      refine h3.trans ?_
      show (edgeAt es i :: eg es (S.erase i)).Perm _
      rw [he]
      exact (List.perm_append_singleton _ _).symm
    omega
/-- A list of edges that makes a part fewer each does so in part. -/
theorem acyc_sub {F G : List E3} (hin : InE m (F ++ G)) (h : rootsN m (F ++ G) + (F ++ G).length = m) : rootsN m F + F.length = m := by
  have h1 := rootsN_more F G (fun e he => hin e (List.mem_append_right _ he))
  have h2 := rootsN_all (m := m) (F := F) (fun e he => hin e (List.mem_append_left _ he))
  simp only [List.length_append] at h
  omega

/-- Numbers of which no fewer are small, as many in all, are together no more. -/
theorem sum_le {M : Nat} : ∀ (k : Nat) (xs ys : List Int), (∀ x ∈ xs, -(M : Int) ≤ x ∧ x ≤ -(M : Int) + k) → (∀ y ∈ ys, -(M : Int) ≤ y ∧ y ≤ -(M : Int) + k) → xs.length = ys.length → (∀ t : Int, ys.countP (fun y => decide (y ≤ t)) ≤ xs.countP (fun x => decide (x ≤ t))) → xs.sum ≤ ys.sum
  | 0, xs, ys, hx, hy, hl, _ => by
    have h1 : ∀ (l : List Int), (∀ x ∈ l, -(M : Int) ≤ x ∧ x ≤ -(M : Int) + (0 : Nat)) → l.sum = -(M : Int) * l.length := fun l => by
      induction l with
      | nil => intro _; simp
      | cons a l ih =>
        intro h
        have ha := h a (List.mem_cons_self ..)
        rw [List.sum_cons, ih fun x hx => h x (List.mem_cons_of_mem _ hx), List.length_cons]
        have : a = -(M : Int) := by omega
        rw [this]
        push_cast
        rw [Int.mul_add]
        omega
    rw [h1 xs hx, h1 ys hy, hl]
    omega
  | k + 1, xs, ys, hx, hy, hl, hc => by
    -- cut the topmost value down by one in both
    have cut : ∀ (l : List Int), (∀ x ∈ l, -(M : Int) ≤ x ∧ x ≤ -(M : Int) + ((k + 1 : Nat) : Int)) → l.sum = (l.map fun x => min x (-(M : Int) + k)).sum + (l.countP (fun x => decide (-(M : Int) + k < x)) : Int) ∧ (∀ x ∈ l.map fun x => min x (-(M : Int) + k), -(M : Int) ≤ x ∧ x ≤ -(M : Int) + k) := fun l => by
      induction l with
      | nil => intro _; simp
      | cons a l ih =>
        intro h
        obtain ⟨h1, h2⟩ := ih fun x hx => h x (List.mem_cons_of_mem _ hx)
        have ha := h a (List.mem_cons_self ..)
        refine ⟨?_, fun x hx => ?_⟩
        · rw [List.sum_cons, h1, List.map_cons, List.sum_cons, List.countP_cons]
          by_cases hlt : -(M : Int) + k < a
          · rw [if_pos (by simpa using hlt)]
            push_cast
            omega
          · rw [if_neg (by simpa using hlt)]
            push_cast
            omega
        · rw [List.map_cons] at hx
          rcases List.mem_cons.1 hx with rfl | hx
          · omega
          · exact h2 x hx
    obtain ⟨x1, x2⟩ := cut xs hx
    obtain ⟨y1, y2⟩ := cut ys hy
    have hcount : ∀ (l : List Int) (t : Int), (l.map fun x => min x (-(M : Int) + k)).countP (fun x => decide (x ≤ t)) = if -(M : Int) + k ≤ t then l.length else l.countP (fun x => decide (x ≤ t)) := fun l t => by
      rw [List.countP_map]
      by_cases ht : -(M : Int) + k ≤ t
      · rw [if_pos ht, List.countP_eq_length]
        intro x _
        simp
        omega
      · rw [if_neg ht]
        apply List.countP_congr
        intro x _
        simp
        omega
    have ih := sum_le k _ _ x2 y2 (by simp [hl]) (fun t => by
      rw [hcount, hcount]
      split
      · rw [hl]; exact Nat.le_refl _
      · exact hc t)
    have hcomp : ∀ (l : List Int), l.countP (fun x => decide (-(M : Int) + k < x)) + l.countP (fun x => decide (x ≤ -(M : Int) + k)) = l.length := fun l => by
      induction l with
      | nil => rfl
      | cons a l ih =>
        rw [List.countP_cons, List.countP_cons, List.length_cons]
        by_cases h : -(M : Int) + k < a
        · rw [if_pos (by simpa using h), if_neg (by simp; omega)]; omega
        · rw [if_neg (by simpa using h), if_pos (by simp; omega)]; omega
    have c1 := hcomp xs
    have c2 := hcomp ys
    have c3 := hc (-(M : Int) + k)
    omega
end

section
section
variable {m : Nat} {es : List E3}
theorem allS_nodup : (allS es).Nodup := List.nodup_range
theorem keptS_nodup : (keptS es).Nodup := allS_nodup.filter _
theorem keptS_lt {i : Nat} (h : i ∈ keptS es) : i < es.length := (mem_keptS.1 h).1
theorem kept_rch (hin : InE m es) (i j : Nat) : Rch (eg es (keptS es)) i j ↔ Rch es i j := by
  constructor
  · intro h
    have h2 : Rch (eg es (allS es)) i j := h.sub (eg_sub fun k hk => List.mem_range.2 (keptS_lt hk))
    rwa [eg_all] at h2
  · intro h
    rw [← eg_all es] at h
    exact kept_span hin (T := allS es) (fun k hk => List.mem_range.1 hk) (fun _ k _ hk _ => List.mem_range.2 hk) (S := keptS es) (fun k hk _ => mem_keptS.2 hk) h
theorem kept_forest (hin : InE m es) : rootsN m es + (keptS es).length = m := by
  have h1 := kept_count hin _ (keptS es) rfl keptS_nodup (fun i hi => mem_keptS.1 hi)
  rwa [rootsN_congr m (kept_rch hin)] at h1
def sumW (es : List E3) (S : List Nat) : Int := (S.map (wAt es)).sum

theorem part_of (p : Nat → Bool) : ∀ S : List Nat, (S.filter p ++ S.filter fun i => !p i).Perm S
  | [] => by simp
  | x :: S => by
    have ih := part_of p S
    by_cases h : p x = true
    · rw [List.filter_cons_of_pos h, List.filter_cons_of_neg (by simp [h]), List.cons_append]
      exact ih.cons x
    · rw [List.filter_cons_of_neg h, List.filter_cons_of_pos (by simpa using h)]
      exact List.perm_middle.trans (ih.cons x)
theorem kept_lightest (hin : InE m es) (hw : ∀ e ∈ es, -1048576 ≤ e.2.2 ∧ e.2.2 ≤ 1048576) {S : List Nat} (hS : ∀ i ∈ S, i < es.length) (hf : rootsN m (eg es S) + S.length = m) (hl : S.length = (keptS es).length) : sumW es (keptS es) ≤ sumW es S := by
  have bound : ∀ i, i < es.length → -((1048576 : Nat) : Int) ≤ wAt es i ∧ wAt es i ≤ -((1048576 : Nat) : Int) + (2097152 : Nat) := fun i hi => by
    have := hw _ (edgeAt_mem hi)
    unfold wAt
    omega
  refine sum_le (M := 1048576) 2097152 _ _ (fun x hx => ?_) (fun y hy => ?_) (by simp [hl]) (fun t => ?_)
  · obtain ⟨i, hi, rfl⟩ := List.mem_map.1 hx
    exact bound i (keptS_lt hi)
  · obtain ⟨i, hi, rfl⟩ := List.mem_map.1 hy
    exact bound i (hS i hi)
  · rw [List.countP_map, List.countP_map]
    let p : Nat → Bool := fun i => decide (wAt es i ≤ t)
    show S.countP p ≤ (keptS es).countP p
    rw [← filter_len, ← filter_len]
    have hp := part_of p S
    have h1 : rootsN m (eg es (S.filter p)) + (S.filter p).length = m := by
      have e1 : eg es (S.filter p) ++ eg es (S.filter fun i => !p i) = eg es (S.filter p ++ S.filter fun i => !p i) := by simp [eg]
      have hq : (eg es (S.filter p ++ S.filter fun i => !p i)).Perm (eg es S) := hp.map _
      have h := acyc_sub (m := m) (F := eg es (S.filter p)) (G := eg es (S.filter fun i => !p i)) (by
        rw [e1]
        exact eg_in hin fun i hi => hS i (hp.mem_iff.1 hi)) (by
        rw [e1, rootsN_congr m (rch_perm hq), hq.length_eq, eg_len]
        exact hf)
      rwa [eg_len] at h
    have h2 := kept_count hin _ ((keptS es).filter p) rfl (keptS_nodup.filter _) (fun i hi => mem_keptS.1 ((List.mem_filter.1 hi).1))
    have h3 : rootsN m (eg es ((keptS es).filter p)) ≤ rootsN m (eg es (S.filter p)) := by
      refine rootsN_mono m fun i j hr => ?_
      have hr2 : Rch (eg es ((allS es).filter p)) i j := hr.sub (eg_sub fun k hk => by
        obtain ⟨hk1, hk2⟩ := List.mem_filter.1 hk
        exact List.mem_filter.2 ⟨List.mem_range.2 (hS k hk1), hk2⟩)
      refine kept_span hin (T := (allS es).filter p) (fun k hk => List.mem_range.1 ((List.mem_filter.1 hk).1)) (fun k l hk hl hlk => ?_) (fun k hk hkT => ?_) hr2
      · refine List.mem_filter.2 ⟨List.mem_range.2 hl, ?_⟩
        have h4 := (List.mem_filter.1 hk).2
        simp only [p, decide_eq_true_eq] at h4 ⊢
        rw [ahead_iff] at hlk
        omega
      · exact List.mem_filter.2 ⟨mem_keptS.2 hk, (List.mem_filter.1 hkT).2⟩
    omega

/-- Some of a list is the first of it. -/
theorem first_of {S : List Nat} (h : S ≠ []) : ∃ i ∈ S, ∀ j ∈ S, j ≠ i → aheadB es i j = true := by
  induction S with
  | nil => exact absurd rfl h
  | cons x S ih =>
    by_cases hS : S = []
    · subst hS
      exact ⟨x, List.mem_cons_self .., fun j hj hne => by simp at hj; exact absurd hj hne⟩
    · obtain ⟨i, hi, hl⟩ := ih hS
      by_cases hxi : x = i
      · subst hxi
        exact ⟨x, List.mem_cons_self .., fun j hj hne => by
          rcases List.mem_cons.1 hj with rfl | hj
          · exact absurd rfl hne
          · exact hl j hj hne⟩
      · rcases ahead_total (es := es) hxi with h1 | h1
        · refine ⟨x, List.mem_cons_self .., fun j hj hne => ?_⟩
          rcases List.mem_cons.1 hj with rfl | hj
          · exact absurd rfl hne
          · by_cases hji : j = i
            · rw [hji]; exact h1
            · exact ahead_trans h1 (hl j hj hji)
        · refine ⟨i, List.mem_cons_of_mem _ hi, fun j hj hne => ?_⟩
          rcases List.mem_cons.1 hj with rfl | hj
          · exact h1
          · exact hl j hj hne
/-- Does an edge lead out of a set? -/
def crossB (c : Int → Bool) (e : E3) : Bool := c e.1 != c e.2.1
theorem rch_side {F : List E3} {c : Int → Bool} (h : ∀ e ∈ F, crossB c e = false) {i j : Nat} (hr : Rch F i j) : c (i : Int) = c (j : Int) := by
  obtain ⟨k, hk⟩ := hr
  induction k generalizing j with
  | zero => cases hk; rfl
  | succ k ih =>
    obtain ⟨x, hx, ha⟩ := hk
    rw [ih hx]
    obtain ⟨e, he, h1⟩ := adjE_mem.1 ha
    have h2 := h e he
    unfold crossB at h2
    rcases h1 with ⟨p, q⟩ | ⟨p, q⟩
    · rw [p, q] at h2; simpa using h2
    · rw [p, q] at h2
      have h3 : c (j : Int) = c (x : Int) := by simpa using h2
      exact h3.symm
theorem kept_cut (_hin : InE m es) (c : Int → Bool) {i0 : Nat} (hi : i0 < es.length) (hc : crossB c (edgeAt es i0) = true) (hmin : ∀ j, j < es.length → crossB c (edgeAt es j) = true → wAt es i0 ≤ wAt es j) : ∃ i, Kept es i ∧ crossB c (edgeAt es i) = true ∧ wAt es i = wAt es i0 := by
  obtain ⟨i, hiS, hfirst⟩ := first_of (es := es) (S := (allS es).filter fun j => crossB c (edgeAt es j)) (fun h => by
    have : i0 ∈ (allS es).filter fun j => crossB c (edgeAt es j) := List.mem_filter.2 ⟨List.mem_range.2 hi, hc⟩
    rw [h] at this
    simp at this)
  obtain ⟨hiA, hiC⟩ := List.mem_filter.1 hiS
  have hil := List.mem_range.1 hiA
  refine ⟨i, ⟨hil, fun a b ha hb hr => ?_⟩, hiC, ?_⟩
  · have hs := rch_side (c := c) (fun e he => ?_) hr
    · have h3 : crossB c (edgeAt es i) = false := by unfold crossB; rw [ha, hb, hs]; simp
      have h4 : crossB c (edgeAt es i) = true := hiC
      rw [h3] at h4
      cases h4
    · obtain ⟨j, hj, rfl⟩ := List.mem_map.1 he
      obtain ⟨hjl, hja⟩ := mem_aheadS.1 hj
      cases hcj : crossB c (edgeAt es j) with
      | false => rfl
      | true =>
        have hne : j ≠ i := fun e => by rw [e, ahead_irr] at hja; cases hja
        have h5 := hfirst j (List.mem_filter.2 ⟨List.mem_range.2 hjl, hcj⟩) hne
        have h6 := ahead_trans h5 hja
        rw [ahead_irr] at h6
        cases h6
  · have h1 := hmin i hil hiC
    by_cases hne : i0 = i
    · rw [hne]
    · have h2 := hfirst i0 (List.mem_filter.2 ⟨List.mem_range.2 hi, hc⟩) hne
      rw [ahead_iff] at h2
      omega
end
end
end Go.Proofs.Ytpcealcghglopaa

namespace Go.Proofs.Ytpcealcghglopaa

noncomputable def partsR (m : Nat) (F : List E3) : List Int := (List.range m).map fun i => (minR F i : Int)
theorem partsR_len (m : Nat) (F : List E3) : (partsR m F).length = m := by simp [partsR]
theorem partsR_get {m : Nat} {F : List E3} {k : Nat} (hk : k < m) : (partsR m F)[k]? = some (minR F k : Int) := by simp [partsR, hk]
theorem partsR_push {m k : Nat} {F : List E3} (hk : k < m) : ((partsR m F).take (k + 1)).map (Value.int .i64) = ((partsR m F).take k).map (Value.int .i64) ++ [.int .i64 (minR F k : Int)] := by
  have h := @partsR_get m F k hk
  obtain ⟨h1, h2⟩ := List.getElem?_eq_some_iff.1 h
  rw [List.take_succ_eq_append_getElem h1, h2, List.map_append]
  rfl
end Go.Proofs.Ytpcealcghglopaa

namespace Go.Proofs.Ytpcealcghglopaa

/-- What the reference's Parts tells. -/
theorem partsR_eq {m : Nat} {F G : List E3} : partsR m F = partsR m G ↔ ∀ i, i < m → minR F i = minR G i := by
  unfold partsR
  rw [List.map_inj_left]
  constructor
  · intro h i hi
    have := h i (List.mem_range.2 hi)
    omega
  · intro h i hi
    rw [h i (List.mem_range.1 hi)]
theorem rootsN_parts {m : Nat} {F G : List E3} (h : partsR m F = partsR m G) : rootsN m F = rootsN m G := by
  have h := partsR_eq.1 h
  unfold rootsN
  apply List.countP_congr
  intro i hi
  have hi := List.mem_range.1 hi
  simp only [decide_eq_true_eq]
  rw [root_minR, root_minR, h i hi]
/-- How many numbers there are, each counted once. -/
def unlikeT (xs : List Int) : Nat → Nat
  | 0 => 0
  | k + 1 => unlikeT xs k + (if xs.getD k 0 ∈ xs.take k then 0 else 1)
theorem unlikeT_le (xs : List Int) : ∀ k, unlikeT xs k ≤ k
  | 0 => Nat.le_refl _
  | k + 1 => by
    have := unlikeT_le xs k
    simp only [unlikeT]
    split <;> omega
theorem unlike_partsR {m : Nat} {F : List E3} : ∀ k, k ≤ m → unlikeT (partsR m F) k = rootsN k F
  | 0, _ => rfl
  | k + 1, hk => by
    have ih := unlike_partsR (m := m) (F := F) k (by omega)
    simp only [unlikeT]
    rw [ih]
    unfold rootsN
    rw [List.range_succ, List.countP_append]
    congr 1
    have hg : (partsR m F).getD k 0 = (minR F k : Int) := by rw [List.getD_eq_getElem?_getD, partsR_get (by omega)]; rfl
    rw [hg]
    have hm : (minR F k : Int) ∈ (partsR m F).take k ↔ ¬ Root F k := by
      unfold partsR
      rw [← List.map_take, List.take_range, Nat.min_eq_left (by omega), List.mem_map]
      constructor
      · rintro ⟨j, hj, he⟩ hr
        have hj := List.mem_range.1 hj
        have e : minR F j = minR F k := by omega
        exact hr j hj (minR_eq.1 e).symm
      · intro hr
        have h1 : minR F k ≠ k := fun h => hr (root_minR.2 h)
        have h2 : minR F k ≤ k := minR_le
        refine ⟨minR F k, List.mem_range.2 (by omega), ?_⟩
        rw [root_minR.1 minR_root]
    by_cases hr : Root F k
    · rw [if_neg fun h => hm.1 h hr]; simp [hr]
    · rw [if_pos (hm.2 hr)]; simp [hr]
theorem rootsN_le (m : Nat) (F : List E3) : rootsN m F ≤ m := by
  have := List.countP_le_length (p := fun i => @decide (Root F i) (Classical.propDecidable _)) (l := List.range m)
  simpa [rootsN] using this
end Go.Proofs.Ytpcealcghglopaa

namespace Go.Proofs.Ytpcealcghglopaa
open Go.RowKit

set_option maxRecDepth 100000 in
set_option maxHeartbeats 400000 in
theorem unlikeT_any (A : Option Addr) (n c : Nat) (xs : List Int) (w : World) (h1 : IntsAt w w.heap.size A n xs) (hn : n ≤ 9223372036854775807) (hnc : n ≤ c) :
    Calls Try.prog 27 #[.slice A n c] w fun e w' => e = .returned (.int .i64 (unlikeT xs n)) ∧ w = w' := by
  have H1 := Lib.hid h1
  clear h1
  go_enter Try.func27, Try.ntmps27
  go_wp2
  go_loop [3, 8] (fun s j => ∃ k : Nat, k ≤ n ∧ j = .int .i64 k ∧ s = .int .i64 (unlikeT xs k)) (fun _ j => n - (intOf j).toNat)
  case atStart => exact ⟨0, Nat.zero_le _, rfl, rfl⟩
  case round =>
    obtain ⟨k, hk, rfl, rfl⟩ := hrel
    have hle := unlikeT_le xs k
    by_cases hlt : k < n
    · obtain ⟨b, off, y, rfl, _, hy, hc⟩ := H1.out.at_ hlt
      have HT := Lib.hid (H1.out.take_ hk)
      have hget : xs.getD k 0 = y := by rw [List.getD_eq_getElem?_getD, hy]; rfl
      by_cases hv : y ∈ xs.take k
      · have HU : Hid (unlikeT xs (k + 1) = unlikeT xs k) := Lib.hid (by rw [unlikeT, hget, if_pos hv]; rfl)
        have HV := Lib.hid (hasI_iff.2 hv)
        clear hv hy hget
        go_wp2_with (go_at_call 42; refine (has_v k c y true _ (xs.take k) _ (by exact HT.out) (by omega) HV.out).mono ?_; rintro e w' ⟨rfl, rfl⟩)
        go_round
        case rel => exact ⟨k + 1, by omega, by go_num, by rw [HU.out]⟩
        case measure => simp [intOf]; omega
      · have HU : Hid (unlikeT xs (k + 1) = unlikeT xs k + 1) := Lib.hid (by rw [unlikeT, hget, if_neg hv])
        have HV := Lib.hid (show hasI (xs.take k) y = false by rw [Bool.eq_false_iff, Ne, hasI_iff]; exact hv)
        clear hv hy hget
        go_wp2_with (go_at_call 42; refine (has_v k c y false _ (xs.take k) _ (by exact HT.out) (by omega) HV.out).mono ?_; rintro e w' ⟨rfl, rfl⟩)
        go_round
        case rel => exact ⟨k + 1, by omega, by go_num, by rw [HU.out]; go_num⟩
        case measure => simp [intOf]; omega
    · obtain rfl : k = n := by omega
      go_wp2
      go_ret
      exact ⟨rfl, rfl⟩

end Go.Proofs.Ytpcealcghglopaa

namespace Go.Proofs.Ytpcealcghglopaa
open Go.RowKit

set_option maxRecDepth 100000 in
set_option maxHeartbeats 400000 in
theorem good_any (n : Int) (A : Option Addr) (len cap : Nat) (es : List E3) (w : World) (hE : EdgesAt w w.heap.size A len es) (hcap : len ≤ cap) :
    Calls Try.prog 25 #[.agg #[.int .i64 n, .slice A len cap]] w fun e w' => e = .returned (.bool (gcheck n es == 0)) ∧ Below w.heap.size w w' := by
  have HE := Lib.hid (show EdgesAt (bx w n A len cap) (bx w n A len cap).heap.size A len es from (hE.alloc (Nat.le_refl _) _).more (by simp [bx]))
  clear hE
  go_enter Try.func25, Try.ntmps25
  go_wp2_with (go_at_call 16; refine (graphCheck_any n A len cap es _ (by exact HE.out) hcap).mono ?_; rintro e w2 ⟨rfl, hb2⟩)
  go_ret
  exact ⟨rfl, ((Below.refl _ _).alloc (Nat.le_refl _) _).trans (hb2.mono (by simp))⟩
set_option maxRecDepth 100000 in
theorem good_v (n : Int) (A : Option Addr) (len cap : Nat) (es : List E3) (v : Bool) (w : World) (hE : EdgesAt w w.heap.size A len es) (hcap : len ≤ cap) (hv : (gcheck n es == 0) = v) :
    Calls Try.prog 25 #[.agg #[.int .i64 n, .slice A len cap]] w fun e w' => e = .returned (.bool v) ∧ Below w.heap.size w w' := by
  subst hv; exact good_any n A len cap es w hE hcap

end Go.Proofs.Ytpcealcghglopaa

namespace Go.Proofs.Ytpcealcghglopaa
open Go.RowKit

theorem unlikeT_mono {xs : List Int} : ∀ {i j : Nat}, i ≤ j → unlikeT xs i ≤ unlikeT xs j := fun {i j} h => by
  obtain ⟨d, rfl⟩ : ∃ d, j = i + d := ⟨j - i, by omega⟩
  clear h
  induction d with
  | zero => exact Nat.le_refl _
  | succ d ih =>
    show _ ≤ unlikeT xs (i + d) + _
    omega
/-- The unlike members have as many numbers as there are. -/
theorem unlike_rank (xs : List Int) (n : Nat) (hn : xs.length = n) : ∃ f : Nat → Nat, (∀ i, i < n → f i < unlikeT xs n) ∧ ∀ i j, i < n → j < n → f i = f j → xs.getD i 0 = xs.getD j 0 := by
  have hfirst : ∀ i, i < n → ∃ t, t ≤ i ∧ xs.getD t 0 = xs.getD i 0 ∧ xs.getD t 0 ∉ xs.take t := fun i => by
    induction i using Nat.strongRecOn with
    | _ i ih =>
      intro hi
      by_cases hm : xs.getD i 0 ∈ xs.take i
      · obtain ⟨t, ht⟩ := List.getElem?_of_mem hm
        have hti : t < i := by
          have := (List.getElem?_eq_some_iff.1 ht).1
          rw [List.length_take] at this
          omega
        rw [List.getElem?_take, if_pos hti] at ht
        have e : xs.getD t 0 = xs.getD i 0 := by rw [List.getD_eq_getElem?_getD, ht]; rfl
        obtain ⟨s, h1, h2, h3⟩ := ih t hti (by omega)
        exact ⟨s, by omega, h2.trans e, h3⟩
      · exact ⟨i, Nat.le_refl _, rfl, hm⟩
  have hstep : ∀ t, xs.getD t 0 ∉ xs.take t → unlikeT xs (t + 1) = unlikeT xs t + 1 := fun t h => by
    show unlikeT xs t + _ = _
    rw [if_neg h]
  have hch : ∀ i, ∃ t, i < n → (t ≤ i ∧ xs.getD t 0 = xs.getD i 0 ∧ xs.getD t 0 ∉ xs.take t) := fun i => by
    by_cases hi : i < n
    · obtain ⟨t, h⟩ := hfirst i hi
      exact ⟨t, fun _ => h⟩
    · exact ⟨0, fun h => absurd h hi⟩
  obtain ⟨F, hF⟩ := Classical.axiomOfChoice hch
  refine ⟨fun i => unlikeT xs (F i), fun i hi => ?_, fun i j hi hj e => ?_⟩
  · obtain ⟨h1, h2, h3⟩ := hF i hi
    have h4 := hstep _ h3
    have h5 := unlikeT_mono (xs := xs) (show F i + 1 ≤ n by omega)
    show unlikeT xs (F i) < _
    omega
  · obtain ⟨h1, h2, h3⟩ := hF i hi
    obtain ⟨g1, g2, g3⟩ := hF j hj
    have e' : unlikeT xs (F i) = unlikeT xs (F j) := e
    rcases Nat.lt_trichotomy (F i) (F j) with h | h | h
    · have h5 := unlikeT_mono (xs := xs) (show F i + 1 ≤ F j by omega)
      rw [hstep _ h3] at h5
      omega
    · rw [← h2, ← g2, h]
    · have h5 := unlikeT_mono (xs := xs) (show F j + 1 ≤ F i by omega)
      rw [hstep _ g3] at h5
      omega
theorem adj_right {n : Nat} {es : List E3} {k : Int} {xs : List Int} (h : RightL n es k xs) (hI : InE n es) {i j : Nat} (ha : adjE es i j = true) : xs.getD i 0 ≠ xs.getD j 0 := by
  unfold adjE at ha
  rw [List.any_eq_true] at ha
  obtain ⟨e, he, hb⟩ := ha
  have h1 := h.2.2 e he
  have h2 := hI e he
  simp only [Bool.or_eq_true, Bool.and_eq_true, beq_iff_eq] at hb
  rcases hb with ⟨a, b⟩ | ⟨a, b⟩
  · rw [a, b] at h1; exact h1
  · rw [a, b] at h1; exact fun e => h1 e.symm
theorem right_of_part {n k : Nat} {es : List E3} {l : List Nat} (h : PartL (adjE es) k l) (hl : l.length = n) (hg : goodE n es) : RightL n es k (natG l) := by
  have hget : ∀ i, i < n → (natG l).getD i 0 = (l.getD i 0 : Nat) := fun i hi => by
    unfold natG
    rw [List.getD_eq_getElem?_getD, List.getElem?_map, List.getD_eq_getElem?_getD, List.getElem?_eq_getElem (by omega)]
    rfl
  refine ⟨by unfold natG; simp [hl], fun x hx => ?_, fun e he => ?_⟩
  · obtain ⟨i, hi⟩ := List.getElem?_of_mem hx
    obtain ⟨c, hc, rfl⟩ := natG_get hi
    have hil := (List.getElem?_eq_some_iff.1 hc).1
    have := h.lt i hil
    rw [List.getD_eq_getElem?_getD, hc] at this
    simp only [Option.getD_some] at this
    omega
  · obtain ⟨p0, p1, p2, p3⟩ := InE.of_good hg e he
    obtain ⟨x, hx⟩ := Int.eq_ofNat_of_zero_le p0
    obtain ⟨y, hy⟩ := Int.eq_ofNat_of_zero_le p2
    have ha : adjE es x y = true := by
      unfold adjE
      rw [List.any_eq_true]
      exact ⟨e, he, by simp [hx, hy]⟩
    have hxy := (adjE_lt hg ha).2.2
    rw [hx, hy]
    simp only [Int.toNat_natCast]
    rw [hget x (by omega), hget y (by omega)]
    intro e2
    rcases Nat.lt_or_gt_of_ne hxy with h1 | h1
    · exact h.ne y x (by omega) h1 ha (by omega)
    · exact h.ne x y (by omega) h1 (by rw [adjE_symm]; exact ha) (by omega)
set_option maxRecDepth 100000 in
set_option maxHeartbeats 2000000 in
theorem colourFew_of (n : Int) (A : Option Addr) (len cap : Nat) (es : List E3) (A2 : Option Addr) (len2 cap2 : Nat) (xs : List Int) (w : World) (hE : EdgesAt w w.heap.size A len es) (hcap : len ≤ cap) (hI : IntsAt w w.heap.size A2 len2 xs) (hcap2 : len2 ≤ cap2) (hm2 : len2 ≤ 9223372036854775807)
    (HO : ∀ W, EdgesAt W W.heap.size A len es → Calls Try.prog 15 #[.agg #[.int .i64 n, .slice A len cap]] W (LeastTop W n es)) :
    Calls Try.prog 7 #[.agg #[.int .i64 n, .slice A len cap], .slice A2 len2 cap2] w fun e w' => e = .returned (.bool true) ∧ Below w.heap.size w w' := by
  have HX := Lib.hid (BoxG.start (n := n) (cap := cap) hE)
  have HI := Lib.hid (hI.go_ (show Below w.heap.size w (bx w n A len cap) from (Below.refl _ _).alloc (Nat.le_refl _) _))
  have HLX : Hid (xs.length = len2) := Lib.hid hI.1
  have HOO := Lib.hid HO
  obtain ⟨x, hx⟩ : ∃ x, gcheck n es = x := ⟨_, rfl⟩
  have HCX := Lib.hid hx
  have k0 := HX.out.c0
  have k1 := HX.out.c1
  have HLE : Hid (es.length = len) := Lib.hid hE.1
  clear hE HO hI
  by_cases h0 : x = 0
  · subst h0
    obtain ⟨hn0, hn1, hl, hg⟩ := good_of_gcheck hx
    obtain ⟨m, rfl⟩ := Int.eq_ofNat_of_zero_le hn0
    have hm10 : m ≤ 10 := by omega
    have hlen : len ≤ 45 := by have := HLE.out; omega
    have HG := Lib.hid hg
    have HCK := Lib.hid (fun W hW => good_v (m : Int) A len cap es true W hW hcap (by rw [hx]; rfl))
    have HRV := Lib.hid (fun k A3 len3 c3 ys v W hW h2 h3 hv => right_v m A len cap es k A3 len3 c3 ys v W hW hlen (InE.of_good hg) h2 h3 hm10 hv)
    clear hx hg hl
    obtain ⟨u, hu⟩ : ∃ u : Bool, u = true ↔ RightL m es 12 xs := by
      by_cases h : RightL m es 12 xs
      · exact ⟨true, fun _ => h, fun _ => rfl⟩
      · exact ⟨false, fun h => (by cases h), fun h' => absurd h' h⟩
    have HU := Lib.hid hu
    clear hu
    go_enter Try.func7, Try.ntmps7
    go_wp2_with fail
    refine (HOO.out _ HX.out.edges).mono ?_
    rintro e w1 ⟨_, h2, hB⟩
    obtain ⟨k, l, A1, c1, hL, rfl, hi, _⟩ := h2 HCX.out
    have e0 : ((m : Int)).toNat = m := rfl
    rw [e0] at hL hi
    rw [e0]
    have HLC := Lib.hid hL
    have HX1 := Lib.hid (HX.out.next hB)
    have HI1 := Lib.hid (HI.out.go_ hB)
    have HA1 := Lib.hid hi
    have k0' := HX1.out.c0
    have k1' := HX1.out.c1
    clear h2 hB hi hL HOO e0 k0 k1
    go_wp2_with fail
    refine (HCK.out _ HX1.out.edges).mono ?_
    rintro e w2 ⟨rfl, hB⟩
    have HX2 := Lib.hid (HX1.out.next hB)
    have HI2 := Lib.hid (HI1.out.go_ hB)
    have HA2 := Lib.hid (HA1.out.go_ hB)
    have q0 := HX2.out.c0
    have q1 := HX2.out.c1
    clear hB k0' k1'
    go_wp2_with fail
    refine (HRV.out (k : Int) A1 m c1 (natG l) true _ HX2.out.edges HA2.out (by omega) ⟨fun _ => right_of_part HLC.out.part.1 HLC.out.part.2 HG.out, fun _ => rfl⟩).mono ?_
    rintro e w3 ⟨rfl, hB⟩
    have HX3 := Lib.hid (HX2.out.next hB)
    have HI3 := Lib.hid (HI2.out.go_ hB)
    have r0 := HX3.out.c0
    have r1 := HX3.out.c1
    clear hB q0 q1
    go_wp2_with fail
    refine (HRV.out 12 A2 len2 cap2 xs u _ HX3.out.edges HI3.out hm2 HU.out).mono ?_
    rintro e w4 ⟨rfl, hB⟩
    have HX4 := Lib.hid (HX3.out.next hB)
    have HI4 := Lib.hid (HI3.out.go_ hB)
    clear hB r0 r1
    cases u with
    | false =>
      go_wp2_with fail
      go_ret
      exact ⟨rfl, HX4.out.below⟩
    | true =>
      have hle : (k : Int) ≤ (unlikeT xs len2 : Int) := by
        have hr := HU.out.1 rfl
        have hlm : len2 = m := by have := hr.1; have := HLX.out; omega
        subst hlm
        obtain ⟨f, h1, h2⟩ := unlike_rank xs len2 HLX.out
        have := HLC.out.le (col := f) h1 fun i j hi hj ha e => adj_right hr (InE.of_good HG.out) ha (h2 j i (by omega) hi e)
        omega
      go_wp2_with fail
      refine (unlikeT_any A2 len2 cap2 xs _ HI4.out hm2 hcap2).mono ?_
      rintro e w5 ⟨rfl, rfl⟩
      go_wp2_with fail
      go_ret
      exact ⟨rfl, HX4.out.below⟩
  · have HH0 := Lib.hid h0
    have hx0 : (x != 0) = true := by simpa using h0
    have HCK := Lib.hid (fun W hW => good_v n A len cap es false W hW hcap (by rw [hx]; simpa using h0))
    clear hx h0
    go_enter Try.func7, Try.ntmps7
    go_wp2_with fail
    refine (HOO.out _ HX.out.edges).mono ?_
    rintro e w1 ⟨h1, _, hB⟩
    obtain rfl := h1 (by rw [HCX.out]; exact HH0.out)
    rw [HCX.out]
    have HX1 := Lib.hid (HX.out.next hB)
    have k0' := HX1.out.c0
    have k1' := HX1.out.c1
    clear h1 hB HOO k0 k1
    go_wp2_with fail
    refine (HCK.out _ HX1.out.edges).mono ?_
    rintro e w2 ⟨rfl, hB⟩
    have HX2 := Lib.hid (HX1.out.next hB)
    clear hB k0' k1'
    go_wp2_with fail
    go_ret
    exact ⟨rfl, HX2.out.below⟩
end Go.Proofs.Ytpcealcghglopaa

namespace Go.Proofs.Ytpcealcghglopaa

section
variable {n : Nat} {A B : Nat → Bool}
theorem sizeP_sub : ∀ {n : Nat}, (∀ i, i < n → A i = true → B i = true) → sizeP A n ≤ sizeP B n := fun {n} h => sumTo_le n fun j hj => by
  by_cases ha : A j = true
  · rw [if_pos ha, if_pos (h j hj ha)]; exact Nat.le_refl _
  · rw [if_neg ha]; exact Nat.zero_le _
theorem sizeP_lt (h : ∀ i, A i = true → B i = true) {u : Nat} (hu : u < n) (h1 : A u = false) (h2 : B u = true) : sizeP A n < sizeP B n := by
  refine sumTo_one (i := u) (fun j _ => ?_) ?_ n hu
  · by_cases ha : A j = true
    · rw [if_pos ha, if_pos (h j ha)]; exact Nat.le_refl _
    · rw [if_neg ha]; exact Nat.zero_le _
  · rw [if_neg (by simp [h1]), if_pos h2]; exact Nat.le_refl _
/-- Without one. -/
def delB (A : Nat → Bool) (i : Nat) : Nat → Bool := fun x => A x && !decide (x = i)
theorem delB_iff {i x : Nat} : delB A i x = true ↔ A x = true ∧ x ≠ i := by simp [delB]
theorem sizeP_del {i : Nat} (ha : A i = true) : ∀ {n : Nat}, i < n → sizeP A n = sizeP (delB A i) n + 1
  | n + 1, h => by
    rw [sizeP_succ, sizeP_succ]
    by_cases hin : i = n
    · subst hin
      have e : sizeP (delB A i) i = sizeP A i := sizeP_congr i fun j hj => by simp [delB, show j ≠ i by omega]
      rw [e, if_pos ha, if_neg (by simp [delB])]
    · have ih := sizeP_del ha (show i < n by omega)
      rw [ih]
      have e : delB A i n = A n := by simp [delB, show n ≠ i from fun e => hin e.symm]
      rw [e]; omega
theorem sizeP_pos : ∀ {n : Nat}, 0 < sizeP A n → ∃ i, i < n ∧ A i = true
  | 0, h => absurd h (by simp [sizeP, sumTo])
  | n + 1, h => by
    rw [sizeP_succ] at h
    by_cases ha : A n = true
    · exact ⟨n, by omega, ha⟩
    · rw [if_neg ha] at h
      obtain ⟨i, h1, h2⟩ := sizeP_pos (show 0 < sizeP A n by omega)
      exact ⟨i, by omega, h2⟩
theorem sizeP_none (h : ∀ i, i < n → A i = false) : sizeP A n = 0 := sumTo_zero n fun j hj => if_neg (by simp [h j hj])
theorem sizeP_two {t : Nat} (h : 2 ≤ sizeP A n) : ∃ x, x < n ∧ A x = true ∧ x ≠ t := by
  by_cases ht : t < n ∧ A t = true
  · have := sizeP_del ht.2 ht.1
    obtain ⟨x, h1, h2⟩ := sizeP_pos (show 0 < sizeP (delB A t) n by omega)
    obtain ⟨h3, h4⟩ := delB_iff.1 h2
    exact ⟨x, h1, h3, h4⟩
  · obtain ⟨x, h1, h2⟩ := sizeP_pos (show 0 < sizeP A n by omega)
    exact ⟨x, h1, h2, fun e => ht (by subst e; exact ⟨h1, h2⟩)⟩
theorem sizeP_part (A B : Nat → Bool) : ∀ n, sizeP A n = sizeP (fun i => A i && B i) n + sizeP (fun i => A i && !B i) n
  | 0 => rfl
  | n + 1 => by
    rw [sizeP_succ, sizeP_succ, sizeP_succ, sizeP_part A B n]
    cases ha : A n <;> cases hb : B n <;> simp <;> omega
/-- An injection. -/
theorem sizeP_inj : ∀ (c : Nat) {A B : Nat → Bool} {m : Nat → Nat}, sizeP A n = c → (∀ i, i < n → A i = true → m i < n ∧ B (m i) = true) → (∀ i j, i < n → j < n → A i = true → A j = true → m i = m j → i = j) → sizeP A n ≤ sizeP B n
  | 0, A, B, m, hc, _, _ => by rw [hc]; exact Nat.zero_le _
  | c + 1, A, B, m, hc, h1, h2 => by
    obtain ⟨i, hi, ha⟩ := sizeP_pos (show 0 < sizeP A n by omega)
    obtain ⟨g1, g2⟩ := h1 i hi ha
    have e1 := sizeP_del ha hi
    have e2 := sizeP_del g2 g1
    have := sizeP_inj c (A := delB A i) (B := delB B (m i)) (m := m) (by omega) (fun j hj hA => by
      obtain ⟨k1, k2⟩ := delB_iff.1 hA
      obtain ⟨k3, k4⟩ := h1 j hj k1
      exact ⟨k3, delB_iff.2 ⟨k4, fun e => k2 (h2 j i hj hi k1 ha e)⟩⟩) fun a b ha' hb' hA hB e => h2 a b ha' hb' (delB_iff.1 hA).1 (delB_iff.1 hB).1 e
    omega
/-- A set whose members are in pairs is even. -/
theorem even_pairs : ∀ (c : Nat) {A : Nat → Bool} {m : Nat → Nat}, sizeP A n ≤ c → (∀ i, i < n → A i = true → m i < n ∧ A (m i) = true ∧ m (m i) = i ∧ m i ≠ i) → sizeP A n % 2 = 0
  | 0, A, m, hc, _ => by rw [show sizeP A n = 0 by omega]
  | c + 1, A, m, hc, h => by
    rcases Nat.eq_zero_or_pos (sizeP A n) with h0 | h0
    · rw [h0]
    · obtain ⟨i, hi, ha⟩ := sizeP_pos h0
      obtain ⟨g1, g2, g3, g4⟩ := h i hi ha
      have e1 := sizeP_del ha hi
      have e2 := sizeP_del (A := delB A i) (delB_iff.2 ⟨g2, g4⟩) g1
      have := even_pairs c (A := delB (delB A i) (m i)) (m := m) (by omega) fun j hj hA => by
        obtain ⟨k1, k2⟩ := delB_iff.1 hA
        obtain ⟨k3, k4⟩ := delB_iff.1 k1
        obtain ⟨q1, q2, q3, q4⟩ := h j hj k3
        refine ⟨q1, delB_iff.2 ⟨delB_iff.2 ⟨q2, fun e => k2 (by rw [← q3, e])⟩, fun e => k4 (by rw [← q3, e, g3])⟩, q3, q4⟩
      omega
theorem sumTo_ind (v : Nat) : ∀ N, sumTo (fun i => if v = i then 1 else 0) N = if v < N then 1 else 0
  | 0 => rfl
  | N + 1 => by
    simp only [sumTo]
    rw [sumTo_ind v N]
    by_cases h1 : v < N
    · rw [if_pos h1, if_neg (by omega), if_pos (by omega)]
    · by_cases h2 : v = N
      · rw [if_neg h1, if_pos h2, if_pos (by omega)]
      · rw [if_neg h1, if_neg h2, if_neg (by omega)]
/-- A set by its parts. -/
theorem sizeP_parts {N : Nat} {lab : Nat → Nat} : ∀ k, (∀ j, j < k → A j = true → lab j < N) → sumTo (fun i => sizeP (fun j => A j && decide (lab j = i)) k) N = sizeP A k
  | 0, _ => sumTo_zero N fun _ _ => rfl
  | k + 1, h => by
    have ih := sizeP_parts k fun j hj => h j (by omega)
    have e : sumTo (fun i => sizeP (fun j => A j && decide (lab j = i)) (k + 1)) N = sumTo (fun i => sizeP (fun j => A j && decide (lab j = i)) k + (if (A k && decide (lab k = i)) = true then 1 else 0)) N := sumTo_congr N fun i _ => sizeP_succ _ k
    rw [e, sumTo_add, ih, sizeP_succ]
    congr 1
    by_cases hA : A k = true
    · rw [if_pos hA]
      have e2 : sumTo (fun i => if (A k && decide (lab k = i)) = true then 1 else 0) N = sumTo (fun i => if lab k = i then 1 else 0) N := sumTo_congr N fun i _ => by simp [hA]
      rw [e2, sumTo_ind, if_pos (h k (by omega) hA)]
    · rw [if_neg hA]
      exact sumTo_zero N fun i _ => if_neg (by simp [hA])
end

/-- Whom each node of a set is bound to: itself, if to nobody. -/
structure Mat (adj : Nat → Nat → Bool) (n : Nat) (S : Nat → Bool) (m : Nat → Nat) : Prop where
  in_ : ∀ i, i < n → S i = true → m i < n ∧ S (m i) = true
  inv : ∀ i, i < n → S i = true → m (m i) = i
  adj_ : ∀ i, i < n → S i = true → m i ≠ i → adj i (m i) = true
/-- Who is left over. -/
def fixB (S : Nat → Bool) (m : Nat → Nat) : Nat → Bool := fun i => S i && decide (m i = i)
theorem fixB_iff {S : Nat → Bool} {m : Nat → Nat} {i : Nat} : fixB S m i = true ↔ S i = true ∧ m i = i := by simp [fixB]
/-- Linked within a set by so many steps. -/
def lnkS (adj : Nat → Nat → Bool) (n : Nat) (S : Nat → Bool) : Nat → Nat → Nat → Prop
  | 0, u, v => u = v
  | k + 1, u, v => ∃ t, t < n ∧ S t = true ∧ lnkS adj n S k u t ∧ adj t v = true
/-- Names of the parts within a set. -/
structure LabOK (adj : Nat → Nat → Bool) (n : Nat) (T : Nat → Bool) (lab : Nat → Nat) : Prop where
  lt : ∀ a, a < n → T a = true → lab a < n
  near : ∀ a b, a < n → b < n → T a = true → T b = true → adj a b = true → lab a = lab b
  far : ∀ a b, a < n → b < n → T a = true → T b = true → lab a = lab b → ∃ k, lnkS adj n T k a b
/-- How many parts are odd. -/
def oddS (n : Nat) (lab : Nat → Nat) (T : Nat → Bool) : Nat := sumTo (fun i => sizeP (fun j => T j && decide (lab j = i)) n % 2) n
section
variable {adj : Nat → Nat → Bool} {n : Nat} {S : Nat → Bool} {m : Nat → Nat}
theorem Mat.par (H : Mat adj n S m) : sizeP S n % 2 = sizeP (fixB S m) n % 2 := by
  have h1 := sizeP_part S (fun i => decide (m i = i)) n
  have h2 : sizeP (fun i => S i && !decide (m i = i)) n % 2 = 0 := even_pairs _ (m := m) (Nat.le_refl _) fun i hi hA => by
    simp only [Bool.and_eq_true, Bool.not_eq_true', decide_eq_false_iff_not] at hA ⊢
    obtain ⟨g1, g2⟩ := H.in_ i hi hA.1
    have g3 := H.inv i hi hA.1
    exact ⟨g1, ⟨g2, fun e => hA.2 (by rw [g3] at e; exact e.symm)⟩, g3, hA.2⟩
  have e : sizeP (fun i => S i && decide (m i = i)) n = sizeP (fixB S m) n := rfl
  omega
/-- BERGE: behind no wall more parts are odd than are left over, and than the wall has. -/
theorem berge_le {T : Nat → Bool} {lab : Nat → Nat} (H : Mat adj n (fun _ => true) m) (hlt : ∀ a, a < n → T a = true → lab a < n) (hnear : ∀ a b, a < n → b < n → T a = true → T b = true → adj a b = true → lab a = lab b) :
    oddS n lab T + sizeP T n ≤ n + sizeP (fixB (fun _ => true) m) n := by
  have hbad : oddS n lab T ≤ sumTo (fun i => sizeP (fun j => (T j && (decide (m j = j) || !T (m j))) && decide (lab j = i)) n) n := sumTo_le n fun i _ => by
    rcases Nat.eq_zero_or_pos (sizeP (fun j => (T j && (decide (m j = j) || !T (m j))) && decide (lab j = i)) n) with h0 | h0
    · rw [h0]
      have hno : ∀ j, j < n → T j = true → lab j = i → m j ≠ j ∧ T (m j) = true := fun j hj h1 h2 => by
        have hz : (T j && (decide (m j = j) || !T (m j)) && decide (lab j = i)) = false := by
          cases hb : (T j && (decide (m j = j) || !T (m j)) && decide (lab j = i)) with
          | false => rfl
          | true =>
            have := sizeP_del (A := fun j => (T j && (decide (m j = j) || !T (m j))) && decide (lab j = i)) hb hj
            omega
        rw [h1, decide_eq_true h2] at hz
        simp at hz
        exact ⟨hz.1, hz.2⟩
      rw [even_pairs _ (m := m) (Nat.le_refl _) fun j hj hA => ?_]
      · exact Nat.le_refl _
      · simp only [Bool.and_eq_true, decide_eq_true_eq] at hA ⊢
        obtain ⟨g1, g2⟩ := hno j hj hA.1 hA.2
        obtain ⟨g3, _⟩ := H.in_ j hj rfl
        have g4 := hnear j (m j) hj g3 hA.1 g2 (H.adj_ j hj rfl g1)
        exact ⟨g3, ⟨g2, by rw [← g4]; exact hA.2⟩, H.inv j hj rfl, g1⟩
    · have := Nat.mod_lt (sizeP (fun j => T j && decide (lab j = i)) n) (show 0 < 2 by omega)
      omega
  rw [sizeP_parts (A := fun j => T j && (decide (m j = j) || !T (m j))) n (fun j hj hA => hlt j hj (by simp only [Bool.and_eq_true] at hA; exact hA.1))] at hbad
  have h1 := sizeP_part (fun j => T j && (decide (m j = j) || !T (m j))) (fun j => decide (m j = j)) n
  have h2 : sizeP (fun i => (T i && (decide (m i = i) || !T (m i))) && decide (m i = i)) n ≤ sizeP (fixB (fun _ => true) m) n := sizeP_sub fun i _ h => by
    simp only [Bool.and_eq_true] at h
    exact fixB_iff.2 ⟨rfl, by simpa using h.2⟩
  have h3 : sizeP (fun i => (T i && (decide (m i = i) || !T (m i))) && !decide (m i = i)) n ≤ sizeP (fun i => !T i) n := sizeP_inj _ (m := m) rfl (fun i hi h => by
    simp only [Bool.and_eq_true, Bool.or_eq_true, decide_eq_true_eq, Bool.not_eq_true', decide_eq_false_iff_not] at h ⊢
    exact ⟨(H.in_ i hi rfl).1, h.1.2.resolve_left h.2⟩) fun i j hi hj _ _ e => by rw [← H.inv i hi rfl, ← H.inv j hj rfl, e]
  have h4 := sizeP_not T n
  omega
/-- One with the least left over. -/
def Least (adj : Nat → Nat → Bool) (n : Nat) (S : Nat → Bool) (m : Nat → Nat) : Prop := Mat adj n S m ∧ ∀ m', Mat adj n S m' → sizeP (fixB S m) n ≤ sizeP (fixB S m') n
theorem mat_id : Mat adj n S id := ⟨fun _i hi h => ⟨hi, h⟩, fun _ _ _ => rfl, fun _i _ _ h => absurd rfl h⟩
theorem least_ex : ∃ m, Least adj n S m := by
  have : ∀ c m, Mat adj n S m → sizeP (fixB S m) n ≤ c → ∃ m, Least adj n S m := fun c => by
    induction c with
    | zero => exact fun m hm h0 => ⟨m, hm, fun m' _ => by omega⟩
    | succ c ih =>
      intro m hm hc
      by_cases h : ∃ m', Mat adj n S m' ∧ sizeP (fixB S m') n ≤ c
      · obtain ⟨m', h1, h2⟩ := h
        exact ih m' h1 h2
      · exact ⟨m, hm, fun m' h1 => by
          have : ¬ sizeP (fixB S m') n ≤ c := fun h2 => h ⟨m', h1, h2⟩
          omega⟩
  exact this _ id mat_id (Nat.le_refl _)
/-- Among those that leave t over, one that agrees with m the most. -/
theorem agree_ex {t : Nat} (h : ∃ N, Least adj n S N ∧ N t = t) : ∃ N, Least adj n S N ∧ N t = t ∧ ∀ N', Least adj n S N' → N' t = t → sizeP (fun i => S i && decide (m i = N' i)) n ≤ sizeP (fun i => S i && decide (m i = N i)) n := by
  have : ∀ c N, Least adj n S N → N t = t → n ≤ sizeP (fun i => S i && decide (m i = N i)) n + c → ∃ N, Least adj n S N ∧ N t = t ∧ ∀ N', Least adj n S N' → N' t = t → sizeP (fun i => S i && decide (m i = N' i)) n ≤ sizeP (fun i => S i && decide (m i = N i)) n := fun c => by
    induction c with
    | zero => exact fun N h1 h2 h3 => ⟨N, h1, h2, fun N' _ _ => by have := sizeP_le (fun i => S i && decide (m i = N' i)) n; omega⟩
    | succ c ih =>
      intro N h1 h2 h3
      by_cases hb : ∃ N', Least adj n S N' ∧ N' t = t ∧ sizeP (fun i => S i && decide (m i = N i)) n < sizeP (fun i => S i && decide (m i = N' i)) n
      · obtain ⟨N', g1, g2, g3⟩ := hb
        exact ih N' g1 g2 (by omega)
      · exact ⟨N, h1, h2, fun N' g1 g2 => by
          have : ¬ sizeP (fun i => S i && decide (m i = N i)) n < sizeP (fun i => S i && decide (m i = N' i)) n := fun g3 => hb ⟨N', g1, g2, g3⟩
          omega⟩
  obtain ⟨N, h1, h2⟩ := h
  exact this n N h1 h2 (by omega)
variable (hsym : ∀ a b, adj a b = adj b a)
include hsym
/-- Two that have an edge are not both left over. -/
theorem no_aug (H : Least adj n S m) {u v : Nat} (hu : u < n) (hv : v < n) (hSu : S u = true) (hSv : S v = true) (huv : u ≠ v) (ha : adj u v = true) : ¬ (m u = u ∧ m v = v) := by
  rintro ⟨h1, h2⟩
  have hne : ∀ i, i < n → S i = true → i ≠ u → i ≠ v → m i ≠ u ∧ m i ≠ v := fun i hi hSi hiu hiv => by
    have := H.1.inv i hi hSi
    exact ⟨fun e => hiu (by rw [← this, e, h1]), fun e => hiv (by rw [← this, e, h2])⟩
  have hM : Mat adj n S (fun i => if i = u then v else if i = v then u else m i) := by
    refine ⟨fun i hi hSi => ?_, fun i hi hSi => ?_, fun i hi hSi hi2 => ?_⟩
    · by_cases e1 : i = u
      · simp only [if_pos e1]; exact ⟨hv, hSv⟩
      · by_cases e2 : i = v
        · simp only [if_neg e1, if_pos e2]; exact ⟨hu, hSu⟩
        · simp only [if_neg e1, if_neg e2]; exact H.1.in_ i hi hSi
    · by_cases e1 : i = u
      · simp only [if_pos e1, if_neg (Ne.symm huv), if_true]; exact e1.symm
      · by_cases e2 : i = v
        · simp only [if_neg e1, if_pos e2, if_true]; exact e2.symm
        · obtain ⟨g1, g2⟩ := hne i hi hSi e1 e2
          simp only [if_neg e1, if_neg e2, if_neg g1, if_neg g2]; exact H.1.inv i hi hSi
    · by_cases e1 : i = u
      · simp only [if_pos e1]; rw [e1]; exact ha
      · by_cases e2 : i = v
        · simp only [if_neg e1, if_pos e2]; rw [e2, hsym]; exact ha
        · simp only [if_neg e1, if_neg e2] at hi2 ⊢; exact H.1.adj_ i hi hSi hi2
  have := H.2 _ hM
  have hlt : sizeP (fixB S (fun i => if i = u then v else if i = v then u else m i)) n < sizeP (fixB S m) n := sizeP_lt (u := u) (fun i hi => by
    obtain ⟨g1, g2⟩ := fixB_iff.1 hi
    refine fixB_iff.2 ⟨g1, ?_⟩
    by_cases e1 : i = u
    · rw [e1]; exact h1
    · by_cases e2 : i = v
      · rw [e2]; exact h2
      · simp only [if_neg e1, if_neg e2] at g2; exact g2) hu (by
      cases hb : fixB S (fun i => if i = u then v else if i = v then u else m i) u with
      | false => rfl
      | true =>
        have := (fixB_iff.1 hb).2
        simp only [if_true] at this
        exact absurd this.symm huv) (fixB_iff.2 ⟨hSu, h1⟩)
  omega
/-- GALLAI: where each one is left over by some best one, no two that are linked are left over by the same. -/
theorem gallai (hall : ∀ t, t < n → S t = true → ∃ N, Least adj n S N ∧ N t = t) : ∀ (k u v : Nat) (M : Nat → Nat), u < n → v < n → S u = true → S v = true → lnkS adj n S k u v → u ≠ v → Least adj n S M → ¬ (M u = u ∧ M v = v)
  | 0, u, v, M, _, _, _, _, hl, huv, _ => absurd hl huv
  | k + 1, u, v, M, hu, hv, hSu, hSv, ⟨t, ht, hSt, hl, hta⟩, huv, HM => by
    rintro ⟨hMu, hMv⟩
    by_cases htu : t = u
    · subst htu
      exact no_aug hsym HM hu hv hSu hSv huv hta ⟨hMu, hMv⟩
    by_cases htv : t = v
    · subst htv
      exact gallai hall k u t M hu hv hSu hSv hl huv HM ⟨hMu, hMv⟩
    have hMt : M t ≠ t := fun e => no_aug hsym HM ht hv hSt hSv htv hta ⟨e, hMv⟩
    obtain ⟨N, HN, hNt, hmax⟩ := agree_ex (m := M) (hall t ht hSt)
    have hNu : N u ≠ u := fun e => gallai hall k u t N hu ht hSu hSt hl (Ne.symm htu) HN ⟨e, hNt⟩
    have hNv : N v ≠ v := fun e => no_aug hsym HN ht hv hSt hSv htv hta ⟨hNt, e⟩
    -- two at least are left over by M and not by N, so two by N and not by M
    have hfe : sizeP (fixB S M) n = sizeP (fixB S N) n := Nat.le_antisymm (HM.2 N HN.1) (HN.2 M HM.1)
    have p1 := sizeP_part (fixB S M) (fixB S N) n
    have p2 := sizeP_part (fixB S N) (fixB S M) n
    have p3 : sizeP (fun i => fixB S M i && fixB S N i) n = sizeP (fun i => fixB S N i && fixB S M i) n := sizeP_congr n fun i _ => Bool.and_comm _ _
    have hb : ∀ x, S x = true → M x = x → N x ≠ x → (fixB S M x && !fixB S N x) = true := fun x h1 h2 h3 => by
      rw [fixB_iff.2 ⟨h1, h2⟩]
      cases hx : fixB S N x with
      | false => rfl
      | true => exact absurd (fixB_iff.1 hx).2 h3
    have e1 := sizeP_del (A := fun i => fixB S M i && !fixB S N i) (hb u hSu hMu hNu) hu
    have e2 := sizeP_del (A := delB (fun i => fixB S M i && !fixB S N i) u) (delB_iff.2 ⟨hb v hSv hMv hNv, Ne.symm huv⟩) hv
    obtain ⟨x, hx, hxb, hxt⟩ := sizeP_two (t := t) (show 2 ≤ sizeP (fun i => fixB S N i && !fixB S M i) n by omega)
    simp only [Bool.and_eq_true, Bool.not_eq_true'] at hxb
    obtain ⟨hSx, hNx⟩ := fixB_iff.1 hxb.1
    have hMx : M x ≠ x := fun e => by
      have := fixB_iff.2 ⟨hSx, e⟩
      rw [hxb.2] at this; cases this
    obtain ⟨hy, hSy⟩ := HM.1.in_ x hx hSx
    have hMy : M (M x) = x := HM.1.inv x hx hSx
    have hxy : adj x (M x) = true := HM.1.adj_ x hx hSx hMx
    generalize hye : M x = y at hMx hy hSy hMy hxy
    have hyx : y ≠ x := hMx
    have hNy : N y ≠ y := fun e => no_aug hsym HN hx hy hSx hSy (Ne.symm hyx) hxy ⟨hNx, e⟩
    obtain ⟨hz, hSz⟩ := HN.1.in_ y hy hSy
    have hNz : N (N y) = y := HN.1.inv y hy hSy
    generalize hze : N y = z at hNy hz hSz hNz
    have hzx : z ≠ x := fun e => by rw [e, hNx] at hNz; exact hyx hNz.symm
    have hty : t ≠ y := fun e => by rw [← e, hNt] at hze; exact hNy (by rw [← hze, e])
    have htz : t ≠ z := fun e => by rw [← e, hNt] at hNz; exact hty hNz
    -- the other one
    have hne : ∀ i, i < n → S i = true → i ≠ x → i ≠ y → i ≠ z → N i ≠ x ∧ N i ≠ y ∧ N i ≠ z := fun i hi hSi a1 a2 a3 => by
      have h := HN.1.inv i hi hSi
      refine ⟨fun e => a1 ?_, fun e => a3 ?_, fun e => a2 ?_⟩
      · rw [← h, e, hNx]
      · rw [← h, e, hze]
      · rw [← h, e, hNz]
    have hM2 : Mat adj n S (fun i => if i = x then y else if i = y then x else if i = z then z else N i) := by
      refine ⟨fun i hi hSi => ?_, fun i hi hSi => ?_, fun i hi hSi hi2 => ?_⟩
      · by_cases a1 : i = x
        · simp only [if_pos a1]; exact ⟨hy, hSy⟩
        · by_cases a2 : i = y
          · simp only [if_neg a1, if_pos a2]; exact ⟨hx, hSx⟩
          · by_cases a3 : i = z
            · simp only [if_neg a1, if_neg a2, if_pos a3]; exact ⟨hz, hSz⟩
            · simp only [if_neg a1, if_neg a2, if_neg a3]; exact HN.1.in_ i hi hSi
      · by_cases a1 : i = x
        · simp only [if_pos a1, if_neg hyx, if_true]; exact a1.symm
        · by_cases a2 : i = y
          · simp only [if_neg a1, if_pos a2, if_true]; exact a2.symm
          · by_cases a3 : i = z
            · simp only [if_neg a1, if_neg a2, if_pos a3, if_neg hzx, if_neg hNy, if_true]; exact a3.symm
            · obtain ⟨b1, b2, b3⟩ := hne i hi hSi a1 a2 a3
              simp only [if_neg a1, if_neg a2, if_neg a3, if_neg b1, if_neg b2, if_neg b3]; exact HN.1.inv i hi hSi
      · by_cases a1 : i = x
        · simp only [if_pos a1]; rw [a1]; exact hxy
        · by_cases a2 : i = y
          · simp only [if_neg a1, if_pos a2]; rw [a2, hsym]; exact hxy
          · by_cases a3 : i = z
            · simp only [if_neg a1, if_neg a2, if_pos a3] at hi2; exact absurd a3.symm hi2
            · simp only [if_neg a1, if_neg a2, if_neg a3] at hi2 ⊢; exact HN.1.adj_ i hi hSi hi2
    have hfix : sizeP (fixB S (fun i => if i = x then y else if i = y then x else if i = z then z else N i)) n ≤ sizeP (fixB S N) n := by
      have q1 := sizeP_del (A := fixB S N) (fixB_iff.2 ⟨hSx, hNx⟩) hx
      have q2 := sizeP_del (A := fixB S (fun i => if i = x then y else if i = y then x else if i = z then z else N i)) (i := z) (fixB_iff.2 ⟨hSz, by simp only [if_neg hzx, if_neg hNy, if_true]⟩) hz
      have q3 : sizeP (delB (fixB S (fun i => if i = x then y else if i = y then x else if i = z then z else N i)) z) n ≤ sizeP (delB (fixB S N) x) n := sizeP_sub fun i _ hi => by
        obtain ⟨c1, c2⟩ := delB_iff.1 hi
        obtain ⟨c3, c4⟩ := fixB_iff.1 c1
        by_cases a1 : i = x
        · simp only [if_pos a1] at c4; exact absurd (c4.trans a1) hyx
        · by_cases a2 : i = y
          · simp only [if_neg a1, if_pos a2] at c4; exact absurd c4.symm a1
          · simp only [if_neg a1, if_neg a2, if_neg c2] at c4
            exact delB_iff.2 ⟨fixB_iff.2 ⟨c3, c4⟩, a1⟩
      omega
    have hL2 : Least adj n S (fun i => if i = x then y else if i = y then x else if i = z then z else N i) := ⟨hM2, fun m' hm' => Nat.le_trans hfix (HN.2 m' hm')⟩
    have hag := hmax _ hL2 (by simp only [if_neg (Ne.symm hxt), if_neg hty, if_neg htz]; exact hNt)
    have hlt : sizeP (fun i => S i && decide (M i = N i)) n < sizeP (fun i => S i && decide (M i = (fun i => if i = x then y else if i = y then x else if i = z then z else N i) i)) n := sizeP_lt (u := x) (fun i hi => by
      simp only [Bool.and_eq_true, decide_eq_true_eq] at hi ⊢
      refine ⟨hi.1, ?_⟩
      have a1 : i ≠ x := fun e => by rw [e, hye, hNx] at hi; exact hyx hi.2
      have a2 : i ≠ y := fun e => by rw [e, hMy, hze] at hi; exact hzx hi.2.symm
      have a3 : i ≠ z := fun e => by
        rw [e, hNz] at hi
        have : M (M z) = M y := by rw [hi.2]
        rw [HM.1.inv z hz hSz, hMy] at this
        exact hzx this
      rw [if_neg a1, if_neg a2, if_neg a3]; exact hi.2) hx (by
        cases hb : (S x && decide (M x = N x)) with
        | false => rfl
        | true =>
          simp only [Bool.and_eq_true, decide_eq_true_eq] at hb
          rw [hye, hNx] at hb
          exact absurd hb.2 hyx) (by simp only [if_true, Bool.and_eq_true, decide_eq_true_eq]; exact ⟨hSx, hye⟩)
    exact Nat.not_le_of_lt hlt hag
/-- TUTTE, BERGE: behind some wall (T: what is not of it) as many parts are odd as are left over by a best one, and as the wall has. -/
theorem tutte_ex : ∀ (c : Nat) (S : Nat → Bool), sizeP S n = c → ∃ (T : Nat → Bool) (m : Nat → Nat), (∀ i, T i = true → S i = true) ∧ Mat adj n S m ∧ ∀ lab, LabOK adj n T lab → sizeP (fixB S m) n + sizeP S n ≤ oddS n lab T + sizeP T n
  | c, S, hc => by
    by_cases hall : ∀ t, t < n → S t = true → ∃ N, Least adj n S N ∧ N t = t
    · obtain ⟨m, hm⟩ := least_ex (adj := adj) (n := n) (S := S)
      refine ⟨S, m, fun i h => h, hm.1, fun lab hL => ?_⟩
      have hparts := sizeP_parts (A := fixB S m) (N := n) (lab := lab) n fun j hj h => hL.lt j hj (fixB_iff.1 h).1
      have : sumTo (fun i => sizeP (fun j => fixB S m j && decide (lab j = i)) n) n ≤ oddS n lab S := sumTo_le n fun i _ => by
        -- one at most is left over in each part
        have h1 : sizeP (fun j => fixB S m j && decide (lab j = i)) n ≤ 1 := by
          apply Nat.le_of_not_lt
          intro h2
          obtain ⟨x, hx, hxb⟩ := sizeP_pos (show 0 < sizeP (fun j => fixB S m j && decide (lab j = i)) n by omega)
          obtain ⟨y, hy, hyb, hyx⟩ := sizeP_two (t := x) (show 2 ≤ sizeP (fun j => fixB S m j && decide (lab j = i)) n by omega)
          simp only [Bool.and_eq_true, decide_eq_true_eq] at hxb hyb
          obtain ⟨a1, a2⟩ := fixB_iff.1 hxb.1
          obtain ⟨b1, b2⟩ := fixB_iff.1 hyb.1
          obtain ⟨k, hk⟩ := hL.far x y hx hy a1 b1 (by rw [hxb.2, hyb.2])
          exact gallai hsym hall k x y m hx hy a1 b1 hk (Ne.symm hyx) hm ⟨a2, b2⟩
        have h2 := sizeP_part (fun j => S j && decide (lab j = i)) (fun j => decide (m j = j)) n
        have h3 : sizeP (fun j => (S j && decide (lab j = i)) && !decide (m j = j)) n % 2 = 0 := even_pairs _ (m := m) (Nat.le_refl _) fun j hj hA => by
          simp only [Bool.and_eq_true, Bool.not_eq_true', decide_eq_true_eq, decide_eq_false_iff_not] at hA ⊢
          obtain ⟨g1, g2⟩ := hm.1.in_ j hj hA.1.1
          have g3 := hm.1.inv j hj hA.1.1
          have g4 := hL.near j (m j) hj g1 hA.1.1 g2 (hm.1.adj_ j hj hA.1.1 hA.2)
          exact ⟨g1, ⟨⟨g2, by rw [← g4]; exact hA.1.2⟩, fun e => hA.2 (by rw [g3] at e; exact e.symm)⟩, g3, hA.2⟩
        have h4 : sizeP (fun j => (S j && decide (lab j = i)) && decide (m j = j)) n = sizeP (fun j => fixB S m j && decide (lab j = i)) n := sizeP_congr n fun j _ => by
          unfold fixB
          cases S j <;> cases decide (lab j = i) <;> cases decide (m j = j) <;> rfl
        omega
      omega
    · obtain ⟨v, hv, hSv, hno⟩ : ∃ v, v < n ∧ S v = true ∧ ¬ ∃ N, Least adj n S N ∧ N v = v := by
        apply Classical.byContradiction
        intro h
        exact hall fun t ht hSt => Classical.byContradiction fun h2 => h ⟨t, ht, hSt, h2⟩
      have hd := sizeP_del hSv hv
      obtain ⟨T, m', h1, h2, h3⟩ := tutte_ex (c - 1) (delB S v) (by omega)
      obtain ⟨m, hm⟩ := least_ex (adj := adj) (n := n) (S := S)
      refine ⟨T, m, fun i hi => (delB_iff.1 (h1 i hi)).1, hm.1, fun lab hL => ?_⟩
      have h4 := h3 lab hL
      -- the other one, with v left over
      have hnv : ∀ i, i < n → delB S v i = true → m' i ≠ v := fun i hi hS e => by
        have := (h2.in_ i hi hS).2
        rw [e] at this
        exact (delB_iff.1 this).2 rfl
      have hM : Mat adj n S (fun i => if i = v then v else m' i) := by
        have hS : ∀ i, S i = true → i ≠ v → delB S v i = true := fun i h1 h2 => delB_iff.2 ⟨h1, h2⟩
        refine ⟨fun i hi hSi => ?_, fun i hi hSi => ?_, fun i hi hSi hi2 => ?_⟩
        · by_cases e : i = v
          · simp only [if_pos e]; exact ⟨hv, hSv⟩
          · simp only [if_neg e]
            obtain ⟨g1, g2⟩ := h2.in_ i hi (hS i hSi e)
            exact ⟨g1, (delB_iff.1 g2).1⟩
        · by_cases e : i = v
          · simp only [if_pos e, if_true]; exact e.symm
          · simp only [if_neg e, if_neg (hnv i hi (hS i hSi e))]; exact h2.inv i hi (hS i hSi e)
        · by_cases e : i = v
          · simp only [if_pos e] at hi2; exact absurd e.symm hi2
          · simp only [if_neg e] at hi2 ⊢; exact h2.adj_ i hi (hS i hSi e) hi2
      have hf : sizeP (fixB S (fun i => if i = v then v else m' i)) n = sizeP (fixB (delB S v) m') n + 1 := by
        rw [sizeP_del (i := v) (A := fixB S (fun i => if i = v then v else m' i)) (fixB_iff.2 ⟨hSv, if_pos rfl⟩) hv]
        congr 1
        refine sizeP_congr n fun i _ => ?_
        unfold delB fixB
        by_cases e : i = v
        · simp [e]
        · simp [e]
      have p1 := hm.1.par
      have p2 := h2.par
      have hge : sizeP (fixB S m) n < sizeP (fixB (delB S v) m') n + 1 := by
        apply Nat.lt_of_not_le
        intro hle
        exact hno ⟨_, ⟨hM, fun m'' hm'' => by rw [hf]; exact Nat.le_trans hle (hm.2 m'' hm'')⟩, if_pos rfl⟩
      omega
  termination_by c S _hc => c
  decreasing_by
    have := sizeP_del hSv hv
    omega
end
end Go.Proofs.Ytpcealcghglopaa

namespace Go.Proofs.Ytpcealcghglopaa

abbrev BS := Nat → Bool
def subB (n : Nat) (S T : BS) : Prop := ∀ i, i < n → S i = true → T i = true
def insB (S : BS) (x : Nat) : BS := fun i => S i || decide (i = x)
theorem insB_iff {S : BS} {x i : Nat} : insB S x i = true ↔ S i = true ∨ i = x := by simp [insB]
def capB (S T : BS) : BS := fun i => S i && T i
def cupB (S T : BS) : BS := fun i => S i || T i
def difB (S T : BS) : BS := fun i => S i && !T i
section
variable {n : Nat} {S T : BS}
theorem sizeP_ins {x : Nat} (hx : x < n) (h : S x = false) : sizeP (insB S x) n = sizeP S n + 1 := by
  rw [sizeP_del (A := insB S x) (i := x) (insB_iff.2 (.inr rfl)) hx]
  congr 1
  refine sizeP_congr n fun i _ => ?_
  rw [Bool.eq_iff_iff, delB_iff, insB_iff]
  constructor
  · rintro ⟨h1 | h1, h2⟩
    · exact h1
    · exact absurd h1 h2
  · intro h1
    exact ⟨.inl h1, fun e => by rw [e, h] at h1; cases h1⟩
theorem size_cup_cap (S T : BS) : ∀ n, sizeP (cupB S T) n + sizeP (capB S T) n = sizeP S n + sizeP T n
  | 0 => rfl
  | n + 1 => by
    have ih := size_cup_cap S T n
    rw [sizeP_succ, sizeP_succ, sizeP_succ, sizeP_succ]
    have e1 : cupB S T n = (S n || T n) := rfl
    have e2 : capB S T n = (S n && T n) := rfl
    rw [e1, e2]
    cases S n <;> cases T n <;> simp <;> omega
theorem sub_eq (h : subB n S T) (hs : sizeP T n ≤ sizeP S n) : ∀ i, i < n → S i = T i := fun i hi => by
  cases hS : S i with
  | true => exact (h i hi hS).symm
  | false =>
    cases hT : T i with
    | false => rfl
    | true =>
      exfalso
      have h1 := sizeP_del hT hi
      have h2 : sizeP S n ≤ sizeP (delB T i) n := sizeP_sub fun x hx hx2 => delB_iff.2 ⟨h x hx hx2, fun e => by rw [e, hS] at hx2; cases hx2⟩
      omega
end
/-- What may be free. -/
structure Mtd (n : Nat) (F : BS → Prop) : Prop where
  none_ : F fun _ => false
  sub : ∀ S T, F S → subB n T S → F T
  swap : ∀ S T, F S → F T → sizeP S n < sizeP T n → ∃ i, i < n ∧ T i = true ∧ S i = false ∧ F (insB S i)
section
variable {n : Nat} {F : BS → Prop} (M : Mtd n F)
include M
/-- Anything free can be made as large as can be. -/
theorem Mtd.grow {X J : BS} (hJ : F J) (hJX : subB n J X) : ∃ I, F I ∧ subB n I X ∧ subB n J I ∧ ∀ K, F K → subB n K X → sizeP K n ≤ sizeP I n := by
  have : ∀ c J, F J → subB n J X → n ≤ sizeP J n + c → ∃ I, F I ∧ subB n I X ∧ subB n J I ∧ ∀ K, F K → subB n K X → sizeP K n ≤ sizeP I n := fun c => by
    induction c with
    | zero => exact fun J h1 h2 h3 => ⟨J, h1, h2, fun _ _ h => h, fun K _ _ => by have := sizeP_le K n; omega⟩
    | succ c ih =>
      intro J h1 h2 h3
      by_cases hK : ∃ K, F K ∧ subB n K X ∧ sizeP J n < sizeP K n
      · obtain ⟨K, k1, k2, k3⟩ := hK
        obtain ⟨i, hi, g1, g2, g3⟩ := M.swap J K h1 k1 k3
        have hsz := sizeP_ins hi g2
        obtain ⟨I, q1, q2, q3, q4⟩ := ih (insB J i) g3 (fun x hx hh => by
          rcases insB_iff.1 hh with h | h
          · exact h2 x hx h
          · rw [h]; exact k2 i hi g1) (by omega)
        exact ⟨I, q1, q2, fun x hx h => q3 x hx (insB_iff.2 (.inl h)), q4⟩
      · exact ⟨J, h1, h2, fun _ _ h => h, fun K k1 k2 => by
          have : ¬ sizeP J n < sizeP K n := fun h => hK ⟨K, k1, k2, h⟩
          omega⟩
  exact this n J hJ hJX (by omega)
theorem Mtd.base (X : BS) : ∃ I, F I ∧ subB n I X ∧ ∀ K, F K → subB n K X → sizeP K n ≤ sizeP I n := by
  obtain ⟨I, h1, h2, _, h4⟩ := M.grow (X := X) M.none_ fun i _ h => by cases h
  exact ⟨I, h1, h2, h4⟩
end
/-- How many of some are free at the most, as a number of its own. -/
structure RkF (n : Nat) (r : BS → Nat) : Prop where
  zero : r (fun _ => false) = 0
  mono : ∀ S T, subB n S T → r S ≤ r T
  one : ∀ S x, r (insB S x) ≤ r S + 1
  subm : ∀ S T, r (cupB S T) + r (capB S T) ≤ r S + r T
theorem RkF.congr {n : Nat} {r : BS → Nat} (H : RkF n r) {S T : BS} (h : ∀ i, i < n → S i = T i) : r S = r T :=
  Nat.le_antisymm (H.mono S T fun i hi hS => by rw [← h i hi]; exact hS) (H.mono T S fun i hi hT => by rw [h i hi]; exact hT)
/-- WHITNEY: the rank of what may be free. -/
theorem rank_ex {n : Nat} {F : BS → Prop} (M : Mtd n F) : ∃ r : BS → Nat, RkF n r ∧ (∀ X, ∃ I, F I ∧ subB n I X ∧ sizeP I n = r X) ∧ ∀ X K, F K → subB n K X → sizeP K n ≤ r X := by
  have hb : ∀ X, ∃ c, (∃ I, F I ∧ subB n I X ∧ sizeP I n = c) ∧ ∀ K, F K → subB n K X → sizeP K n ≤ c := fun X => by
    obtain ⟨I, h1, h2, h3⟩ := M.base X
    exact ⟨sizeP I n, ⟨I, h1, h2, rfl⟩, h3⟩
  obtain ⟨r, hr⟩ := Classical.axiomOfChoice hb
  refine ⟨r, ⟨?_, fun S T h => ?_, fun S x => ?_, fun S T => ?_⟩, fun X => (hr X).1, fun X => (hr X).2⟩
  · obtain ⟨I, _, h2, h3⟩ := (hr fun _ => false).1
    rw [← h3]
    exact sizeP_none fun i hi => by
      cases hI : I i with
      | false => rfl
      | true => exact absurd (h2 i hi hI) (by simp)
  · obtain ⟨I, h1, h2, h3⟩ := (hr S).1
    rw [← h3]
    exact (hr T).2 I h1 fun i hi hI => h i hi (h2 i hi hI)
  · obtain ⟨I, h1, h2, h3⟩ := (hr (insB S x)).1
    rw [← h3]
    have h4 := (hr S).2 (delB I x) (M.sub I _ h1 fun i _ h => (delB_iff.1 h).1) fun i hi h => by
      obtain ⟨a, b⟩ := delB_iff.1 h
      exact (insB_iff.1 (h2 i hi a)).resolve_right b
    by_cases hx : x < n ∧ I x = true
    · have := sizeP_del hx.2 hx.1
      omega
    · have : sizeP I n = sizeP (delB I x) n := sizeP_congr n fun i hi => by
        rw [Bool.eq_iff_iff, delB_iff]
        exact ⟨fun h => ⟨h, fun e => hx (by subst e; exact ⟨hi, h⟩)⟩, fun h => h.1⟩
      omega
  · obtain ⟨I, h1, h2, h3⟩ := (hr (capB S T)).1
    obtain ⟨J, j1, j2, j3, j4⟩ := M.grow (X := cupB S T) h1 fun i hi h => by
      have := h2 i hi h
      simp only [capB, Bool.and_eq_true] at this
      simp [cupB, this.1]
    obtain ⟨B, b1, b2, b3⟩ := (hr (cupB S T)).1
    have h5 := j4 B b1 b2
    have h6 := (hr S).2 (capB J S) (M.sub J _ j1 fun i _ h => by simp only [capB, Bool.and_eq_true] at h; exact h.1) fun i _ h => by simp only [capB, Bool.and_eq_true] at h; exact h.2
    have h7 := (hr T).2 (capB J T) (M.sub J _ j1 fun i _ h => by simp only [capB, Bool.and_eq_true] at h; exact h.1) fun i _ h => by simp only [capB, Bool.and_eq_true] at h; exact h.2
    have h8 := size_cup_cap (capB J S) (capB J T) n
    have h9 : sizeP J n ≤ sizeP (cupB (capB J S) (capB J T)) n := sizeP_sub fun i hi h => by
      have := j2 i hi h
      simp only [cupB, capB, Bool.or_eq_true, Bool.and_eq_true] at this ⊢
      exact this.imp (fun t => ⟨h, t⟩) fun t => ⟨h, t⟩
    have h10 : sizeP I n ≤ sizeP (capB (capB J S) (capB J T)) n := sizeP_sub fun i hi h => by
      have a := h2 i hi h
      simp only [capB, Bool.and_eq_true] at a ⊢
      exact ⟨⟨j3 i hi h, a.1⟩, j3 i hi h, a.2⟩
    omega
/-- With one thing always taken. -/
theorem RkF.with_ {n : Nat} {r : BS → Nat} (H : RkF n r) {e : Nat} (he : r (insB (fun _ => false) e) = 1) : RkF n fun X => r (insB X e) - 1 := by
  have hge : ∀ X, 1 ≤ r (insB X e) := fun X => by
    rw [← he]
    exact H.mono _ _ fun i _ h => insB_iff.2 (.inr ((insB_iff.1 h).resolve_left (by simp)))
  refine ⟨by show r (insB (fun _ => false) e) - 1 = 0; omega, fun S T h => ?_, fun S x => ?_, fun S T => ?_⟩
  · have := H.mono (insB S e) (insB T e) fun i hi hh => insB_iff.2 ((insB_iff.1 hh).imp (h i hi) id)
    omega
  · have h1 := H.one (insB S e) x
    have h2 : r (insB (insB S x) e) = r (insB (insB S e) x) := H.congr fun i _ => by
      simp only [insB]
      cases S i <;> cases decide (i = x) <;> cases decide (i = e) <;> rfl
    show r (insB (insB S x) e) - 1 ≤ r (insB S e) - 1 + 1
    omega
  · have h1 := H.subm (insB S e) (insB T e)
    have h2 : r (cupB (insB S e) (insB T e)) = r (insB (cupB S T) e) := H.congr fun i _ => by
      simp only [cupB, insB]
      cases S i <;> cases T i <;> cases decide (i = e) <;> rfl
    have h3 : r (capB (insB S e) (insB T e)) = r (insB (capB S T) e) := H.congr fun i _ => by
      simp only [capB, insB]
      cases S i <;> cases T i <;> cases decide (i = e) <;> rfl
    have := hge (cupB S T)
    have := hge (capB S T)
    have := hge S
    have := hge T
    show r (insB (cupB S T) e) - 1 + (r (insB (capB S T) e) - 1) ≤ r (insB S e) - 1 + (r (insB T e) - 1)
    omega
/-- EDMONDS: as many are free by two at once as the least of what is free of some by the one, and of the others by the other one. -/
theorem edmonds {n : Nat} : ∀ (m : Nat) (E : BS) (r1 r2 : BS → Nat) (k : Nat), sizeP E n = m → RkF n r1 → RkF n r2 → (∀ S, subB n S E → k ≤ r1 S + r2 (difB E S)) → ∃ I, subB n I E ∧ sizeP I n = k ∧ r1 I = k ∧ r2 I = k
  | m, E, r1, r2, k, hm, H1, H2, hk => by
    rcases Nat.eq_zero_or_pos k with h0 | h0
    · subst h0
      exact ⟨fun _ => false, (fun i _ h => by cases h), sizeP_none fun _ _ => rfl, H1.zero, H2.zero⟩
    · -- one thing that is something by both
      obtain ⟨e, hen, heE, he1, he2⟩ : ∃ e, e < n ∧ E e = true ∧ r1 (insB (fun _ => false) e) = 1 ∧ r2 (insB (fun _ => false) e) = 1 := by
        apply Classical.byContradiction
        intro hno
        have hone : ∀ (r : BS → Nat), RkF n r → ∀ e, r (insB (fun _ => false) e) = 0 ∨ r (insB (fun _ => false) e) = 1 := fun r H e => by
          have := H.one (fun _ => false) e
          rw [H.zero] at this
          omega
        -- those that are nothing together are nothing
        have hnil : ∀ (r : BS → Nat), RkF n r → ∀ X : BS, (∀ i, i < n → X i = true → r (insB (fun _ => false) i) = 0) → r X = 0 := fun r H X hX => by
          have : ∀ c, ∀ Y : BS, sizeP Y n ≤ c → subB n Y X → r Y = 0 := fun c => by
            induction c with
            | zero =>
              intro Y hc _
              have : r Y = r (fun _ => false) := H.congr fun i hi => by
                cases hY : Y i with
                | false => rfl
                | true => have := sizeP_del hY hi; omega
              rw [this, H.zero]
            | succ c ih =>
              intro Y hc hYX
              rcases Nat.eq_zero_or_pos (sizeP Y n) with h1 | h1
              · exact ih Y (by omega) hYX
              · obtain ⟨i, hi, hYi⟩ := sizeP_pos h1
                have hdel := sizeP_del hYi hi
                have h2 := ih (delB Y i) (by omega) fun x hx h => hYX x hx (delB_iff.1 h).1
                have h3 := H.subm (delB Y i) (insB (fun _ => false) i)
                have h4 : r (cupB (delB Y i) (insB (fun _ => false) i)) = r Y := H.congr fun x _ => by
                  rw [Bool.eq_iff_iff]
                  simp only [cupB, Bool.or_eq_true, delB_iff, insB_iff]
                  constructor
                  · rintro (h | h | h)
                    · exact h.1
                    · cases h
                    · rw [h]; exact hYi
                  · intro h
                    by_cases e : x = i
                    · exact .inr (.inr e)
                    · exact .inl ⟨h, e⟩
                have h5 := hX i hi (hYX i hi hYi)
                omega
          exact this _ X (Nat.le_refl _) fun _ _ h => h
        have hS := hk (fun i => E i && decide (r1 (insB (fun _ => false) i) = 0)) fun i _ h => by simp only [Bool.and_eq_true] at h; exact h.1
        have z1 := hnil r1 H1 (fun i => E i && decide (r1 (insB (fun _ => false) i) = 0)) fun i _ h => by simp only [Bool.and_eq_true, decide_eq_true_eq] at h; exact h.2
        have z2 := hnil r2 H2 (difB E fun i => E i && decide (r1 (insB (fun _ => false) i) = 0)) fun i hi h => by
          simp only [difB, Bool.and_eq_true, Bool.not_eq_true', Bool.and_eq_false_iff, decide_eq_false_iff_not] at h
          obtain ⟨h1, h2⟩ := h
          rcases hone r2 H2 i with h3 | h3
          · exact h3
          · exfalso
            rcases h2 with h2 | h2
            · rw [h1] at h2; cases h2
            · exact hno ⟨i, hi, h1, (hone r1 H1 i).resolve_left h2, h3⟩
        omega
      have hdel := sizeP_del heE hen
      by_cases hA : ∀ S, subB n S (delB E e) → k ≤ r1 S + r2 (difB (delB E e) S)
      · -- without it
        obtain ⟨I, h1, h2⟩ := edmonds (m - 1) (delB E e) r1 r2 k (by omega) H1 H2 hA
        exact ⟨I, fun i hi h => (delB_iff.1 (h1 i hi h)).1, h2⟩
      · obtain ⟨A, hAE, hAk⟩ : ∃ A, subB n A (delB E e) ∧ r1 A + r2 (difB (delB E e) A) < k := by
          apply Classical.byContradiction
          intro hno
          exact hA fun S hS => Nat.le_of_not_lt fun h => hno ⟨S, hS, h⟩
        have hge : ∀ (r : BS → Nat), RkF n r → r (insB (fun _ => false) e) = 1 → ∀ X, 1 ≤ r (insB X e) := fun r H he X => by
          rw [← he]
          exact H.mono _ _ fun i _ h => insB_iff.2 (.inr ((insB_iff.1 h).resolve_left (by simp)))
        by_cases hB : ∀ S, subB n S (delB E e) → k - 1 ≤ (r1 (insB S e) - 1) + (r2 (insB (difB (delB E e) S) e) - 1)
        · -- with it
          obtain ⟨I, h1, h2, h3, h4⟩ := edmonds (m - 1) (delB E e) (fun X => r1 (insB X e) - 1) (fun X => r2 (insB X e) - 1) (k - 1) (by omega) (H1.with_ he1) (H2.with_ he2) hB
          have hIe : I e = false := by
            cases hI : I e with
            | false => rfl
            | true => exact absurd rfl (delB_iff.1 (h1 e hen hI)).2
          have g1 := hge r1 H1 he1 I
          have g2 := hge r2 H2 he2 I
          refine ⟨insB I e, fun i hi h => ?_, by rw [sizeP_ins hen hIe]; omega, by omega, by omega⟩
          rcases insB_iff.1 h with h | h
          · exact (delB_iff.1 (h1 i hi h)).1
          · rw [h]; exact heE
        · exfalso
          obtain ⟨B, hBE, hBk⟩ : ∃ B, subB n B (delB E e) ∧ (r1 (insB B e) - 1) + (r2 (insB (difB (delB E e) B) e) - 1) < k - 1 := by
            apply Classical.byContradiction
            intro hno
            exact hB fun S hS => Nat.le_of_not_lt fun h => hno ⟨S, hS, h⟩
          have g1 := hge r1 H1 he1 B
          have g2 := hge r2 H2 he2 (difB (delB E e) B)
          have s1 := H1.subm A (insB B e)
          have s2 := H2.subm (difB (delB E e) A) (insB (difB (delB E e) B) e)
          have hAe : ∀ i, i < n → A i = true → i ≠ e ∧ E i = true := fun i hi h => ⟨(delB_iff.1 (hAE i hi h)).2, (delB_iff.1 (hAE i hi h)).1⟩
          have hBe : ∀ i, i < n → B i = true → i ≠ e ∧ E i = true := fun i hi h => ⟨(delB_iff.1 (hBE i hi h)).2, (delB_iff.1 (hBE i hi h)).1⟩
          have q1 := hk (cupB A (insB B e)) fun i hi h => by
            simp only [cupB, Bool.or_eq_true] at h
            rcases h with h | h
            · exact (hAe i hi h).2
            · rcases insB_iff.1 h with h | h
              · exact (hBe i hi h).2
              · rw [h]; exact heE
          have q2 := hk (capB A (insB B e)) fun i hi h => by
            simp only [capB, Bool.and_eq_true] at h
            exact (hAe i hi h.1).2
          have t1 : r2 (difB E (cupB A (insB B e))) = r2 (capB (difB (delB E e) A) (insB (difB (delB E e) B) e)) := H2.congr fun i hi => by
            simp only [difB, cupB, capB, insB, delB]
            by_cases he : i = e
            · simp [he]
            · simp [he]
              cases E i <;> cases A i <;> cases B i <;> rfl
          have t2 : r2 (difB E (capB A (insB B e))) = r2 (cupB (difB (delB E e) A) (insB (difB (delB E e) B) e)) := H2.congr fun i hi => by
            simp only [difB, cupB, capB, insB, delB]
            by_cases he : i = e
            · have hA0 : A e = false := by
                cases hh : A e with
                | false => rfl
                | true => exact absurd rfl (hAe e hen hh).1
              simp [he, heE, hA0]
            · simp [he]
              cases E i <;> cases A i <;> cases B i <;> rfl
          omega
  termination_by m => m
  decreasing_by all_goals omega
end Go.Proofs.Ytpcealcghglopaa

namespace Go.Proofs.Ytpcealcghglopaa

/-- Who knows the thing of i, behind the first t calls (a call of one with himself is none). -/
def Kn (a b : Nat → Nat) : Nat → Nat → Nat → Prop
  | 0, i, j => i = j
  | t + 1, i, j => Kn a b t i j ∨ ((j = a t ∨ j = b t) ∧ (Kn a b t i (a t) ∨ Kn a b t i (b t)))
/-- Whose things as they are ahead of the last d calls come to x. -/
def Bk (a b : Nat → Nat) (K x : Nat) : Nat → Nat → Prop
  | 0, j => j = x
  | d + 1, j => Bk a b K x d j ∨ ((j = a (K - 1 - d) ∨ j = b (K - 1 - d)) ∧ (Bk a b K x d (a (K - 1 - d)) ∨ Bk a b K x d (b (K - 1 - d))))
/-- People, and calls among them. -/
structure Phone (n : Nat) (S : BS) (a b : Nat → Nat) (K : Nat) : Prop where
  lt : ∀ i, S i = true → i < n
  in_ : ∀ t, t < K → a t ≠ b t → S (a t) = true ∧ S (b t) = true
  all : ∀ i j, S i = true → S j = true → Kn a b K i j
def realB (a b : Nat → Nat) : BS := fun t => decide (a t ≠ b t)
section
variable {n K : Nat} {S : BS} {a b : Nat → Nat}
theorem kn_more {t i j : Nat} (h : Kn a b t i j) : Kn a b (t + 1) i j := .inl h
theorem kn_in (H : Phone n S a b K) {i : Nat} (hi : S i = true) : ∀ {t j : Nat}, t ≤ K → Kn a b t i j → S j = true
  | 0, j, _, h => by cases h; exact hi
  | t + 1, j, ht, h => by
    rcases h with h | ⟨h1, h2⟩
    · exact kn_in H hi (by omega) h
    · by_cases e : a t = b t
      · rcases h2 with h2 | h2
        · have h3 := kn_in H hi (by omega) h2
          rcases h1 with h1 | h1
          · rw [h1]; exact h3
          · rw [h1, ← e]; exact h3
        · have h3 := kn_in H hi (by omega) h2
          rcases h1 with h1 | h1
          · rw [h1, e]; exact h3
          · rw [h1]; exact h3
      · obtain ⟨g1, g2⟩ := H.in_ t (by omega) e
        rcases h1 with h1 | h1
        · rw [h1]; exact g1
        · rw [h1]; exact g2
open Classical in
noncomputable def knB (a b : Nat → Nat) (t x : Nat) : BS := fun j => decide (Kn a b t x j)
theorem knB_iff {t x j : Nat} : knB a b t x j = true ↔ Kn a b t x j := by simp [knB]
/-- The calls by which the thing of x comes to one more. -/
noncomputable def outB (a b : Nat → Nat) (x : Nat) : BS := fun t => knB a b t x (a t) != knB a b t x (b t)
theorem out_size {x : Nat} : ∀ K, sizeP (knB a b K x) n ≤ 1 + sizeP (outB a b x) K
  | 0 => by
    have h1 : sizeP (knB a b 0 x) n ≤ 1 := by
      rcases Nat.lt_or_ge x n with h | h
      · have e := sizeP_del (A := knB a b 0 x) (i := x) (knB_iff.2 rfl) h
        have : sizeP (delB (knB a b 0 x) x) n = 0 := sizeP_none fun i _ => by
          cases hh : delB (knB a b 0 x) x i with
          | false => rfl
          | true =>
            obtain ⟨h2, h3⟩ := delB_iff.1 hh
            exact absurd (knB_iff.1 h2).symm h3
        omega
      · have : sizeP (knB a b 0 x) n = 0 := sizeP_none fun i hi => by
          cases hh : knB a b 0 x i with
          | false => rfl
          | true => have h2 : x = i := knB_iff.1 hh; omega
        omega
    omega
  | t + 1 => by
    have ih := out_size (x := x) t
    rw [sizeP_succ]
    by_cases ho : outB a b x t = true
    · rw [if_pos ho]
      -- one more at the most
      have hex : ∃ c, ∀ j, knB a b (t + 1) x j = true → knB a b t x j = true ∨ j = c := by
        unfold outB at ho
        cases hA : knB a b t x (a t) with
        | true =>
          refine ⟨b t, fun j hj => ?_⟩
          rcases knB_iff.1 hj with h | ⟨h1 | h1, _⟩
          · exact .inl (knB_iff.2 h)
          · exact .inl (by rw [h1]; exact hA)
          · exact .inr h1
        | false =>
          rw [hA] at ho
          have hB : knB a b t x (b t) = true := by simpa using ho
          refine ⟨a t, fun j hj => ?_⟩
          rcases knB_iff.1 hj with h | ⟨h1 | h1, _⟩
          · exact .inl (knB_iff.2 h)
          · exact .inr h1
          · exact .inl (by rw [h1]; exact hB)
      obtain ⟨c, hc⟩ := hex
      have h1 : sizeP (knB a b (t + 1) x) n ≤ sizeP (insB (knB a b t x) c) n := sizeP_sub fun j _ hj => insB_iff.2 (hc j hj)
      have h2 : sizeP (insB (knB a b t x) c) n ≤ sizeP (knB a b t x) n + 1 := by
        by_cases hcn : c < n ∧ knB a b t x c = false
        · rw [sizeP_ins hcn.1 hcn.2]; exact Nat.le_refl _
        · refine Nat.le_trans (sizeP_sub fun j hj h => ?_) (Nat.le_succ _)
          rcases insB_iff.1 h with h | h
          · exact h
          · cases hk : knB a b t x j with
            | true => rfl
            | false => exact absurd ⟨by omega, by rw [← h]; exact hk⟩ hcn
      omega
    · rw [if_neg ho]
      have h1 : sizeP (knB a b (t + 1) x) n ≤ sizeP (knB a b t x) n := sizeP_sub fun j _ hj => by
        rcases knB_iff.1 hj with h | ⟨h1, h2⟩
        · exact knB_iff.2 h
        · unfold outB at ho
          have he : knB a b t x (a t) = knB a b t x (b t) := by simpa using ho
          have hA : knB a b t x (a t) = true := by
            rcases h2 with h2 | h2
            · exact knB_iff.2 h2
            · rw [he]; exact knB_iff.2 h2
          rcases h1 with h1 | h1
          · rw [h1]; exact hA
          · rw [h1, ← he]; exact hA
      omega
open Classical in
noncomputable def bkB (a b : Nat → Nat) (K x d : Nat) : BS := fun j => decide (Bk a b K x d j)
theorem bkB_iff {x d j : Nat} : bkB a b K x d j = true ↔ Bk a b K x d j := by simp [bkB]
/-- The calls by which one more's thing comes to x. -/
noncomputable def inB (a b : Nat → Nat) (K x : Nat) : BS := fun t => bkB a b K x (K - 1 - t) (a t) != bkB a b K x (K - 1 - t) (b t)
theorem in_size {x : Nat} : ∀ d, d ≤ K → sizeP (bkB a b K x d) n ≤ 1 + sizeP (fun e => inB a b K x (K - 1 - e)) d
  | 0, _ => by
    have h1 : sizeP (bkB a b K x 0) n ≤ 1 := by
      rcases Nat.lt_or_ge x n with h | h
      · have e := sizeP_del (A := bkB a b K x 0) (i := x) (bkB_iff.2 rfl) h
        have : sizeP (delB (bkB a b K x 0) x) n = 0 := sizeP_none fun i _ => by
          cases hh : delB (bkB a b K x 0) x i with
          | false => rfl
          | true =>
            obtain ⟨h2, h3⟩ := delB_iff.1 hh
            exact absurd (bkB_iff.1 h2) h3
        omega
      · have : sizeP (bkB a b K x 0) n = 0 := sizeP_none fun i hi => by
          cases hh : bkB a b K x 0 i with
          | false => rfl
          | true => have h2 : i = x := bkB_iff.1 hh; omega
        omega
    omega
  | d + 1, hd => by
    have ih := in_size (x := x) d (by omega)
    rw [sizeP_succ]
    have hK : K - 1 - (K - 1 - d) = d := by omega
    by_cases ho : inB a b K x (K - 1 - d) = true
    · rw [if_pos ho]
      have hex : ∃ c, ∀ j, bkB a b K x (d + 1) j = true → bkB a b K x d j = true ∨ j = c := by
        unfold inB at ho
        rw [hK] at ho
        cases hA : bkB a b K x d (a (K - 1 - d)) with
        | true =>
          refine ⟨b (K - 1 - d), fun j hj => ?_⟩
          rcases bkB_iff.1 hj with h | ⟨h1 | h1, _⟩
          · exact .inl (bkB_iff.2 h)
          · exact .inl (by rw [h1]; exact hA)
          · exact .inr h1
        | false =>
          rw [hA] at ho
          have hB : bkB a b K x d (b (K - 1 - d)) = true := by simpa using ho
          refine ⟨a (K - 1 - d), fun j hj => ?_⟩
          rcases bkB_iff.1 hj with h | ⟨h1 | h1, _⟩
          · exact .inl (bkB_iff.2 h)
          · exact .inr h1
          · exact .inl (by rw [h1]; exact hB)
      obtain ⟨c, hc⟩ := hex
      have h1 : sizeP (bkB a b K x (d + 1)) n ≤ sizeP (insB (bkB a b K x d) c) n := sizeP_sub fun j _ hj => insB_iff.2 (hc j hj)
      have h2 : sizeP (insB (bkB a b K x d) c) n ≤ sizeP (bkB a b K x d) n + 1 := by
        by_cases hcn : c < n ∧ bkB a b K x d c = false
        · rw [sizeP_ins hcn.1 hcn.2]; exact Nat.le_refl _
        · refine Nat.le_trans (sizeP_sub fun j hj h => ?_) (Nat.le_succ _)
          rcases insB_iff.1 h with h | h
          · exact h
          · cases hk : bkB a b K x d j with
            | true => rfl
            | false => exact absurd ⟨by omega, by rw [← h]; exact hk⟩ hcn
      omega
    · rw [if_neg ho]
      have h1 : sizeP (bkB a b K x (d + 1)) n ≤ sizeP (bkB a b K x d) n := sizeP_sub fun j _ hj => by
        rcases bkB_iff.1 hj with h | ⟨h1, h2⟩
        · exact bkB_iff.2 h
        · unfold inB at ho
          rw [hK] at ho
          have he : bkB a b K x d (a (K - 1 - d)) = bkB a b K x d (b (K - 1 - d)) := by simpa using ho
          have hA : bkB a b K x d (a (K - 1 - d)) = true := by
            rcases h2 with h2 | h2
            · exact bkB_iff.2 h2
            · rw [he]; exact bkB_iff.2 h2
          rcases h1 with h1 | h1
          · rw [h1]; exact hA
          · rw [h1, ← he]; exact hA
      omega
theorem kn_bk {i x : Nat} (h : Kn a b K i x) : ∀ d, d ≤ K → ∃ j, Kn a b (K - d) i j ∧ Bk a b K x d j
  | 0, _ => ⟨x, h, rfl⟩
  | d + 1, hd => by
    obtain ⟨j, h1, h2⟩ := kn_bk h d (by omega)
    have e : K - d = (K - 1 - d) + 1 := by omega
    rw [e] at h1
    rw [show K - (d + 1) = K - 1 - d by omega]
    rcases h1 with h1 | ⟨h3, h4⟩
    · exact ⟨j, h1, .inl h2⟩
    · have hb : Bk a b K x d (a (K - 1 - d)) ∨ Bk a b K x d (b (K - 1 - d)) := by
        rcases h3 with h3 | h3
        · exact .inl (h3 ▸ h2)
        · exact .inr (h3 ▸ h2)
      rcases h4 with h4 | h4
      · exact ⟨_, h4, .inr ⟨.inl rfl, hb⟩⟩
      · exact ⟨_, h4, .inr ⟨.inr rfl, hb⟩⟩
/-- The other way round, a count is the same. -/
theorem sizeP_rev (A : BS) : ∀ K, sizeP (fun e => A (K - 1 - e)) K = sizeP A K := fun K => by
  apply Nat.le_antisymm
  · exact sizeP_inj _ (m := fun e => K - 1 - e) rfl (fun e he h => ⟨by omega, h⟩) fun e f he hf _ _ h => by
      have h : K - 1 - e = K - 1 - f := h
      omega
  · exact sizeP_inj _ (m := fun e => K - 1 - e) rfl (fun e he h => ⟨by omega, by
      show A (K - 1 - (K - 1 - e)) = true
      rw [show K - 1 - (K - 1 - e) = e by omega]; exact h⟩) fun e f he hf _ _ h => by
      have h : K - 1 - e = K - 1 - f := h
      omega
/-- One hears his own thing. -/
def Hears (a b : Nat → Nat) (K x : Nat) : Prop := ∃ s y, s < K ∧ y ≠ x ∧ ((a s = x ∧ b s = y) ∨ (a s = y ∧ b s = x)) ∧ Kn a b s x y
theorem hears_of {x : Nat} : ∀ (d c : Nat), d ≤ K → c ≠ x → Kn a b (K - d) x c → Bk a b K x d c → Hears a b K x
  | 0, c, _, hc, _, h => absurd h hc
  | d + 1, c, hd, hc, hk, h => by
    have e1 : K - (d + 1) = K - 1 - d := by omega
    have e2 : K - d = (K - 1 - d) + 1 := by omega
    rw [e1] at hk
    rcases h with h | ⟨h1, h2⟩
    · exact hears_of d c (by omega) hc (by rw [e2]; exact .inl hk) h
    · have hknow : Kn a b (K - 1 - d) x (a (K - 1 - d)) ∨ Kn a b (K - 1 - d) x (b (K - 1 - d)) := by
        rcases h1 with h1 | h1
        · exact .inl (h1 ▸ hk)
        · exact .inr (h1 ▸ hk)
      rcases h2 with h2 | h2
      · by_cases hx : a (K - 1 - d) = x
        · rcases h1 with h1 | h1
          · exact absurd (h1.trans hx) hc
          · exact ⟨K - 1 - d, c, by omega, hc, .inl ⟨hx, h1.symm⟩, hk⟩
        · exact hears_of d _ (by omega) hx (by rw [e2]; exact .inr ⟨.inl rfl, hknow⟩) h2
      · by_cases hx : b (K - 1 - d) = x
        · rcases h1 with h1 | h1
          · exact ⟨K - 1 - d, c, by omega, hc, .inr ⟨h1.symm, hx⟩, hk⟩
          · exact absurd (h1.trans hx) hc
        · exact hears_of d _ (by omega) hx (by rw [e2]; exact .inr ⟨.inr rfl, hknow⟩) h2
/-- The calls of one. -/
def ownB (a b : Nat → Nat) (x : Nat) : BS := fun t => decide (a t ≠ b t) && (decide (a t = x) || decide (b t = x))
/-- Who does not hear his own thing has so many calls. -/
theorem calls_ge (H : Phone n S a b K) {x : Nat} (hx : S x = true) (hno : ¬ Hears a b K x) : 2 * (sizeP S n - 1) ≤ sizeP (realB a b) K + sizeP (ownB a b x) K := by
  have h1 := out_size (n := n) (a := a) (b := b) (x := x) K
  have h2 := in_size (n := n) (K := K) (a := a) (b := b) (x := x) K (Nat.le_refl _)
  rw [sizeP_rev (inB a b K x) K] at h2
  have h3 : sizeP S n ≤ sizeP (knB a b K x) n := sizeP_sub fun i _ hi => knB_iff.2 (H.all x i hx hi)
  have h4 : sizeP S n ≤ sizeP (bkB a b K x K) n := sizeP_sub fun i _ hi => by
    obtain ⟨j, g1, g2⟩ := kn_bk (H.all i x hi hx) K (Nat.le_refl _)
    rw [Nat.sub_self] at g1
    have g1 : i = j := g1
    rw [bkB_iff, g1]; exact g2
  have h5 := size_cup_cap (outB a b x) (inB a b K x) K
  have h6 : sizeP (cupB (outB a b x) (inB a b K x)) K ≤ sizeP (realB a b) K := sizeP_sub fun t _ ht => by
    simp only [realB, decide_eq_true_eq]
    intro e
    simp only [cupB, outB, inB, Bool.or_eq_true, bne_iff_ne, ne_eq] at ht
    rcases ht with ht | ht
    · exact ht (by rw [e])
    · exact ht (by rw [e])
  have h7 : sizeP (capB (outB a b x) (inB a b K x)) K ≤ sizeP (ownB a b x) K := sizeP_sub fun t htK ht => by
    simp only [capB, outB, inB, Bool.and_eq_true, bne_iff_ne, ne_eq] at ht
    obtain ⟨ho, hi⟩ := ht
    have hab : a t ≠ b t := fun e => ho (by rw [e])
    cases hown : ownB a b x t with
    | true => rfl
    | false =>
      exfalso
      simp only [ownB, Bool.and_eq_false_iff, decide_eq_false_iff_not, Bool.or_eq_false_iff] at hown
      have hxx : a t ≠ x ∧ b t ≠ x := hown.resolve_left (fun h => h hab)
      -- behind it both know the thing of x, and one of them brings it to x
      have hk : Kn a b t x (a t) ∨ Kn a b t x (b t) := by
        cases hA : knB a b t x (a t) with
        | true => exact .inl (knB_iff.1 hA)
        | false =>
          cases hB : knB a b t x (b t) with
          | true => exact .inr (knB_iff.1 hB)
          | false => rw [hA, hB] at ho; exact absurd rfl ho
      have hb : Bk a b K x (K - 1 - t) (a t) ∨ Bk a b K x (K - 1 - t) (b t) := by
        cases hA : bkB a b K x (K - 1 - t) (a t) with
        | true => exact .inl (bkB_iff.1 hA)
        | false =>
          cases hB : bkB a b K x (K - 1 - t) (b t) with
          | true => exact .inr (bkB_iff.1 hB)
          | false => rw [hA, hB] at hi; exact absurd rfl hi
      have e : K - (K - 1 - t) = t + 1 := by omega
      rcases hb with hb | hb
      · exact hno (hears_of (K - 1 - t) (a t) (by omega) hxx.1 (by rw [e]; exact .inr ⟨.inl rfl, hk⟩) hb)
      · exact hno (hears_of (K - 1 - t) (b t) (by omega) hxx.2 (by rw [e]; exact .inr ⟨.inr rfl, hk⟩) hb)
  omega
theorem sumTo_swap (F : Nat → Nat → Nat) (b : Nat) : ∀ a, sumTo (fun x => sumTo (fun y => F x y) b) a = sumTo (fun y => sumTo (fun x => F x y) a) b
  | 0 => (sumTo_zero b fun _ _ => rfl).symm
  | a + 1 => by
    simp only [sumTo]
    rw [sumTo_swap F b a, ← sumTo_add]
theorem own_sum (n : Nat) : sumTo (fun x => sizeP (ownB a b x) K) n ≤ 2 * sizeP (realB a b) K := by
  unfold sizeP
  rw [sumTo_swap (fun x t => if ownB a b x t = true then 1 else 0) K n]
  have : ∀ K, sumTo (fun t => sumTo (fun x => if ownB a b x t = true then 1 else 0) n) K ≤ 2 * sumTo (fun t => if realB a b t = true then 1 else 0) K := fun K => by
    induction K with
    | zero => exact Nat.le_refl _
    | succ K ih =>
      simp only [sumTo]
      by_cases hr : a K = b K
      · have e : sumTo (fun x => if ownB a b x K = true then 1 else 0) n = 0 := sumTo_zero n fun x _ => by simp [ownB, hr]
        rw [e]; omega
      · have e : sumTo (fun x => if ownB a b x K = true then 1 else 0) n ≤ sumTo (fun x => (if a K = x then 1 else 0) + if b K = x then 1 else 0) n := sumTo_le n fun x _ => by
          by_cases h1 : a K = x
          · rw [if_pos h1]; split <;> first | omega | (split <;> omega)
          · by_cases h2 : b K = x
            · rw [if_pos h2]; split <;> first | omega | (split <;> omega)
            · rw [if_neg (by simp [ownB, h1, h2])]; exact Nat.zero_le _
        rw [sumTo_add, sumTo_ind, sumTo_ind] at e
        rw [if_pos (show realB a b K = true by simp [realB, hr])]
        have : (if a K < n then 1 else 0) ≤ 1 := by split <;> omega
        have : (if b K < n then 1 else 0) ≤ 1 := by split <;> omega
        omega
  exact this K
/-- Along whom the thing of x went till it came to y. -/
structure Chain (a b : Nat → Nat) (S : BS) (x t0 s : Nat) (σ : Nat → Nat) : Prop where
  lt : t0 < s
  fst : (a t0 = x ∧ b t0 = σ t0) ∨ (a t0 = σ t0 ∧ b t0 = x)
  ne : ∀ t, σ t ≠ x
  mem : ∀ t, S (σ t) = true
  on : ∀ t, σ (t + 1) = σ t ∨ (a t = σ t ∧ b t = σ (t + 1)) ∨ (a t = σ (t + 1) ∧ b t = σ t)
theorem chain_ex (H : Phone n S a b K) {x : Nat} (hx : S x = true) : ∀ (s y : Nat), s ≤ K → y ≠ x → Kn a b s x y → ∃ t0 σ, Chain a b S x t0 s σ ∧ σ s = y
  | 0, y, _, hy, h => absurd h.symm hy
  | s + 1, y, hs, hy, h => by
    have hSy := kn_in H hx hs h
    -- one goes on, by nothing or by a call
    have hgo : ∀ z, z ≠ x → Kn a b s x z → (y = z ∨ (a s = z ∧ b s = y) ∨ (a s = y ∧ b s = z)) → ∃ t0 σ, Chain a b S x t0 (s + 1) σ ∧ σ (s + 1) = y := fun z hz hk hst => by
      obtain ⟨t0, σ, hC, hσ⟩ := chain_ex H hx s z (by omega) hz hk
      refine ⟨t0, fun t => if t ≤ s then σ t else y, ⟨by have := hC.lt; omega, ?_, fun t => ?_, fun t => ?_, fun t => ?_⟩, if_neg (by omega)⟩
      · have := hC.lt
        simp only [if_pos (show t0 ≤ s by omega)]
        exact hC.fst
      · by_cases ht : t ≤ s
        · simp only [if_pos ht]; exact hC.ne t
        · simp only [if_neg ht]; exact hy
      · by_cases ht : t ≤ s
        · simp only [if_pos ht]; exact hC.mem t
        · simp only [if_neg ht]; exact hSy
      · rcases Nat.lt_trichotomy t s with ht | ht | ht
        · simp only [if_pos (show t + 1 ≤ s by omega), if_pos (show t ≤ s by omega)]
          exact hC.on t
        · subst ht
          simp only [if_neg (show ¬ t + 1 ≤ t by omega), if_pos (Nat.le_refl t), hσ]
          exact hst
        · simp only [if_neg (show ¬ t + 1 ≤ s by omega), if_neg (show ¬ t ≤ s by omega)]
          exact .inl trivial
    rcases h with h | ⟨h1, h2⟩
    · exact hgo y hy h (.inl rfl)
    · have hfirst : (a s = x ∧ b s = y) ∨ (a s = y ∧ b s = x) → ∃ t0 σ, Chain a b S x t0 (s + 1) σ ∧ σ (s + 1) = y := fun hf =>
        ⟨s, fun _ => y, ⟨by omega, hf, fun _ => hy, fun _ => hSy, fun _ => .inl rfl⟩, rfl⟩
      rcases h1 with h1 | h1 <;> rcases h2 with h2 | h2
      · exact hgo _ (fun e => hy (h1.trans e)) h2 (.inl h1)
      · by_cases hb : b s = x
        · exact hfirst (.inr ⟨h1.symm, hb⟩)
        · exact hgo _ hb h2 (.inr (.inr ⟨h1.symm, rfl⟩))
      · by_cases ha : a s = x
        · exact hfirst (.inl ⟨ha, h1.symm⟩)
        · exact hgo _ ha h2 (.inr (.inl ⟨rfl, h1.symm⟩))
      · exact hgo _ (fun e => hy (h1.trans e)) h2 (.inl h1)
/-- Who hears his own thing can be left out, and two calls with him. -/
theorem leave_out (H : Phone n S a b K) {x : Nat} (hx : S x = true) (hh : Hears a b K x) : ∃ a' b', Phone n (delB S x) a' b' K ∧ sizeP (realB a' b') K + 2 ≤ sizeP (realB a b) K := by
  obtain ⟨s, y, hs, hy, hc, hk⟩ := hh
  obtain ⟨t0, σ, hC, hσ⟩ := chain_ex H hx s y (by omega) hy hk
  have hcs : (a s = x ∧ b s = σ s) ∨ (a s = σ s ∧ b s = x) := by rw [hσ]; exact hc
  -- whoever carries it speaks for x
  let a' : Nat → Nat := fun t => if a t = x then σ t else a t
  let b' : Nat → Nat := fun t => if b t = x then σ t else b t
  have hstay : ∀ t, a t = x ∨ b t = x → σ (t + 1) = σ t := fun t h => by
    rcases hC.on t with h1 | ⟨h1, h2⟩ | ⟨h1, h2⟩
    · exact h1
    · rcases h with h | h
      · exact absurd (h1.symm.trans h) (hC.ne t)
      · exact absurd (h2.symm.trans h) (hC.ne (t + 1))
    · rcases h with h | h
      · exact absurd (h1.symm.trans h) (hC.ne (t + 1))
      · exact absurd (h2.symm.trans h) (hC.ne t)
  have hmain : ∀ i, i ≠ x → ∀ t, (∀ j, j ≠ x → Kn a b t i j → Kn a' b' t i j) ∧ (Kn a b t i x → Kn a' b' t i (σ t)) := fun i hi t => by
    induction t with
    | zero => exact ⟨fun j _ h => h, fun h => absurd h hi⟩
    | succ t ih =>
      obtain ⟨ih1, ih2⟩ := ih
      -- whom one who knows hands it on to
      have hca : Kn a b t i (a t) → Kn a' b' t i (a' t) := fun h => by
        show Kn a' b' t i (if a t = x then σ t else a t)
        by_cases e : a t = x
        · rw [if_pos e]; exact ih2 (e ▸ h)
        · rw [if_neg e]; exact ih1 _ e h
      have hcb : Kn a b t i (b t) → Kn a' b' t i (b' t) := fun h => by
        show Kn a' b' t i (if b t = x then σ t else b t)
        by_cases e : b t = x
        · rw [if_pos e]; exact ih2 (e ▸ h)
        · rw [if_neg e]; exact ih1 _ e h
      have hor : Kn a b t i (a t) ∨ Kn a b t i (b t) → Kn a' b' t i (a' t) ∨ Kn a' b' t i (b' t) := Or.imp hca hcb
      refine ⟨fun j hj h => ?_, fun h => ?_⟩
      · rcases h with h | ⟨h1, h2⟩
        · exact .inl (ih1 j hj h)
        · refine .inr ⟨?_, hor h2⟩
          rcases h1 with h1 | h1
          · left
            show j = if a t = x then σ t else a t
            rw [if_neg (fun e => hj (h1.trans e))]; exact h1
          · right
            show j = if b t = x then σ t else b t
            rw [if_neg (fun e => hj (h1.trans e))]; exact h1
      · rcases h with h | ⟨h1, h2⟩
        · have h3 := ih2 h
          rcases hC.on t with h4 | ⟨h4, h5⟩ | ⟨h4, h5⟩
          · rw [h4]; exact .inl h3
          · have ea : a' t = σ t := by show (if a t = x then σ t else a t) = σ t; rw [if_neg (fun e => hC.ne t (h4.symm.trans e))]; exact h4
            have eb : b' t = σ (t + 1) := by show (if b t = x then σ t else b t) = _; rw [if_neg (fun e => hC.ne (t + 1) (h5.symm.trans e))]; exact h5
            exact .inr ⟨.inr eb.symm, .inl (by rw [ea]; exact h3)⟩
          · have ea : a' t = σ (t + 1) := by show (if a t = x then σ t else a t) = _; rw [if_neg (fun e => hC.ne (t + 1) (h4.symm.trans e))]; exact h4
            have eb : b' t = σ t := by show (if b t = x then σ t else b t) = σ t; rw [if_neg (fun e => hC.ne t (h5.symm.trans e))]; exact h5
            exact .inr ⟨.inl ea.symm, .inr (by rw [eb]; exact h3)⟩
        · rw [hstay t (h1.imp Eq.symm Eq.symm)]
          refine .inr ⟨?_, hor h2⟩
          rcases h1 with h1 | h1
          · left; show σ t = if a t = x then σ t else a t; rw [if_pos h1.symm]
          · right; show σ t = if b t = x then σ t else b t; rw [if_pos h1.symm]
  refine ⟨a', b', ⟨fun i hi => H.lt i (delB_iff.1 hi).1, fun t ht hab => ?_, fun i j hi hj => ?_⟩, ?_⟩
  · have hab0 : a t ≠ b t := fun e => hab (by show (if a t = x then σ t else a t) = if b t = x then σ t else b t; rw [e])
    obtain ⟨g1, g2⟩ := H.in_ t ht hab0
    constructor
    · show delB S x (if a t = x then σ t else a t) = true
      by_cases e : a t = x
      · rw [if_pos e]; exact delB_iff.2 ⟨hC.mem t, hC.ne t⟩
      · rw [if_neg e]; exact delB_iff.2 ⟨g1, e⟩
    · show delB S x (if b t = x then σ t else b t) = true
      by_cases e : b t = x
      · rw [if_pos e]; exact delB_iff.2 ⟨hC.mem t, hC.ne t⟩
      · rw [if_neg e]; exact delB_iff.2 ⟨g2, e⟩
  · obtain ⟨i1, i2⟩ := delB_iff.1 hi
    obtain ⟨j1, j2⟩ := delB_iff.1 hj
    exact (hmain i i2 K).1 j j2 (H.all i j i1 j1)
  · have hnull : ∀ t, (a t = x ∧ b t = σ t) ∨ (a t = σ t ∧ b t = x) → realB a b t = true ∧ realB a' b' t = false := fun t h => by
      have e1 : a' t = b' t := by
        show (if a t = x then σ t else a t) = if b t = x then σ t else b t
        rcases h with ⟨h1, h2⟩ | ⟨h1, h2⟩
        · rw [if_pos h1, if_neg (fun e => hC.ne t (h2.symm.trans e)), h2]
        · rw [if_pos h2, if_neg (fun e => hC.ne t (h1.symm.trans e)), h1]
      refine ⟨?_, by simp [realB, e1]⟩
      simp only [realB, decide_eq_true_eq]
      rcases h with ⟨h1, h2⟩ | ⟨h1, h2⟩
      · rw [h1, h2]; exact (hC.ne t).symm
      · rw [h1, h2]; exact hC.ne t
    obtain ⟨p1, p2⟩ := hnull t0 hC.fst
    obtain ⟨q1, q2⟩ := hnull s hcs
    have hlt := hC.lt
    have d1 := sizeP_del p1 (show t0 < K by omega)
    have d2 := sizeP_del (A := delB (realB a b) t0) (delB_iff.2 ⟨q1, by omega⟩) hs
    have hsub : sizeP (realB a' b') K ≤ sizeP (delB (delB (realB a b) t0) s) K := sizeP_sub fun t _ ht => by
      refine delB_iff.2 ⟨delB_iff.2 ⟨?_, fun e => by rw [e, p2] at ht; cases ht⟩, fun e => by rw [e, q2] at ht; cases ht⟩
      simp only [realB, decide_eq_true_eq] at ht ⊢
      intro e
      exact ht (by show (if a t = x then σ t else a t) = if b t = x then σ t else b t; rw [e])
    omega
/-- How many calls there must be. -/
def fewC (m : Nat) : Nat := if m ≤ 1 then 0 else if m = 2 then 1 else if m = 3 then 3 else 2 * m - 4
/-- The theorem of the telephones, for up to nine. -/
theorem phones : ∀ (m : Nat) (S : BS) (a b : Nat → Nat), sizeP S n = m → m ≤ 9 → Phone n S a b K → fewC m ≤ sizeP (realB a b) K
  | m, S, a, b, hm, h9, H => by
    by_cases hh : ∃ x, S x = true ∧ Hears a b K x
    · obtain ⟨x, hx, hx2⟩ := hh
      obtain ⟨a', b', H', h1⟩ := leave_out H hx hx2
      have hdel := sizeP_del hx (H.lt x hx)
      have ih := phones (m - 1) (delB S x) a' b' (by omega) (by omega) H'
      unfold fewC at ih ⊢
      split at ih <;> split <;> (try split at ih) <;> (try split) <;> (try split at ih) <;> (try split) <;> omega
    · -- nobody hears his own
      have hge : ∀ x, S x = true → 2 * (m - 1) ≤ sizeP (realB a b) K + sizeP (ownB a b x) K := fun x hx => by
        have := calls_ge H hx fun h => hh ⟨x, hx, h⟩
        rw [hm] at this
        exact this
      have hsum : m * (2 * (m - 1)) ≤ m * sizeP (realB a b) K + sumTo (fun x => sizeP (ownB a b x) K) n := by
        have : ∀ k, k ≤ n → sizeP S k * (2 * (m - 1)) ≤ sizeP S k * sizeP (realB a b) K + sumTo (fun x => sizeP (ownB a b x) K) k := fun k => by
          induction k with
          | zero => intro _; simp [sizeP, sumTo]
          | succ k ih =>
            intro hk
            have ih := ih (by omega)
            rw [sizeP_succ]
            simp only [sumTo]
            by_cases hS : S k = true
            · have h1 := hge k hS
              rw [if_pos hS, Nat.add_mul, Nat.add_mul, Nat.one_mul, Nat.one_mul]
              omega
            · rw [if_neg hS, Nat.add_zero]; omega
        have h := this n (Nat.le_refl n)
        rw [hm] at h
        exact h
      have hown := own_sum (a := a) (b := b) (K := K) n
      generalize sizeP (realB a b) K = k at *
      generalize sumTo (fun x => sizeP (ownB a b x) K) n = z at *
      rcases (show m = 0 ∨ m = 1 ∨ m = 2 ∨ m = 3 ∨ m = 4 ∨ m = 5 ∨ m = 6 ∨ m = 7 ∨ m = 8 ∨ m = 9 by omega) with rfl | rfl | rfl | rfl | rfl | rfl | rfl | rfl | rfl | rfl <;> simp [fewC] <;> omega
  termination_by m => m
  decreasing_by omega
end
end Go.Proofs.Ytpcealcghglopaa

namespace Go.Proofs.Ytpcealcghglopaa

/-- How many neighbours one has in a set. -/
def degS (adj : Nat → Nat → Bool) (n : Nat) (S : Nat → Bool) (v : Nat) : Nat := sizeP (fun u => S u && adj v u) n
/-- A colouring of a set, by d colours. -/
structure ColP (adj : Nat → Nat → Bool) (n d : Nat) (P : Nat → Bool) (c : Nat → Nat) : Prop where
  lt : ∀ i, i < n → P i = true → c i < d
  ne : ∀ i j, i < n → j < n → P i = true → P j = true → adj i j = true → c i ≠ c j
def addB (P : Nat → Bool) (x : Nat) : Nat → Bool := fun i => P i || decide (i = x)
theorem addB_iff {P : Nat → Bool} {x i : Nat} : addB P x i = true ↔ P i = true ∨ i = x := by simp [addB]
def updC (c : Nat → Nat) (x v : Nat) : Nat → Nat := fun i => if i = x then v else c i
section
variable {adj : Nat → Nat → Bool} {n d : Nat} {S P : Nat → Bool} {c : Nat → Nat}
theorem sizeP_below : ∀ (n : Nat) {d : Nat}, d ≤ n → sizeP (fun x => decide (x < d)) n = d
  | 0, d, h => by rw [show d = 0 by omega]; rfl
  | n + 1, d, h => by
    rw [sizeP_succ]
    rcases Nat.lt_or_ge n d with h1 | h1
    · have e : sizeP (fun x => decide (x < d)) n = sizeP (fun x => decide (x < n)) n := sizeP_congr n fun i hi => by rw [decide_eq_true (show i < d by omega), decide_eq_true hi]
      rw [e, sizeP_below n (Nat.le_refl n), if_pos (by simpa using h1)]; omega
    · rw [sizeP_below n h1, if_neg (by simp; omega)]; rfl
/-- A colour that no neighbour has: one neighbour has none yet, or two have one. -/
theorem free_col (hdn : d ≤ n) {x : Nat} (_hx : x < n) (hdeg : degS adj n S x ≤ d) (hPS : ∀ i, P i = true → S i = true)
    (h : (∃ y, y < n ∧ S y = true ∧ adj x y = true ∧ P y = false) ∨ ∃ u w, u < n ∧ w < n ∧ u ≠ w ∧ P u = true ∧ P w = true ∧ adj x u = true ∧ adj x w = true ∧ c u = c w) :
    ∃ k, k < d ∧ ∀ j, j < n → P j = true → adj x j = true → c j ≠ k := by
  apply Classical.byContradiction
  intro hno
  have hall : ∀ k, ∃ j, k < d → j < n ∧ P j = true ∧ adj x j = true ∧ c j = k := fun k => by
    by_cases hk : k < d
    · apply Classical.byContradiction
      intro h2
      exact hno ⟨k, hk, fun j hj hP ha e => h2 ⟨j, fun _ => ⟨hj, hP, ha, e⟩⟩⟩
    · exact ⟨0, fun h => absurd h hk⟩
  obtain ⟨f, hf⟩ := Classical.axiomOfChoice hall
  have hinj : ∀ i j, i < n → j < n → decide (i < d) = true → decide (j < d) = true → f i = f j → i = j := fun i j _ _ h1 h2 e => by
    have a := (hf i (by simpa using h1)).2.2.2
    have b := (hf j (by simpa using h2)).2.2.2
    rw [← a, ← b, e]
  have hlt : ∀ z, z < n → S z = true → adj x z = true → (∀ k, k < d → f k ≠ z) → False := fun z hz hSz haz hne => by
    have h1 := sizeP_inj (n := n) _ (A := fun k => decide (k < d)) (B := delB (fun u => S u && adj x u) z) (m := f) rfl (fun k _ hk => by
      obtain ⟨a1, a2, a3, _⟩ := hf k (by simpa using hk)
      exact ⟨a1, delB_iff.2 ⟨by simp [hPS _ a2, a3], hne k (by simpa using hk)⟩⟩) hinj
    have h2 := sizeP_del (A := fun u => S u && adj x u) (i := z) (by simp [hSz, haz]) hz
    rw [sizeP_below n hdn] at h1
    unfold degS at hdeg
    omega
  rcases h with ⟨y, hy, hSy, hay, hPy⟩ | ⟨u, w, hu, hw, huw, hPu, hPw, hau, haw, he⟩
  · refine hlt y hy hSy hay fun k hk e => ?_
    have := (hf k hk).2.1
    rw [e, hPy] at this; cases this
  · by_cases hk : ∃ k, k < d ∧ f k = u
    · obtain ⟨k, hk, e⟩ := hk
      refine hlt w hw (hPS w hPw) haw fun k' hk' e' => huw ?_
      have h1 := (hf k hk).2.2.2
      have h2 := (hf k' hk').2.2.2
      rw [e] at h1; rw [e'] at h2
      have : k = k' := by omega
      rw [← e, ← e', this]
    · exact hlt u hu (hPS u hPu) hau fun k hk' e => hk ⟨k, hk', e⟩
theorem col_add (hsym : ∀ a b, adj a b = adj b a) (hirr : ∀ a, adj a a = false) (H : ColP adj n d P c) {x k : Nat} (hk : k < d) (hno : ∀ j, j < n → P j = true → adj x j = true → c j ≠ k) (hxP : P x = false) : ColP adj n d (addB P x) (updC c x k) := by
  have hne : ∀ i, P i = true → i ≠ x := fun i hi e => by rw [e, hxP] at hi; cases hi
  refine ⟨fun i hi hP => ?_, fun i j hi hj hPi hPj ha => ?_⟩
  · unfold updC
    split
    · exact hk
    · rename_i e; exact H.lt i hi ((addB_iff.1 hP).resolve_right e)
  · unfold updC
    rcases addB_iff.1 hPi with h1 | h1 <;> rcases addB_iff.1 hPj with h2 | h2
    · rw [if_neg (hne i h1), if_neg (hne j h2)]; exact H.ne i j hi hj h1 h2 ha
    · rw [if_neg (hne i h1), if_pos h2]
      exact hno i hi h1 (by rw [hsym, ← h2]; exact ha)
    · rw [if_pos h1, if_neg (hne j h2)]
      exact fun e => hno j hj h2 (by rw [← h1]; exact ha) e.symm
    · rw [h1, h2, hirr] at ha; cases ha
/-- One after the other, each with a neighbour that has no colour yet. -/
theorem col_seq (hdn : d ≤ n) (hsym : ∀ a b, adj a b = adj b a) (hirr : ∀ a, adj a a = false) (hdeg : ∀ x, x < n → S x = true → degS adj n S x ≤ d) (hPS : ∀ i, P i = true → S i = true) (H : ColP adj n d P c) (q : Nat → Nat) : ∀ k,
    (∀ t, t < k → q t < n ∧ S (q t) = true ∧ P (q t) = false ∧ (∀ t', t' < t → q t' ≠ q t) ∧ ∃ y, y < n ∧ S y = true ∧ adj (q t) y = true ∧ P y = false ∧ ∀ t', t' ≤ t → y ≠ q t') →
    ∃ c', ColP adj n d (fun i => P i || (List.range k).any fun t => decide (i = q t)) c' ∧ ∀ i, P i = true → c' i = c i
  | 0, _ => ⟨c, ⟨fun i hi h => H.lt i hi (by simpa using h), fun i j hi hj h1 h2 => H.ne i j hi hj (by simpa using h1) (by simpa using h2)⟩, fun _ _ => rfl⟩
  | k + 1, hq => by
    obtain ⟨c1, h1, h2⟩ := col_seq hdn hsym hirr hdeg hPS H q k fun t ht => hq t (by omega)
    obtain ⟨a1, a2, a3, a4, y, b1, b2, b3, b4, b5⟩ := hq k (by omega)
    have hmem : ∀ i, ((List.range k).any fun t => decide (i = q t)) = true ↔ ∃ t, t < k ∧ i = q t := fun i => by
      rw [List.any_eq_true]
      exact ⟨fun ⟨t, ht, e⟩ => ⟨t, List.mem_range.1 ht, by simpa using e⟩, fun ⟨t, ht, e⟩ => ⟨t, List.mem_range.2 ht, by simpa using e⟩⟩
    have hnk : (P (q k) || (List.range k).any fun t => decide (q k = q t)) = false := by
      rw [a3, Bool.false_or, Bool.eq_false_iff]
      intro h
      obtain ⟨t, ht, e⟩ := (hmem _).1 h
      exact a4 t ht e.symm
    obtain ⟨col, g1, g2⟩ := free_col (adj := adj) (n := n) (S := S) (P := fun i => P i || (List.range k).any fun t => decide (i = q t)) (c := c1) hdn a1 (hdeg _ a1 a2) (fun i hi => by
      simp only [Bool.or_eq_true] at hi
      rcases hi with hi | hi
      · exact hPS i hi
      · obtain ⟨t, ht, e⟩ := (hmem i).1 hi
        rw [e]; exact (hq t (by omega)).2.1) (.inl ⟨y, b1, b2, b3, by
          show (P y || _) = false
          rw [b4, Bool.false_or, Bool.eq_false_iff]
          intro h
          obtain ⟨t, ht, e⟩ := (hmem _).1 h
          exact b5 t (by omega) e⟩)
    have h3 := col_add hsym hirr h1 g1 g2 hnk
    refine ⟨_, ⟨fun i hi h => h3.lt i hi ?_, fun i j hi hj hh1 hh2 => h3.ne i j hi hj ?_ ?_⟩, fun i hi => ?_⟩
    · rw [List.range_succ, List.any_append, List.any_cons, List.any_nil, Bool.or_false, ← Bool.or_assoc] at h; exact h
    · rw [List.range_succ, List.any_append, List.any_cons, List.any_nil, Bool.or_false, ← Bool.or_assoc] at hh1; exact hh1
    · rw [List.range_succ, List.any_append, List.any_cons, List.any_nil, Bool.or_false, ← Bool.or_assoc] at hh2; exact hh2
    · unfold updC
      rw [if_neg (fun e => by rw [e, a3] at hi; cases hi)]
      exact h2 i hi
/-- A row of so many, each with an edge to the next, none twice. -/
structure RowP (adj : Nat → Nat → Bool) (n : Nat) (S : Nat → Bool) (r : Nat) (p : Nat → Nat) : Prop where
  in_ : ∀ t, t < r → p t < n ∧ S (p t) = true
  adj_ : ∀ t, t + 1 < r → adj (p t) (p (t + 1)) = true
  one : ∀ a b, a < r → b < r → p a = p b → a = b
theorem RowP.le {r : Nat} {p : Nat → Nat} (H : RowP adj n S r p) : r ≤ n := by
  rcases Nat.lt_or_ge n r with h | h
  · have h1 := sizeP_inj (n := r) _ (A := fun _ => true) (B := fun x => decide (x < n)) (m := p) rfl (fun i hi _ => ⟨by have := (H.in_ i hi).1; omega, by simpa using (H.in_ i hi).1⟩) fun i j hi hj _ _ e => H.one i j hi hj e
    rw [sizeP_below r (by omega)] at h1
    have h2 : sizeP (fun _ : Nat => false) r + sizeP (fun _ : Nat => true) r = r := sizeP_not (fun _ : Nat => true) r
    have h3 : sizeP (fun _ : Nat => false) r = 0 := sizeP_none fun _ _ => rfl
    omega
  · exact h
/-- The longest row with a given beginning: all neighbours of its last one are of it. -/
theorem row_max : ∀ (k r : Nat) (p : Nat → Nat), n ≤ r + k → 0 < r → RowP adj n S r p → ∃ r' p', r ≤ r' ∧ RowP adj n S r' p' ∧ (∀ t, t < r → p' t = p t) ∧ ∀ y, y < n → S y = true → adj (p' (r' - 1)) y = true → ∃ t, t < r' ∧ p' t = y
  | k, r, p, hk, hr, H => by
    by_cases hex : ∃ y, y < n ∧ S y = true ∧ adj (p (r - 1)) y = true ∧ ∀ t, t < r → p t ≠ y
    · obtain ⟨y, h1, h2, h3, h4⟩ := hex
      have H' : RowP adj n S (r + 1) (fun t => if t < r then p t else y) := by
        refine ⟨fun t ht => ?_, fun t ht => ?_, fun a b ha hb e => ?_⟩
        · by_cases h : t < r
          · simp only [if_pos h]; exact H.in_ t h
          · simp only [if_neg h]; exact ⟨h1, h2⟩
        · by_cases h : t + 1 < r
          · simp only [if_pos (show t < r by omega), if_pos h]; exact H.adj_ t h
          · simp only [if_pos (show t < r by omega), if_neg h]
            rw [show t = r - 1 by omega]; exact h3
        · by_cases ha' : a < r <;> by_cases hb' : b < r
          · simp only [if_pos ha', if_pos hb'] at e; exact H.one a b ha' hb' e
          · simp only [if_pos ha', if_neg hb'] at e; exact absurd e (h4 a ha')
          · simp only [if_neg ha', if_pos hb'] at e; exact absurd e.symm (h4 b hb')
          · omega
      have hle := H'.le
      cases k with
      | zero => omega
      | succ k =>
        obtain ⟨r', p', g1, g2, g3, g4⟩ := row_max k (r + 1) _ (by omega) (by omega) H'
        exact ⟨r', p', by omega, g2, fun t ht => by rw [g3 t (by omega), if_pos ht], g4⟩
    · refine ⟨r, p, Nat.le_refl _, H, fun _ _ => rfl, fun y h1 h2 h3 => Classical.byContradiction fun hno => hex ⟨y, h1, h2, h3, fun t ht e => hno ⟨t, ht, e⟩⟩⟩
/-- All of a ring but one: each has a neighbour that has no colour yet; and the last one two of one colour. -/
theorem ring_col (hdn : d ≤ n) (hsym : ∀ a b, adj a b = adj b a) (hirr : ∀ a, adj a a = false) (hdeg : ∀ x, x < n → S x = true → degS adj n S x ≤ d) (hPS : ∀ i, P i = true → S i = true) (H : ColP adj n d P c) {L : Nat} {w : Nat → Nat} (hL : 2 ≤ L)
    (hin : ∀ t, t < L → w t < n ∧ S (w t) = true ∧ P (w t) = false) (hadj : ∀ t, t + 1 < L → adj (w t) (w (t + 1)) = true) (hlast : adj (w (L - 1)) (w 0) = true) (hone : ∀ a b, a < L → b < L → w a = w b → a = b)
    {u : Nat} (hu : u < n) (hPu : P u = true) (hua : adj (w (L - 1)) u = true) (h0 : ∀ j, j < n → P j = true → adj (w 0) j = false) :
    ∃ c', ColP adj n d (fun i => P i || (List.range L).any fun t => decide (i = w t)) c' := by
  obtain ⟨a1, a2, a3⟩ := hin 0 (by omega)
  -- the first one: as the one outside
  have H1 : ColP adj n d (addB P (w 0)) (updC c (w 0) (c u)) := col_add hsym hirr H (H.lt u hu hPu) (fun j hj hP ha => by rw [h0 j hj hP] at ha; cases ha) a3
  have hPS1 : ∀ i, addB P (w 0) i = true → S i = true := fun i hi => by
    rcases addB_iff.1 hi with h | h
    · exact hPS i h
    · rw [h]; exact a2
  obtain ⟨c2, h2, h3⟩ := col_seq hdn hsym hirr hdeg hPS1 H1 (fun t => w (t + 1)) (L - 2) fun t ht => by
    obtain ⟨b1, b2, b3⟩ := hin (t + 1) (by omega)
    obtain ⟨d1, d2, d3⟩ := hin (t + 2) (by omega)
    have hn : ∀ s, s < L → s ≠ 0 → P (w s) = false → addB P (w 0) (w s) = false := fun s hs hs0 hP => by
      rw [Bool.eq_false_iff]
      intro h
      rcases addB_iff.1 h with h | h
      · rw [hP] at h; cases h
      · exact hs0 (hone s 0 hs (by omega) h)
    exact ⟨b1, b2, hn _ (by omega) (by omega) b3, fun t' ht' e => by have := hone _ _ (by omega) (by omega) e; omega, w (t + 2), d1, d2, hadj (t + 1) (by omega), hn _ (by omega) (by omega) d3, fun t' ht' e => by have := hone _ _ (by omega) (by omega) e; omega⟩
  have hmem : ∀ i k, ((List.range k).any fun t => decide (i = w (t + 1))) = true ↔ ∃ t, t < k ∧ i = w (t + 1) := fun i k => by
    rw [List.any_eq_true]
    exact ⟨fun ⟨t, ht, e⟩ => ⟨t, List.mem_range.1 ht, by simpa using e⟩, fun ⟨t, ht, e⟩ => ⟨t, List.mem_range.2 ht, by simpa using e⟩⟩
  obtain ⟨l1, l2, l3⟩ := hin (L - 1) (by omega)
  have hne0 : w (L - 1) ≠ w 0 := fun e => by have := hone _ _ (by omega) (by omega) e; omega
  have hnl : (addB P (w 0) (w (L - 1)) || (List.range (L - 2)).any fun t => decide (w (L - 1) = w (t + 1))) = false := by
    rw [Bool.eq_false_iff]
    intro h
    rcases Bool.or_eq_true _ _ |>.mp h with h | h
    · rcases addB_iff.1 h with h | h
      · rw [l3] at h; cases h
      · exact hne0 h
    · obtain ⟨t, ht, e⟩ := (hmem _ _).1 h
      have := hone _ _ (by omega) (by omega) e
      omega
  have hPu1 : addB P (w 0) u = true := addB_iff.2 (.inl hPu)
  have hP01 : addB P (w 0) (w 0) = true := addB_iff.2 (.inr rfl)
  have hu0 : u ≠ w 0 := fun e => by rw [e, a3] at hPu; cases hPu
  have hcol : c2 u = c2 (w 0) := by
    rw [h3 u hPu1, h3 _ hP01]
    unfold updC
    rw [if_neg hu0, if_pos rfl]
  obtain ⟨col, g1, g2⟩ := free_col (adj := adj) (n := n) (S := S) (P := fun i => addB P (w 0) i || (List.range (L - 2)).any fun t => decide (i = w (t + 1))) (c := c2) hdn l1 (hdeg _ l1 l2) (fun i hi => by
    rcases Bool.or_eq_true _ _ |>.mp hi with hi | hi
    · exact hPS1 i hi
    · obtain ⟨t, ht, e⟩ := (hmem _ _).1 hi
      rw [e]; exact (hin _ (by omega)).2.1) (.inr ⟨u, w 0, hu, a1, hu0, by simp [hPu1], by simp [hP01], hua, hlast, hcol⟩)
  have h4 := col_add hsym hirr h2 g1 g2 hnl
  have hall : ∀ i, (P i || (List.range L).any fun t => decide (i = w t)) = true → addB (fun i => addB P (w 0) i || (List.range (L - 2)).any fun t => decide (i = w (t + 1))) (w (L - 1)) i = true := fun i hi => by
    rw [addB_iff]
    rcases Bool.or_eq_true _ _ |>.mp hi with hi | hi
    · left; simp [addB_iff.2 (.inl hi)]
    · rw [List.any_eq_true] at hi
      obtain ⟨t, ht, e⟩ := hi
      have ht := List.mem_range.1 ht
      have e : i = w t := by simpa using e
      rcases Nat.eq_zero_or_pos t with h5 | h5
      · left; rw [e, h5]; simp [hP01]
      · rcases Nat.lt_or_ge t (L - 1) with h6 | h6
        · left
          rw [Bool.or_eq_true]
          exact .inr ((hmem i (L - 2)).2 ⟨t - 1, by omega, by rw [show t - 1 + 1 = t by omega]; exact e⟩)
        · right; rw [e, show t = L - 1 by omega]
  exact ⟨_, ⟨fun i hi h => h4.lt i hi (hall i h), fun i j hi hj p1 p2 => h4.ne i j hi hj (hall i p1) (hall j p2)⟩⟩
/-- No so many nodes have all edges. -/
def NoClique (adj : Nat → Nat → Bool) (n k : Nat) (S : Nat → Bool) : Prop := ∀ K : Nat → Bool, (∀ i, i < n → K i = true → S i = true) → (∀ i j, i < n → j < n → K i = true → K j = true → i ≠ j → adj i j = true) → sizeP K n ≠ k
/-- BROOKS. -/
theorem brooks (hdn : d ≤ n) (hd : 3 ≤ d) (hsym : ∀ a b, adj a b = adj b a) (hirr : ∀ a, adj a a = false) : ∀ (m : Nat) (S : Nat → Bool), sizeP S n = m → (∀ x, x < n → S x = true → degS adj n S x ≤ d) → NoClique adj n (d + 1) S → ∃ c, ColP adj n d S c
  | m, S, hm, hdeg, hcl => by
    have hsub : ∀ T : Nat → Bool, (∀ i, i < n → T i = true → S i = true) → (∀ x, x < n → T x = true → degS adj n T x ≤ d) ∧ NoClique adj n (d + 1) T := fun T hT =>
      ⟨fun x hx hTx => Nat.le_trans (sizeP_sub fun i hi h => by
        simp only [Bool.and_eq_true] at h ⊢
        exact ⟨hT i hi h.1, h.2⟩) (hdeg x hx (hT x hx hTx)), fun K h1 h2 => hcl K (fun i hi h => hT i hi (h1 i hi h)) h2⟩
    by_cases hlow : ∃ x, x < n ∧ S x = true ∧ degS adj n S x < d
    · -- one with fewer neighbours goes last
      obtain ⟨x, hx, hSx, hdx⟩ := hlow
      have hdel := sizeP_del hSx hx
      obtain ⟨h1, h2⟩ := hsub (delB S x) fun i _ h => (delB_iff.1 h).1
      obtain ⟨c, hc⟩ := brooks hdn hd hsym hirr (m - 1) (delB S x) (by omega) h1 h2
      have hfree : ∃ k, k < d ∧ ∀ j, j < n → delB S x j = true → adj x j = true → c j ≠ k := by
        apply Classical.byContradiction
        intro hno
        have hall : ∀ k, ∃ j, k < d → j < n ∧ delB S x j = true ∧ adj x j = true ∧ c j = k := fun k => by
          by_cases hk : k < d
          · apply Classical.byContradiction
            intro h2
            exact hno ⟨k, hk, fun j hj hP ha e => h2 ⟨j, fun _ => ⟨hj, hP, ha, e⟩⟩⟩
          · exact ⟨0, fun h => absurd h hk⟩
        obtain ⟨f, hf⟩ := Classical.axiomOfChoice hall
        have h1 := sizeP_inj (n := n) _ (A := fun k => decide (k < d)) (B := fun u => S u && adj x u) (m := f) rfl (fun k _ hk => by
          obtain ⟨a1, a2, a3, _⟩ := hf k (by simpa using hk)
          exact ⟨a1, by simp [(delB_iff.1 a2).1, a3]⟩) fun i j _ _ h1 h2 e => by
            have a := (hf i (by simpa using h1)).2.2.2
            have b := (hf j (by simpa using h2)).2.2.2
            rw [← a, ← b, e]
        rw [sizeP_below n hdn] at h1
        unfold degS at hdx
        omega
      obtain ⟨k, g1, g2⟩ := hfree
      have h3 := col_add hsym hirr hc g1 g2 (by simp [delB])
      have hS : ∀ i, S i = true → addB (delB S x) x i = true := fun i hi => by
        rw [addB_iff, delB_iff]
        by_cases e : i = x
        · exact .inr e
        · exact .inl ⟨hi, e⟩
      exact ⟨_, ⟨fun i hi h => h3.lt i hi (hS i h), fun i j hi hj p1 p2 => h3.ne i j hi hj (hS i p1) (hS j p2)⟩⟩
    · have hreg : ∀ x, x < n → S x = true → degS adj n S x = d := fun x hx hSx => by
        have h1 := hdeg x hx hSx
        have h2 : ¬ degS adj n S x < d := fun h => hlow ⟨x, hx, hSx, h⟩
        omega
      rcases Nat.eq_zero_or_pos (sizeP S n) with h0 | h0
      · have hno : ∀ i, i < n → S i = true → False := fun i hi h => by have := sizeP_del h hi; omega
        exact ⟨fun _ => 0, ⟨fun i hi h => (hno i hi h).elim, fun i _ hi _ h => (hno i hi h).elim⟩⟩
      · obtain ⟨v, hv, hSv⟩ := sizeP_pos h0
        -- two neighbours without an edge
        obtain ⟨x, y, hx, hy, hSx, hSy, hvx, hvy, hxy, hnxy⟩ : ∃ x y, x < n ∧ y < n ∧ S x = true ∧ S y = true ∧ adj v x = true ∧ adj v y = true ∧ x ≠ y ∧ adj x y = false := by
          apply Classical.byContradiction
          intro hno
          have hK : ∀ i j, i < n → j < n → addB (fun u => S u && adj v u) v i = true → addB (fun u => S u && adj v u) v j = true → i ≠ j → adj i j = true := fun i j hi hj h1 h2 hij => by
            rw [addB_iff] at h1 h2
            simp only [Bool.and_eq_true] at h1 h2
            rcases h1 with h1 | h1 <;> rcases h2 with h2 | h2
            · cases ha : adj i j with
              | true => rfl
              | false => exact absurd ⟨i, j, hi, hj, h1.1, h2.1, h1.2, h2.2, hij, ha⟩ hno
            · rw [h2, hsym]; exact h1.2
            · rw [h1]; exact h2.2
            · exact absurd (h1.trans h2.symm) hij
          refine hcl _ (fun i _ h => ?_) hK ?_
          · rw [addB_iff] at h
            simp only [Bool.and_eq_true] at h
            rcases h with h | h
            · exact h.1
            · rw [h]; exact hSv
          · rw [sizeP_del (A := addB (fun u => S u && adj v u) v) (i := v) (addB_iff.2 (.inr rfl)) hv]
            have e : sizeP (delB (addB (fun u => S u && adj v u) v) v) n = degS adj n S v := sizeP_congr n fun i _ => by
              rw [Bool.eq_iff_iff, delB_iff, addB_iff]
              constructor
              · rintro ⟨h1 | h1, h2⟩
                · exact h1
                · exact absurd h1 h2
              · intro h1
                refine ⟨.inl h1, fun e => ?_⟩
                simp only [Bool.and_eq_true] at h1
                rw [e, hirr] at h1
                cases h1.2
            rw [e, hreg v hv hSv]
        have hvx' : v ≠ x := fun e => by rw [e, hirr] at hvx; cases hvx
        have hvy' : v ≠ y := fun e => by rw [e, hirr] at hvy; cases hvy
        -- the longest row that begins with them
        have H3 : RowP adj n S 3 (fun t => if t = 0 then x else if t = 1 then v else y) := by
          refine ⟨fun t ht => ?_, fun t ht => ?_, fun a b ha hb e => ?_⟩
          · rcases (show t = 0 ∨ t = 1 ∨ t = 2 by omega) with rfl | rfl | rfl
            · exact ⟨hx, hSx⟩
            · exact ⟨hv, hSv⟩
            · exact ⟨hy, hSy⟩
          · rcases (show t = 0 ∨ t = 1 by omega) with rfl | rfl
            · show adj x v = true; rw [hsym]; exact hvx
            · exact hvy
          · rcases (show a = 0 ∨ a = 1 ∨ a = 2 by omega) with rfl | rfl | rfl <;> rcases (show b = 0 ∨ b = 1 ∨ b = 2 by omega) with rfl | rfl | rfl <;> first | rfl | exact absurd e hvx' | exact absurd e.symm hvx' | exact absurd e hvy' | exact absurd e.symm hvy' | exact absurd e hxy | exact absurd e.symm hxy
        obtain ⟨r, p, hr3, HR, hbeg, hmax⟩ := row_max n 3 _ (by omega) (by omega) H3
        have hp0 : p 0 = x := hbeg 0 (by omega)
        have hp1 : p 1 = v := hbeg 1 (by omega)
        have hp2 : p 2 = y := hbeg 2 (by omega)
        obtain ⟨hzn, hzS⟩ := HR.in_ (r - 1) (by omega)
        -- the first one of it that has an edge with the last
        have hexj : ∃ j, j < r ∧ adj (p (r - 1)) (p j) = true := by
          have : adj (p (r - 2)) (p (r - 2 + 1)) = true := HR.adj_ (r - 2) (by omega)
          rw [show r - 2 + 1 = r - 1 by omega] at this
          exact ⟨r - 2, by omega, by rw [hsym]; exact this⟩
        obtain ⟨j, hjr, hja, hjleast⟩ : ∃ j, j < r ∧ adj (p (r - 1)) (p j) = true ∧ ∀ i, i < j → adj (p (r - 1)) (p i) = false := by
          obtain ⟨j0, h1, h2⟩ := hexj
          have : ∀ k j, j ≤ k → j < r → adj (p (r - 1)) (p j) = true → ∃ j, j < r ∧ adj (p (r - 1)) (p j) = true ∧ ∀ i, i < j → adj (p (r - 1)) (p i) = false := fun k => by
            induction k with
            | zero => exact fun j hj hr h => ⟨j, hr, h, fun i hi => by omega⟩
            | succ k ih =>
              intro j hj hr h
              by_cases hh : ∃ i, i < j ∧ adj (p (r - 1)) (p i) = true
              · obtain ⟨i, hi, h'⟩ := hh
                exact ih i (by omega) (by omega) h'
              · exact ⟨j, hr, h, fun i hi => by
                  cases ha : adj (p (r - 1)) (p i) with
                  | false => rfl
                  | true => exact absurd ⟨i, hi, ha⟩ hh⟩
          exact this j0 j0 (Nat.le_refl _) h1 h2
        have hjr1 : j ≠ r - 1 := fun e => by rw [e, hirr] at hja; cases hja
        -- the ring at the end
        obtain ⟨L, hL⟩ : ∃ L, r = j + L := ⟨r - j, by omega⟩
        have hL2 : 2 ≤ L := by omega
        let inC : Nat → Bool := fun i => (List.range L).any fun t => decide (i = p (j + t))
        have hinC : ∀ i, inC i = true ↔ ∃ t, t < L ∧ i = p (j + t) := fun i => by
          show ((List.range L).any fun t => decide (i = p (j + t))) = true ↔ _
          rw [List.any_eq_true]
          exact ⟨fun ⟨t, ht, e⟩ => ⟨t, List.mem_range.1 ht, by simpa using e⟩, fun ⟨t, ht, e⟩ => ⟨t, List.mem_range.2 ht, by simpa using e⟩⟩
        have hCS : ∀ i, inC i = true → i < n ∧ S i = true := fun i hi => by
          obtain ⟨t, ht, e⟩ := (hinC i).1 hi
          rw [e]; exact HR.in_ _ (by omega)
        have hCpos : 0 < sizeP inC n := by
          have := sizeP_del (A := inC) (i := p j) ((hinC _).2 ⟨0, by omega, rfl⟩) (HR.in_ j hjr).1
          omega
        have hlastC : ∀ z, z < n → S z = true → adj (p (r - 1)) z = true → inC z = true := fun z hz hSz ha => by
          obtain ⟨t, ht, e⟩ := hmax z hz hSz ha
          refine (hinC z).2 ⟨t - j, ?_, ?_⟩
          · rcases Nat.lt_or_ge t j with h | h
            · have := hjleast t h; rw [e, ha] at this; cases this
            · omega
          · rcases Nat.lt_or_ge t j with h | h
            · have := hjleast t h; rw [e, ha] at this; cases this
            · rw [show j + (t - j) = t by omega]; exact e.symm
        have hout : sizeP (fun i => S i && !inC i) n < m := by
          have h1 := sizeP_part S inC n
          have h2 : sizeP (fun i => S i && inC i) n = sizeP inC n := sizeP_congr n fun i _ => by
            cases hc : inC i with
            | false => simp
            | true => simp [(hCS i hc).2]
          omega
        obtain ⟨hd1, hd2⟩ := hsub (fun i => S i && !inC i) fun i _ h => by simp only [Bool.and_eq_true] at h; exact h.1
        obtain ⟨c, hc⟩ := brooks hdn hd hsym hirr (sizeP (fun i => S i && !inC i) n) (fun i => S i && !inC i) rfl hd1 hd2
        by_cases hB : ∃ t u, t < L ∧ u < n ∧ S u = true ∧ inC u = false ∧ adj (p (j + t)) u = true
        · -- the last one of the ring that has a neighbour outside
          obtain ⟨t, u, htL, hu, hSu, huC, hua, htop⟩ : ∃ t u, t + 1 < L ∧ u < n ∧ S u = true ∧ inC u = false ∧ adj (p (j + t)) u = true ∧ ∀ z, z < n → S z = true → inC z = false → adj (p (j + (t + 1))) z = false := by
            have hlast : ∀ z, z < n → S z = true → inC z = false → adj (p (j + (L - 1))) z = false := fun z hz hSz hzC => by
              cases ha : adj (p (j + (L - 1))) z with
              | false => rfl
              | true =>
                rw [show j + (L - 1) = r - 1 by omega] at ha
                rw [hlastC z hz hSz ha] at hzC; cases hzC
            have : ∀ k t u, t + k + 1 = L → u < n → S u = true → inC u = false → adj (p (j + t)) u = true → ∃ t u, t + 1 < L ∧ u < n ∧ S u = true ∧ inC u = false ∧ adj (p (j + t)) u = true ∧ ∀ z, z < n → S z = true → inC z = false → adj (p (j + (t + 1))) z = false := fun k => by
              induction k with
              | zero =>
                intro t u h1 h2 h3 h4 h5
                rw [show t = L - 1 by omega, hlast u h2 h3 h4] at h5; cases h5
              | succ k ih =>
                intro t u h1 h2 h3 h4 h5
                by_cases hh : ∃ z, z < n ∧ S z = true ∧ inC z = false ∧ adj (p (j + (t + 1))) z = true
                · obtain ⟨z, z1, z2, z3, z4⟩ := hh
                  exact ih (t + 1) z (by omega) z1 z2 z3 z4
                · exact ⟨t, u, by omega, h2, h3, h4, h5, fun z z1 z2 z3 => by
                    cases ha : adj (p (j + (t + 1))) z with
                    | false => rfl
                    | true => exact absurd ⟨z, z1, z2, z3, ha⟩ hh⟩
            obtain ⟨t, u, h1, h2, h3, h4, h5⟩ := hB
            exact this (L - 1 - t) t u (by omega) h2 h3 h4 h5
          -- round from the next one
          have hidx : ∀ s, s < L → ∃ q, q < L ∧ (if t + 1 + s < L then t + 1 + s else t + 1 + s - L) = q := fun s hs => ⟨_, by split <;> omega, rfl⟩
          obtain ⟨c', hc'⟩ := ring_col (S := S) (P := fun i => S i && !inC i) (c := c) (L := L) (w := fun s => p (j + (if t + 1 + s < L then t + 1 + s else t + 1 + s - L))) (u := u) hdn hsym hirr hdeg (fun i hi => by simp only [Bool.and_eq_true] at hi; exact hi.1) hc hL2
            (fun s hs => by
              obtain ⟨q, hq, e⟩ := hidx s hs
              rw [e]
              have hqC : inC (p (j + q)) = true := (hinC _).2 ⟨q, hq, rfl⟩
              exact ⟨(hCS _ hqC).1, (hCS _ hqC).2, by simp [hqC]⟩)
            (fun s hs => by
              by_cases h1 : t + 1 + (s + 1) < L
              · simp only [if_pos (show t + 1 + s < L by omega), if_pos h1]
                exact HR.adj_ (j + (t + 1 + s)) (by omega)
              · by_cases h2 : t + 1 + s < L
                · simp only [if_pos h2, if_neg h1]
                  rw [show j + (t + 1 + s) = r - 1 by omega, show j + (t + 1 + (s + 1) - L) = j by omega]
                  exact hja
                · simp only [if_neg h2, if_neg h1]
                  rw [show j + (t + 1 + (s + 1) - L) = j + (t + 1 + s - L) + 1 by omega]
                  exact HR.adj_ _ (by omega))
            (by
              simp only [if_neg (show ¬ t + 1 + (L - 1) < L by omega), if_pos (show t + 1 + 0 < L by omega)]
              rw [show j + (t + 1 + (L - 1) - L) = j + t by omega, show j + (t + 1 + 0) = j + t + 1 by omega]
              exact HR.adj_ _ (by omega))
            (fun a b ha hb e => by
              have h1 := HR.one _ _ (by split <;> omega) (by split <;> omega) e
              split at h1 <;> split at h1 <;> omega)
            hu (by simp [hSu, huC])
            (by
              simp only [if_neg (show ¬ t + 1 + (L - 1) < L by omega)]
              rw [show j + (t + 1 + (L - 1) - L) = j + t by omega]
              exact hua)
            (fun z hz hzP => by
              simp only [Bool.and_eq_true, Bool.not_eq_true'] at hzP
              simp only [if_pos (show t + 1 + 0 < L by omega)]
              rw [show j + (t + 1 + 0) = j + (t + 1) by omega]
              exact htop z hz hzP.1 hzP.2)
          have hS : ∀ i, S i = true → ((S i && !inC i) || (List.range L).any fun s => decide (i = p (j + (if t + 1 + s < L then t + 1 + s else t + 1 + s - L)))) = true := fun i hi => by
            cases hiC : inC i with
            | false => simp [hi]
            | true =>
              obtain ⟨q, hq, e⟩ := (hinC i).1 hiC
              rw [Bool.or_eq_true]
              right
              rw [List.any_eq_true]
              refine ⟨if t + 1 ≤ q then q - (t + 1) else q + L - (t + 1), List.mem_range.2 (by split <;> omega), ?_⟩
              rw [decide_eq_true_eq, e]
              congr 2
              split <;> split <;> omega
          exact ⟨c', ⟨fun i hi h => hc'.lt i hi (hS i h), fun i k hi hk p1 p2 => hc'.ne i k hi hk (hS i p1) (hS k p2)⟩⟩
        · have hclosed : ∀ i z, inC i = true → z < n → S z = true → adj i z = true → inC z = true := fun i z hi hz hSz ha => by
            obtain ⟨t, ht, e⟩ := (hinC i).1 hi
            cases hzC : inC z with
            | true => rfl
            | false => exact absurd ⟨t, z, ht, hz, hSz, hzC, by rw [← e]; exact ha⟩ hB
          by_cases hCall : sizeP inC n < m
          · -- apart
            obtain ⟨e1, e2⟩ := hsub inC fun i _ h => (hCS i h).2
            obtain ⟨c2, hc2⟩ := brooks hdn hd hsym hirr (sizeP inC n) inC rfl e1 e2
            refine ⟨fun i => if inC i = true then c2 i else c i, ⟨fun i hi h => ?_, fun i k hi hk p1 p2 ha => ?_⟩⟩
            · by_cases h1 : inC i = true
              · simp only [if_pos h1]; exact hc2.lt i hi h1
              · simp only [if_neg h1]; exact hc.lt i hi (by simp [h, h1])
            · by_cases h1 : inC i = true <;> by_cases h2 : inC k = true
              · simp only [if_pos h1, if_pos h2]; exact hc2.ne i k hi hk h1 h2 ha
              · exact absurd (hclosed i k h1 hk p2 ha) h2
              · exact absurd (hclosed k i h2 hi p1 (by rw [hsym]; exact ha)) h1
              · simp only [if_neg h1, if_neg h2]; exact hc.ne i k hi hk (by simp [p1, h1]) (by simp [p2, h2]) ha
          · -- the row has all
            have hall : ∀ i, i < n → S i = true → inC i = true := fun i hi hSi => by
              cases hiC : inC i with
              | true => rfl
              | false =>
                have h1 : sizeP inC n < sizeP S n := sizeP_lt (u := i) (fun z hz => (hCS z hz).2) hi hiC hSi
                omega
            have hj0 : j = 0 := by
              obtain ⟨t, ht, e⟩ := (hinC x).1 (hall x hx hSx)
              have := HR.one 0 (j + t) (by omega) (by omega) (by rw [hp0]; exact e)
              omega
            subst hj0
            have hrow : ∀ i, i < n → S i = true → ∃ t, t < r ∧ i = p t := fun i hi hSi => by
              obtain ⟨t, ht, e⟩ := (hinC i).1 (hall i hi hSi)
              rw [Nat.zero_add] at e
              exact ⟨t, by omega, e⟩
            -- a third neighbour of the second
            obtain ⟨k, hk3, hkr, hka⟩ : ∃ k, 3 ≤ k ∧ k < r ∧ adj v (p k) = true := by
              have hdv := hreg v hv hSv
              have e1 := sizeP_del (A := fun u => S u && adj v u) (i := x) (by simp [hSx, hvx]) hx
              have e2 := sizeP_del (A := delB (fun u => S u && adj v u) x) (i := y) (delB_iff.2 ⟨by simp [hSy, hvy], Ne.symm hxy⟩) hy
              unfold degS at hdv
              obtain ⟨z, hz, hzb⟩ := sizeP_pos (show 0 < sizeP (delB (delB (fun u => S u && adj v u) x) y) n by omega)
              obtain ⟨z1, z2⟩ := delB_iff.1 hzb
              obtain ⟨z3, z4⟩ := delB_iff.1 z1
              simp only [Bool.and_eq_true] at z3
              obtain ⟨k, hk, e⟩ := hrow z hz z3.1
              refine ⟨k, ?_, hk, by rw [← e]; exact z3.2⟩
              apply Nat.le_of_not_lt
              intro hlt
              rcases (show k = 0 ∨ k = 1 ∨ k = 2 by omega) with rfl | rfl | rfl
              · exact z4 (e.trans hp0)
              · rw [e, hp1, hirr] at z3; cases z3.2
              · exact z2 (e.trans hp2)
            -- the first and the third
            have hne : ∀ a b, a < r → b < r → a ≠ b → p a ≠ p b := fun a b ha hb hab e => hab (HR.one a b ha hb e)
            have H1 : ColP adj n d (addB (addB (fun _ => false) (p 0)) (p 2)) (fun _ => 0) := by
              refine ⟨fun i hi _ => by omega, fun i z hi hz p1 p2 ha => ?_⟩
              rw [addB_iff, addB_iff] at p1 p2
              exfalso
              have q1 : i = x ∨ i = y := p1.elim (fun h => h.elim (fun h => by cases h) fun h => .inl (h.trans hp0)) fun h => .inr (h.trans hp2)
              have q2 : z = x ∨ z = y := p2.elim (fun h => h.elim (fun h => by cases h) fun h => .inl (h.trans hp0)) fun h => .inr (h.trans hp2)
              rcases q1 with rfl | rfl <;> rcases q2 with rfl | rfl
              · rw [hirr] at ha; cases ha
              · rw [hnxy] at ha; cases ha
              · rw [hsym, hnxy] at ha; cases ha
              · rw [hirr] at ha; cases ha
            have hPS1 : ∀ i, addB (addB (fun _ => false) (p 0)) (p 2) i = true → S i = true := fun i hi => by
              rw [addB_iff, addB_iff] at hi
              rcases hi with (h | h) | h
              · cases h
              · rw [h]; exact (HR.in_ 0 (by omega)).2
              · rw [h]; exact (HR.in_ 2 (by omega)).2
            have hnP : ∀ a, a < r → a ≠ 0 → a ≠ 2 → addB (addB (fun _ => false) (p 0)) (p 2) (p a) = false := fun a ha h0 h2 => by
              rw [Bool.eq_false_iff]
              intro h
              rw [addB_iff, addB_iff] at h
              rcases h with (h | h) | h
              · cases h
              · exact hne a 0 ha (by omega) h0 h
              · exact hne a 2 ha (by omega) h2 h
            -- then those up to the third neighbour, and those behind it from the last one on, it itself: q
            let q : Nat → Nat := fun t => if t + 3 < k then t + 3 else if t + 3 < r then r - 1 - (t + 3 - k) else r
            have hq : ∀ t, t + 3 < r → 3 ≤ q t ∧ q t < r ∧ (∀ t', t' < t → q t' ≠ q t) ∧ ∃ z, z < r ∧ z ≠ 0 ∧ z ≠ 2 ∧ adj (p (q t)) (p z) = true ∧ ∀ t', t' ≤ t → z ≠ q t' := fun t ht => by
              have hqv : ∀ t', t' + 3 < r → q t' = if t' + 3 < k then t' + 3 else r - 1 - (t' + 3 - k) := fun t' h => by
                show (if t' + 3 < k then t' + 3 else if t' + 3 < r then r - 1 - (t' + 3 - k) else r) = _
                rw [if_pos h]
              refine ⟨by rw [hqv t ht]; split <;> omega, by rw [hqv t ht]; split <;> omega, fun t' ht' => by rw [hqv t ht, hqv t' (by omega)]; split <;> split <;> omega, ?_⟩
              by_cases h1 : t + 3 < k
              · refine ⟨t + 4, by omega, by omega, by omega, ?_, fun t' ht' => by rw [hqv t' (by omega), if_pos (by omega)]; omega⟩
                rw [hqv t ht, if_pos h1]
                exact HR.adj_ (t + 3) (by omega)
              · by_cases h2 : t + 4 < r
                · refine ⟨r - 2 - (t + 3 - k), by omega, by omega, by omega, ?_, fun t' ht' => by rw [hqv t' (by omega)]; split <;> omega⟩
                  rw [hqv t ht, if_neg h1]
                  have := HR.adj_ (r - 2 - (t + 3 - k)) (by omega)
                  rw [show r - 2 - (t + 3 - k) + 1 = r - 1 - (t + 3 - k) by omega] at this
                  rw [hsym]; exact this
                · refine ⟨1, by omega, by omega, by omega, ?_, fun t' ht' => by rw [hqv t' (by omega)]; split <;> omega⟩
                  rw [hqv t ht, if_neg h1, show r - 1 - (t + 3 - k) = k by omega, hp1, hsym]
                  exact hka
            obtain ⟨c3, h3, h4⟩ := col_seq hdn hsym hirr hdeg hPS1 H1 (fun t => p (q t)) (r - 3) fun t ht => by
              obtain ⟨b1, b2, b3, z, z1, z2, z3, z4, z5⟩ := hq t (by omega)
              obtain ⟨g1, g2⟩ := HR.in_ (q t) b2
              obtain ⟨g3, g4⟩ := HR.in_ z z1
              refine ⟨g1, g2, hnP _ b2 (by omega) (by omega), fun t' ht' e => b3 t' ht' (HR.one _ _ ((hq t' (by omega)).2.1) b2 e), p z, g3, g4, z4, hnP z z1 z2 z3, fun t' ht' e => z5 t' ht' (HR.one _ _ z1 ((hq t' (by omega)).2.1) e)⟩
            -- at last the second
            have hmem : ∀ i, ((List.range (r - 3)).any fun t => decide (i = p (q t))) = true ↔ ∃ t, t < r - 3 ∧ i = p (q t) := fun i => by
              rw [List.any_eq_true]
              exact ⟨fun ⟨t, ht, e⟩ => ⟨t, List.mem_range.1 ht, by simpa using e⟩, fun ⟨t, ht, e⟩ => ⟨t, List.mem_range.2 ht, by simpa using e⟩⟩
            have hn1 : (addB (addB (fun _ => false) (p 0)) (p 2) (p 1) || (List.range (r - 3)).any fun t => decide (p 1 = p (q t))) = false := by
              rw [hnP 1 (by omega) (by omega) (by omega), Bool.false_or, Bool.eq_false_iff]
              intro h
              obtain ⟨t, ht, e⟩ := (hmem _).1 h
              obtain ⟨b1, b2, _⟩ := hq t (by omega)
              have := HR.one _ _ (by omega) b2 e
              omega
            have h0P : addB (addB (fun _ => false) (p 0)) (p 2) (p 0) = true := addB_iff.2 (.inl (addB_iff.2 (.inr rfl)))
            have h2P : addB (addB (fun _ => false) (p 0)) (p 2) (p 2) = true := addB_iff.2 (.inr rfl)
            obtain ⟨col, g1, g2⟩ := free_col (adj := adj) (n := n) (S := S) (P := fun i => addB (addB (fun _ => false) (p 0)) (p 2) i || (List.range (r - 3)).any fun t => decide (i = p (q t))) (c := c3) hdn (HR.in_ 1 (by omega)).1 (hdeg _ (HR.in_ 1 (by omega)).1 (HR.in_ 1 (by omega)).2) (fun i hi => by
              rcases Bool.or_eq_true _ _ |>.mp hi with hi | hi
              · exact hPS1 i hi
              · obtain ⟨t, ht, e⟩ := (hmem _).1 hi
                rw [e]; exact (HR.in_ _ (hq t (by omega)).2.1).2) (.inr ⟨p 0, p 2, (HR.in_ 0 (by omega)).1, (HR.in_ 2 (by omega)).1, hne 0 2 (by omega) (by omega) (by omega), by simp [h0P], by simp [h2P], by rw [hp1, hp0]; exact hvx, by rw [hp1, hp2]; exact hvy, by rw [h4 _ h0P, h4 _ h2P]⟩)
            have h5 := col_add hsym hirr h3 g1 g2 hn1
            have hfin : ∀ i, i < n → S i = true → addB (fun i => addB (addB (fun _ => false) (p 0)) (p 2) i || (List.range (r - 3)).any fun t => decide (i = p (q t))) (p 1) i = true := fun i hi hSi => by
              obtain ⟨a, ha, e⟩ := hrow i hi hSi
              rw [addB_iff]
              by_cases a1 : a = 1
              · right; rw [e, a1]
              · left
                rw [Bool.or_eq_true]
                by_cases a0 : a = 0
                · left; rw [e, a0]; exact h0P
                · by_cases a2 : a = 2
                  · left; rw [e, a2]; exact h2P
                  · right
                    refine (hmem i).2 ⟨if a < k then a - 3 else k - 3 + (r - 1 - a), by split <;> omega, ?_⟩
                    rw [e]
                    congr 1
                    show a = (if (if a < k then a - 3 else k - 3 + (r - 1 - a)) + 3 < k then _ else _)
                    by_cases hak : a < k
                    · rw [if_pos hak, if_pos (by omega)]; omega
                    · rw [if_neg hak, if_neg (by omega), if_pos (by omega)]; omega
            exact ⟨_, ⟨fun i hi h => h5.lt i hi (hfin i hi h), fun i z hi hz p1 p2 => h5.ne i z hi hz (hfin i hi p1) (hfin z hz p2)⟩⟩
  termination_by m => m
  decreasing_by all_goals omega
end
end Go.Proofs.Ytpcealcghglopaa

namespace Go.Proofs.Ytpcealcghglopaa

def ClqB (adj : Nat → Nat → Bool) (K : BS) : Prop := ∀ i j, K i = true → K j = true → i ≠ j → adj i j = true
def LseB (adj : Nat → Nat → Bool) (K : BS) : Prop := ∀ i j, K i = true → K j = true → adj i j = false
/-- All that some have together. -/
def sumA (A : BS) (f : Nat → Nat) (n : Nat) : Nat := sumTo (fun i => if A i = true then f i else 0) n
section
variable {n : Nat} {A B K : BS} {f g : Nat → Nat} {adj : Nat → Nat → Bool}
theorem sumA_part (A B : BS) (f : Nat → Nat) (n : Nat) : sumA A f n = sumA (fun i => A i && B i) f n + sumA (fun i => A i && !B i) f n := by
  unfold sumA
  rw [← sumTo_add]
  refine sumTo_congr n fun i _ => ?_
  show _ = (if (A i && B i) = true then f i else 0) + (if (A i && !B i) = true then f i else 0)
  cases A i <;> cases B i <;> simp
theorem sumA_le (h : ∀ i, i < n → A i = true → f i ≤ g i) : sumA A f n ≤ sumA A g n := sumTo_le n fun i hi => by
  by_cases ha : A i = true
  · rw [if_pos ha, if_pos ha]; exact h i hi ha
  · rw [if_neg ha, if_neg ha]; exact Nat.le_refl _
theorem sumA_const (A : BS) (c : Nat) : ∀ n, sumA A (fun _ => c) n = sizeP A n * c
  | 0 => by simp [sumA, sizeP, sumTo]
  | n + 1 => by
    have ih := sumA_const A c n
    rw [sizeP_succ]
    unfold sumA at ih ⊢
    simp only [sumTo]
    rw [ih]
    by_cases ha : A n = true
    · rw [if_pos ha, if_pos ha, Nat.add_mul, Nat.one_mul]
    · rw [if_neg ha, if_neg ha]; rfl
theorem sumA_congr (h : ∀ i, i < n → A i = B i) : sumA A f n = sumA B f n := sumTo_congr n fun i hi => by rw [h i hi]
theorem sumA_swap (hsym : ∀ i j, adj i j = adj j i) (A B : BS) (n : Nat) : sumA A (degS adj n B) n = sumA B (degS adj n A) n := by
  have e : ∀ A B : BS, sumA A (degS adj n B) n = sumTo (fun i => sumTo (fun j => if (A i && (B j && adj i j)) = true then 1 else 0) n) n := fun A B => by
    unfold sumA degS sizeP
    refine sumTo_congr n fun i _ => ?_
    cases A i with
    | false => simp only [Bool.false_and, Bool.false_eq_true, if_false]; exact (sumTo_zero n fun _ _ => rfl).symm
    | true => simp only [Bool.true_and, if_true]
  rw [e, e, sumTo_swap (fun i j => if (A i && (B j && adj i j)) = true then 1 else 0) n n]
  refine sumTo_congr n fun i _ => sumTo_congr n fun j _ => ?_
  rw [hsym j i]
  cases A j <;> cases B i <;> simp
theorem arg_min {P : Nat → Prop} (f : Nat → Nat) : ∀ (m v : Nat), f v ≤ m → P v → ∃ w, P w ∧ ∀ u, P u → f w ≤ f u
  | 0, v, hm, hv => ⟨v, hv, fun u _ => by omega⟩
  | m + 1, v, hm, hv => by
    by_cases h : ∃ u, P u ∧ f u < f v
    · obtain ⟨u, hu, hlt⟩ := h
      exact arg_min f m u (by omega) hu
    · exact ⟨v, hv, fun u hu => Nat.le_of_not_lt fun hl => h ⟨u, hu, hl⟩⟩
theorem deg_mono (h : ∀ i, A i = true → B i = true) (v : Nat) : degS adj n A v ≤ degS adj n B v := sizeP_sub fun i _ hi => by
  rw [Bool.and_eq_true] at hi ⊢; exact ⟨h i hi.1, hi.2⟩
/-- CARO, WEI. -/
theorem wei (hsym : ∀ i j, adj i j = adj j i) (hirr : ∀ i, adj i i = false) (L : Nat) : ∀ (c : Nat) (A : BS), sizeP A n ≤ c → (∀ i, A i = true → i < n) →
    ∃ I : BS, (∀ i, I i = true → A i = true) ∧ LseB adj I ∧ sumA A (fun i => L / (degS adj n A i + 1)) n ≤ L * sizeP I n := fun c => by
  induction c with
  | zero =>
    intro A hc hA
    have hno : ∀ i, i < n → A i = false := fun i hi => by
      cases h : A i with
      | false => rfl
      | true => have := sizeP_del h hi; omega
    refine ⟨fun _ => false, fun i hi => (by cases hi), fun i j hi => (by cases hi), ?_⟩
    rw [show sumA A (fun i => L / (degS adj n A i + 1)) n = 0 from sumTo_zero n fun i hi => if_neg (by simp [hno i hi])]
    exact Nat.zero_le _
  | succ c ih =>
    intro A hc hA
    by_cases hex : ∃ v, A v = true
    case neg =>
      have hno : ∀ i, i < n → A i = false := fun i hi => by
        cases h : A i with
        | false => rfl
        | true => exact absurd ⟨i, h⟩ hex
      refine ⟨fun _ => false, fun i hi => (by cases hi), fun i j hi => (by cases hi), ?_⟩
      rw [show sumA A (fun i => L / (degS adj n A i + 1)) n = 0 from sumTo_zero n fun i hi => if_neg (by simp [hno i hi])]
      exact Nat.zero_le _
    obtain ⟨v0, hv0⟩ := hex
    obtain ⟨v, hv, hmin⟩ := arg_min (P := fun v => A v = true) (degS adj n A) _ v0 (Nat.le_refl _) hv0
    have hvn := hA v hv
    let N : BS := fun j => decide (j = v) || adj v j
    let C : BS := fun j => A j && N j
    let D : BS := fun j => A j && !N j
    have hsC : sizeP C n = degS adj n A v + 1 := by
      rw [sizeP_del (A := C) (i := v) (by show (A v && (decide (v = v) || adj v v)) = true; simp [hv]) hvn]
      congr 1
      refine sizeP_congr n fun j _ => ?_
      show (A j && (decide (j = v) || adj v j) && !decide (j = v)) = (A j && adj v j)
      by_cases hj : j = v
      · subst hj; simp [hirr]
      · simp [hj]
    have hpart := sizeP_part A N n
    have hDA : ∀ i, D i = true → A i = true := fun i hi => by
      change (A i && !N i) = true at hi
      rw [Bool.and_eq_true] at hi; exact hi.1
    obtain ⟨I, hI, hl, hs⟩ := ih D (by show sizeP (fun j => A j && !N j) n ≤ c; have : sizeP (fun j => A j && N j) n = _ := hsC; omega) (fun i hi => hA i (hDA i hi))
    have hID : ∀ i, I i = true → adj v i = false ∧ i ≠ v := fun i hi => by
      have h := hI i hi
      change (A i && !(decide (i = v) || adj v i)) = true at h
      simp at h
      exact ⟨h.2.2, h.2.1⟩
    have hIv : I v = false := by
      cases h : I v with
      | false => rfl
      | true => exact absurd rfl (hID v h).2
    refine ⟨insB I v, fun i hi => ?_, fun i j hi hj => ?_, ?_⟩
    · rcases insB_iff.1 hi with h | rfl
      · exact hDA i (hI i h)
      · exact hv
    · rcases insB_iff.1 hi with h | rfl <;> rcases insB_iff.1 hj with h' | rfl
      · exact hl i j h h'
      · rw [hsym]; exact (hID i h).1
      · exact (hID j h').1
      · exact hirr _
    · rw [sizeP_ins hvn hIv, Nat.mul_add, Nat.mul_one, sumA_part A N]
      have h1 : sumA (fun i => A i && N i) (fun i => L / (degS adj n A i + 1)) n ≤ L := by
        refine Nat.le_trans (sumA_le (g := fun _ => L / (degS adj n A v + 1)) fun i _ hi => ?_) ?_
        · refine Nat.div_le_div_left ?_ (by omega)
          have := hmin i (by rw [Bool.and_eq_true] at hi; exact hi.1)
          omega
        · rw [sumA_const, show sizeP (fun i => A i && N i) n = _ from hsC]
          exact Nat.mul_div_le L (degS adj n A v + 1)
      have h2 : sumA (fun i => A i && !N i) (fun i => L / (degS adj n A i + 1)) n ≤ sumA D (fun i => L / (degS adj n D i + 1)) n := sumA_le fun i _ _ => by
        refine Nat.div_le_div_left ?_ (by omega)
        have := deg_mono (adj := adj) (n := n) hDA i
        omega
      omega
theorem turan_num (r m x D S t : Nat) (hm : m = t + x) (hS : S ≤ D + 2 * (t * x)) (hD : D * (r + 1) ≤ r * (x * x)) : S * (r + 2) ≤ (r + 1) * (m * m) := by
  subst hm
  have h1 : S * (r + 2) * (r + 1) ≤ (D + 2 * (t * x)) * (r + 2) * (r + 1) := Nat.mul_le_mul_right _ (Nat.mul_le_mul_right _ hS)
  have h2 : D * (r + 1) * (r + 2) ≤ r * (x * x) * (r + 2) := Nat.mul_le_mul_right _ hD
  have h3 : 2 * (x * ((r + 1) * t)) ≤ x * x + (r + 1) * t * ((r + 1) * t) := by
    generalize (r + 1) * t = y
    rcases Nat.le_total x y with h | h
    · obtain ⟨k, rfl⟩ := Nat.exists_eq_add_of_le h
      have : (0 : Nat) ≤ k * k := Nat.zero_le _
      grind
    · obtain ⟨k, rfl⟩ := Nat.exists_eq_add_of_le h
      have : (0 : Nat) ≤ k * k := Nat.zero_le _
      grind
  refine Nat.le_of_mul_le_mul_right (c := r + 1) ?_ (by omega)
  grind
/-- TURAN, MANTEL. -/
theorem turan (hsym : ∀ i j, adj i j = adj j i) (hirr : ∀ i, adj i i = false) : ∀ (r : Nat) (A : BS), (∀ i, A i = true → i < n) → (∀ K, (∀ i, K i = true → A i = true) → ClqB adj K → sizeP K n ≤ r) →
    sumA A (degS adj n A) n * r ≤ (r - 1) * (sizeP A n * sizeP A n) := fun r => by
  induction r with
  | zero => intro A _ _; simp
  | succ r ih =>
    intro A hA hK
    by_cases hex : ∃ v, A v = true
    case neg =>
      rw [show sumA A (degS adj n A) n = 0 from sumTo_zero n fun i hi => if_neg fun h => hex ⟨i, h⟩]
      simp
    obtain ⟨v0, hv0⟩ := hex
    obtain ⟨v, hv, hmax'⟩ := arg_min (P := fun v => A v = true) (fun v => n - degS adj n A v) _ v0 (Nat.le_refl _) hv0
    have hdn : ∀ u, degS adj n A u ≤ n := fun u => sizeP_le _ _
    have hmax : ∀ u, A u = true → degS adj n A u ≤ degS adj n A v := fun u hu => by
      have := hmax' u hu
      have := hdn u
      have := hdn v
      omega
    have hvn := hA v hv
    let B : BS := fun j => A j && adj v j
    have hBA : ∀ i, B i = true → A i = true := fun i hi => by
      change (A i && adj v i) = true at hi
      rw [Bool.and_eq_true] at hi; exact hi.1
    have hsB : sizeP B n = degS adj n A v := rfl
    have hKB : ∀ K, (∀ i, K i = true → B i = true) → ClqB adj K → sizeP K n ≤ r := fun K h1 h2 => by
      have hKv : K v = false := by
        cases h : K v with
        | false => rfl
        | true =>
          have := h1 v h
          change (A v && adj v v) = true at this
          rw [hirr] at this; simp at this
      have hva : ∀ i, K i = true → adj v i = true := fun i hi => by
        have := h1 i hi
        change (A i && adj v i) = true at this
        rw [Bool.and_eq_true] at this; exact this.2
      have := hK (insB K v) (fun i hi => by
        rcases insB_iff.1 hi with h | rfl
        · exact hBA i (h1 i h)
        · exact hv) (fun i j hi hj hij => by
        rcases insB_iff.1 hi with h | rfl <;> rcases insB_iff.1 hj with h' | rfl
        · exact h2 i j h h' hij
        · rw [hsym]; exact hva i h
        · exact hva j h'
        · exact absurd rfl hij)
      rw [sizeP_ins hvn hKv] at this
      omega
    have hB := ih B (fun i hi => hA i (hBA i hi)) hKB
    -- degrees of the others, twice
    have hpart := sizeP_part A B n
    have hAB : sizeP (fun i => A i && B i) n = degS adj n A v := by
      rw [← hsB]
      refine sizeP_congr n fun i _ => ?_
      show (A i && (A i && adj v i)) = (A i && adj v i)
      cases A i <;> rfl
    have hABs : sumA (fun i => A i && B i) (degS adj n A) n = sumA B (degS adj n A) n := sumA_congr fun i _ => by
      show (A i && (A i && adj v i)) = (A i && adj v i)
      cases A i <;> rfl
    have hadd : sumA B (degS adj n A) n = sumA B (degS adj n B) n + sumA B (degS adj n (fun i => A i && !B i)) n := by
      unfold sumA
      rw [← sumTo_add]
      refine sumTo_congr n fun i _ => ?_
      by_cases hb : B i = true
      · rw [if_pos hb, if_pos hb, if_pos hb]
        have := sizeP_part (fun u => A u && adj i u) B n
        unfold degS
        rw [this]
        congr 1
        · refine sizeP_congr n fun j _ => ?_
          show (A j && adj i j && (A j && adj v j)) = (A j && adj v j && adj i j)
          cases A j <;> cases adj i j <;> cases adj v j <;> rfl
        · refine sizeP_congr n fun j _ => ?_
          show (A j && adj i j && !(A j && adj v j)) = (A j && !(A j && adj v j) && adj i j)
          cases A j <;> cases adj i j <;> cases adj v j <;> rfl
      · rw [if_neg hb, if_neg hb, if_neg hb]
    have hsw : sumA B (degS adj n (fun i => A i && !B i)) n ≤ sumA (fun i => A i && !B i) (degS adj n A) n := by
      rw [sumA_swap hsym]
      exact sumA_le fun i _ _ => deg_mono hBA i
    have hrest : sumA (fun i => A i && !B i) (degS adj n A) n ≤ sizeP (fun i => A i && !B i) n * degS adj n A v := by
      rw [← sumA_const]
      exact sumA_le fun i _ hi => hmax i (by rw [Bool.and_eq_true] at hi; exact hi.1)
    have hall := sumA_part A B (degS adj n A) n
    rw [hABs, hadd] at hall
    rw [hAB] at hpart
    cases r with
    | zero =>
      have hz : ∀ i, i < n → B i = false := fun i hi => by
        cases h : B i with
        | false => rfl
        | true =>
          have := hKB (fun j => decide (j = i)) (fun j hj => by rw [of_decide_eq_true hj]; exact h) (fun a b ha hb hab => absurd ((of_decide_eq_true ha).trans (of_decide_eq_true hb).symm) hab)
          have h2 := sizeP_del (A := fun j => decide (j = i)) (i := i) (by simp) hi
          omega
      have h0 : degS adj n A v = 0 := by rw [← hsB]; exact sizeP_none hz
      have h1 : sumA A (degS adj n A) n ≤ sizeP A n * degS adj n A v := by
        rw [← sumA_const]; exact sumA_le fun i _ hi => hmax i hi
      rw [h0] at h1
      simp at h1 ⊢
      exact h1
    | succ r =>
      exact turan_num r (sizeP A n) (degS adj n A v) (sumA B (degS adj n B) n) (sumA A (degS adj n A) n) (sizeP (fun i => A i && !B i) n) (by omega) (by omega) (by rw [hsB] at hB; exact hB)
/-- All pairs are two by two. -/
theorem even_sum {F : Nat → Nat → Nat} (hs : ∀ i j, F i j = F j i) (hz : ∀ i, F i i = 0) : ∀ n, sumTo (fun i => sumTo (F i) n) n % 2 = 0
  | 0 => rfl
  | n + 1 => by
    have ih := even_sum hs hz n
    have e : sumTo (fun i => sumTo (F i) (n + 1)) (n + 1) = sumTo (fun i => sumTo (F i) n) n + sumTo (fun i => F i n) n + (sumTo (F n) n + F n n) := by
      simp only [sumTo]
      rw [sumTo_add]
    have e2 : sumTo (fun i => F i n) n = sumTo (F n) n := sumTo_congr n fun i _ => hs i n
    rw [e, e2, hz]
    omega
theorem hands_even (hsym : ∀ i j, adj i j = adj j i) (hirr : ∀ i, adj i i = false) (A : BS) (n : Nat) : sumA A (degS adj n A) n % 2 = 0 := by
  have := even_sum (F := fun i j => if (A i && (A j && adj i j)) = true then 1 else 0) (fun i j => by rw [hsym j i]; cases A i <;> cases A j <;> simp) (fun i => by rw [hirr]; simp) n
  rw [← this]
  congr 1
  unfold sumA degS sizeP
  refine sumTo_congr n fun i _ => ?_
  cases A i with
  | false => simp only [Bool.false_and, Bool.false_eq_true, if_false]; exact (sumTo_zero n fun _ _ => rfl).symm
  | true => simp only [Bool.true_and, if_true]
end
section
variable {n : Nat} {A : BS} {R Q : Nat → Nat → Bool}
/-- Of some there are so many of whom each two have it. -/
def Has (R : Nat → Nat → Bool) (n : Nat) (A : BS) (r : Nat) : Prop := ∃ T, (∀ i, T i = true → A i = true) ∧ ClqB R T ∧ r ≤ sizeP T n
theorem has_up {B : BS} {r : Nat} (h : ∀ i, A i = true → B i = true) (H : Has R n A r) : Has R n B r := by
  obtain ⟨T, h1, h2, h3⟩ := H
  exact ⟨T, fun i hi => h i (h1 i hi), h2, h3⟩
theorem has_step (hsym : ∀ i j, R i j = R j i) (hA : ∀ i, A i = true → i < n) {v r : Nat} (hv : A v = true) (H : Has R n (fun j => A j && (!decide (j = v) && R v j)) r) : Has R n A (r + 1) := by
  obtain ⟨T, h1, h2, h3⟩ := H
  have hm : ∀ i, T i = true → A i = true ∧ i ≠ v ∧ R v i = true := fun i hi => by
    have := h1 i hi
    simp at this
    exact this
  have hTv : T v = false := by
    cases h : T v with
    | false => rfl
    | true => exact absurd rfl (hm v h).2.1
  refine ⟨insB T v, fun i hi => ?_, fun i j hi hj hij => ?_, ?_⟩
  · rcases insB_iff.1 hi with h | rfl
    · exact (hm i h).1
    · exact hv
  · rcases insB_iff.1 hi with h | rfl <;> rcases insB_iff.1 hj with h' | rfl
    · exact h2 i j h h' hij
    · rw [hsym]; exact (hm i h).2.2
    · exact (hm j h').2.2
    · exact absurd rfl hij
  · rw [sizeP_ins (hA v hv) hTv]; omega
theorem has_two (hor : ∀ i j, i ≠ j → R i j = true ∨ Q i j = true) (hsym : ∀ i j, R i j = R j i) (hA : ∀ i, A i = true → i < n) {k : Nat} (hk : k ≤ sizeP A n) : Has R n A 2 ∨ Has Q n A k := by
  by_cases h : ∃ i j, A i = true ∧ A j = true ∧ i ≠ j ∧ R i j = true
  · obtain ⟨i, j, hi, hj, hij, hr⟩ := h
    left
    refine has_step hsym hA hi ⟨fun x => decide (x = j), fun x hx => ?_, fun a b ha hb hab => absurd ((of_decide_eq_true ha).trans (of_decide_eq_true hb).symm) hab, ?_⟩
    · rw [of_decide_eq_true hx]; simp [hj, hr, Ne.symm hij]
    · have := sizeP_del (A := fun x => decide (x = j)) (i := j) (by simp) (hA j hj)
      omega
  · right
    exact ⟨A, fun _ h => h, fun i j hi hj hij => (hor i j hij).resolve_left fun hr => h ⟨i, j, hi, hj, hij, hr⟩, hk⟩
/-- Those with whom one has the one or the other are all but him. -/
theorem has_both (hor : ∀ i j, i ≠ j → R i j = true ∨ Q i j = true) (hA : ∀ i, A i = true → i < n) {v : Nat} (hv : A v = true) :
    sizeP A n ≤ sizeP (fun j => A j && (!decide (j = v) && R v j)) n + sizeP (fun j => A j && (!decide (j = v) && Q v j)) n + 1 := by
  rw [sizeP_del hv (hA v hv), sizeP_part (delB A v) (R v) n]
  have h1 : sizeP (fun i => delB A v i && R v i) n = sizeP (fun j => A j && (!decide (j = v) && R v j)) n := sizeP_congr n fun i _ => by
    unfold delB; rw [Bool.and_assoc]
  have h2 : sizeP (fun i => delB A v i && !R v i) n ≤ sizeP (fun j => A j && (!decide (j = v) && Q v j)) n := sizeP_sub fun i _ hi => by
    unfold delB at hi
    simp at hi ⊢
    refine ⟨hi.1.1, hi.1.2, ?_⟩
    rcases hor v i (Ne.symm hi.1.2) with h | h
    · rw [hi.2] at h; cases h
    · exact h
  omega
theorem nei_lt {v : Nat} (hA : ∀ i, A i = true → i < n) : ∀ i, (fun j => A j && (!decide (j = v) && R v j)) i = true → i < n := fun i hi => hA i (by
  simp at hi; exact hi.1)
theorem nei_in {v : Nat} : ∀ i, (fun j => A j && (!decide (j = v) && R v j)) i = true → A i = true := fun i hi => by
  simp at hi; exact hi.1
theorem ramsey33 (hor : ∀ i j, i ≠ j → R i j = true ∨ Q i j = true) (hR : ∀ i j, R i j = R j i) (hQ : ∀ i j, Q i j = Q j i) (hA : ∀ i, A i = true → i < n) (h6 : 6 ≤ sizeP A n) : Has R n A 3 ∨ Has Q n A 3 := by
  obtain ⟨v, _, hv⟩ := sizeP_pos (A := A) (n := n) (by omega)
  have hb := has_both hor hA hv
  rcases Nat.lt_or_ge (sizeP (fun j => A j && (!decide (j = v) && R v j)) n) 3 with h | h
  · have h3 : 3 ≤ sizeP (fun j => A j && (!decide (j = v) && Q v j)) n := by omega
    rcases has_two (R := Q) (Q := R) (fun i j h => (hor i j h).symm) hQ (nei_lt hA) h3 with h' | h'
    · exact .inr (has_step hQ hA hv h')
    · exact .inl (has_up nei_in h')
  · rcases has_two hor hR (nei_lt hA) h with h' | h'
    · exact .inl (has_step hR hA hv h')
    · exact .inr (has_up nei_in h')
theorem ramsey34 (hor : ∀ i j, i ≠ j → R i j = true ∨ Q i j = true) (hR : ∀ i j, R i j = R j i) (hQ : ∀ i j, Q i j = Q j i) (hirr : ∀ i, R i i = false) (hA : ∀ i, A i = true → i < n) (h9 : 9 ≤ sizeP A n) : Has R n A 3 ∨ Has Q n A 4 := by
  by_cases h4 : ∃ v, A v = true ∧ 4 ≤ sizeP (fun j => A j && (!decide (j = v) && R v j)) n
  · obtain ⟨v, hv, h4⟩ := h4
    rcases has_two hor hR (nei_lt hA) h4 with h' | h'
    · exact .inl (has_step hR hA hv h')
    · exact .inr (has_up nei_in h')
  by_cases h6 : ∃ v, A v = true ∧ 6 ≤ sizeP (fun j => A j && (!decide (j = v) && Q v j)) n
  · obtain ⟨v, hv, h6⟩ := h6
    rcases ramsey33 hor hR hQ (nei_lt hA) h6 with h' | h'
    · exact .inl (has_up nei_in h')
    · exact .inr (has_step hQ hA hv h')
  have h3 : ∀ v, A v = true → degS R n A v = 3 ∧ sizeP A n = 9 := fun v hv => by
    have hb := has_both hor hA hv
    have h1 : sizeP (fun j => A j && (!decide (j = v) && R v j)) n < 4 := Nat.lt_of_not_le fun h => h4 ⟨v, hv, h⟩
    have h2 : sizeP (fun j => A j && (!decide (j = v) && Q v j)) n < 6 := Nat.lt_of_not_le fun h => h6 ⟨v, hv, h⟩
    have e : degS R n A v = sizeP (fun j => A j && (!decide (j = v) && R v j)) n := sizeP_congr n fun j _ => by
      by_cases hj : j = v
      · subst hj; simp [hirr]
      · simp [hj]
    omega
  obtain ⟨v, _, hv⟩ := sizeP_pos (A := A) (n := n) (by omega)
  have he := hands_even hR hirr A n
  have hs : sumA A (degS R n A) n = sumA A (fun _ => 3) n := sumTo_congr n fun i _ => by
    by_cases hi : A i = true
    · rw [if_pos hi, if_pos hi]; exact (h3 i hi).1
    · rw [if_neg hi, if_neg hi]
  rw [hs, sumA_const, (h3 v hv).2] at he
  omega
end
end Go.Proofs.Ytpcealcghglopaa

namespace Go.Proofs.Ytpcealcghglopaa

/-- A walk of k steps: where it is, and what each step costs. -/
def WalkC (A : Nat → Nat → Int → Prop) (k : Nat) (p : Nat → Nat) (c : Nat → Int) : Prop := ∀ t, t < k → A (p t) (p (t + 1)) (c t)
/-- No closed walk costs less than nothing. -/
def NoNeg (A : Nat → Nat → Int → Prop) : Prop := ∀ k p c, WalkC A k p c → p 0 = p k → 0 ≤ sumI c k
section
variable {A : Nat → Nat → Int → Prop} {n : Nat}
/-- Of more places than there are nodes two are at one. -/
theorem pigeon {k : Nat} {p : Nat → Nat} (hp : ∀ t, t ≤ k → p t < n) (hk : n ≤ k) : ∃ a b, a < b ∧ b ≤ k ∧ p a = p b := by
  apply Classical.byContradiction
  intro hno
  have hinj : ∀ i j, i ≤ k → j ≤ k → p i = p j → i = j := fun i j hi hj e => by
    rcases Nat.lt_trichotomy i j with h | h | h
    · exact absurd ⟨i, j, h, hj, e⟩ hno
    · exact h
    · exact absurd ⟨j, i, h, hi, e.symm⟩ hno
  have h1 := sizeP_inj (n := n + 1) _ (A := fun _ => true) (B := fun x => decide (x < n)) (m := p) rfl (fun i hi _ => ⟨by have := hp i (by omega); omega, by simpa using hp i (by omega)⟩) fun i j hi hj _ _ e => hinj i j (by omega) (by omega) e
  have h2 : sizeP (fun _ : Nat => true) (n + 1) = n + 1 := by
    have h : sizeP (fun _ : Nat => false) (n + 1) + sizeP (fun _ : Nat => true) (n + 1) = n + 1 := sizeP_not (fun _ : Nat => true) (n + 1)
    have e : sizeP (fun _ : Nat => false) (n + 1) = 0 := sizeP_none fun _ _ => rfl
    omega
  have h3 : sizeP (fun x => decide (x < n)) (n + 1) ≤ n := by
    rw [sizeP_succ, if_neg (by simp)]
    exact sizeP_le _ n
  omega
theorem sumI_shift (c : Nat → Int) (a : Nat) : ∀ b, sumI c (a + b) = sumI c a + sumI (fun t => c (a + t)) b
  | 0 => by simp [sumI]
  | b + 1 => by
    have := sumI_shift c a b
    show sumI c (a + b) + c (a + b) = _ + (sumI (fun t => c (a + t)) b + c (a + b))
    omega
theorem WalkC.part {k a b : Nat} {p : Nat → Nat} {c : Nat → Int} (h : WalkC A k p c) (hab : a + b ≤ k) : WalkC A b (fun t => p (a + t)) (fun t => c (a + t)) := fun t ht => by
  have := h (a + t) (by omega)
  exact this
/-- Without what comes round. -/
theorem WalkC.cut {k a d : Nat} {p : Nat → Nat} {c : Nat → Int} (h : WalkC A k p c) (hd : a + d ≤ k) (he : p a = p (a + d)) :
    WalkC A (k - d) (fun t => if t ≤ a then p t else p (t + d)) (fun t => if t < a then c t else c (t + d)) ∧ sumI c k = sumI (fun t => if t < a then c t else c (t + d)) (k - d) + sumI (fun t => c (a + t)) d := by
  refine ⟨fun t ht => ?_, ?_⟩
  · rcases Nat.lt_trichotomy t a with h1 | h1 | h1
    · simp only [if_pos (show t ≤ a by omega), if_pos (show t + 1 ≤ a by omega), if_pos h1]
      exact h t (by omega)
    · subst h1
      simp only [if_pos (Nat.le_refl t), if_neg (show ¬ t + 1 ≤ t by omega), if_neg (Nat.lt_irrefl t)]
      rw [he, show t + 1 + d = t + d + 1 by omega]
      exact h (t + d) (by omega)
    · simp only [if_neg (show ¬ t ≤ a by omega), if_neg (show ¬ t + 1 ≤ a by omega), if_neg (show ¬ t < a by omega)]
      rw [show t + 1 + d = t + d + 1 by omega]
      exact h (t + d) (by omega)
  · obtain ⟨r, hr⟩ : ∃ r, k = a + d + r := ⟨k - (a + d), by omega⟩
    subst hr
    rw [show a + d + r - d = a + r by omega, sumI_shift c (a + d) r, sumI_shift c a d, sumI_shift (fun t => if t < a then c t else c (t + d)) a r]
    have e1 : sumI (fun t => if t < a then c t else c (t + d)) a = sumI c a := sumI_congr a fun t ht => if_pos ht
    have e2 : sumI (fun t => if a + t < a then c (a + t) else c (a + t + d)) r = sumI (fun t => c (a + d + t)) r := sumI_congr r fun t _ => by
      rw [if_neg (show ¬ a + t < a by omega), show a + t + d = a + d + t by omega]
    omega
/-- Where nothing costs less than nothing when it comes round, short walks are no dearer than long ones. -/
theorem short_walk (hA : ∀ i j c, A i j c → i < n ∧ j < n) (hN : NoNeg A) : ∀ (k : Nat) (p : Nat → Nat) (c : Nat → Int), WalkC A k p c → 1 ≤ n → ∃ k' p' c', k' < n ∧ WalkC A k' p' c' ∧ p' 0 = p 0 ∧ p' k' = p k ∧ sumI c' k' ≤ sumI c k
  | k, p, c, h, hn => by
    rcases Nat.lt_or_ge k n with hk | hk
    · exact ⟨k, p, c, hk, h, rfl, rfl, Int.le_refl _⟩
    · have hp : ∀ t, t ≤ k → p t < n := fun t ht => by
        rcases Nat.lt_or_ge t k with h1 | h1
        · exact (hA _ _ _ (h t h1)).1
        · obtain rfl : t = k := by omega
          have := (hA _ _ _ (h (t - 1) (by omega))).2
          rwa [show t - 1 + 1 = t by omega] at this
      obtain ⟨a, b, hab, hbk, he⟩ := pigeon hp hk
      obtain ⟨d, rfl⟩ : ∃ d, b = a + d := ⟨b - a, by omega⟩
      obtain ⟨h1, h2⟩ := h.cut hbk he
      have h3 := hN d _ _ (h.part (a := a) (b := d) (by omega)) (by simpa using he)
      obtain ⟨k', p', c', g1, g2, g3, g4, g5⟩ := short_walk hA hN (k - d) _ _ h1 hn
      refine ⟨k', p', c', g1, g2, ?_, ?_, by omega⟩
      · rw [g3]; simp
      · rw [g4]
        show (if k - d ≤ a then p (k - d) else p (k - d + d)) = p k
        rcases Nat.lt_or_ge a (k - d) with h4 | h4
        · rw [if_neg (by omega), show k - d + d = k by omega]
        · have e1 : k - d = a := by omega
          have e2 : a + d = k := by omega
          rw [if_pos (by omega), e1, he, e2]
  termination_by k => k
  decreasing_by omega
theorem int_least {P : Int → Prop} {B : Int} (hb : ∀ z, P z → B ≤ z) {z : Int} (hz : P z) : ∃ m, P m ∧ ∀ z, P z → m ≤ z := by
  have : ∀ (c : Nat) (z : Int), P z → z ≤ B + c → ∃ m, P m ∧ ∀ z, P z → m ≤ z := fun c => by
    induction c with
    | zero => exact fun z hz h => ⟨z, hz, fun y hy => by have := hb y hy; omega⟩
    | succ c ih =>
      intro z hz h
      by_cases h2 : ∃ y, P y ∧ y ≤ B + c
      · obtain ⟨y, h3, h4⟩ := h2
        exact ih y h3 h4
      · exact ⟨z, hz, fun y hy => by
          have : ¬ y ≤ B + c := fun h5 => h2 ⟨y, hy, h5⟩
          omega⟩
  exact this (z - B).toNat z hz (by have := hb z hz; omega)
/-- BELLMAN: there are heights. -/
theorem heights (hA : ∀ i j c, A i j c → i < n ∧ j < n) {M : Int} (hM : ∀ i j c, A i j c → -M ≤ c) (hM0 : 0 ≤ M) (hN : NoNeg A) : ∃ π : Nat → Int, ∀ i j c, A i j c → π j ≤ π i + c := by
  rcases Nat.eq_zero_or_pos n with h0 | h0
  · exact ⟨fun _ => 0, fun i j c h => by have := hA i j c h; omega⟩
  -- what walks cost that end at a node
  have hlow : ∀ (k : Nat) (c : Nat → Int), (∀ t, t < k → -M ≤ c t) → -(M * k) ≤ sumI c k := fun k c h => by
    induction k with
    | zero => simp [sumI]
    | succ k ih =>
      have h1 := ih fun t ht => h t (by omega)
      have h2 := h k (by omega)
      have : M * ((k + 1 : Nat) : Int) = M * (k : Int) + M := by rw [Int.natCast_succ, Int.mul_add, Int.mul_one]
      show _ ≤ sumI c k + c k
      omega
  have hbd : ∀ j z, (∃ k p c, WalkC A k p c ∧ p k = j ∧ sumI c k = z) → -(M * n) ≤ z := fun j z ⟨k, p, c, h1, h2, h3⟩ => by
    obtain ⟨k', p', c', g1, g2, _, _, g5⟩ := short_walk hA hN k p c h1 h0
    have h4 := hlow k' c' fun t ht => hM _ _ _ (g2 t ht)
    have h5 : M * (k' : Int) ≤ M * (n : Int) := Int.mul_le_mul_of_nonneg_left (by omega) hM0
    omega
  have hex : ∀ j, ∃ m, (∃ k p c, WalkC A k p c ∧ p k = j ∧ sumI c k = m) ∧ ∀ z, (∃ k p c, WalkC A k p c ∧ p k = j ∧ sumI c k = z) → m ≤ z := fun j =>
    int_least (B := -(M * n)) (hbd j) (z := 0) ⟨0, fun _ => j, fun _ => 0, fun t ht => by omega, rfl, rfl⟩
  obtain ⟨π, hπ⟩ := Classical.axiomOfChoice hex
  refine ⟨π, fun i j c h => ?_⟩
  obtain ⟨k, p, cs, h1, h2, h3⟩ := (hπ i).1
  refine (hπ j).2 _ ⟨k + 1, fun t => if t ≤ k then p t else j, fun t => if t < k then cs t else c, fun t ht => ?_, if_neg (by omega), ?_⟩
  · rcases Nat.lt_or_ge t k with h4 | h4
    · simp only [if_pos (show t ≤ k by omega), if_pos (show t + 1 ≤ k by omega), if_pos h4]
      exact h1 t h4
    · obtain rfl : t = k := by omega
      simp only [if_pos (Nat.le_refl t), if_neg (show ¬ t + 1 ≤ t by omega), if_neg (Nat.lt_irrefl t)]
      rw [h2]; exact h
  · show sumI (fun t => if t < k then cs t else c) k + (if k < k then cs k else c) = _
    rw [if_neg (Nat.lt_irrefl k), sumI_congr k (g := cs) fun t ht => if_pos ht, h3]
/-- And where there are heights nothing costs less than nothing when it comes round. -/
theorem noNeg_of {π : Nat → Int} (h : ∀ i j c, A i j c → π j ≤ π i + c) : NoNeg A := fun k p c hw he => by
  have : ∀ t, t ≤ k → π (p t) ≤ π (p 0) + sumI c t := fun t ht => by
    induction t with
    | zero => simp [sumI]
    | succ t ih =>
      have h1 := ih (by omega)
      have h2 := h _ _ _ (hw t (by omega))
      show _ ≤ _ + (sumI c t + c t)
      omega
  have h1 := this k (Nat.le_refl _)
  rw [← he] at h1
  omega
end

/-! ### What goes, and what it costs -/
def costP (N : NetP) (fee f : Nat → Int) : Int := sumI (fun k => f k * fee k) N.K
/-- A step, and what it costs: along an arc that has room, or back along one on which some goes. -/
def StepC (N : NetP) (fee f : Nat → Int) (i j : Nat) (c : Int) : Prop := ∃ k, k < N.K ∧ ((N.fr k = i ∧ N.to k = j ∧ f k < N.mo k ∧ c = fee k) ∨ (N.to k = i ∧ N.fr k = j ∧ 0 < f k ∧ c = -fee k))
/-- Heights that fit. -/
def PotP (N : NetP) (fee f : Nat → Int) (π : Nat → Int) : Prop := ∀ k, k < N.K → (f k < N.mo k → π (N.to k) ≤ π (N.fr k) + fee k) ∧ (0 < f k → π (N.fr k) + fee k ≤ π (N.to k))
section
variable {N : NetP} {fee f g : Nat → Int} {π : Nat → Int}
theorem pot_ex (hN : N.ok) {M : Int} (hM : ∀ k, k < N.K → -M ≤ fee k ∧ fee k ≤ M) (hM0 : 0 ≤ M) (h : NoNeg (StepC N fee f)) : ∃ π, PotP N fee f π := by
  obtain ⟨π, hπ⟩ := heights (n := N.n) (M := M) (fun i j c ⟨k, hk, hh⟩ => by
    obtain ⟨a1, a2, _⟩ := hN k hk
    omega) (fun i j c ⟨k, hk, hh⟩ => by
    have := hM k hk
    omega) hM0 h
  refine ⟨π, fun k hk => ⟨fun h1 => hπ _ _ _ ⟨k, hk, .inl ⟨rfl, rfl, h1, rfl⟩⟩, fun h1 => ?_⟩⟩
  have := hπ _ _ _ ⟨k, hk, .inr ⟨rfl, rfl, h1, rfl⟩⟩
  omega
/-- What goes through each node, by heights. -/
theorem sum_heights (hN : N.ok) (f π : Nat → Int) : sumI (fun k => f k * (π (N.fr k) - π (N.to k))) N.K = sumI (fun i => π i * outP N f i) N.n := by
  have h1 : sumI (fun i => π i * outP N f i) N.n = sumI (fun i => sumI (fun k => π i * ((if N.fr k = i then f k else 0) - (if N.to k = i then f k else 0))) N.K) N.n := sumI_congr _ fun i _ => by
    have : ∀ (c : Int) (F : Nat → Int) m, c * sumI F m = sumI (fun k => c * F k) m := fun c F m => by
      induction m with
      | zero => simp [sumI]
      | succ m ih => simp only [sumI]; rw [Int.mul_add, ih]
    exact this _ _ _
  rw [h1, sumI_comm]
  refine sumI_congr _ fun k hk => ?_
  obtain ⟨a1, a2, a3, _⟩ := hN k hk
  have e : sumI (fun i => π i * ((if N.fr k = i then f k else 0) - (if N.to k = i then f k else 0))) N.n = sumI (fun i => if N.fr k = i then π i * f k else 0) N.n - sumI (fun i => if N.to k = i then π i * f k else 0) N.n := by
    rw [← sumI_sub]
    refine sumI_congr _ fun i _ => ?_
    by_cases h1 : N.fr k = i <;> by_cases h2 : N.to k = i
    · omega
    · rw [if_pos h1, if_neg h2, if_pos h1, if_neg h2, Int.sub_zero, Int.sub_zero]
    · rw [if_neg h1, if_pos h2, if_neg h1, if_pos h2, Int.zero_sub, Int.zero_sub, Int.mul_neg]
    · rw [if_neg h1, if_neg h2, if_neg h1, if_neg h2, Int.sub_zero, Int.mul_zero]
  rw [e, sumI_one (i := N.fr k) N.n a1 (fun i _ hi => if_neg fun e => hi e.symm), sumI_one (i := N.to k) N.n a2 (fun i _ hi => if_neg fun e => hi e.symm), if_pos rfl, if_pos rfl, Int.mul_sub, Int.mul_comm (f k), Int.mul_comm (f k)]
/-- What heights make of what goes: no less than what fits them. -/
theorem pot_le (hP : PotP N fee f π) (hf : MayP N f) (hg : MayP N g) : sumI (fun k => f k * (fee k + π (N.fr k) - π (N.to k))) N.K ≤ sumI (fun k => g k * (fee k + π (N.fr k) - π (N.to k))) N.K := by
  refine sumI_le' fun k hk => ?_
  obtain ⟨h1, h2⟩ := hP k hk
  obtain ⟨a1, a2⟩ := hf k hk
  obtain ⟨b1, b2⟩ := hg k hk
  have key : 0 ≤ (g k - f k) * (fee k + π (N.fr k) - π (N.to k)) := by
    rcases Int.lt_trichotomy (f k) (g k) with h | h | h
    · exact Int.mul_nonneg (by omega) (by have := h1 (by omega); omega)
    · rw [show g k - f k = 0 by omega, Int.zero_mul]; exact Int.le_refl _
    · have h3 := h2 (by omega)
      have : 0 ≤ (f k - g k) * -(fee k + π (N.fr k) - π (N.to k)) := Int.mul_nonneg (by omega) (by omega)
      rw [Int.mul_neg, ← Int.neg_mul, show -(f k - g k) = g k - f k by omega] at this
      exact this
  rw [Int.sub_mul] at key
  omega
where
  sumI_le' {f g : Nat → Int} {n : Nat} (h : ∀ j, j < n → f j ≤ g j) : sumI f n ≤ sumI g n := sumI_le n h
theorem cost_split (hN : N.ok) (fee g π : Nat → Int) : costP N fee g = sumI (fun k => g k * (fee k + π (N.fr k) - π (N.to k))) N.K - sumI (fun i => π i * outP N g i) N.n := by
  rw [← sum_heights hN, ← sumI_sub]
  refine sumI_congr _ fun k _ => ?_
  rw [← Int.mul_sub]
  congr 1
  omega
/-- What goes through the nodes of a flow, by heights. -/
theorem flow_heights {s t : Nat} {v : Int} (hN : N.ok) (hs : s < N.n) (ht : t < N.n) (hst : s ≠ t) (F : FlowP N s t g v) (π : Nat → Int) : sumI (fun i => π i * outP N g i) N.n = (π s - π t) * v := by
  -- what comes in at t
  have hall : sumI (fun i => outP N g i) N.n = 0 := by
    have h := out_set hN g fun _ => true
    rw [sumI_congr N.n (g := fun i => outP N g i) fun i _ => if_pos rfl] at h
    rw [h]
    exact sumI_zero _ fun k _ => by simp
  have two : ∀ (H : Nat → Int), (∀ i, i < N.n → i ≠ s → i ≠ t → H i = 0) → sumI H N.n = H s + H t := fun H hH => by
    have e : sumI H N.n = sumI (fun i => if i = s then H i else 0) N.n + sumI (fun i => if i = t then H i else 0) N.n := by
      rw [← sumI_add]
      refine sumI_congr _ fun i hi => ?_
      by_cases h1 : i = s
      · rw [if_pos h1, if_neg (fun e => hst (h1.symm.trans e))]; omega
      · by_cases h2 : i = t
        · rw [if_neg h1, if_pos h2]; omega
        · rw [if_neg h1, if_neg h2, hH i hi h1 h2]; rfl
    rw [e, sumI_one (i := s) N.n hs (fun i _ hi => if_neg hi), sumI_one (i := t) N.n ht (fun i _ hi => if_neg hi), if_pos rfl, if_pos rfl]
  rw [two _ fun i hi h1 h2 => F.bal i hi h1 h2] at hall
  rw [two _ fun i hi h1 h2 => by rw [F.bal i hi h1 h2, Int.mul_zero], F.val, show outP N g t = -v by have := F.val; omega, Int.sub_mul, Int.mul_neg]
  omega
/-- KLEIN: by heights that fit no flow of the same value is cheaper. -/
theorem klein {s t : Nat} {v : Int} (hN : N.ok) (hs : s < N.n) (ht : t < N.n) (hst : s ≠ t) (hP : PotP N fee f π) (F : FlowP N s t f v) (G : FlowP N s t g v) : costP N fee f ≤ costP N fee g := by
  rw [cost_split hN fee f π, cost_split hN fee g π, flow_heights hN hs ht hst F, flow_heights hN hs ht hst G]
  have := pot_le hP F.may G.may
  omega
/-- Any flow, by the heights that fit another one. -/
theorem klein_any {s t : Nat} {u v : Int} (hN : N.ok) (hs : s < N.n) (ht : t < N.n) (hst : s ≠ t) (hP : PotP N fee f π) (F : FlowP N s t f v) (G : FlowP N s t g u) : costP N fee f + (π t - π s) * (u - v) ≤ costP N fee g := by
  rw [cost_split hN fee f π, cost_split hN fee g π, flow_heights hN hs ht hst F, flow_heights hN hs ht hst G]
  have h1 := pot_le hP F.may G.may
  have e : (π t - π s) * (u - v) = (π s - π t) * v - (π s - π t) * u := by
    rw [← Int.mul_sub, show u - v = -(v - u) by omega, Int.mul_neg, ← Int.neg_mul, show -(π t - π s) = π s - π t by omega]
  omega
/-- Each one more costs no less than the one ahead. -/
theorem rises {s t : Nat} {v : Int} {a b : Nat → Int} (hN : N.ok) (hs : s < N.n) (ht : t < N.n) (hst : s ≠ t) (hP : PotP N fee f π) (F : FlowP N s t f (v + 1)) (Ga : FlowP N s t a v) (Gb : FlowP N s t b (v + 2)) : costP N fee f - costP N fee a ≤ costP N fee b - costP N fee f := by
  have h1 := klein_any hN hs ht hst hP F Ga
  have h2 := klein_any hN hs ht hst hP F Gb
  rw [show v - (v + 1) = -1 by omega, Int.mul_neg, Int.mul_one] at h1
  rw [show v + 2 - (v + 1) = 1 by omega, Int.mul_one] at h2
  omega
theorem flow_none (hN : N.ok) (s t : Nat) : FlowP N s t (fun _ => 0) 0 := by
  have h : ∀ i, outP N (fun _ => 0) i = 0 := fun i => sumI_zero _ fun k _ => by simp
  exact ⟨fun k hk => ⟨Int.le_refl _, (hN k hk).2.2.2⟩, fun i _ _ _ => h i, h s⟩
theorem cost_nonneg (hf : MayP N f) (hfee : ∀ k, k < N.K → 0 ≤ fee k) : 0 ≤ costP N fee f := by
  rw [← sumI_zero (f := fun _ => 0) N.K fun _ _ => rfl]
  exact sumI_le _ fun k hk => Int.mul_nonneg (hf k hk).1 (hfee k hk)
/-- And more costs no less. -/
theorem rises_one {s t : Nat} {v : Int} (hN : N.ok) (hs : s < N.n) (ht : t < N.n) (hst : s ≠ t) (hv : 0 ≤ v) (hfee : ∀ k, k < N.K → 0 ≤ fee k) (hP : PotP N fee f π) (F : FlowP N s t f v) (G : FlowP N s t g (v + 1)) : costP N fee f ≤ costP N fee g := by
  have h1 := klein_any hN hs ht hst hP F (flow_none hN s t)
  have h2 := klein_any hN hs ht hst hP F G
  have h0 : costP N fee (fun _ => 0) = 0 := sumI_zero _ fun k _ => Int.zero_mul _
  rw [h0, show 0 - v = -v by omega, Int.mul_neg] at h1
  rw [show v + 1 - v = 1 by omega, Int.mul_one] at h2
  have h3 := cost_nonneg F.may hfee
  -- (t - s) * v >= cost f >= 0
  rcases Int.lt_or_le (π t - π s) 0 with h4 | h4
  · have h5 : (π t - π s) * v ≤ 0 := by
      have := Int.mul_nonneg (show 0 ≤ -(π t - π s) by omega) hv
      rw [Int.neg_mul] at this
      omega
    have h6 := cost_nonneg G.may hfee
    omega
  · omega
end
end Go.Proofs.Ytpcealcghglopaa

namespace Go.Proofs.Ytpcealcghglopaa

open Classical in
/-- How many classes there are: of each its least one counts. -/
noncomputable def clsP (R : Nat → Nat → Prop) (D : BS) (N : Nat) : Nat := sizeP (fun x => D x && decide (∀ y, y < x → D y = true → ¬ R y x)) N
structure EqvP (D : BS) (R : Nat → Nat → Prop) : Prop where
  refl : ∀ x, D x = true → R x x
  symm : ∀ x y, D x = true → D y = true → R x y → R y x
  trans : ∀ x y z, D x = true → D y = true → D z = true → R x y → R y z → R x z
section
variable {N : Nat} {D : BS} {R R' : Nat → Nat → Prop} {f : Nat → Nat}
open Classical in
theorem cls_lt (E : EqvP D R) (hD : ∀ x, D x = true → x < N) {a b : Nat} (ha : D a = true) (hb : D b = true) (_hab : ¬ R a b)
    (h : ∀ x y, D x = true → D y = true → (R' x y ↔ R x y ∨ (R x a ∧ R b y) ∨ (R x b ∧ R a y)))
    {la lb : Nat} (hla : D la = true) (hra : R la a) (hma : ∀ x, D x = true → R x a → la ≤ x) (hlb : D lb = true) (hrb : R lb b) (hmb : ∀ x, D x = true → R x b → lb ≤ x) (hlt : la < lb) :
    clsP R D N = clsP R' D N + 1 := by
  have hL : (fun x => D x && decide (∀ y, y < x → D y = true → ¬ R y x)) lb = true := by
    simp only [Bool.and_eq_true, decide_eq_true_eq]
    refine ⟨hlb, fun y hy hdy hr => ?_⟩
    have := hmb y hdy (E.trans y lb b hdy hlb hb hr hrb)
    omega
  unfold clsP
  rw [sizeP_del hL (hD lb hlb)]
  congr 1
  refine sizeP_congr N fun x hx => ?_
  rw [Bool.eq_iff_iff, delB_iff]
  simp only [Bool.and_eq_true, decide_eq_true_eq]
  constructor
  · rintro ⟨⟨hdx, h1⟩, hne⟩
    refine ⟨hdx, fun y hy hdy hr => ?_⟩
    rcases (h y x hdy hdx).1 hr with hr | ⟨r1, r2⟩ | ⟨r1, r2⟩
    · exact h1 y hy hdy hr
    · -- x is of b's
      have h2 := hmb x hdx (E.symm b x hb hdx r2)
      have : lb < x := by omega
      exact h1 lb this hlb (E.trans lb b x hlb hb hdx hrb r2)
    · have h2 := hma x hdx (E.symm a x ha hdx r2)
      have h3 := hmb y hdy r1
      have : la < x := by omega
      exact h1 la this hla (E.trans la a x hla ha hdx hra r2)
  · rintro ⟨hdx, h1⟩
    refine ⟨⟨hdx, fun y hy hdy hr => h1 y hy hdy ((h y x hdy hdx).2 (.inl hr))⟩, fun e => ?_⟩
    subst e
    exact h1 la hlt hla ((h la x hla hdx).2 (.inr (.inl ⟨hra, E.symm x b hdx hb hrb⟩)))
theorem cls_merge (E : EqvP D R) (hD : ∀ x, D x = true → x < N) {a b : Nat} (ha : D a = true) (hb : D b = true) (hab : ¬ R a b)
    (h : ∀ x y, D x = true → D y = true → (R' x y ↔ R x y ∨ (R x a ∧ R b y) ∨ (R x b ∧ R a y))) : clsP R D N = clsP R' D N + 1 := by
  obtain ⟨la, ⟨hla, hra⟩, hma⟩ := arg_min (P := fun x => D x = true ∧ R x a) (fun x => x) _ a (Nat.le_refl _) ⟨ha, E.refl a ha⟩
  obtain ⟨lb, ⟨hlb, hrb⟩, hmb⟩ := arg_min (P := fun x => D x = true ∧ R x b) (fun x => x) _ b (Nat.le_refl _) ⟨hb, E.refl b hb⟩
  rcases Nat.lt_trichotomy la lb with hlt | e | hlt
  · exact cls_lt E hD ha hb hab h hla hra (fun x h1 h2 => hma x ⟨h1, h2⟩) hlb hrb (fun x h1 h2 => hmb x ⟨h1, h2⟩) hlt
  · subst e
    exact absurd (E.trans a la b ha hla hb (E.symm la a hla ha hra) hrb) hab
  · refine cls_lt E hD hb ha (fun h' => hab (E.symm b a hb ha h')) (fun x y hx hy => ?_) hlb hrb (fun x h1 h2 => hmb x ⟨h1, h2⟩) hla hra (fun x h1 h2 => hma x ⟨h1, h2⟩) hlt
    rw [h x y hx hy]
    exact ⟨fun h => h.elim .inl fun h => .inr h.symm, fun h => h.elim .inl fun h => .inr h.symm⟩
def itF (f : Nat → Nat) : Nat → Nat → Nat
  | 0, x => x
  | k + 1, x => itF f k (f x)
def OrbP (f : Nat → Nat) (x y : Nat) : Prop := ∃ k, itF f k x = y
structure PermB (N : Nat) (D : BS) (f : Nat → Nat) : Prop where
  lt : ∀ x, D x = true → x < N
  map : ∀ x, D x = true → D (f x) = true
  inj : ∀ x y, D x = true → D y = true → f x = f y → x = y
theorem itF_add (j : Nat) : ∀ k x, itF f (j + k) x = itF f j (itF f k x)
  | 0, _ => rfl
  | k + 1, x => itF_add j k (f x)
theorem itF_succ (k x : Nat) : itF f (k + 1) x = f (itF f k x) := by
  rw [Nat.add_comm, itF_add 1 k x]; rfl
theorem itF_map (P : PermB N D f) : ∀ k x, D x = true → D (itF f k x) = true
  | 0, _, h => h
  | k + 1, x, h => itF_map P k (f x) (P.map x h)
theorem itF_inj (P : PermB N D f) : ∀ k x y, D x = true → D y = true → itF f k x = itF f k y → x = y
  | 0, _, _, _, _, h => h
  | k + 1, x, y, hx, hy, h => P.inj x y hx hy (itF_inj P k (f x) (f y) (P.map x hx) (P.map y hy) h)
theorem itF_back (P : PermB N D f) {x : Nat} (hx : D x = true) : ∃ m, 0 < m ∧ itF f m x = x := by
  obtain ⟨a, b, hab, _, he⟩ := pigeon (n := N) (k := N) (p := fun t => itF f t x) (fun t _ => P.lt _ (itF_map P t x hx)) (Nat.le_refl N)
  refine ⟨b - a, by omega, ?_⟩
  have h : itF f a x = itF f a (itF f (b - a) x) := by
    rw [← itF_add, show a + (b - a) = b by omega]; exact he
  exact (itF_inj P a _ _ hx (itF_map P _ x hx) h).symm
theorem itF_mul {m x : Nat} (h : itF f m x = x) : ∀ j, itF f (m * j) x = x
  | 0 => rfl
  | j + 1 => by rw [Nat.mul_succ, itF_add, h, itF_mul h j]
theorem orb_eqv (P : PermB N D f) : EqvP D (OrbP f) := by
  refine ⟨fun x _ => ⟨0, rfl⟩, fun x y hx _ ⟨k, hk⟩ => ?_, fun x y z _ _ _ ⟨k, hk⟩ ⟨j, hj⟩ => ⟨j + k, by rw [itF_add, hk, hj]⟩⟩
  obtain ⟨m, hm, he⟩ := itF_back P hx
  have h1 : k ≤ m * k := Nat.le_mul_of_pos_left k hm
  refine ⟨m * k - k, ?_⟩
  rw [← hk, ← itF_add, show m * k - k + k = m * k by omega]
  exact itF_mul he k
/-- Two ends change places. -/
def swF (f : Nat → Nat) (p q : Nat) : Nat → Nat := fun x => if x = p then f q else if x = q then f p else f x
theorem swF_p (p q : Nat) : swF f p q p = f q := if_pos rfl
theorem swF_q (p q : Nat) : swF f p q q = f p := by
  unfold swF
  by_cases h : q = p
  · rw [if_pos h, h]
  · rw [if_neg h, if_pos rfl]
theorem swF_else {p q x : Nat} (h1 : x ≠ p) (h2 : x ≠ q) : swF f p q x = f x := by unfold swF; rw [if_neg h1, if_neg h2]
theorem swF_perm (P : PermB N D f) {p q : Nat} (hp : D p = true) (hq : D q = true) : PermB N D (swF f p q) := by
  have hval : ∀ x, D x = true → ∃ x', D x' = true ∧ swF f p q x = f x' ∧ x' = (if x = p then q else if x = q then p else x) := fun x hx => by
    by_cases h1 : x = p
    · exact ⟨q, hq, by rw [h1, swF_p], by rw [if_pos h1]⟩
    · by_cases h2 : x = q
      · exact ⟨p, hp, by rw [h2, swF_q], by rw [if_neg h1, if_pos h2]⟩
      · exact ⟨x, hx, swF_else h1 h2, by rw [if_neg h1, if_neg h2]⟩
  refine ⟨P.lt, fun x hx => ?_, fun x y hx hy h => ?_⟩
  · obtain ⟨x', h1, h2, _⟩ := hval x hx
    rw [h2]; exact P.map x' h1
  · obtain ⟨x', h1, h2, h3⟩ := hval x hx
    obtain ⟨y', g1, g2, g3⟩ := hval y hy
    have e := P.inj x' y' h1 g1 (by rw [← h2, ← g2, h])
    rw [h3, g3] at e
    by_cases a1 : x = p <;> by_cases a2 : y = p
    · omega
    · rw [if_pos a1, if_neg a2] at e; split at e <;> omega
    · rw [if_neg a1, if_pos a2] at e; split at e <;> omega
    · rw [if_neg a1, if_neg a2] at e
      split at e <;> split at e <;> omega
theorem itF_same {p q : Nat} : ∀ k x, (∀ j, j < k → itF f j x ≠ p ∧ itF f j x ≠ q) → itF (swF f p q) k x = itF f k x
  | 0, _, _ => rfl
  | k + 1, x, h => by
    have h0 := h 0 (by omega)
    show itF (swF f p q) k (swF f p q x) = itF f k (f x)
    rw [swF_else (x := x) h0.1 h0.2]
    exact itF_same k (f x) fun j hj => h (j + 1) (by omega)
theorem orb_to {p q x : Nat} (h1 : OrbP f x p) (h2 : ¬ OrbP f x q) : OrbP (swF f p q) x p := by
  obtain ⟨k0, hk0⟩ := h1
  obtain ⟨k, hk, hmin⟩ := arg_min (P := fun k => itF f k x = p) (fun k => k) k0 k0 (Nat.le_refl _) hk0
  refine ⟨k, ?_⟩
  rw [itF_same k x fun j hj => ⟨fun e => by have := hmin j e; omega, fun e => h2 ⟨j, e⟩⟩]
  exact hk
theorem swF_comm (p q : Nat) : swF f p q = swF f q p := by
  funext x
  unfold swF
  by_cases h1 : x = p <;> by_cases h2 : x = q
  · subst h1; subst h2; rfl
  · rw [if_pos h1, if_neg h2, if_pos h1]
  · rw [if_neg h1, if_pos h2, if_pos h2]
  · rw [if_neg h1, if_neg h2, if_neg h2, if_neg h1]
/-- Two rings become one. -/
theorem orb_merge (P : PermB N D f) {p q : Nat} (hp : D p = true) (hq : D q = true) (hno : ¬ OrbP f p q) (x y : Nat) (hx : D x = true) (hy : D y = true) :
    OrbP (swF f p q) x y ↔ OrbP f x y ∨ (OrbP f x p ∧ OrbP f q y) ∨ (OrbP f x q ∧ OrbP f p y) := by
  have E := orb_eqv P
  have E' := orb_eqv (swF_perm P hp hq)
  have hno' : ¬ OrbP f q p := fun h => hno (E.symm q p hq hp h)
  have kp : ∀ x, D x = true → OrbP f x p → OrbP (swF f p q) x p := fun x hx h => orb_to h fun h' => hno (E.trans p x q hp hx hq (E.symm x p hx hp h) h')
  have kq : ∀ x, D x = true → OrbP f x q → OrbP (swF f p q) x q := fun x hx h => by
    rw [swF_comm]; exact orb_to h fun h' => hno (E.trans p x q hp hx hq (E.symm x p hx hp h') h)
  have hfq := P.map q hq
  have hpq : OrbP (swF f p q) p q := by
    have h1 : OrbP (swF f p q) (f q) q := kq (f q) hfq (E.symm q (f q) hq hfq ⟨1, rfl⟩)
    obtain ⟨k, hk⟩ := h1
    exact ⟨k + 1, by show itF _ k (swF f p q p) = q; rw [swF_p]; exact hk⟩
  constructor
  · rintro ⟨k, hk⟩
    subst hk
    clear hy
    induction k with
    | zero => exact .inl ⟨0, rfl⟩
    | succ k ih =>
      rw [itF_succ]
      have hz := itF_map (swF_perm P hp hq) k x hx
      generalize itF (swF f p q) k x = z at *
      have hfz := P.map z hz
      have hfp := P.map p hp
      by_cases e1 : z = p
      · subst e1
        rw [swF_p]
        rcases ih with h | ⟨h1, h2⟩ | ⟨h1, _⟩
        · exact .inr (.inl ⟨h, ⟨1, rfl⟩⟩)
        · exact absurd h2 hno'
        · exact .inl (E.trans x q (f q) hx hq hfq h1 ⟨1, rfl⟩)
      · by_cases e2 : z = q
        · subst e2
          rw [swF_q]
          rcases ih with h | ⟨h1, _⟩ | ⟨h1, h2⟩
          · exact .inr (.inr ⟨h, ⟨1, rfl⟩⟩)
          · exact .inl (E.trans x p (f p) hx hp hfp h1 ⟨1, rfl⟩)
          · exact absurd h2 hno
        · rw [swF_else e1 e2]
          rcases ih with h | ⟨h1, h2⟩ | ⟨h1, h2⟩
          · exact .inl (E.trans x z (f z) hx hz hfz h ⟨1, rfl⟩)
          · exact .inr (.inl ⟨h1, E.trans q z (f z) hq hz hfz h2 ⟨1, rfl⟩⟩)
          · exact .inr (.inr ⟨h1, E.trans p z (f z) hp hz hfz h2 ⟨1, rfl⟩⟩)
  · rintro (h | ⟨h1, h2⟩ | ⟨h1, h2⟩)
    · by_cases g1 : OrbP f x p
      · have g2 : OrbP f y p := E.trans y x p hy hx hp (E.symm x y hx hy h) g1
        exact E'.trans x p y hx hp hy (kp x hx g1) (E'.symm y p hy hp (kp y hy g2))
      · by_cases g3 : OrbP f x q
        · have g2 : OrbP f y q := E.trans y x q hy hx hq (E.symm x y hx hy h) g3
          exact E'.trans x q y hx hq hy (kq x hx g3) (E'.symm y q hy hq (kq y hy g2))
        · obtain ⟨k, hk⟩ := h
          exact ⟨k, by rw [itF_same k x fun j _ => ⟨fun e => g1 ⟨j, e⟩, fun e => g3 ⟨j, e⟩⟩]; exact hk⟩
    · have h3 := kq y hy (E.symm q y hq hy h2)
      exact E'.trans x p y hx hp hy (kp x hx h1) (E'.trans p q y hp hq hy hpq (E'.symm y q hy hq h3))
    · have h3 := kp y hy (E.symm p y hp hy h2)
      exact E'.trans x q y hx hq hy (kq x hx h1) (E'.trans q p y hq hp hy (E'.symm p q hp hq hpq) (E'.symm y p hy hp h3))
theorem rings_merge (P : PermB N D f) {p q : Nat} (hp : D p = true) (hq : D q = true) (hno : ¬ OrbP f p q) : clsP (OrbP f) D N = clsP (OrbP (swF f p q)) D N + 1 :=
  cls_merge (orb_eqv P) P.lt hp hq hno fun x y hx hy => orb_merge P hp hq hno x y hx hy
/-- One ring becomes two. -/
theorem rings_split (P : PermB N D f) {p q : Nat} (hp : D p = true) (hq : D q = true) (hpq : p ≠ q) (h : OrbP f p q) : clsP (OrbP (swF f p q)) D N = clsP (OrbP f) D N + 1 := by
  have E := orb_eqv P
  have hno : ¬ OrbP (swF f p q) p q := by
    obtain ⟨l0, hl0⟩ := E.symm p q hp hq h
    obtain ⟨l, hl, hmin⟩ := arg_min (P := fun l => itF f l q = p) (fun l => l) l0 l0 (Nat.le_refl _) hl0
    have hl1 : 0 < l := by
      rcases Nat.eq_zero_or_pos l with rfl | h
      · exact absurd hl.symm hpq
      · exact h
    have hq' : ∀ j, 0 < j → j ≤ l → itF f j q ≠ q := fun j h1 h2 e => by
      by_cases e2 : j = l
      · subst e2; rw [hl] at e; exact hpq e
      · have h3 : itF f (l - j) q = p := by
          have h4 : itF f l q = itF f (l - j) (itF f j q) := by rw [← itF_add, show l - j + j = l by omega]
          rw [e] at h4
          rw [← h4]; exact hl
        have := hmin _ h3
        omega
    have hin : ∀ k, ∃ j, 0 < j ∧ j ≤ l ∧ itF (swF f p q) k p = itF f j q := fun k => by
      induction k with
      | zero => exact ⟨l, hl1, Nat.le_refl _, hl.symm⟩
      | succ k ih =>
        obtain ⟨j, h1, h2, h3⟩ := ih
        rw [itF_succ, h3]
        by_cases e : j = l
        · subst e; rw [hl, swF_p]; exact ⟨1, by omega, by omega, rfl⟩
        · rw [swF_else (fun e' => by have := hmin j e'; omega) (hq' j h1 h2), ← itF_succ (f := f)]
          exact ⟨j + 1, by omega, by omega, rfl⟩
    rintro ⟨k, hk⟩
    obtain ⟨j, h1, h2, h3⟩ := hin k
    exact hq' j h1 h2 (h3.symm.trans hk)
  have e : swF (swF f p q) p q = f := by
    funext x
    by_cases h1 : x = p
    · subst h1; rw [swF_p, swF_q]
    · by_cases h2 : x = q
      · subst h2; rw [swF_q, swF_p]
      · rw [swF_else h1 h2, swF_else h1 h2]
  have := rings_merge (swF_perm P hp hq) hp hq hno
  rw [e] at this
  exact this
end
end Go.Proofs.Ytpcealcghglopaa

namespace Go.Proofs.Ytpcealcghglopaa

/-- The faces' turning, when these edges have been put in. -/
def phiF (s : Nat → Nat) : List (Nat × Nat) → Nat → Nat
  | [] => s
  | e :: L => swF (phiF s L) e.1 e.2
/-- Two classes in one. -/
def mgR (R : Nat → Nat → Prop) (a b : Nat) : Nat → Nat → Prop := fun x y => R x y ∨ (R x a ∧ R b y) ∨ (R x b ∧ R a y)
/-- Who is linked, when these edges have been put in. -/
def relF (s : Nat → Nat) : List (Nat × Nat) → Nat → Nat → Prop
  | [] => OrbP s
  | e :: L => mgR (relF s L) e.1 e.2
def DartsP (D : BS) (L : List (Nat × Nat)) : Prop := ∀ e, e ∈ L → D e.1 = true ∧ D e.2 = true ∧ e.1 ≠ e.2
section
variable {N : Nat} {D : BS} {R R' : Nat → Nat → Prop} {s : Nat → Nat}
theorem mg_eqv (E : EqvP D R) {a b : Nat} (ha : D a = true) (hb : D b = true) : EqvP D (mgR R a b) := by
  refine ⟨fun x hx => .inl (E.refl x hx), fun x y hx hy h => ?_, fun x y z hx hy hz h1 h2 => ?_⟩
  · rcases h with h | ⟨h1, h2⟩ | ⟨h1, h2⟩
    · exact .inl (E.symm x y hx hy h)
    · exact .inr (.inr ⟨E.symm b y hb hy h2, E.symm x a hx ha h1⟩)
    · exact .inr (.inl ⟨E.symm a y ha hy h2, E.symm x b hx hb h1⟩)
  · rcases h1 with h1 | ⟨h1, h3⟩ | ⟨h1, h3⟩ <;> rcases h2 with h2 | ⟨h2, h4⟩ | ⟨h2, h4⟩
    · exact .inl (E.trans x y z hx hy hz h1 h2)
    · exact .inr (.inl ⟨E.trans x y a hx hy ha h1 h2, h4⟩)
    · exact .inr (.inr ⟨E.trans x y b hx hy hb h1 h2, h4⟩)
    · exact .inr (.inl ⟨h1, E.trans b y z hb hy hz h3 h2⟩)
    · have h5 := E.trans b y a hb hy ha h3 h2
      exact .inl (E.trans x a z hx ha hz h1 (E.trans a b z ha hb hz (E.symm b a hb ha h5) h4))
    · exact .inl (E.trans x a z hx ha hz h1 h4)
    · exact .inr (.inr ⟨h1, E.trans a y z ha hy hz h3 h2⟩)
    · exact .inl (E.trans x b z hx hb hz h1 h4)
    · have h5 := E.trans a y b ha hy hb h3 h2
      exact .inl (E.trans x b z hx hb hz h1 (E.trans b a z hb ha hz (E.symm a b ha hb h5) h4))
theorem cls_congr (h : ∀ x y, D x = true → D y = true → (R x y ↔ R' x y)) : clsP R D N = clsP R' D N := by
  classical
  unfold clsP
  refine sizeP_congr N fun x _ => ?_
  rw [Bool.eq_iff_iff]
  simp only [Bool.and_eq_true, decide_eq_true_eq]
  exact ⟨fun ⟨h1, h2⟩ => ⟨h1, fun y hy hdy hr => h2 y hy hdy ((h y x hdy h1).2 hr)⟩, fun ⟨h1, h2⟩ => ⟨h1, fun y hy hdy hr => h2 y hy hdy ((h y x hdy h1).1 hr)⟩⟩
/-- Finer classes are no fewer. -/
theorem cls_finer (h : ∀ x y, D x = true → D y = true → R x y → R' x y) : clsP R' D N ≤ clsP R D N := by
  classical
  unfold clsP
  refine sizeP_sub fun x _ h1 => ?_
  simp only [Bool.and_eq_true, decide_eq_true_eq] at h1 ⊢
  exact ⟨h1.1, fun y hy hdy hr => h1.2 y hy hdy (h y x hdy h1.1 hr)⟩
theorem phi_perm (P : PermB N D s) : ∀ L, DartsP D L → PermB N D (phiF s L)
  | [], _ => P
  | e :: L, h => by
    have h1 := h e (List.mem_cons_self ..)
    exact swF_perm (phi_perm P L fun x hx => h x (List.mem_cons_of_mem _ hx)) h1.1 h1.2.1
theorem rel_eqv (P : PermB N D s) : ∀ L, DartsP D L → EqvP D (relF s L)
  | [], _ => orb_eqv P
  | e :: L, h => by
    have h1 := h e (List.mem_cons_self ..)
    exact mg_eqv (rel_eqv P L fun x hx => h x (List.mem_cons_of_mem _ hx)) h1.1 h1.2.1
/-- A face is of one part. -/
theorem face_part (P : PermB N D s) : ∀ L, DartsP D L → ∀ x y, D x = true → D y = true → OrbP (phiF s L) x y → relF s L x y
  | [], _, _, _, _, _, h => h
  | e :: L, hL, x, y, hx, _, ⟨k, hk⟩ => by
    have h1 := hL e (List.mem_cons_self ..)
    have hL' : DartsP D L := fun x hx => hL x (List.mem_cons_of_mem _ hx)
    have Q := phi_perm P L hL'
    have Q' := phi_perm P (e :: L) hL
    have E := rel_eqv P L hL'
    have E' := rel_eqv P (e :: L) hL
    have hstep : ∀ z, D z = true → relF s (e :: L) z (phiF s (e :: L) z) := fun z hz => by
      show mgR (relF s L) e.1 e.2 z (swF (phiF s L) e.1 e.2 z)
      by_cases e1 : z = e.1
      · rw [e1, swF_p]
        exact .inr (.inl ⟨E.refl _ h1.1, face_part P L hL' _ _ h1.2.1 (Q.map _ h1.2.1) ⟨1, rfl⟩⟩)
      · by_cases e2 : z = e.2
        · rw [e2, swF_q]
          exact .inr (.inr ⟨E.refl _ h1.2.1, face_part P L hL' _ _ h1.1 (Q.map _ h1.1) ⟨1, rfl⟩⟩)
        · rw [swF_else e1 e2]
          exact .inl (face_part P L hL' _ _ hz (Q.map z hz) ⟨1, rfl⟩)
    subst hk
    induction k with
    | zero => exact E'.refl x hx
    | succ k ih =>
      rw [itF_succ]
      have hz := itF_map Q' k x hx
      exact E'.trans x _ _ hx hz (Q'.map _ hz) (ih hz) (hstep _ hz)
/-- EULER, POINCARE. -/
theorem euler (P : PermB N D s) : ∀ L, DartsP D L → ∃ h, clsP (OrbP s) D N + clsP (OrbP (phiF s L)) D N + 2 * h = 2 * clsP (relF s L) D N + L.length
  | [], _ => ⟨0, by show clsP (OrbP s) D N + clsP (OrbP s) D N + 2 * 0 = 2 * clsP (OrbP s) D N + 0; omega⟩
  | e :: L, hL => by
    have h1 := hL e (List.mem_cons_self ..)
    have hL' : DartsP D L := fun x hx => hL x (List.mem_cons_of_mem _ hx)
    have Q := phi_perm P L hL'
    have E := rel_eqv P L hL'
    obtain ⟨h, ih⟩ := euler P L hL'
    show ∃ h, clsP (OrbP s) D N + clsP (OrbP (swF (phiF s L) e.1 e.2)) D N + 2 * h = 2 * clsP (mgR (relF s L) e.1 e.2) D N + (L.length + 1)
    by_cases hr : relF s L e.1 e.2
    · have e1 : clsP (mgR (relF s L) e.1 e.2) D N = clsP (relF s L) D N := cls_congr fun x y hx hy => by
        constructor
        · rintro (h | ⟨g1, g2⟩ | ⟨g1, g2⟩)
          · exact h
          · exact E.trans x e.1 y hx h1.1 hy g1 (E.trans e.1 e.2 y h1.1 h1.2.1 hy hr g2)
          · exact E.trans x e.2 y hx h1.2.1 hy g1 (E.trans e.2 e.1 y h1.2.1 h1.1 hy (E.symm e.1 e.2 h1.1 h1.2.1 hr) g2)
        · exact .inl
      by_cases ho : OrbP (phiF s L) e.1 e.2
      · have e2 := rings_split Q h1.1 h1.2.1 h1.2.2 ho
        exact ⟨h, by omega⟩
      · have e2 := rings_merge Q h1.1 h1.2.1 ho
        exact ⟨h + 1, by omega⟩
    · have ho : ¬ OrbP (phiF s L) e.1 e.2 := fun ho => hr (face_part P L hL' _ _ h1.1 h1.2.1 ho)
      have e2 := rings_merge Q h1.1 h1.2.1 ho
      have e3 := cls_merge (R' := mgR (relF s L) e.1 e.2) E P.lt h1.1 h1.2.1 hr fun x y _ _ => Iff.rfl
      exact ⟨h, by omega⟩
theorem faces_parts (P : PermB N D s) (L : List (Nat × Nat)) (hL : DartsP D L) : clsP (relF s L) D N ≤ clsP (OrbP (phiF s L)) D N := cls_finer fun x y hx hy h => face_part P L hL x y hx hy h
/-- The faces' turning goes over the edge first, then round the node. -/
theorem phi_eq {al : Nat → Nat} : ∀ L : List (Nat × Nat), (L.map (·.1) ++ L.map (·.2)).Nodup → (∀ e, e ∈ L → al e.1 = e.2 ∧ al e.2 = e.1) → (∀ x, (∀ e, e ∈ L → x ≠ e.1 ∧ x ≠ e.2) → phiF s L x = s x) ∧ ∀ e, e ∈ L → phiF s L e.1 = s e.2 ∧ phiF s L e.2 = s e.1
  | [], _, _ => ⟨fun _ _ => rfl, fun e he => by cases he⟩
  | e :: L, hn, ha => by
    have hn' : (e.1 :: (L.map (·.1) ++ e.2 :: L.map (·.2))).Nodup := by simpa using hn
    obtain ⟨n1, n2⟩ := List.nodup_cons.1 hn'
    have hp : (e.2 :: (L.map (·.1) ++ L.map (·.2))).Nodup := (List.perm_middle.nodup_iff).1 n2
    obtain ⟨n3, n4⟩ := List.nodup_cons.1 hp
    obtain ⟨ih1, ih2⟩ := phi_eq (al := al) L n4 fun x hx => ha x (List.mem_cons_of_mem _ hx)
    have hfar : ∀ e', e' ∈ L → (e.1 ≠ e'.1 ∧ e.1 ≠ e'.2) ∧ e.2 ≠ e'.1 ∧ e.2 ≠ e'.2 := fun e' he' => by
      have m1 : e'.1 ∈ L.map (·.1) := List.mem_map.2 ⟨e', he', rfl⟩
      have m2 : e'.2 ∈ L.map (·.2) := List.mem_map.2 ⟨e', he', rfl⟩
      refine ⟨⟨fun h => n1 ?_, fun h => n1 ?_⟩, fun h => n3 ?_, fun h => n3 ?_⟩
      · rw [h]; exact List.mem_append.2 (.inl m1)
      · rw [h]; exact List.mem_append.2 (.inr (List.mem_cons_of_mem _ m2))
      · rw [h]; exact List.mem_append.2 (.inl m1)
      · rw [h]; exact List.mem_append.2 (.inr m2)
    have v1 := ih1 e.1 fun e' he' => (hfar e' he').1
    have v2 := ih1 e.2 fun e' he' => (hfar e' he').2
    refine ⟨fun x hx => ?_, fun e' he' => ?_⟩
    · obtain ⟨g1, g2⟩ := hx e (List.mem_cons_self ..)
      show swF (phiF s L) e.1 e.2 x = s x
      rw [swF_else g1 g2]
      exact ih1 x fun e' he' => hx e' (List.mem_cons_of_mem _ he')
    · rcases List.mem_cons.1 he' with rfl | he'
      · show swF (phiF s L) e'.1 e'.2 e'.1 = _ ∧ swF (phiF s L) e'.1 e'.2 e'.2 = _
        rw [swF_p, swF_q]; exact ⟨v2, v1⟩
      · obtain ⟨⟨g1, g2⟩, g3, g4⟩ := hfar e' he'
        show swF (phiF s L) e.1 e.2 e'.1 = _ ∧ swF (phiF s L) e.1 e.2 e'.2 = _
        rw [swF_else (Ne.symm g1) (Ne.symm g3), swF_else (Ne.symm g2) (Ne.symm g4)]
        exact ih2 e' he'
end
end Go.Proofs.Ytpcealcghglopaa

namespace Go.Proofs.Ytpcealcghglopaa
section
variable {N : Nat} {D : BS} {R R' : Nat → Nat → Prop} {f g : Nat → Nat}
theorem inj_size : ∀ (m : Nat) (p : Nat → Nat) (A : BS), (∀ i, i < m → p i < N ∧ A (p i) = true) → (∀ i j, i < j → j < m → p i ≠ p j) → m ≤ sizeP A N
  | 0, _, _, _, _ => Nat.zero_le _
  | m + 1, p, A, h, hi => by
    have h1 := h m (by omega)
    have ih := inj_size m p (delB A (p m)) (fun i hm => ⟨(h i (by omega)).1, delB_iff.2 ⟨(h i (by omega)).2, hi i m hm (by omega)⟩⟩) fun i j hij hj => hi i j hij (by omega)
    have := sizeP_del h1.2 h1.1
    omega
/-- The least one of its class. -/
theorem class_least (E : EqvP D R) {x : Nat} (hx : D x = true) : ∃ l, D l = true ∧ R l x ∧ ∀ y, D y = true → R y x → l ≤ y := by
  obtain ⟨l, ⟨h1, h2⟩, h3⟩ := arg_min (P := fun y => D y = true ∧ R y x) (fun y => y) _ x (Nat.le_refl _) ⟨hx, E.refl x hx⟩
  exact ⟨l, h1, h2, fun y hy hr => h3 y ⟨hy, hr⟩⟩
open Classical in
noncomputable def leadB (R : Nat → Nat → Prop) (D : BS) : BS := fun x => D x && decide (∀ y, y < x → D y = true → ¬ R y x)
theorem leadB_iff {x : Nat} : leadB R D x = true ↔ D x = true ∧ ∀ y, y < x → D y = true → ¬ R y x := by
  unfold leadB; simp only [Bool.and_eq_true, decide_eq_true_eq]
theorem cls_lead : clsP R D N = sizeP (leadB R D) N := rfl
theorem lead_least {l : Nat} (h : leadB R D l = true) (_E : EqvP D R) {y : Nat} (hy : D y = true) (hr : R y l) : l ≤ y := by
  obtain ⟨_, h2⟩ := leadB_iff.1 h
  exact Nat.le_of_not_lt fun hlt => h2 y hlt hy hr
open Classical in
/-- Classes of m members at least are so many times fewer. -/
theorem cls_size (E : EqvP D R) (hD : ∀ x, D x = true → x < N) {m : Nat} (h : ∀ x, D x = true → m ≤ sizeP (fun y => D y && decide (R x y)) N) : clsP R D N * m ≤ sizeP D N := by
  have hch : ∃ lab : Nat → Nat, ∀ x, D x = true → D (lab x) = true ∧ R (lab x) x ∧ ∀ y, D y = true → R y x → lab x ≤ y := by
    refine ⟨fun x => if hx : D x = true then Classical.choose (class_least E hx) else 0, fun x hx => ?_⟩
    simp only [dif_pos hx]
    exact Classical.choose_spec (class_least E hx)
  obtain ⟨lab, hlab⟩ := hch
  rw [← sizeP_parts (N := N) (lab := lab) N fun j _ hj => hD _ (hlab j hj).1, cls_lead, ← sumA_const]
  refine sumTo_le N fun i _ => ?_
  by_cases hi : leadB R D i = true
  · rw [if_pos hi]
    obtain ⟨hdi, _⟩ := leadB_iff.1 hi
    refine Nat.le_trans (h i hdi) (sizeP_sub fun y _ hy => ?_)
    simp only [Bool.and_eq_true, decide_eq_true_eq] at hy ⊢
    refine ⟨hy.1, ?_⟩
    obtain ⟨g1, g2, g3⟩ := hlab y hy.1
    have h1 := g3 i hdi hy.2
    have h2 := lead_least hi E g1 (E.trans (lab y) y i g1 hy.1 hdi g2 (E.symm i y hdi hy.1 hy.2))
    omega
  · rw [if_neg hi]; exact Nat.zero_le _
open Classical in
/-- A ring that does not come back within m steps has m members. -/
theorem ring_size (P : PermB N D f) {m : Nat} {x : Nat} (hx : D x = true) (h : ∀ j, 0 < j → j < m → itF f j x ≠ x) : m ≤ sizeP (fun y => D y && decide (OrbP f x y)) N := by
  refine inj_size m (fun j => itF f j x) _ (fun i _ => ?_) fun i j hij hj e => ?_
  · have := itF_map P i x hx
    refine ⟨P.lt _ this, ?_⟩
    simp only [Bool.and_eq_true, decide_eq_true_eq]
    exact ⟨this, i, rfl⟩
  · have h1 : itF f i x = itF f i (itF f (j - i) x) := by rw [← itF_add, show i + (j - i) = j by omega]; exact e
    exact h (j - i) (by omega) (by omega) (itF_inj P i _ _ hx (itF_map P _ x hx) h1).symm
/-- By other names as many classes. -/
theorem cls_le (E : EqvP D R) (E' : EqvP D R') (hD : ∀ x, D x = true → x < N) (hg : ∀ x, D x = true → D (g x) = true) (h : ∀ x y, D x = true → D y = true → R' (g x) (g y) → R x y) : clsP R D N ≤ clsP R' D N := by
  classical
  have hch : ∃ lab : Nat → Nat, ∀ x, D x = true → D (lab x) = true ∧ R' (lab x) (g x) ∧ ∀ y, D y = true → R' y (g x) → lab x ≤ y := by
    refine ⟨fun x => if hx : D x = true then Classical.choose (class_least E' (hg x hx)) else 0, fun x hx => ?_⟩
    simp only [dif_pos hx]
    exact Classical.choose_spec (class_least E' (hg x hx))
  obtain ⟨lab, hlab⟩ := hch
  rw [cls_lead, cls_lead]
  refine sizeP_inj _ (m := lab) rfl (fun x _ hx => ?_) fun x y _ _ hx hy e => ?_
  · obtain ⟨hdx, _⟩ := leadB_iff.1 hx
    obtain ⟨g1, g2, g3⟩ := hlab x hdx
    refine ⟨hD _ g1, leadB_iff.2 ⟨g1, fun y hy hdy hr => ?_⟩⟩
    have := g3 y hdy (E'.trans y (lab x) (g x) hdy g1 (hg x hdx) hr g2)
    omega
  · obtain ⟨hdx, _⟩ := leadB_iff.1 hx
    obtain ⟨hdy, _⟩ := leadB_iff.1 hy
    obtain ⟨g1, g2, _⟩ := hlab x hdx
    obtain ⟨k1, k2, _⟩ := hlab y hdy
    rw [← e] at k2
    have hr : R x y := h x y hdx hdy (E'.trans (g x) (lab x) (g y) (hg x hdx) g1 (hg y hdy) (E'.symm _ _ g1 (hg x hdx) g2) k2)
    have h1 := lead_least hx E hdy (E.symm x y hdx hdy hr)
    have h2 := lead_least hy E hdx hr
    omega
/-- The other way round as many rings. -/
theorem orb_inv (P : PermB N D f) (Q : PermB N D g) (hfg : ∀ x, D x = true → g (f x) = x) {x y : Nat} (hx : D x = true) (h : OrbP f x y) : OrbP g x y := by
  have E := orb_eqv Q
  obtain ⟨k, hk⟩ := h
  subst hk
  induction k with
  | zero => exact E.refl x hx
  | succ k ih =>
    rw [itF_succ]
    have hz := itF_map P k x hx
    have hfz := P.map _ hz
    exact E.trans x _ _ hx hz hfz ih (E.symm _ _ hfz hz ⟨1, hfg _ hz⟩)
/-- al after g, or g after al: as many rings. -/
theorem orb_conj {al t : Nat → Nat} (hal : ∀ x, D x = true → D (al x) = true) (ht : ∀ x, D x = true → D (t x) = true) {x y : Nat} (hx : D x = true) (h : OrbP (fun x => al (t x)) x y) : OrbP (fun x => t (al x)) (t x) (t y) := by
  obtain ⟨k, hk⟩ := h
  subst hk
  refine ⟨k, ?_⟩
  induction k generalizing x with
  | zero => rfl
  | succ k ih =>
    show itF _ k (t (al (t x))) = t (itF _ k (al (t x)))
    exact ih (hal _ (ht x hx))
end
end Go.Proofs.Ytpcealcghglopaa

namespace Go.Proofs.Ytpcealcghglopaa
section
variable {n k : Nat} {adj : Nat → Nat → Bool} {col pos : Nat → Nat} {A K : BS}
/-- Who has the least number that none of some has has none greater than how many these are. -/
theorem mex_le : ∀ (c : Nat) (A : BS), (∀ x, x < c → ∃ j, j < n ∧ A j = true ∧ col j = x) → c ≤ sizeP A n
  | 0, _, _ => Nat.zero_le _
  | c + 1, A, h => by
    obtain ⟨j, hj, ha, hc⟩ := h c (by omega)
    have ih := mex_le c (delB A j) fun x hx => by
      obtain ⟨i, hi, g1, g2⟩ := h x (by omega)
      exact ⟨i, hi, delB_iff.2 ⟨g1, fun e => by rw [e, hc] at g2; omega⟩, g2⟩
    have := sizeP_del ha hj
    omega
/-- A crowd needs as many colours as it has members. -/
theorem clq_col (hK : ClqB adj K) (hlt : ∀ i, i < n → K i = true → col i < k) (hne : ∀ i j, i < n → j < n → K i = true → K j = true → adj i j = true → col i ≠ col j) : sizeP K n ≤ k := by
  have h := sizeP_inj (n := max n k) (sizeP (fun i => K i && decide (i < n)) (max n k)) (A := fun i => K i && decide (i < n)) (B := fun x => decide (x < k)) (m := col) rfl (fun i _ h => by
    simp only [Bool.and_eq_true, decide_eq_true_eq] at h
    have := hlt i h.2 h.1
    exact ⟨by omega, decide_eq_true this⟩) fun i j _ _ h1 h2 e => by
      simp only [Bool.and_eq_true, decide_eq_true_eq] at h1 h2
      apply Classical.byContradiction
      intro hij
      exact hne i j h1.2 h2.2 h1.1 h2.1 (hK i j h1.1 h2.1 hij) e
  rw [sizeP_below _ (by omega)] at h
  have e2 : sizeP K n = sizeP (fun i => K i && decide (i < n)) n := sizeP_congr n fun i hi => by rw [decide_eq_true hi, Bool.and_true]
  have e3 : ∀ d, sizeP (fun i => K i && decide (i < n)) n ≤ sizeP (fun i => K i && decide (i < n)) (n + d) := fun d => by
    induction d with
    | zero => exact Nat.le_refl _
    | succ d ih => rw [← Nat.add_assoc, sizeP_succ]; omega
  have := e3 (max n k - n)
  rw [show n + (max n k - n) = max n k by omega] at this
  omega
/-- Each colour has no more nodes than the largest set without an edge. -/
theorem col_part {al : Nat} (hlt : ∀ i, i < n → col i < k) (hne : ∀ i j, i < n → j < n → adj i j = true → col i ≠ col j) (hal : ∀ S : BS, (∀ i, S i = true → i < n) → LseB adj S → sizeP S n ≤ al) : n ≤ k * al := by
  have h1 := sizeP_parts (N := k) (lab := col) (A := fun _ => true) n fun j hj _ => hlt j hj
  have e : sizeP (fun _ => true) n = n := by
    have := sizeP_below n (d := n) (Nat.le_refl n)
    rw [← sizeP_congr (S := fun x => decide (x < n)) (T := fun _ => true) n fun i hi => decide_eq_true hi]; exact this
  rw [e] at h1
  have h2 : ∀ N, sumTo (fun i => sizeP (fun j => true && decide (col j = i)) n) N ≤ N * al := fun N => by
    induction N with
    | zero => exact Nat.zero_le _
    | succ N ih =>
      simp only [sumTo]
      have h3 := hal (fun j => decide (j < n) && decide (col j = N)) (fun i hi => by simp at hi; exact hi.1) fun i j hi hj => by
        simp only [Bool.and_eq_true, decide_eq_true_eq] at hi hj
        cases g : adj i j with
        | false => rfl
        | true => exact absurd (hi.2.trans hj.2.symm) (hne i j hi.1 hj.1 g)
      have h4 : sizeP (fun j => true && decide (col j = N)) n = sizeP (fun j => decide (j < n) && decide (col j = N)) n := sizeP_congr n fun j hj => by rw [decide_eq_true hj]
      rw [Nat.add_mul, Nat.one_mul]
      omega
  have := h2 k
  omega
/-- Node by node the least number that none ahead has with which it has an edge. -/
structure GreedyC (n : Nat) (adj : Nat → Nat → Bool) (pos col : Nat → Nat) : Prop where
  ne : ∀ i j, i < n → j < n → pos j < pos i → adj i j = true → col i ≠ col j
  least : ∀ i x, i < n → x < col i → ∃ j, j < n ∧ pos j < pos i ∧ adj i j = true ∧ col j = x
/-- WELSH, POWELL. -/
theorem welsh (H : GreedyC n adj pos col) {i : Nat} (hi : i < n) : col i ≤ sizeP (adj i) n ∧ col i ≤ sizeP (fun j => decide (pos j < pos i)) n := by
  constructor
  · refine mex_le (col := col) (col i) (adj i) fun x hx => ?_
    obtain ⟨j, h1, _, h3, h4⟩ := H.least i x hi hx
    exact ⟨j, h1, h3, h4⟩
  · refine mex_le (col := col) (col i) _ fun x hx => ?_
    obtain ⟨j, h1, h2, _, h4⟩ := H.least i x hi hx
    exact ⟨j, h1, decide_eq_true h2, h4⟩
/-- HAJNAL, SURANYI; BERGE: where whoever is ahead of one with an edge to it have all edges, it needs no more colours than the largest crowd has members. -/
theorem perfect (H : GreedyC n adj pos col) (hsym : ∀ i j, adj i j = adj j i) (_hirr : ∀ i, adj i i = false) {om i : Nat} (hi : i < n) (hom : ∀ S : BS, (∀ i, S i = true → i < n) → ClqB adj S → sizeP S n ≤ om)
    (hs : ∀ j l, j < n → l < n → pos j < pos i → pos l < pos i → adj i j = true → adj i l = true → j ≠ l → adj j l = true) : col i < om := by
  let S : BS := fun j => decide (j < n) && (decide (pos j < pos i) && adj i j)
  have hS : ∀ j, S j = true ↔ j < n ∧ pos j < pos i ∧ adj i j = true := fun j => by
    show (decide (j < n) && (decide (pos j < pos i) && adj i j)) = true ↔ _
    simp
  have h1 : col i ≤ sizeP S n := mex_le (col := col) (col i) S fun x hx => by
    obtain ⟨j, h1, h2, h3, h4⟩ := H.least i x hi hx
    exact ⟨j, h1, (hS j).2 ⟨h1, h2, h3⟩, h4⟩
  have hSi : S i = false := by
    cases g : S i with
    | false => rfl
    | true => have := ((hS i).1 g).2.1; omega
  have h2 := hom (insB S i) (fun j hj => by
    rcases insB_iff.1 hj with h | rfl
    · exact ((hS j).1 h).1
    · exact hi) fun j l hj hl hjl => by
      rcases insB_iff.1 hj with h | rfl <;> rcases insB_iff.1 hl with h' | rfl
      · obtain ⟨a1, a2, a3⟩ := (hS j).1 h
        obtain ⟨b1, b2, b3⟩ := (hS l).1 h'
        exact hs j l a1 b1 a2 b2 a3 b3 hjl
      · rw [hsym]; exact ((hS j).1 h).2.2
      · exact ((hS l).1 h').2.2
      · exact absurd rfl hjl
  rw [sizeP_ins hi hSi] at h2
  omega
/-- In the order of a colouring, colour by colour, nobody gets a greater one. -/
theorem order_col {c : Nat → Nat} (H : GreedyC n adj pos col) (hc : ∀ i j, i < n → j < n → adj i j = true → c i ≠ c j) (ho : ∀ i j, i < n → j < n → pos j < pos i → c j ≤ c i) : ∀ (m i : Nat), pos i < m → i < n → col i ≤ c i
  | 0, _, h, _ => absurd h (Nat.not_lt_zero _)
  | m + 1, i, hm, hi => by
    apply Classical.byContradiction
    intro hlt
    obtain ⟨j, h1, h2, h3, h4⟩ := H.least i (c i) hi (by omega)
    have h5 := order_col H hc ho m j (by omega) h1
    have h6 := ho i j hi h1 h2
    exact hc i j hi h1 h3 (by omega)
/-- The longest row along edges that ends in each: each has more than those ahead with which it has an edge. -/
structure RowsC (n : Nat) (adj : Nat → Nat → Bool) (pos b : Nat → Nat) : Prop where
  more : ∀ i j, i < n → j < n → pos j < pos i → adj i j = true → b j < b i
  least : ∀ i, i < n → b i = 1 ∨ ∃ j, j < n ∧ pos j < pos i ∧ adj i j = true ∧ b i = b j + 1
/-- GALLAI, ROY, VITAVER: the rows' lengths are a colouring; and in the order of a colouring no row is longer than it has colours. -/
theorem roy_col {b : Nat → Nat} (H : RowsC n adj pos b) (hsym : ∀ i j, adj i j = adj j i) (hp : ∀ i j, i < n → j < n → pos i = pos j → i = j) (hirr : ∀ i, adj i i = false) (i j : Nat) (hi : i < n) (hj : j < n) (h : adj i j = true) : b i ≠ b j := by
  rcases Nat.lt_trichotomy (pos i) (pos j) with g | g | g
  · have := H.more j i hj hi g (by rw [hsym]; exact h); omega
  · have := hp i j hi hj g; subst this; rw [hirr] at h; cases h
  · have := H.more i j hi hj g h; omega
theorem roy_row {b c : Nat → Nat} (H : RowsC n adj pos b) (hc : ∀ i j, i < n → j < n → adj i j = true → c i ≠ c j) (ho : ∀ i j, i < n → j < n → pos j < pos i → c j ≤ c i) : ∀ (m i : Nat), pos i < m → i < n → b i ≤ c i + 1
  | 0, _, h, _ => absurd h (Nat.not_lt_zero _)
  | m + 1, i, hm, hi => by
    rcases H.least i hi with h | ⟨j, h1, h2, h3, h4⟩
    · omega
    · have h5 := roy_row H hc ho m j (by omega) h1
      have h6 := ho i j hi h1 h2
      have h7 := hc i j hi h1 h3
      omega
end
end Go.Proofs.Ytpcealcghglopaa

namespace Go.Proofs.Ytpcealcghglopaa

theorem adj_deg (m : Nat) (i : Nat) : ∀ es : List E3, sizeP (adjE es i) m ≤ degN es i
  | [] => by rw [show sizeP (adjE [] i) m = 0 from sizeP_none fun j _ => rfl]; exact Nat.zero_le _
  | e :: r => by
    have ih := adj_deg m i r
    have hcons : ∀ j, adjE (e :: r) i j = true ↔ ((e.1 = (i : Int) ∧ e.2.1 = (j : Int)) ∨ (e.1 = (j : Int) ∧ e.2.1 = (i : Int))) ∨ adjE r i j = true := fun j => by
      unfold adjE
      rw [List.any_cons, Bool.or_eq_true]
      simp
    have hd : degN (e :: r) i = degN r i + (if touchB i e = true then 1 else 0) := by
      unfold degN
      rw [List.filter_cons]
      split <;> simp
    by_cases ht : touchB i e = true
    · rw [hd, if_pos ht]
      obtain ⟨j0, hj0⟩ : ∃ j0 : Int, ∀ j : Nat, ((e.1 = (i : Int) ∧ e.2.1 = (j : Int)) ∨ (e.1 = (j : Int) ∧ e.2.1 = (i : Int))) → (j : Int) = j0 := by
        by_cases h : e.1 = (i : Int)
        · exact ⟨e.2.1, fun j hj => by omega⟩
        · exact ⟨e.1, fun j hj => by omega⟩
      have h1 : sizeP (adjE (e :: r) i) m ≤ sizeP (fun j => decide ((j : Int) = j0)) m + sizeP (adjE r i) m := by
        have hp := sizeP_part (adjE (e :: r) i) (adjE r i) m
        have ha : sizeP (fun j => adjE (e :: r) i j && adjE r i j) m ≤ sizeP (adjE r i) m := sizeP_sub fun j _ h => by
          rw [Bool.and_eq_true] at h; exact h.2
        have hb : sizeP (fun j => adjE (e :: r) i j && !adjE r i j) m ≤ sizeP (fun j => decide ((j : Int) = j0)) m := sizeP_sub fun j _ h => by
          rw [Bool.and_eq_true, Bool.not_eq_true'] at h
          rcases (hcons j).1 h.1 with h2 | h2
          · exact decide_eq_true (hj0 j h2)
          · rw [h2] at h; cases h.2
        omega
      have h2 : sizeP (fun j => decide ((j : Int) = j0)) m ≤ 1 := by
        have h := sizeP_inj (n := m) (A := fun j => decide ((j : Int) = j0)) (B := fun j => decide (j = 0)) (m := fun _ => 0)
        rcases Nat.lt_or_ge 1 (sizeP (fun j => decide ((j : Int) = j0)) m) with h3 | h3
        · obtain ⟨x, hx, hxj, _⟩ := sizeP_two (t := j0.toNat) (show 2 ≤ sizeP (fun j => decide ((j : Int) = j0)) m by omega)
          have := of_decide_eq_true hxj
          omega
        · exact h3
      omega
    · rw [hd, if_neg ht]
      have h1 : sizeP (adjE (e :: r) i) m ≤ sizeP (adjE r i) m := sizeP_sub fun j _ h => by
        rcases (hcons j).1 h with h2 | h2
        · exfalso
          apply ht
          unfold touchB
          rw [Bool.or_eq_true, beq_iff_eq, beq_iff_eq]
          omega
        · exact h2
      omega
end Go.Proofs.Ytpcealcghglopaa

namespace Go.Proofs.Ytpcealcghglopaa

theorem left_some : ∀ (n : Nat) (l : List Nat), l.length < n → ∃ i, i < n ∧ i ∉ l := fun n l hl => by
  apply Classical.byContradiction
  intro hc
  have hall : ∀ i, i < n → i ∈ l := fun i hi => Classical.byContradiction fun h => hc ⟨i, hi, h⟩
  have key : ∀ (n : Nat) (l : List Nat), (∀ i, i < n → i ∈ l) → n ≤ l.length := fun n => by
    induction n with
    | zero => exact fun _ _ => Nat.zero_le _
    | succ n ih =>
      intro l h
      have h1 := ih (l.filter fun x => x != n) fun i hi => by
        rw [List.mem_filter]
        exact ⟨h i (by omega), by simp; omega⟩
      have h2 : (l.filter fun x => x != n).length < l.length := by
        rw [List.length_filter_lt_length_iff_exists]
        exact ⟨n, h n (by omega), by simp⟩
      omega
  have := key n l hall
  omega
theorem all_of_nodup : ∀ (n : Nat) (l : List Nat), l.Nodup → (∀ x ∈ l, x < n) → n ≤ l.length → ∀ i, i < n → i ∈ l := fun n l hn hl hlen i hi => by
  apply Classical.byContradiction
  intro hc
  have key : ∀ (n : Nat) (l : List Nat), l.Nodup → (∀ x ∈ l, x < n) → l.length ≤ n := fun n => by
    induction n with
    | zero =>
      intro l _ h
      cases l with
      | nil => exact Nat.le_refl _
      | cons x l => exact absurd (h x (List.mem_cons_self ..)) (by omega)
    | succ n ih =>
      intro l hn h
      by_cases hm : n ∈ l
      · have h1 := ih (l.erase n) (hn.erase _) fun x hx => by
          have hx1 := h x (List.mem_of_mem_erase hx)
          have hx2 : x ≠ n := fun e => by
            subst e
            exact (List.Nodup.not_mem_erase hn) hx
          omega
        have h2 := List.length_erase_of_mem hm
        have h3 := List.length_pos_of_mem hm
        omega
      · have h1 := ih l hn fun x hx => by
          have hx1 := h x hx
          have hx2 : x ≠ n := fun e => by subst e; exact hm hx
          omega
        omega
  have h1 := key n (i :: l) (List.nodup_cons.2 ⟨hc, hn⟩) fun x hx => by
    rcases List.mem_cons.1 hx with rfl | hx
    · exact hi
    · exact hl x hx
  simp only [List.length_cons] at h1
  omega
end Go.Proofs.Ytpcealcghglopaa

namespace Go.Proofs.Ytpcealcghglopaa

section
variable {adj : Nat → Nat → Bool} {o : List Nat} {col : Nat → Nat} {n i j t : Nat}
theorem used_ex {l : List Nat} {c : Nat} (h : usedB adj l col i c = true) : ∃ j, j ∈ l ∧ adj i j = true ∧ col j = c := by
  unfold usedB at h
  rw [List.any_eq_true] at h
  obtain ⟨j, h1, h2⟩ := h
  rw [Bool.and_eq_true, beq_iff_eq] at h2
  exact ⟨j, h1, h2.1, h2.2⟩
/-- The node's colour is no greater than the number of its neighbours. -/
theorem GreedL.deg (h : GreedL adj o n col) (hlt : ∀ i ∈ o, i < n) (ht : t < n) (hi : o[t]? = some i) : col i ≤ sizeP (adj i) n :=
  mex_le (n := n) (col := col) (col i) (adj i) fun x hx => by
    obtain ⟨j, h1, h2, h3⟩ := used_ex ((h.mex t i ht hi).1 x hx)
    exact ⟨j, hlt j (List.mem_of_mem_take h1), h2, h3⟩
theorem place_ex (hnd : o.Nodup) (hlt : ∀ i ∈ o, i < n) (hl : o.length = n) (hi : i < n) : ∃ t, t < n ∧ o[t]? = some i := by
  obtain ⟨t, ht⟩ := List.getElem?_of_mem (all_of_nodup n o hnd hlt (by omega) i hi)
  exact ⟨t, by have := (List.getElem?_eq_some_iff.1 ht).1; omega, ht⟩
/-- No edge has two nodes of one colour. -/
theorem GreedL.ne (h : GreedL adj o n col) (hsym : ∀ i j, adj i j = adj j i) (hirr : ∀ i, adj i i = false) (hnd : o.Nodup) (hlt : ∀ i ∈ o, i < n) (hl : o.length = n) (hi : i < n) (hj : j < n) (ha : adj i j = true) : col i ≠ col j := by
  obtain ⟨t, ht, hti⟩ := place_ex hnd hlt hl hi
  obtain ⟨s, hs, hsj⟩ := place_ex hnd hlt hl hj
  have key : ∀ {i j t s : Nat}, t < n → o[t]? = some i → o[s]? = some j → adj i j = true → s < t → col i ≠ col j := fun {i j t s} ht hti hsj ha hst e => by
    have h2 := (h.mex t i ht hti).2
    have hm : j ∈ o.take t := List.mem_of_getElem? (i := s) (by rw [List.getElem?_take, if_pos hst]; exact hsj)
    unfold usedB at h2
    rw [List.any_eq_false] at h2
    exact h2 j hm (by rw [Bool.and_eq_true, beq_iff_eq]; exact ⟨ha, e.symm⟩)
  rcases Nat.lt_trichotomy t s with h1 | h1 | h1
  · exact (key hs hsj hti (by rw [hsym]; exact ha) h1).symm
  · subst h1
    rw [hti] at hsj
    injection hsj with hsj
    rw [hsj, hirr] at ha; cases ha
  · exact key ht hti hsj ha h1
theorem GreedL.small (h : GreedL adj o n col) (hnd : o.Nodup) (hlt : ∀ i ∈ o, i < n) (hl : o.length = n) (hi : i < n) : col i < n := by
  obtain ⟨t, ht, hti⟩ := place_ex hnd hlt hl hi
  have := h.lt ht hti
  omega
end
end Go.Proofs.Ytpcealcghglopaa

namespace Go.Proofs.Ytpcealcghglopaa
open Go.RowKit

set_option maxRecDepth 100000 in
set_option maxHeartbeats 400000 in
theorem degree_any (n i : Int) (A : Option Addr) (len cap : Nat) (es : List E3) (w : World) (hE : EdgesAt w w.heap.size A len es) (hl : len ≤ 45) :
    Calls Try.prog 28 #[.agg #[.int .i64 n, .slice A len cap], .int .i64 i] w fun e w' => e = .returned (.int .i64 (degN es i)) ∧ Below w.heap.size w w' := by
  go_enter Try.func28, Try.ntmps28
  go_wp2
  go_loopw [5, 11] (fun c j wr => ∃ k : Nat, k ≤ len ∧ j = .int .i64 k ∧ c = .int .i64 (degN (es.take k) i) ∧ Below w.heap.size w wr) (fun _ j _ => len - (intOf j).toNat)
  case atStart => exact ⟨0, Nat.zero_le _, rfl, rfl, (Below.refl _ _).alloc (Nat.le_refl _) _⟩
  case round =>
    obtain ⟨k, hk, rfl, rfl, hB⟩ := hrel
    by_cases hlt : k < len
    · obtain ⟨b, off, x, rfl, hb, hx, hc0, hc1, hc2⟩ := (hE.below hB).at_ hlt
      have HN := Lib.hid (degN_next es k x i hx)
      have hdl := degN_le (es.take k) i
      have htl : (es.take k).length ≤ k := List.length_take_le _ _
      have HX := Lib.hid hx
      clear hx
      obtain ⟨a0, a1, a2⟩ := x
      go_wp2
      all_goals
        go_roundw
        case rel =>
          refine ⟨k + 1, by omega, by go_num, ?_, hB.alloc hB.size _⟩
          rw [HN.out]
          first
            | (rw [if_pos (by simp only [touchB, Bool.or_eq_true, beq_iff_eq] at *; omega)]; go_num)
            | (rw [if_neg (by simp only [touchB, Bool.or_eq_true, beq_iff_eq, beq_eq_false_iff_ne] at *; omega)]; rfl)
        case measure => simp [intOf]; omega
    · have hke : es.take k = es := List.take_of_length_le (by have := hE.1; omega)
      have HK := Lib.hid hke
      clear hke
      go_wp2
      go_ret
      exact ⟨ret_int (by rw [HK.out]), hB⟩
set_option maxRecDepth 100000 in
theorem degree_v (n i : Int) (A : Option Addr) (len cap : Nat) (es : List E3) (z : Int) (w : World) (hE : EdgesAt w w.heap.size A len es) (hl : len ≤ 45) (hz : (degN es i : Int) = z) :
    Calls Try.prog 28 #[.agg #[.int .i64 n, .slice A len cap], .int .i64 i] w fun e w' => e = .returned (.int .i64 z) ∧ Below w.heap.size w w' := by
  subst hz; exact degree_any n i A len cap es w hE hl
end Go.Proofs.Ytpcealcghglopaa

namespace Go.Proofs.Ytpcealcghglopaa
open Go.RowKit

theorem colR_get {n : Nat} {col : Nat → Nat} {i : Nat} (hi : i < n) : (colR n col)[i]? = some ((col i : Nat) : Int) := by
  unfold colR
  rw [List.getElem?_map, List.getElem?_range hi]; rfl
theorem adjE_irr {n : Nat} {es : List E3} (hg : goodE n es) (i : Nat) : adjE es i i = false := by
  cases h : adjE es i i with
  | false => rfl
  | true => exact absurd rfl (adjE_lt hg h).2.2
theorem right_of_greed {n : Nat} {es : List E3} {o : List Nat} {col : Nat → Nat} {k : Nat} (hg : goodE n es) (hne : ∀ i j, i < n → j < n → adjE es i j = true → col i ≠ col j) (hlt : ∀ i, i < n → col i < k) (_ : GreedL (adjE es) o n col) : RightL n es k (colR n col) := by
  refine ⟨by unfold colR; simp, fun x hx => ?_, fun e he => ?_⟩
  · unfold colR at hx
    obtain ⟨i, hi, rfl⟩ := List.mem_map.1 hx
    have := hlt i (List.mem_range.1 hi)
    omega
  · obtain ⟨p0, p1, p2, p3⟩ := InE.of_good hg e he
    obtain ⟨x, hx⟩ := Int.eq_ofNat_of_zero_le p0
    obtain ⟨y, hy⟩ := Int.eq_ofNat_of_zero_le p2
    have ha : adjE es x y = true := by
      unfold adjE
      rw [List.any_eq_true]
      exact ⟨e, he, by simp [hx, hy]⟩
    have h := hne x y (by omega) (by omega) ha
    rw [hx, hy]
    simp only [Int.toNat_natCast]
    rw [List.getD_eq_getElem?_getD, List.getD_eq_getElem?_getD, colR_get (by omega), colR_get (by omega)]
    simp only [Option.getD_some]
    omega
set_option maxRecDepth 100000 in
set_option maxHeartbeats 4000000 in
theorem colourWelsh_of (n : Int) (A : Option Addr) (len cap : Nat) (es : List E3) (A2 : Option Addr) (len2 cap2 : Nat) (xs : List Int) (w : World) (hE : EdgesAt w w.heap.size A len es) (hcap : len ≤ cap) (hI : IntsAt w w.heap.size A2 len2 xs) (hcap2 : len2 ≤ cap2) (hm2 : len2 ≤ 9223372036854775807)
    (HO : ∀ W, EdgesAt W W.heap.size A len es → IntsAt W W.heap.size A2 len2 xs → Calls Try.prog 19 #[.agg #[.int .i64 n, .slice A len cap], .slice A2 len2 cap2] W (GreedyTop W n es xs)) :
    Calls Try.prog 9 #[.agg #[.int .i64 n, .slice A len cap], .slice A2 len2 cap2] w fun e w' => e = .returned (.bool true) ∧ Below w.heap.size w w' := by
  have HX := Lib.hid (BoxG.start (n := n) (cap := cap) hE)
  have HI := Lib.hid (hI.go_ (show Below w.heap.size w (bx w n A len cap) from (Below.refl _ _).alloc (Nat.le_refl _) _))
  have HLX : Hid (xs.length = len2) := Lib.hid hI.1
  have HOO := Lib.hid HO
  obtain ⟨x, hx⟩ : ∃ x, gcheck n es = x := ⟨_, rfl⟩
  have HCX := Lib.hid hx
  have k0 := HX.out.c0
  have k1 := HX.out.c1
  have HLE : Hid (es.length = len) := Lib.hid hE.1
  clear hE HO hI
  by_cases h0 : x = 0
  · subst h0
    obtain ⟨hn0, hn1, hl, hg⟩ := good_of_gcheck hx
    obtain ⟨m, rfl⟩ := Int.eq_ofNat_of_zero_le hn0
    have hm10 : m ≤ 10 := by omega
    have hlen : len ≤ 45 := by have := HLE.out; omega
    have HG := Lib.hid hg
    have HCK := Lib.hid (fun W hW => good_v (m : Int) A len cap es true W hW hcap (by rw [hx]; rfl))
    have HEV := Lib.hid (fun v W hW hv => each_v A2 len2 cap2 m xs v W hW hm2 (by omega) hcap2 hv)
    have HRV := Lib.hid (fun k A3 len3 c3 ys v W hW h2 h3 hv => right_v m A len cap es k A3 len3 c3 ys v W hW hlen (InE.of_good hg) h2 h3 hm10 hv)
    clear hx hg hl
    by_cases hp : EachP m xs
    · have HEV1 := Lib.hid (fun W hW => HEV.out true W hW ⟨fun _ => hp, fun _ => rfl⟩)
      obtain ⟨o, ho, hol, hond, holt⟩ := each_nat hp
      have hlm : len2 = m := by have := hp.1; have := HLX.out; omega
      subst hlm
      have HPP := Lib.hid hp
      have HOE := Lib.hid ho
      have HOL := Lib.hid hol
      have HOT := Lib.hid holt
      have HND := Lib.hid hond
      clear hp ho hol hond holt HEV
      go_enter Try.func9, Try.ntmps9
      go_wp2_with fail
      refine (HOO.out _ HX.out.edges HI.out).mono ?_
      rintro e w1 ⟨_, _, h3, hB⟩
      obtain ⟨col, A1, c1, hgl, rfl, hi, _⟩ := h3 HCX.out o HOE.out HPP.out
      have e0 : ((len2 : Int)).toNat = len2 := rfl
      rw [e0] at hgl hi
      rw [e0]
      have HGL := Lib.hid hgl
      have HX1 := Lib.hid (HX.out.next hB)
      have HI1 := Lib.hid (HI.out.go_ hB)
      have HA1 := Lib.hid hi
      have k0' := HX1.out.c0
      have k1' := HX1.out.c1
      clear h3 hB hi hgl HOO e0 k0 k1
      go_wp2_with fail
      refine (HCK.out _ HX1.out.edges).mono ?_
      rintro e w2 ⟨rfl, hB⟩
      have HX2 := Lib.hid (HX1.out.next hB)
      have HI2 := Lib.hid (HI1.out.go_ hB)
      have HA2 := Lib.hid (HA1.out.go_ hB)
      have q0 := HX2.out.c0
      have q1 := HX2.out.c1
      clear hB k0' k1'
      go_wp2_with fail
      refine (HEV1.out _ HI2.out).mono ?_
      rintro e w2b ⟨rfl, rfl⟩
      go_wp2_with fail
      refine (HRV.out (len2 : Int) A1 len2 c1 _ true _ HX2.out.edges HA2.out (by omega) ⟨fun _ => right_of_greed HG.out (fun i j hi hj ha => HGL.out.ne (adjE_symm es) (adjE_irr HG.out) HND.out HOT.out HOL.out hi hj ha) (fun i hi => HGL.out.small HND.out HOT.out HOL.out hi) HGL.out, fun _ => rfl⟩).mono ?_
      rintro e w3 ⟨rfl, hB⟩
      have HX3 := Lib.hid (HX2.out.next hB)
      have HI3 := Lib.hid (HI2.out.go_ hB)
      have HA3 := Lib.hid (HA2.out.go_ hB)
      clear hB q0 q1
      go_wp2_with fail
      go_loopw [39] (fun y wr => ∃ k : Nat, k ≤ len2 ∧ y = .int .i64 k ∧ Hid (Below w3.heap.size w3 wr)) (fun y _ => len2 - (intOf y).toNat)
      case atStart => exact ⟨0, Nat.zero_le _, rfl, Lib.hid (Below.refl _ _)⟩
      case round =>
        obtain ⟨k, hk, rfl, HB⟩ := hrel
        by_cases hkn : k < len2
        · obtain ⟨b2, o2, y, rfl, hb2, hy, hcy⟩ := (HI3.out.go_ HB.out).at_ hkn
          rw [← HOE.out] at hy
          obtain ⟨i, hi, rfl⟩ := natG_get hy
          have hin : i < len2 := HOT.out i (List.mem_of_getElem? hi)
          obtain ⟨ba, oa, z, rfl, hba, hz, hcz⟩ := (HA3.out.go_ HB.out).at_ hin
          rw [colR_get hin] at hz
          injection hz with hz
          have hcc : col i ≤ k := HGL.out.lt hkn hi
          have hdd : col i ≤ degN es i := Nat.le_trans (HGL.out.deg HOT.out hkn hi) (adj_deg len2 i es)
          rw [← hz] at hcz
          have HXr := Lib.hid (HX3.out.next HB.out)
          have hc0 := HXr.out.c0
          have hc1 := HXr.out.c1
          have hwl := HXr.out.lt
          obtain ⟨d, hd⟩ : ∃ d, (degN es i : Int) = d := ⟨_, rfl⟩
          have HDV := Lib.hid (fun W hW => degree_v (len2 : Int) (i : Int) A len cap es d W hW hlen hd)
          have HED := Lib.hid HXr.out.edges
          generalize col i = ci at hcz hcc hdd
          have g1 : decide ((k : Int) < (ci : Int)) = false := by simp; omega
          have g3 : decide (k < ci) = false := by simp; omega
          have g2 : decide (d < (ci : Int)) = false := by simp; omega
          have ik0 : (0 : Int) ≤ (k : Int) := by omega
          have ik1 : (k : Int) < (len2 : Int) := by omega
          have ii0 : (0 : Int) ≤ (i : Int) := by omega
          have ii1 : (i : Int) < (len2 : Int) := by omega
          clear hy hi hz hd
          go_wp2_with fail
          go_region_held3 (fun W => W.cell? ⟨w.heap.size, 0, none⟩ = some (.int .i64 len2) ∧ W.cell? ⟨w.heap.size, 1, none⟩ = some (.slice A len cap) ∧ W.cell? ⟨ba, oa + i, none⟩ = some (.int .i64 ci))
            (first | exact ⟨hc0, hc1, hcz⟩ | exact ⟨q0, q1, q2⟩ | go_keep)
            (first
              | (go_at_call 28; refine (HDV.out _ (by exact HED.out)).mono ?_; rintro e W4 ⟨rfl, hb4⟩; have q0 := (hb4.cell (p := ⟨w.heap.size, 0, none⟩) (by exact hwl)).trans hc0; have q1 := (hb4.cell (p := ⟨w.heap.size, 1, none⟩) (by exact hwl)).trans hc1; have q2 := (hb4.cell (p := ⟨ba, oa + i, none⟩) (by exact hba)).trans hcz; have HB4 := Lib.hid hb4; clear hb4))
          have HB5 : Hid (Below w3.heap.size w3 W4) := Lib.hid (HB.out.trans ((((Below.refl _ _).drew).trans HB4.out).mono HB.out.size))
          clear HB4 hc0 hc1 q0 q1 q2 hcz
          go_wp2_with fail
          go_roundw
          case rel => exact ⟨k + 1, by omega, by go_num, HB5⟩
          case measure => simp [intOf]; omega
        · obtain rfl : k = len2 := by omega
          have HBE := Lib.hid (HX3.out.below.trans (HB.out.mono HX3.out.below.size))
          go_wp2_with fail
          go_ret
          exact ⟨rfl, HBE.out⟩
    · have HEV1 := Lib.hid (fun W hW => HEV.out false W hW ⟨fun h => (by cases h), fun h => absurd h hp⟩)
      have HPP := Lib.hid hp
      clear hp HEV
      go_enter Try.func9, Try.ntmps9
      go_wp2_with fail
      refine (HOO.out _ HX.out.edges HI.out).mono ?_
      rintro e w1 ⟨_, h2, _, hB⟩
      obtain rfl := h2 HCX.out HPP.out
      have HX1 := Lib.hid (HX.out.next hB)
      have HI1 := Lib.hid (HI.out.go_ hB)
      have k0' := HX1.out.c0
      have k1' := HX1.out.c1
      clear h2 hB HOO k0 k1
      go_wp2_with fail
      refine (HCK.out _ HX1.out.edges).mono ?_
      rintro e w2 ⟨rfl, hB⟩
      have HX2 := Lib.hid (HX1.out.next hB)
      have HI2 := Lib.hid (HI1.out.go_ hB)
      have q0 := HX2.out.c0
      have q1 := HX2.out.c1
      clear hB k0' k1'
      go_wp2_with fail
      refine (HEV1.out _ HI2.out).mono ?_
      rintro e w2b ⟨rfl, rfl⟩
      go_wp2_with fail
      go_ret
      exact ⟨rfl, HX2.out.below⟩
  · have HH0 := Lib.hid h0
    have hx0 : (x != 0) = true := by simpa using h0
    have HCK := Lib.hid (fun W hW => good_v n A len cap es false W hW hcap (by rw [hx]; simpa using h0))
    clear hx h0
    go_enter Try.func9, Try.ntmps9
    go_wp2_with fail
    refine (HOO.out _ HX.out.edges HI.out).mono ?_
    rintro e w1 ⟨h1, _, _, hB⟩
    obtain rfl := h1 (by rw [HCX.out]; exact HH0.out)
    rw [HCX.out]
    have HX1 := Lib.hid (HX.out.next hB)
    have k0' := HX1.out.c0
    have k1' := HX1.out.c1
    clear h1 hB HOO k0 k1
    go_wp2_with fail
    refine (HCK.out _ HX1.out.edges).mono ?_
    rintro e w2 ⟨rfl, hB⟩
    have HX2 := Lib.hid (HX1.out.next hB)
    clear hB k0' k1'
    go_wp2_with fail
    go_ret
    exact ⟨rfl, HX2.out.below⟩
end Go.Proofs.Ytpcealcghglopaa

namespace Go.Proofs.Ytpcealcghglopaa
open Go.ChangeShapes Go.WideShapes Go.ChangeAt Go.RowKit Go.Joins Go.Deep

set_option maxRecDepth 100000 in
theorem ownK : ownKnob Try.prog.godebug = none := by kernel_rfl
set_option maxRecDepth 100000 in
theorem laidOutO : laidOutB Try.prog = true := by kernel_rfl
set_option maxRecDepth 100000 in
theorem cellsInt : Try.prog.cellsOf 3 = 1 := by kernel_rfl
end Go.Proofs.Ytpcealcghglopaa

namespace Go.Proofs.Ytpcealcghglopaa
open Go.ChangeShapes Go.WideShapes Go.ChangeAt Go.RowKit Go.Joins Go.Deep

set_option maxRecDepth 100000 in
theorem recGraph : Try.prog.readableRec 24 = true := by kernel_rfl
set_option maxRecDepth 100000 in
theorem rowGraph : (24 : TypeId) < Try.prog.types.size := of_decide_eq_true (by kernel_rfl)
set_option maxRecDepth 100000 in
theorem cellsGraph : Try.prog.cellsOf 24 = 2 := by kernel_rfl
set_option maxRecDepth 100000 in
theorem cellsEdge : Try.prog.cellsOf 61 = 3 := by kernel_rfl
set_option maxRecDepth 100000 in
theorem cellsInt64 : Try.prog.cellsOf 2 = 1 := by kernel_rfl

/-- Every number of an edge is an int64. -/
def WfE (e : E3) : Prop := (Lit.int .i64 e.1).wf = true ∧ (Lit.int .i64 e.2.1).wf = true ∧ (Lit.int .i64 e.2.2).wf = true

section
variable {H : Type} {enc : TypeId × Value → H} {W : World} {base : Nat} {spare : Nat → Bool} {held : Bool}

set_option maxRecDepth 100000 in
theorem edge_of {n : Nat} {cs : List Value} {x : DataW H × List MemPlace} (h : DataW.trod enc Try.prog W base spare held n 61 cs = some x) :
    ∃ e : E3, cs = [.int .i64 e.1, .int .i64 e.2.1, .int .i64 e.2.2] ∧ WfE e := by
  obtain ⟨y0, y1, y2, m, _, hlen, h0, h1, h2⟩ := trod_struct3 Try.underlying61 h
  rw [cellsEdge] at hlen
  match cs, hlen with
  | [c0, c1, c2], _ =>
    simp only [cellsInt, cellsInt64, List.drop_zero, List.take_succ_cons, List.take_zero, List.drop_succ_cons] at h0 h1 h2
    obtain ⟨a, e0, _, wa⟩ := DataW.trod_int Try.underlying3 h0
    obtain ⟨b, e1, _, wb⟩ := DataW.trod_int Try.underlying3 h1
    obtain ⟨c, e2, _, wc⟩ := DataW.trod_int Try.underlying2 h2
    simp only [List.cons.injEq, and_true] at e0 e1 e2
    subst e0 e1 e2
    exact ⟨(a, b, c), rfl, wa, wb, wc⟩

set_option maxRecDepth 100000 in
theorem edges_of {n : Nat} {v : Value} {x : DataW H × List MemPlace} (h : DataW.trod enc Try.prog W base spare held n 22 [v] = some x) :
    ∃ (A : Option Addr) (len cap : Nat) (es : List E3), v = .slice A len cap ∧ EdgesAt W W.heap.size A len es ∧ len ≤ cap ∧ ∀ e ∈ es, WfE e := by
  rcases open_slice Try.underlying22 h with ⟨h0, _⟩ | ⟨a, len, cap, m, k, D, Pl, hcs, _, hl, _, hmm, _, hi⟩
  · simp only [List.cons.injEq, and_true] at h0
    subst h0
    exact ⟨none, 0, 0, [], rfl, ⟨rfl, fun h => absurd h (by omega)⟩, Nat.le_refl _, by simp⟩
  · simp only [List.cons.injEq, and_true] at hcs
    subst hcs
    have hlm : len ≤ m := by rw [hmm]; split <;> omega
    have hall : ∀ i, ∃ e : E3, i < len → (∀ j, j < 3 → W.cell? (a.add (i * 3 + j)) = [Value.int .i64 e.1, .int .i64 e.2.1, .int .i64 e.2.2][j]?) ∧ WfE e := fun i => by
      by_cases hlt : i < len
      · obtain ⟨cs', hc, ht⟩ := hi i (by omega)
        obtain ⟨e, rfl, he⟩ := edge_of ht
        rw [cellsEdge] at hc
        obtain ⟨_, _, hat⟩ := World.cells?_some hc
        exact ⟨e, fun _ => ⟨fun j hj => by rw [← Go.Deep.add_add]; exact hat j hj, he⟩⟩
      · exact ⟨default, fun h => absurd h hlt⟩
    obtain ⟨f, hf⟩ := Classical.axiomOfChoice hall
    refine ⟨some a, len, cap, (List.range len).map f, rfl, ⟨by simp, fun hn => ?_⟩, hl, fun e he => ?_⟩
    · have hz := (hf 0 hn).1 0 (by omega)
      simp only [Nat.zero_mul, Nat.add_zero, List.getElem?_cons_zero] at hz
      obtain ⟨b, off, spot⟩ := a
      have hspot : spot = none := by simpa [Addr.add] using World.cell?_spot hz
      subst hspot
      have hb : b < W.heap.size := by
        rcases Nat.lt_or_ge b W.heap.size with h | h
        · exact h
        · simp [World.cell?, Addr.add, Array.getElem?_eq_none h] at hz
      refine ⟨b, off, rfl, hb, fun i e hie => ?_⟩
      obtain ⟨hil, hie⟩ := List.getElem?_eq_some_iff.1 hie
      simp only [List.length_map, List.length_range] at hil
      simp only [List.getElem_map, List.getElem_range] at hie
      subst hie
      have hc := (hf i hil).1
      refine ⟨?_, ?_, ?_⟩
      · have := hc 0 (by omega); rw [Go.WideShapes.add_plain] at this; simpa using this
      · have := hc 1 (by omega); rw [Go.WideShapes.add_plain] at this; simpa [Nat.add_assoc] using this
      · have := hc 2 (by omega); rw [Go.WideShapes.add_plain] at this; simpa [Nat.add_assoc] using this
    · simp only [List.mem_map, List.mem_range] at he
      obtain ⟨i, hi', rfl⟩ := he
      exact (hf i hi').2

set_option maxRecDepth 100000 in
theorem open_graph {r : Reach} {b0 : Nat} {v : Value} {d : DataW H} {p : List MemPlace} (hv : Value.okWide Try.prog W r b0 24 v) (h : DataW.Trod enc Try.prog W base spare held 24 v d p) :
    ∃ (n : Int) (A : Option Addr) (len cap : Nat) (es : List E3), v = .agg #[.int .i64 n, .slice A len cap] ∧ EdgesAt W W.heap.size A len es ∧ len ≤ cap ∧ (∀ e ∈ es, WfE e) ∧ (Lit.int .i64 n).wf = true := by
  obtain ⟨c0, c1, y0, y1, m, rfl, _, _, hy0, hy1⟩ := open_agg2 Try.underlying24 (by kernel_rfl) cellsGraph hv h
  obtain ⟨n, e0, _, wn⟩ := DataW.trod_int Try.underlying3 hy0
  simp only [List.cons.injEq, and_true] at e0
  subst e0
  obtain ⟨A, len, cap, es, rfl, hE, hl, hw⟩ := edges_of hy1
  exact ⟨n, A, len, cap, es, rfl, hE, hl, hw, wn⟩
end
end Go.Proofs.Ytpcealcghglopaa

namespace Go.Proofs.Ytpcealcghglopaa
open Go.ChangeShapes Go.WideShapes Go.ChangeAt Go.RowKit

set_option maxRecDepth 100000 in
theorem recInts : Try.prog.readableRec 25 = true := by kernel_rfl
set_option maxRecDepth 100000 in
theorem rowInts : (25 : TypeId) < Try.prog.types.size := of_decide_eq_true (by kernel_rfl)
section
variable {H : Type} {enc : TypeId × Value → H} {W : World} {base : Nat} {spare : Nat → Bool} {held : Bool}
set_option maxRecDepth 100000 in
theorem open_intsA {r : Reach} {b0 : Nat} {v : Value} {d : DataW H} {p : List MemPlace} (hv : Value.okWide Try.prog W r b0 25 v) (h : DataW.Trod enc Try.prog W base spare held 25 v d p) :
    ∃ (A : Option Addr) (len cap : Nat) (xs : List Int), v = .slice A len cap ∧ IntsAt W W.heap.size A len xs ∧ len ≤ cap ∧ cap ≤ maxLen := by
  obtain ⟨A, len, cap, rfl⟩ := okWide_slice Try.underlying25 hv
  obtain ⟨fuel, hf⟩ := h
  rcases open_ints Try.underlying25 Try.underlying3 cellsInt hf with ⟨hcs, _⟩ | ⟨a, len', cap', zs, hcs, _, hl, hm, hz, _, hcell, _⟩
  · simp [Value.cells] at hcs
    obtain ⟨rfl, rfl, rfl⟩ := hcs
    exact ⟨none, 0, 0, [], rfl, IntsAt.nil_ _ _ _, Nat.le_refl _, Nat.zero_le _⟩
  · simp [Value.cells] at hcs
    obtain ⟨rfl, rfl, rfl⟩ := hcs
    have hzl : len ≤ zs.length := by rw [hz]; split <;> omega
    refine ⟨some a, len, cap, zs.take len, rfl, ⟨by rw [List.length_take]; omega, fun hn => ?_⟩, hl, hm⟩
    have hz0 := hcell 0 (by omega)
    obtain ⟨b, off, spot⟩ := a
    have hspot : spot = none := by simpa [Addr.add] using World.cell?_spot hz0
    subst hspot
    have hb : b < W.heap.size := by
      rcases Nat.lt_or_ge b W.heap.size with h | h
      · exact h
      · simp [World.cell?, Addr.add, Array.getElem?_eq_none h] at hz0
    refine ⟨b, off, rfl, hb, fun i x hx => ?_⟩
    obtain ⟨h1, h2⟩ := List.getElem?_eq_some_iff.1 hx
    rw [List.length_take] at h1
    rw [List.getElem_take] at h2
    have := hcell i (by omega)
    rw [add_plain, List.getD_eq_getElem?_getD, List.getElem?_eq_getElem (by omega), Option.getD_some, h2] at this
    exact this
end
end Go.Proofs.Ytpcealcghglopaa

namespace Go.Proofs.Ytpcealcghglopaa
open Go.ChangeShapes Go.WideShapes Go.ChangeAt Go.RowKit

set_option maxRecDepth 100000 in
theorem colourWelsh_any (n : Int) (A : Option Addr) (len cap : Nat) (es : List E3) (A2 : Option Addr) (len2 cap2 : Nat) (xs : List Int) (w : World) (hE : EdgesAt w w.heap.size A len es) (hcap : len ≤ cap) (_ : ∀ e ∈ es, WfE e) (_ : (Lit.int .i64 n).wf = true) (hI : IntsAt w w.heap.size A2 len2 xs) (hcap2 : len2 ≤ cap2) (hm2 : cap2 ≤ maxLen) :
    Calls Try.prog 9 #[.agg #[.int .i64 n, .slice A len cap], .slice A2 len2 cap2] w fun e w' => e = .returned (.bool true) ∧ Below w.heap.size w w' :=
  colourWelsh_of n A len cap es A2 len2 cap2 xs w hE hcap hI hcap2 (by unfold maxLen at hm2; omega) (fun W h h2 => greedyTop_any n A len cap es A2 len2 cap2 xs W h h2)
set_option maxRecDepth 100000 in
theorem colourWelsh_lifted (os : Os) (started : os.Started) (H : Type) (enc : TypeId × Value → H) :
    ReturnsInHanded {} Try.checked os 9 .any (Rows.colourWelshSpec.pre6 enc Try.prog Try.f9 Rows.colourWelshRow.domain false) (Rows.colourWelshSpec.post enc Try.prog Try.f9 false true false false) := by
  refine returnsInHanded_of_change (C := Try.checked) ownK started (by kernel_rfl) Try.func9
    (ChangeSpec.witness6 (enc := enc) (C := Try.checked) false ⟨#[], #[.agg #[.int .i64 0, .slice none 0 0], .slice none 0 0], []⟩ 8 (by kernel_rfl) (by kernel_rfl) (by kernel_rfl) (by kernel_rfl)) ?_
  intro W base args ds gs before hval0 hW _ _
  have hval : ∀ (j : Nat) t v, Try.f9.params[j]? = some t → args[j]? = some v → Value.okWide Try.prog W .any base t v := hval0
  have hW' := hW
  obtain ⟨p, q, hA0, hV, rfl, _, _⟩ := hW
  have hA : DataW.TrodAll enc Try.prog W 0 (fun _ => true) true Try.f9.params.toList args.toList ds p := hA0
  rw [Try.params9] at hA hval
  obtain ⟨v0, v1, d0, d1, p0, p1, rfl, rfl, rfl, h0, h1⟩ := trodAll_two hA
  obtain ⟨rfl, rfl⟩ := trodVars_none hV
  obtain ⟨n0, A0, len0, cap0, es0, rfl, hE0, hcap0, hwf0, hwn0⟩ := open_graph (hval 0 24 v0 rfl rfl) h0
  obtain ⟨A1, len1, cap1, xs1, rfl, hI1, hcap1, hm1⟩ := open_intsA (hval 1 25 v1 rfl rfl) h1
  clear hA0 hval0
  simp only [List.append_nil] at hW'
  refine (colourWelsh_any n0 A0 len0 cap0 es0 A1 len1 cap1 xs1 W hE0 hcap0 hwf0 hwn0 hI1 hcap1 hm1).mono fun e W' ⟨he, hb⟩ => ?_
  subst he
  exact ⟨_, rfl, _, _, _, [], (p0 ++ p1), [], hW', trodAll_mk1 (shut_bool Try.underlying4 _), (by have h := trodAll_mk2 (Below.trod laidOutO recGraph rowGraph h0 hb (fun x hx => hW'.lt x (List.mem_append_left _ hx))) (Below.trod laidOutO recInts rowInts h1 hb (fun x hx => hW'.lt x (List.mem_append_right _ hx))); first | exact h | (simp only [List.append_nil] at h; exact h)), rfl, hb.frame _, fun h => by cases h⟩

theorem colourWelsh_holds : Rows.ColourWelshSaid :=
  OpenClaim.holds_of_wide 9 Try.f9 rfl rfl rfl rfl rfl rfl rfl ⟨rfl, rfl, rfl, rfl, rfl⟩ rfl rfl rfl rfl rfl (by kernel_rfl) Try.func9 (by kernel_rfl)
    (of_decide_eq_true (by kernel_rfl)) (by unfold Func.isWrapper; first | (rw [if_pos (by decide +kernel)]; kernel_rfl) | (rw [if_neg (by decide +kernel)]; exact ⟨rfl, rfl⟩))
    (fun os started H enc _ => colourWelsh_lifted os started H enc)
#print axioms colourWelsh_holds
end Go.Proofs.Ytpcealcghglopaa
