/- ColourWelsh, walked, over what Greedy tells. -/
import Derived.Test.YtpcealcghglopaaZColourGreedy
import Derived.Test.YtpcealcghglopaaZColourFew
import Derived.Test.YtpcealcghglopaaZb2
import Derived.Test.YtpcealcghglopaaZDegree
import Derived.Deep.RegionHeld3
namespace Go.Proofs.Ytpcealcghglopaa
open Go.RowKit

theorem colR_get {n : Nat} {col : Nat → Nat} {i : Nat} (hi : i < n) : (colR n col)[i]? = some ((col i : Nat) : Int) := by
  unfold colR
  rw [List.getElem?_map, List.getElem?_range hi]; rfl
theorem adjE_irr {n : Nat} {es : List E3} (hg : goodE n es) (i : Nat) : adjE es i i = false := by
  cases h : adjE es i i with
  | false => rfl
  | true => exact absurd rfl (adjE_lt hg h).2.2
theorem right_of_greed {n : Nat} {es : List E3} {o : List Nat} {col : Nat → Nat} {k : Nat} (hg : goodE n es) (hne : ∀ i j, i < n → j < n → adjE es i j = true → col i ≠ col j) (hlt : ∀ i, i < n → col i < k) (_ : GreedL (adjE es) o n col) : RightL n es k (colR n col) := by
  refine ⟨by unfold colR; simp, fun x hx => ?_, fun e he => ?_⟩
  · unfold colR at hx
    obtain ⟨i, hi, rfl⟩ := List.mem_map.1 hx
    have := hlt i (List.mem_range.1 hi)
    omega
  · obtain ⟨p0, p1, p2, p3⟩ := InE.of_good hg e he
    obtain ⟨x, hx⟩ := Int.eq_ofNat_of_zero_le p0
    obtain ⟨y, hy⟩ := Int.eq_ofNat_of_zero_le p2
    have ha : adjE es x y = true := by
      unfold adjE
      rw [List.any_eq_true]
      exact ⟨e, he, by simp [hx, hy]⟩
    have h := hne x y (by omega) (by omega) ha
    rw [hx, hy]
    simp only [Int.toNat_natCast]
    rw [List.getD_eq_getElem?_getD, List.getD_eq_getElem?_getD, colR_get (by omega), colR_get (by omega)]
    simp only [Option.getD_some]
    omega
set_option maxRecDepth 100000 in
set_option maxHeartbeats 4000000 in
theorem colourWelsh_of (n : Int) (A : Option Addr) (len cap : Nat) (es : List E3) (A2 : Option Addr) (len2 cap2 : Nat) (xs : List Int) (w : World) (hE : EdgesAt w w.heap.size A len es) (hcap : len ≤ cap) (hI : IntsAt w w.heap.size A2 len2 xs) (hcap2 : len2 ≤ cap2) (hm2 : len2 ≤ 9223372036854775807)
    (HO : ∀ W, EdgesAt W W.heap.size A len es → IntsAt W W.heap.size A2 len2 xs → Calls Try.prog 19 #[.agg #[.int .i64 n, .slice A len cap], .slice A2 len2 cap2] W (GreedyTop W n es xs)) :
    Calls Try.prog 9 #[.agg #[.int .i64 n, .slice A len cap], .slice A2 len2 cap2] w fun e w' => e = .returned (.bool true) ∧ Below w.heap.size w w' := by
  have HX := Lib.hid (BoxG.start (n := n) (cap := cap) hE)
  have HI := Lib.hid (hI.go_ (show Below w.heap.size w (bx w n A len cap) from (Below.refl _ _).alloc (Nat.le_refl _) _))
  have HLX : Hid (xs.length = len2) := Lib.hid hI.1
  have HOO := Lib.hid HO
  obtain ⟨x, hx⟩ : ∃ x, gcheck n es = x := ⟨_, rfl⟩
  have HCX := Lib.hid hx
  have k0 := HX.out.c0
  have k1 := HX.out.c1
  have HLE : Hid (es.length = len) := Lib.hid hE.1
  clear hE HO hI
  by_cases h0 : x = 0
  · subst h0
    obtain ⟨hn0, hn1, hl, hg⟩ := good_of_gcheck hx
    obtain ⟨m, rfl⟩ := Int.eq_ofNat_of_zero_le hn0
    have hm10 : m ≤ 10 := by omega
    have hlen : len ≤ 45 := by have := HLE.out; omega
    have HG := Lib.hid hg
    have HCK := Lib.hid (fun W hW => good_v (m : Int) A len cap es true W hW hcap (by rw [hx]; rfl))
    have HEV := Lib.hid (fun v W hW hv => each_v A2 len2 cap2 m xs v W hW hm2 (by omega) hcap2 hv)
    have HRV := Lib.hid (fun k A3 len3 c3 ys v W hW h2 h3 hv => right_v m A len cap es k A3 len3 c3 ys v W hW hlen (InE.of_good hg) h2 h3 hm10 hv)
    clear hx hg hl
    by_cases hp : EachP m xs
    · have HEV1 := Lib.hid (fun W hW => HEV.out true W hW ⟨fun _ => hp, fun _ => rfl⟩)
      obtain ⟨o, ho, hol, hond, holt⟩ := each_nat hp
      have hlm : len2 = m := by have := hp.1; have := HLX.out; omega
      subst hlm
      have HPP := Lib.hid hp
      have HOE := Lib.hid ho
      have HOL := Lib.hid hol
      have HOT := Lib.hid holt
      have HND := Lib.hid hond
      clear hp ho hol hond holt HEV
      go_enter Try.func9, Try.ntmps9
      go_wp2_with fail
      refine (HOO.out _ HX.out.edges HI.out).mono ?_
      rintro e w1 ⟨_, _, h3, hB⟩
      obtain ⟨col, A1, c1, hgl, rfl, hi, _⟩ := h3 HCX.out o HOE.out HPP.out
      have e0 : ((len2 : Int)).toNat = len2 := rfl
      rw [e0] at hgl hi
      rw [e0]
      have HGL := Lib.hid hgl
      have HX1 := Lib.hid (HX.out.next hB)
      have HI1 := Lib.hid (HI.out.go_ hB)
      have HA1 := Lib.hid hi
      have k0' := HX1.out.c0
      have k1' := HX1.out.c1
      clear h3 hB hi hgl HOO e0 k0 k1
      go_wp2_with fail
      refine (HCK.out _ HX1.out.edges).mono ?_
      rintro e w2 ⟨rfl, hB⟩
      have HX2 := Lib.hid (HX1.out.next hB)
      have HI2 := Lib.hid (HI1.out.go_ hB)
      have HA2 := Lib.hid (HA1.out.go_ hB)
      have q0 := HX2.out.c0
      have q1 := HX2.out.c1
      clear hB k0' k1'
      go_wp2_with fail
      refine (HEV1.out _ HI2.out).mono ?_
      rintro e w2b ⟨rfl, rfl⟩
      go_wp2_with fail
      refine (HRV.out (len2 : Int) A1 len2 c1 _ true _ HX2.out.edges HA2.out (by omega) ⟨fun _ => right_of_greed HG.out (fun i j hi hj ha => HGL.out.ne (adjE_symm es) (adjE_irr HG.out) HND.out HOT.out HOL.out hi hj ha) (fun i hi => HGL.out.small HND.out HOT.out HOL.out hi) HGL.out, fun _ => rfl⟩).mono ?_
      rintro e w3 ⟨rfl, hB⟩
      have HX3 := Lib.hid (HX2.out.next hB)
      have HI3 := Lib.hid (HI2.out.go_ hB)
      have HA3 := Lib.hid (HA2.out.go_ hB)
      clear hB q0 q1
      go_wp2_with fail
      go_loopw [39] (fun y wr => ∃ k : Nat, k ≤ len2 ∧ y = .int .i64 k ∧ Hid (Below w3.heap.size w3 wr)) (fun y _ => len2 - (intOf y).toNat)
      case atStart => exact ⟨0, Nat.zero_le _, rfl, Lib.hid (Below.refl _ _)⟩
      case round =>
        obtain ⟨k, hk, rfl, HB⟩ := hrel
        by_cases hkn : k < len2
        · obtain ⟨b2, o2, y, rfl, hb2, hy, hcy⟩ := (HI3.out.go_ HB.out).at_ hkn
          rw [← HOE.out] at hy
          obtain ⟨i, hi, rfl⟩ := natG_get hy
          have hin : i < len2 := HOT.out i (List.mem_of_getElem? hi)
          obtain ⟨ba, oa, z, rfl, hba, hz, hcz⟩ := (HA3.out.go_ HB.out).at_ hin
          rw [colR_get hin] at hz
          injection hz with hz
          have hcc : col i ≤ k := HGL.out.lt hkn hi
          have hdd : col i ≤ degN es i := Nat.le_trans (HGL.out.deg HOT.out hkn hi) (adj_deg len2 i es)
          rw [← hz] at hcz
          have HXr := Lib.hid (HX3.out.next HB.out)
          have hc0 := HXr.out.c0
          have hc1 := HXr.out.c1
          have hwl := HXr.out.lt
          obtain ⟨d, hd⟩ : ∃ d, (degN es i : Int) = d := ⟨_, rfl⟩
          have HDV := Lib.hid (fun W hW => degree_v (len2 : Int) (i : Int) A len cap es d W hW hlen hd)
          have HED := Lib.hid HXr.out.edges
          generalize col i = ci at hcz hcc hdd
          have g1 : decide ((k : Int) < (ci : Int)) = false := by simp; omega
          have g3 : decide (k < ci) = false := by simp; omega
          have g2 : decide (d < (ci : Int)) = false := by simp; omega
          have ik0 : (0 : Int) ≤ (k : Int) := by omega
          have ik1 : (k : Int) < (len2 : Int) := by omega
          have ii0 : (0 : Int) ≤ (i : Int) := by omega
          have ii1 : (i : Int) < (len2 : Int) := by omega
          clear hy hi hz hd
          go_wp2_with fail
          go_region_held3 (fun W => W.cell? ⟨w.heap.size, 0, none⟩ = some (.int .i64 len2) ∧ W.cell? ⟨w.heap.size, 1, none⟩ = some (.slice A len cap) ∧ W.cell? ⟨ba, oa + i, none⟩ = some (.int .i64 ci))
            (first | exact ⟨hc0, hc1, hcz⟩ | exact ⟨q0, q1, q2⟩ | go_keep)
            (first
              | (go_at_call 28; refine (HDV.out _ (by exact HED.out)).mono ?_; rintro e W4 ⟨rfl, hb4⟩; have q0 := (hb4.cell (p := ⟨w.heap.size, 0, none⟩) (by exact hwl)).trans hc0; have q1 := (hb4.cell (p := ⟨w.heap.size, 1, none⟩) (by exact hwl)).trans hc1; have q2 := (hb4.cell (p := ⟨ba, oa + i, none⟩) (by exact hba)).trans hcz; have HB4 := Lib.hid hb4; clear hb4))
          have HB5 : Hid (Below w3.heap.size w3 W4) := Lib.hid (HB.out.trans ((((Below.refl _ _).drew).trans HB4.out).mono HB.out.size))
          clear HB4 hc0 hc1 q0 q1 q2 hcz
          go_wp2_with fail
          go_roundw
          case rel => exact ⟨k + 1, by omega, by go_num, HB5⟩
          case measure => simp [intOf]; omega
        · obtain rfl : k = len2 := by omega
          have HBE := Lib.hid (HX3.out.below.trans (HB.out.mono HX3.out.below.size))
          go_wp2_with fail
          go_ret
          exact ⟨rfl, HBE.out⟩
    · have HEV1 := Lib.hid (fun W hW => HEV.out false W hW ⟨fun h => (by cases h), fun h => absurd h hp⟩)
      have HPP := Lib.hid hp
      clear hp HEV
      go_enter Try.func9, Try.ntmps9
      go_wp2_with fail
      refine (HOO.out _ HX.out.edges HI.out).mono ?_
      rintro e w1 ⟨_, h2, _, hB⟩
      obtain rfl := h2 HCX.out HPP.out
      have HX1 := Lib.hid (HX.out.next hB)
      have HI1 := Lib.hid (HI.out.go_ hB)
      have k0' := HX1.out.c0
      have k1' := HX1.out.c1
      clear h2 hB HOO k0 k1
      go_wp2_with fail
      refine (HCK.out _ HX1.out.edges).mono ?_
      rintro e w2 ⟨rfl, hB⟩
      have HX2 := Lib.hid (HX1.out.next hB)
      have HI2 := Lib.hid (HI1.out.go_ hB)
      have q0 := HX2.out.c0
      have q1 := HX2.out.c1
      clear hB k0' k1'
      go_wp2_with fail
      refine (HEV1.out _ HI2.out).mono ?_
      rintro e w2b ⟨rfl, rfl⟩
      go_wp2_with fail
      go_ret
      exact ⟨rfl, HX2.out.below⟩
  · have HH0 := Lib.hid h0
    have hx0 : (x != 0) = true := by simpa using h0
    have HCK := Lib.hid (fun W hW => good_v n A len cap es false W hW hcap (by rw [hx]; simpa using h0))
    clear hx h0
    go_enter Try.func9, Try.ntmps9
    go_wp2_with fail
    refine (HOO.out _ HX.out.edges HI.out).mono ?_
    rintro e w1 ⟨h1, _, _, hB⟩
    obtain rfl := h1 (by rw [HCX.out]; exact HH0.out)
    rw [HCX.out]
    have HX1 := Lib.hid (HX.out.next hB)
    have k0' := HX1.out.c0
    have k1' := HX1.out.c1
    clear h1 hB HOO k0 k1
    go_wp2_with fail
    refine (HCK.out _ HX1.out.edges).mono ?_
    rintro e w2 ⟨rfl, hB⟩
    have HX2 := Lib.hid (HX1.out.next hB)
    clear hB k0' k1'
    go_wp2_with fail
    go_ret
    exact ⟨rfl, HX2.out.below⟩
end Go.Proofs.Ytpcealcghglopaa
