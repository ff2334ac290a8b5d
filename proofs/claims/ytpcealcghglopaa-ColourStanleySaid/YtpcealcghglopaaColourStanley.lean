/- ColourStanley, walked, over what Turned tells. -/
import Derived.Test.YtpcealcghglopaaRoundGo
import Derived.Test.YtpcealcghglopaaKeepGood
namespace Go.Proofs.Ytpcealcghglopaa
open Go.RowKit

open Classical in
/-- How many of the first k turnings let nothing come round. -/
noncomputable def aoTo (G : EdgP) (w k : Nat) : Int := sumI (fun o => if AcycW G o w then 1 else 0) k
theorem aoTo_yes {G : EdgP} {w k : Nat} (h : AcycW G k w) : aoTo G w (k + 1) = aoTo G w k + 1 := by
  show aoTo G w k + _ = _
  dsimp only
  rw [if_pos h]
theorem aoTo_no {G : EdgP} {w k : Nat} (h : ¬ AcycW G k w) : aoTo G w (k + 1) = aoTo G w k := by
  show aoTo G w k + _ = _
  dsimp only
  rw [if_neg h]; omega
theorem turns_all {m : Nat} {es : List E3} (hg : goodE m es) : turnsN m es = aoTo (edgP es) (2 ^ m - 1) (2 ^ es.length) := by
  unfold turnsN aoW aoTo
  refine sumI_congr _ fun o ho => ?_
  have hO : OnlyW (edgP es) o (2 ^ m - 1) := fun k hk => by
    have hkl : k < es.length := by
      apply Nat.lt_of_not_le
      intro hh
      rw [bit_pow ho hh] at hk; cases hk
    have h := edg_ends hg o k hkl
    rw [Nat.testBit_two_pow_sub_one, Nat.testBit_two_pow_sub_one, decide_eq_true_iff, decide_eq_true_iff]
    unfold EdgP.to EdgP.fr at h
    rw [if_pos hk, if_pos hk] at h
    exact ⟨hkl, h.1, h.2⟩
  by_cases ha : AcycW (edgP es) o (2 ^ m - 1)
  · rw [if_pos ⟨hO, ha⟩, if_pos ha]
  · rw [if_neg fun h => ha h.2, if_neg ha]
set_option maxRecDepth 100000 in
set_option maxHeartbeats 4000000 in
theorem colourStanley_of (n : Int) (A : Option Addr) (len cap : Nat) (es : List E3) (w : World) (hE : EdgesAt w w.heap.size A len es) (hcap : len ≤ cap)
    (HO : ∀ W, EdgesAt W W.heap.size A len es → Calls Try.prog 24 #[.agg #[.int .i64 n, .slice A len cap]] W (TurnedTop W n es)) :
    Calls Try.prog 14 #[.agg #[.int .i64 n, .slice A len cap]] w fun e w' => e = .returned (.bool true) ∧ Below w.heap.size w w' := by
  have HX := Lib.hid (BoxG.start (n := n) (cap := cap) hE)
  have HOO := Lib.hid HO
  obtain ⟨x, hx⟩ : ∃ x, gcheck n es = x := ⟨_, rfl⟩
  have HCX := Lib.hid hx
  have k0 := HX.out.c0
  have k1 := HX.out.c1
  have HLE : Hid (es.length = len) := Lib.hid hE.1
  clear hE HO
  by_cases h0 : x = 0
  · subst h0
    obtain ⟨hn0, hn1, hl, hg⟩ := good_of_gcheck hx
    obtain ⟨m, rfl⟩ := Int.eq_ofNat_of_zero_le hn0
    have hm10 : m ≤ 10 := by omega
    have hlen : len ≤ 45 := by have := HLE.out; omega
    have HG := Lib.hid hg
    have HCK := Lib.hid (fun W hW => good_v (m : Int) A len cap es true W hW hcap (by rw [hx]; rfl))
    obtain ⟨y, hy⟩ : ∃ y, turnsN m es = y := ⟨_, rfl⟩
    have HTY := Lib.hid hy
    clear hx hg hl hy
    go_enter Try.func14, Try.ntmps14
    go_wp2_with fail
    refine (HOO.out _ HX.out.edges).mono ?_
    rintro e w1 ⟨_, h2, hB⟩
    obtain rfl := h2 HCX.out
    have e0 : ((m : Int)).toNat = m := rfl
    rw [e0, HTY.out]
    have HX1 := Lib.hid (HX.out.next hB)
    have k0' := HX1.out.c0
    have k1' := HX1.out.c1
    clear h2 hB HOO e0 k0 k1
    go_wp2_with fail
    refine (HCK.out _ HX1.out.edges).mono ?_
    rintro e w2 ⟨rfl, hB⟩
    have HX2 := Lib.hid (HX1.out.next hB)
    have q0 := HX2.out.c0
    have q1 := HX2.out.c1
    clear hB k0' k1'
    by_cases hl9 : 9 < len
    · have i1 : decide ((9 : Int) < (len : Int)) = true := by simp; omega
      have i2 : decide (9 < len) = true := by simp; omega
      go_wp2_with fail
      refine (HCK.out _ HX2.out.edges).mono ?_
      rintro e w3 ⟨rfl, hB⟩
      have HX3 := Lib.hid (HX2.out.next hB)
      clear hB q0 q1
      go_wp2_with fail
      go_ret
      exact ⟨rfl, HX3.out.below⟩
    · have i1 : decide ((9 : Int) < (len : Int)) = false := by simp; omega
      have i2 : decide (9 < len) = false := by simp; omega
      obtain ⟨N, hN⟩ : ∃ N, 2 ^ len = N := ⟨_, rfl⟩
      have hN2 : N ≤ 512 := by rw [← hN]; show 2 ^ len ≤ 2 ^ 9; exact Nat.pow_le_pow_right (by decide) (by omega)
      have hpw : (2 : Int) ^ len = (N : Int) := by rw [← hN]; simp
      have hs1 : IntKind.u32.wrap ((2 : Int) ^ len) = (N : Int) := by rw [hpw, wrap_u32n]; omega
      have HTN : Hid (aoTo (edgP es) (2 ^ m - 1) N = y) := Lib.hid (by rw [← HTY.out, ← hN, ← HLE.out]; exact (turns_all HG.out).symm)
      have HRV := Lib.hid (fun o v W hW ho hv => round_v m A len cap es o v W hW hm10 (by omega) HG.out ho hv)
      clear hN hpw q0 q1 HTY
      have q0 := HX2.out.c0
      have q1 := HX2.out.c1
      go_wp2_with fail
      clear q0 q1
      go_loopw [5, 6] (fun x z wr => ∃ (k : Nat) (c : Int), k ≤ N ∧ 0 ≤ c ∧ c ≤ 512 ∧ x = .int .i64 c ∧ z = .int .u32 k ∧ Hid (aoTo (edgP es) (2 ^ m - 1) k = c ∧ c ≤ k) ∧ Hid (BoxG w m A len cap es wr)) (fun _ z _ => N - (intOf z).toNat)
      case atStart => exact ⟨0, 0, Nat.zero_le _, Int.le_refl _, by decide, rfl, rfl, Lib.hid ⟨rfl, Int.le_refl _⟩, HX2⟩
      case round =>
        clear HX2
        obtain ⟨k, c, hk, hc0, hc5, rfl, rfl, HC, HXr⟩ := hrel
        have q0 := HXr.out.c0
        have q1 := HXr.out.c1
        by_cases hkn : k < N
        · have j1 : decide ((k : Int) < (N : Int)) = true := by simp; omega
          have hcl := HC.out.2
          have hkw : IntKind.u32.wrap ((k : Int) + 1) = ((k + 1 : Nat) : Int) := by rw [wrap_u32n]; omega
          have hcw : IntKind.i64.wrap (c + 1) = c + 1 := IntWalk.i64_in _ (by omega)
          by_cases ha : AcycW (edgP es) k (2 ^ m - 1)
          · have HN : Hid (aoTo (edgP es) (2 ^ m - 1) (k + 1) = c + 1 ∧ c + 1 ≤ ((k + 1 : Nat) : Int)) := Lib.hid ⟨by rw [aoTo_yes ha, HC.out.1], by omega⟩
            have HRR := Lib.hid (fun W hW => HRV.out k false W hW (by omega) ⟨fun h => (by cases h), fun h => absurd ha h⟩)
            clear ha HC
            go_wp2_with fail
            refine (HRR.out _ HXr.out.edges).mono ?_
            rintro e w3 ⟨rfl, hB⟩
            have HXn := Lib.hid (HXr.out.next hB)
            clear hB q0 q1
            go_wp2_with fail
            go_roundw
            case rel => exact ⟨k + 1, c + 1, by omega, by omega, by omega, by first | rfl | go_num, by first | rfl | go_num, HN, HXn⟩
            case measure => simp [intOf]; omega
          · have HN : Hid (aoTo (edgP es) (2 ^ m - 1) (k + 1) = c ∧ c ≤ ((k + 1 : Nat) : Int)) := Lib.hid ⟨by rw [aoTo_no ha, HC.out.1], by omega⟩
            have HRR := Lib.hid (fun W hW => HRV.out k true W hW (by omega) ⟨fun _ => ha, fun _ => rfl⟩)
            clear ha HC
            go_wp2_with fail
            refine (HRR.out _ HXr.out.edges).mono ?_
            rintro e w3 ⟨rfl, hB⟩
            have HXn := Lib.hid (HXr.out.next hB)
            clear hB q0 q1
            go_wp2_with fail
            go_roundw
            case rel => exact ⟨k + 1, c, by omega, by omega, by omega, rfl, by first | rfl | go_num, HN, HXn⟩
            case measure => simp [intOf]; omega
        · obtain rfl : k = N := by omega
          have hyc : y = c := by rw [← HTN.out, HC.out.1]
          subst hyc
          clear HTN HC
          go_wp2_with fail
          go_ret
          exact ⟨rfl, HXr.out.below⟩
  · have HH0 := Lib.hid h0
    have hx0 : (x != 0) = true := by simpa using h0
    have hx1 : (x == 0) = false := by simpa using h0
    have HCK := Lib.hid (fun W hW => good_v n A len cap es false W hW hcap (by rw [hx]; simpa using h0))
    clear hx h0
    go_enter Try.func14, Try.ntmps14
    go_wp2_with fail
    refine (HOO.out _ HX.out.edges).mono ?_
    rintro e w1 ⟨h1, _, hB⟩
    obtain rfl := h1 (by rw [HCX.out]; exact HH0.out)
    rw [HCX.out]
    have HX1 := Lib.hid (HX.out.next hB)
    have k0' := HX1.out.c0
    have k1' := HX1.out.c1
    clear h1 hB HOO k0 k1
    go_wp2_with fail
    refine (HCK.out _ HX1.out.edges).mono ?_
    rintro e w2 ⟨rfl, hB⟩
    have HX2 := Lib.hid (HX1.out.next hB)
    have q0 := HX2.out.c0
    have q1 := HX2.out.c1
    clear hB k0' k1'
    go_wp2_with fail
    refine (HCK.out _ HX2.out.edges).mono ?_
    rintro e w3 ⟨rfl, hB⟩
    have HX3 := Lib.hid (HX2.out.next hB)
    clear hB q0 q1
    go_wp2_with fail
    go_ret
    exact ⟨rfl, HX3.out.below⟩
end Go.Proofs.Ytpcealcghglopaa
