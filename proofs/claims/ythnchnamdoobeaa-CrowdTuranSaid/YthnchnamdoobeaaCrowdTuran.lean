/- CrowdTuran, walked, over what its faces tell. -/
import Derived.Test.YthnchnamdoobeaaCrowdTop
import Derived.Test.YthnchnamdoobeaaKeepGood
import Derived.IntWalk
import Derived.Test.YthnchnamdoobeaaBitSize
namespace Go.Proofs.Ythnchnamdoobeaa
open Go.RowKit

theorem mul_wrapN {a b c : Nat} (h : a * b = c) (hc : c ≤ 1000000) : IntKind.i64.wrap ((a : Int) * (b : Int)) = (c : Int) := by
  rw [← Int.natCast_mul, h]
  exact IntWalk.i64_in _ (by omega)
set_option maxRecDepth 100000 in
set_option maxHeartbeats 4000000 in
theorem crowdTuran_of (n : Int) (A : Option Addr) (len cap : Nat) (es : List E3) (w : World) (hE : EdgesAt w w.heap.size A len es) (hcap : len ≤ cap)
    (HO : ∀ W, Below w.heap.size w W → EdgesAt W W.heap.size A len es → Calls Try.prog 11 #[.agg #[.int .i64 n, .slice A len cap]] W (CrowdTop false W n es)) :
    Calls Try.prog 8 #[.agg #[.int .i64 n, .slice A len cap]] w fun e w' => e = .returned (.bool true) ∧ Below w.heap.size w w' := by
  have HX0 := Lib.hid (BoxG.start (n := n) (cap := cap) hE)
  have HHO := Lib.hid HO
  obtain ⟨x, hx⟩ : ∃ x, gcheck n es = x := ⟨_, rfl⟩
  have HCX := Lib.hid hx
  have k0 := HX0.out.c0
  have k1 := HX0.out.c1
  have HLE : Hid (es.length = len) := Lib.hid hE.1
  clear hE HO
  by_cases h0 : x = 0
  · subst h0
    obtain ⟨hn0, hn1, hl, hg⟩ := good_of_gcheck hx
    obtain ⟨m, rfl⟩ := Int.eq_ofNat_of_zero_le hn0
    have hm10 : m ≤ 10 := by omega
    have hlen : len ≤ 45 := by have := HLE.out; omega
    have HG := Lib.hid hg
    have HCK := Lib.hid (fun W hW => good_v (m : Int) A len cap es true W hW hcap (by rw [hx]; rfl))
    clear hx hg hl
    go_enter Try.func8, Try.ntmps8
    go_wp2_with fail
    refine (HHO.out _ HX0.out.below HX0.out.edges).mono ?_
    rintro e w1 ⟨_, h2, hB⟩
    obtain ⟨c, hb, rfl⟩ := h2 HCX.out
    have HMc := Lib.hid (show MostW (CrowdW (adjE es) false m) sizeW (2 ^ m) c from hb)
    have HX1 := Lib.hid (HX0.out.next hB)
    clear h2 hB hb k0 k1
    have k0 := HX1.out.c0
    have k1 := HX1.out.c1
    go_wp2_with fail
    refine (HCK.out _ HX1.out.edges).mono ?_
    rintro e w2 ⟨rfl, hB⟩
    have HXg := Lib.hid (HX1.out.next hB)
    clear hB k0 k1
    have k0 := HXg.out.c0
    have k1 := HXg.out.c1
    obtain ⟨z, hz⟩ : ∃ z : Nat, sizeW c = z := ⟨_, rfl⟩
    have hcl : c < 1024 := pow10 hm10 (HMc.out.below (Nat.two_pow_pos m))
    have hzl : z ≤ 32 := by rw [← hz]; exact sizeTo_le c 32
    have HS := Lib.hid (fun W => size_v c (z : Int) (by omega) (by rw [hz]) W)
    have HT : Hid (2 * len * z ≤ (z - 1) * m * m) := Lib.hid (by
      have h := turan_w (by omega) HG.out HMc.out
      rw [hz, HLE.out] at h
      exact h)
    have HZ1 : Hid (0 < m → 1 ≤ z) := Lib.hid fun hm => by rw [← hz]; exact most_one hm (by omega) HG.out false HMc.out
    clear hz
    go_wp2_with fail
    refine (HS.out _).mono ?_
    rintro e w9 ⟨rfl, rfl⟩
    rcases Nat.eq_zero_or_pos m with hm | hm
    · have c0 : ((m : Int) == 0) = true := by simp [hm]
      clear hm
      go_wp2_with fail
      go_ret
      exact ⟨rfl, HXg.out.below⟩
    · have hz1 := HZ1.out hm
      have c0 : ((m : Int) == 0) = false := by simp; omega
      have c1 : (1 : Int) ≤ (z : Int) := by omega
      obtain ⟨p1, hp1⟩ : ∃ p1 : Nat, 2 * len = p1 := ⟨_, rfl⟩
      obtain ⟨p2, hp2⟩ : ∃ p2 : Nat, p1 * z = p2 := ⟨_, rfl⟩
      obtain ⟨q1, hq1⟩ : ∃ q1 : Nat, z - 1 = q1 := ⟨_, rfl⟩
      obtain ⟨q2, hq2⟩ : ∃ q2 : Nat, q1 * m = q2 := ⟨_, rfl⟩
      obtain ⟨q3, hq3⟩ : ∃ q3 : Nat, q2 * m = q3 := ⟨_, rfl⟩
      have hle : (p2 : Int) ≤ (q3 : Int) := by
        have h := HT.out
        rw [hp1, hp2, hq1, hq2, hq3] at h
        omega
      have b2 : p2 ≤ 90 * 32 := by rw [← hp2]; exact Nat.mul_le_mul (by omega) hzl
      have b3 : q2 ≤ 32 * 10 := by rw [← hq2]; exact Nat.mul_le_mul (by omega) hm10
      have b4 : q3 ≤ 320 * 10 := by rw [← hq3]; exact Nat.mul_le_mul (by omega) hm10
      have x1 : IntKind.i64.wrap (2 * (len : Int)) = (p1 : Int) := by rw [IntWalk.i64_in _ (by omega)]; omega
      have x2 : IntKind.i64.wrap ((p1 : Int) * (z : Int)) = (p2 : Int) := mul_wrapN hp2 (by omega)
      have x3 : IntKind.i64.wrap ((z : Int) - 1) = (q1 : Int) := by rw [IntWalk.i64_in _ (by omega)]; omega
      have x4 : IntKind.i64.wrap ((q1 : Int) * (m : Int)) = (q2 : Int) := mul_wrapN hq2 (by omega)
      have x5 : IntKind.i64.wrap ((q2 : Int) * (m : Int)) = (q3 : Int) := mul_wrapN hq3 (by omega)
      clear hp1 hp2 hq1 hq2 hq3 hz1 b2 b3 b4
      go_wp2_with fail
      go_ret
      exact ⟨rfl, HXg.out.below⟩
  · have HH0 := Lib.hid h0
    have hx0 : (x != 0) = true := by simpa using h0
    have HCK := Lib.hid (fun W hW => good_v n A len cap es false W hW hcap (by rw [hx]; simpa using h0))
    clear hx h0
    go_enter Try.func8, Try.ntmps8
    go_wp2_with fail
    refine (HHO.out _ HX0.out.below HX0.out.edges).mono ?_
    rintro e w1 ⟨h1, _, hB⟩
    obtain rfl := h1 (by rw [HCX.out]; exact HH0.out)
    rw [HCX.out]
    have HX1 := Lib.hid (HX0.out.next hB)
    clear h1 hB k0 k1
    have k0 := HX1.out.c0
    have k1 := HX1.out.c1
    go_wp2_with fail
    refine (HCK.out _ HX1.out.edges).mono ?_
    rintro e w2 ⟨rfl, hB⟩
    have HXg := Lib.hid (HX1.out.next hB)
    clear hB k0 k1
    go_wp2_with fail
    go_ret
    exact ⟨rfl, HXg.out.below⟩
end Go.Proofs.Ythnchnamdoobeaa
