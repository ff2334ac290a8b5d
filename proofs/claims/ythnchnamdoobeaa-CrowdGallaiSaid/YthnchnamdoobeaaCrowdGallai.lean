/- CrowdGallai, walked, over what its faces tell. -/
import Derived.Test.YthnchnamdoobeaaCrowdTop
import Derived.Test.YthnchnamdoobeaaKeepGood
import Derived.IntWalk
import Derived.Deep.RegionHeld3
import Derived.Test.YthnchnamdoobeaaRefGuard
import Derived.Test.YthnchnamdoobeaaBitSize
namespace Go.Proofs.Ythnchnamdoobeaa
open Go.RowKit

set_option maxRecDepth 100000 in
set_option maxHeartbeats 4000000 in
theorem crowdGallai_of (n : Int) (A : Option Addr) (len cap : Nat) (es : List E3) (w : World) (hE : EdgesAt w w.heap.size A len es) (hcap : len ≤ cap)
    (HP : ∀ W, Below w.heap.size w W → EdgesAt W W.heap.size A len es → Calls Try.prog 14 #[.agg #[.int .i64 n, .slice A len cap]] W (CrowdTop true W n es))
    (HQ : ∀ W, Below w.heap.size w W → EdgesAt W W.heap.size A len es → Calls Try.prog 15 #[.agg #[.int .i64 n, .slice A len cap]] W (CoverTop W n es)) :
    Calls Try.prog 6 #[.agg #[.int .i64 n, .slice A len cap]] w fun e w' => e = .returned (.bool true) ∧ Below w.heap.size w w' := by
  have HX0 := Lib.hid (BoxG.start (n := n) (cap := cap) hE)
  have HHP := Lib.hid HP
  have HHQ := Lib.hid HQ
  obtain ⟨x, hx⟩ : ∃ x, gcheck n es = x := ⟨_, rfl⟩
  have HCX := Lib.hid hx
  have k0 := HX0.out.c0
  have k1 := HX0.out.c1
  have HLE : Hid (es.length = len) := Lib.hid hE.1
  clear hE HP HQ
  by_cases h0 : x = 0
  · subst h0
    obtain ⟨hn0, hn1, hl, hg⟩ := good_of_gcheck hx
    obtain ⟨m, rfl⟩ := Int.eq_ofNat_of_zero_le hn0
    have hm10 : m ≤ 10 := by omega
    have hlen : len ≤ 45 := by have := HLE.out; omega
    have HG := Lib.hid hg
    have HCK := Lib.hid (fun W hW => good_v (m : Int) A len cap es true W hW hcap (by rw [hx]; rfl))
    clear hx hg hl
    have hpos := Nat.two_pow_pos m
    have h1024 : 2 ^ m ≤ 1024 := by rw [show 1024 = 2 ^ 10 from rfl]; exact Nat.pow_le_pow_right (by decide) hm10
    obtain ⟨Q, hQ⟩ : ∃ Q, 2 ^ m = Q + 1 := ⟨2 ^ m - 1, by omega⟩
    have HQ := Lib.hid hQ
    have hq1 : (2 : Int) ^ m % 4294967296 = (Q : Int) + 1 := by
      have h := pow_mod m (by omega)
      rw [hQ] at h
      rw [h]; omega
    have hq2 : IntKind.u32.wrap ((2 : Int) ^ m) = (Q : Int) + 1 := by rw [wrap_u32n, hq1]
    have hQ10 : Q < 1024 := by omega
    clear hQ hpos h1024
    go_enter Try.func6, Try.ntmps6
    go_wp2_with fail
    refine (HHP.out _ HX0.out.below HX0.out.edges).mono ?_
    rintro e w1 ⟨_, h2, hB⟩
    obtain ⟨a, hb, rfl⟩ := h2 HCX.out
    have HMa := Lib.hid (show MostW (CrowdW (adjE es) true m) sizeW (2 ^ m) a from hb)
    have HX1 := Lib.hid (HX0.out.next hB)
    clear h2 hB hb k0 k1
    have k0 := HX1.out.c0
    have k1 := HX1.out.c1
    go_wp2_with fail
    refine (HHQ.out _ HX1.out.below HX1.out.edges).mono ?_
    rintro e w2 ⟨_, h2, hB⟩
    obtain ⟨c, hb, rfl⟩ := h2 HCX.out
    have HMc := Lib.hid (show FewW (GuardW es m) sizeW (2 ^ m - 1) (2 ^ m) c from hb)
    have HX2 := Lib.hid (HX1.out.next hB)
    clear h2 hB hb k0 k1
    have k0 := HX2.out.c0
    have k1 := HX2.out.c1
    go_wp2_with fail
    refine (HCK.out _ HX2.out.edges).mono ?_
    rintro e w3 ⟨rfl, hB⟩
    have HXg := Lib.hid (HX2.out.next hB)
    clear hB k0 k1
    have k0 := HXg.out.c0
    have k1 := HXg.out.c1
    obtain ⟨zc, hzc⟩ : ∃ z : Nat, sizeW c = z := ⟨_, rfl⟩
    obtain ⟨za, hza⟩ : ∃ z : Nat, sizeW a = z := ⟨_, rfl⟩
    have hpos := Nat.two_pow_pos m
    have hal := HMa.out.below hpos
    have hcl : c < 2 ^ m := by rcases HMc.out.lt with e | e <;> omega
    have hal2 : a < 1024 := pow10 hm10 hal
    have hcl2 : c < 1024 := pow10 hm10 hcl
    have hsum : (za : Int) + (zc : Int) = (m : Int) := by
      have h := gallai_w (by omega) HG.out HMa.out HMc.out
      rw [hzc, hza] at h
      omega
    have hsz : za ≤ 32 ∧ zc ≤ 32 := by omega
    have x1 : IntKind.i64.wrap ((za : Int) + (zc : Int)) = (m : Int) := by rw [IntWalk.i64_in _ (by omega)]; exact hsum
    have e1 : Q = 2 ^ m - 1 := by have := HQ.out; omega
    have d1 : bits .andNot .u32 (a : Int) (Q : Int) = 0 := by
      rw [andNot_u32 a Q (by omega) (by omega), e1, diff_none hm10 hal]; rfl
    have d2 : bits .andNot .u32 (c : Int) (Q : Int) = 0 := by
      rw [andNot_u32 c Q (by omega) (by omega), e1, diff_none hm10 hcl]; rfl
    obtain ⟨rc, hrc⟩ : ∃ rc, restW m c = rc := ⟨_, rfl⟩
    have hrl : rc < 1024 := by rw [← hrc]; exact pow10 hm10 (rest_lt hcl)
    have d3 : bits .andNot .u32 (Q : Int) (c : Int) = (rc : Int) := by
      rw [andNot_u32 Q c (by omega) (by omega), e1, diff_rest hm10 hcl, hrc]
    have HL := Lib.hid (fun (u : Nat) (hu : u = a ∨ u = rc) W (hW : EdgesAt W W.heap.size A len es) => loose_v (m : Int) A len cap es u m true W hW hlen hm10 (InE.of_good HG.out) (by rcases hu with rfl | rfl <;> omega) (by
      rcases hu with rfl | rfl
      · exact (loose_crowd HG.out hal).2 HMa.out.ok
      · rw [← hrc]; exact HMc.out.ok))
    have HSZ := Lib.hid (fun (u : Nat) (z : Int) (hu : (u = a ∧ z = (za : Int)) ∨ (u = c ∧ z = (zc : Int))) W => size_v u z (by rcases hu with ⟨rfl, rfl⟩ | ⟨rfl, rfl⟩ <;> omega) (by rcases hu with ⟨rfl, rfl⟩ | ⟨rfl, rfl⟩ <;> omega) W)
    clear hzc hza hpos hal hcl hsum e1 hrc
    go_wp2_with fail
    go_region_held3 (fun W => W.cell? ⟨w.heap.size, 0, none⟩ = some (.int .i64 m) ∧ W.cell? ⟨w.heap.size, 1, none⟩ = some (.slice A len cap) ∧ Hid (BoxG w (m : Int) A len cap es W))
      (first | exact ⟨k0, k1, HXg⟩ | exact ⟨k0, k1, Lib.hid (HXg.out.next (Below.refl _ _).drew)⟩ | exact ⟨q0, q1, HX9⟩)
      (first
        | (go_at_call 18; refine (HL.out _ (by first | exact Or.inl rfl | exact Or.inr rfl) _ (by first | exact HX9.out.edges | exact HXg.out.edges | exact (HXg.out.next (Below.refl _ _).drew).edges)).mono ?_; rintro e w5 ⟨rfl, hb5⟩; have HX9 := Lib.hid (show BoxG w (m : Int) A len cap es w5 from (by first | exact HX9.out.next hb5 | exact HXg.out.next hb5 | exact HXg.out.next ((Below.refl _ _).drew.trans hb5))); clear hb5; have q0 := HX9.out.c0; have q1 := HX9.out.c1)
        | (go_at_call 19; refine (HSZ.out _ _ (by first | exact Or.inl ⟨rfl, rfl⟩ | exact Or.inr ⟨rfl, rfl⟩) _).mono ?_; rintro e w6 ⟨rfl, rfl⟩))
    all_goals
      go_wp2_with fail
      go_ret
      exact ⟨rfl, HX9.out.below⟩
  · have HH0 := Lib.hid h0
    have hx0 : (x != 0) = true := by simpa using h0
    have HCK := Lib.hid (fun W hW => good_v n A len cap es false W hW hcap (by rw [hx]; simpa using h0))
    clear hx h0
    go_enter Try.func6, Try.ntmps6
    go_wp2_with fail
    refine (HHP.out _ HX0.out.below HX0.out.edges).mono ?_
    rintro e w1 ⟨h1, _, hB⟩
    obtain rfl := h1 (by rw [HCX.out]; exact HH0.out)
    rw [HCX.out]
    have HX1 := Lib.hid (HX0.out.next hB)
    clear h1 hB k0 k1
    have k0 := HX1.out.c0
    have k1 := HX1.out.c1
    go_wp2_with fail
    refine (HHQ.out _ HX1.out.below HX1.out.edges).mono ?_
    rintro e w2 ⟨h1, _, hB⟩
    obtain rfl := h1 (by rw [HCX.out]; exact HH0.out)
    rw [HCX.out]
    have HX2 := Lib.hid (HX1.out.next hB)
    clear h1 hB k0 k1
    have k0 := HX2.out.c0
    have k1 := HX2.out.c1
    go_wp2_with fail
    refine (HCK.out _ HX2.out.edges).mono ?_
    rintro e w3 ⟨rfl, hB⟩
    have HXg := Lib.hid (HX2.out.next hB)
    clear hB k0 k1
    go_wp2_with fail
    go_ret
    exact ⟨rfl, HXg.out.below⟩
end Go.Proofs.Ythnchnamdoobeaa
