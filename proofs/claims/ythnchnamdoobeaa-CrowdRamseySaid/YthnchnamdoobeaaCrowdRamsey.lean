/- CrowdRamsey, walked, over what its faces tell. -/
import Derived.Test.YthnchnamdoobeaaCrowdTop
import Derived.Test.YthnchnamdoobeaaKeepGood
import Derived.IntWalk
import Derived.Test.YthnchnamdoobeaaRefCrowd
import Derived.Test.YthnchnamdoobeaaBitSize
namespace Go.Proofs.Ythnchnamdoobeaa
open Go.RowKit

set_option maxRecDepth 100000 in
set_option maxHeartbeats 4000000 in
theorem crowdRamsey_of (n : Int) (A : Option Addr) (len cap : Nat) (es : List E3) (w : World) (hE : EdgesAt w w.heap.size A len es) (hcap : len ≤ cap)
    (HO : ∀ W, Below w.heap.size w W → EdgesAt W W.heap.size A len es → Calls Try.prog 11 #[.agg #[.int .i64 n, .slice A len cap]] W (CrowdTop false W n es))
    (HP : ∀ W, Below w.heap.size w W → EdgesAt W W.heap.size A len es → Calls Try.prog 14 #[.agg #[.int .i64 n, .slice A len cap]] W (CrowdTop true W n es)) :
    Calls Try.prog 7 #[.agg #[.int .i64 n, .slice A len cap]] w fun e w' => e = .returned (.bool true) ∧ Below w.heap.size w w' := by
  have HX0 := Lib.hid (BoxG.start (n := n) (cap := cap) hE)
  have HHO := Lib.hid HO
  have HHP := Lib.hid HP
  obtain ⟨x, hx⟩ : ∃ x, gcheck n es = x := ⟨_, rfl⟩
  have HCX := Lib.hid hx
  have k0 := HX0.out.c0
  have k1 := HX0.out.c1
  have HLE : Hid (es.length = len) := Lib.hid hE.1
  clear hE HO HP
  by_cases h0 : x = 0
  · subst h0
    obtain ⟨hn0, hn1, hl, hg⟩ := good_of_gcheck hx
    obtain ⟨m, rfl⟩ := Int.eq_ofNat_of_zero_le hn0
    have hm10 : m ≤ 10 := by omega
    have hlen : len ≤ 45 := by have := HLE.out; omega
    have HG := Lib.hid hg
    have HCK := Lib.hid (fun W hW => good_v (m : Int) A len cap es true W hW hcap (by rw [hx]; rfl))
    clear hx hg hl
    go_enter Try.func7, Try.ntmps7
    go_wp2_with fail
    refine (HHO.out _ HX0.out.below HX0.out.edges).mono ?_
    rintro e w1 ⟨_, h2, hB⟩
    obtain ⟨c, hb, rfl⟩ := h2 HCX.out
    have HMc := Lib.hid (show MostW (CrowdW (adjE es) false m) sizeW (2 ^ m) c from hb)
    have HX1 := Lib.hid (HX0.out.next hB)
    clear h2 hB hb k0 k1
    have k0 := HX1.out.c0
    have k1 := HX1.out.c1
    go_wp2_with fail
    refine (HHP.out _ HX1.out.below HX1.out.edges).mono ?_
    rintro e w2 ⟨_, h2, hB⟩
    obtain ⟨a, hb, rfl⟩ := h2 HCX.out
    have HMa := Lib.hid (show MostW (CrowdW (adjE es) true m) sizeW (2 ^ m) a from hb)
    have HX2 := Lib.hid (HX1.out.next hB)
    clear h2 hB hb k0 k1
    have k0 := HX2.out.c0
    have k1 := HX2.out.c1
    go_wp2_with fail
    refine (HCK.out _ HX2.out.edges).mono ?_
    rintro e w3 ⟨rfl, hB⟩
    have HXg := Lib.hid (HX2.out.next hB)
    clear hB k0 k1
    have k0 := HXg.out.c0
    have k1 := HXg.out.c1
    obtain ⟨zc, hzc⟩ : ∃ z : Nat, sizeW c = z := ⟨_, rfl⟩
    obtain ⟨za, hza⟩ : ∃ z : Nat, sizeW a = z := ⟨_, rfl⟩
    have hcl : c < 1024 := pow10 hm10 (HMc.out.below (Nat.two_pow_pos m))
    have hal : a < 1024 := pow10 hm10 (HMa.out.below (Nat.two_pow_pos m))
    have HS1 := Lib.hid (fun W => size_v c (zc : Int) (by omega) (by rw [hzc]) W)
    have HS2 := Lib.hid (fun W => size_v a (za : Int) (by omega) (by rw [hza]) W)
    have HT := Lib.hid (ramsey_w (by omega) HG.out HMc.out HMa.out)
    rw [hzc, hza] at HT
    have h00 : sizeW 0 = 0 := by decide
    have HNZ : Hid (0 < m → ((c : Int) == 0) = false ∧ ((a : Int) == 0) = false) := Lib.hid fun hm => by
      have h1 := most_one hm (by omega) HG.out false HMc.out
      have h2 := most_one hm (by omega) HG.out true HMa.out
      constructor
      · simp
        rintro rfl
        omega
      · simp
        rintro rfl
        omega
    have HD1 := Lib.hid (fun W (hW : EdgesAt W W.heap.size A len es) => refCrowded_any m A len cap es c false true W hW hm10 hlen hcl ⟨fun _ => HMc.out.ok, fun _ => rfl⟩)
    have HD2 := Lib.hid (fun W (hW : EdgesAt W W.heap.size A len es) => refCrowded_any m A len cap es a true true W hW hm10 hlen hal ⟨fun _ => HMa.out.ok, fun _ => rfl⟩)
    clear hzc hza h00
    have hmc : (((m : Int) > 0) ∧ ((c : Int) == 0) = false ∧ ((a : Int) == 0) = false) ∨ ¬ ((m : Int) > 0) := by
      by_cases hm : 0 < m
      · exact .inl ⟨by omega, HNZ.out hm⟩
      · exact .inr (by omega)
    rcases hmc with ⟨g1, g2, g3⟩ | g1
    all_goals
      go_wp2_with fail
      refine (HD1.out _ HXg.out.edges).mono ?_
      rintro e w5 ⟨rfl, hB⟩
      have HX5 := Lib.hid (HXg.out.next hB)
      clear hB k0 k1
      have k0 := HX5.out.c0
      have k1 := HX5.out.c1
      go_wp2_with fail
      refine (HD2.out _ HX5.out.edges).mono ?_
      rintro e w6 ⟨rfl, hB⟩
      have HX6 := Lib.hid (HX5.out.next hB)
      clear hB k0 k1
      have k0 := HX6.out.c0
      go_wp2_with fail
      refine (HS1.out _).mono ?_
      rintro e w7 ⟨rfl, rfl⟩
      go_wp2_with fail
      refine (HS2.out _).mono ?_
      rintro e w8 ⟨rfl, rfl⟩
      have t1 : (m : Int) < 6 ∨ (3 : Int) ≤ (zc : Int) ∨ (3 : Int) ≤ (za : Int) := by have := HT.out.1; omega
      have t2 : (m : Int) < 9 ∨ (3 : Int) ≤ (zc : Int) ∨ (4 : Int) ≤ (za : Int) := by have := HT.out.2.1; omega
      have t3 : (m : Int) < 9 ∨ (4 : Int) ≤ (zc : Int) ∨ (3 : Int) ≤ (za : Int) := by have := HT.out.2.2; omega
      clear g1
      rcases Decidable.em ((m : Int) < 6) with f1 | f1 <;> rcases Decidable.em ((m : Int) < 9) with f2 | f2 <;> rcases Decidable.em ((3 : Int) ≤ (zc : Int)) with f3 | f3 <;> rcases Decidable.em ((3 : Int) ≤ (za : Int)) with f4 | f4 <;> rcases Decidable.em ((4 : Int) ≤ (zc : Int)) with f5 | f5 <;> rcases Decidable.em ((4 : Int) ≤ (za : Int)) with f6 | f6 <;> first
        | (exfalso; omega)
        | (clear t1 t2 t3; go_wp2_with fail; go_ret; exact ⟨rfl, HX6.out.below⟩)
  · have HH0 := Lib.hid h0
    have hx0 : (x != 0) = true := by simpa using h0
    have HCK := Lib.hid (fun W hW => good_v n A len cap es false W hW hcap (by rw [hx]; simpa using h0))
    clear hx h0
    go_enter Try.func7, Try.ntmps7
    go_wp2_with fail
    refine (HHO.out _ HX0.out.below HX0.out.edges).mono ?_
    rintro e w1 ⟨h1, _, hB⟩
    obtain rfl := h1 (by rw [HCX.out]; exact HH0.out)
    rw [HCX.out]
    have HX1 := Lib.hid (HX0.out.next hB)
    clear h1 hB k0 k1
    have k0 := HX1.out.c0
    have k1 := HX1.out.c1
    go_wp2_with fail
    refine (HHP.out _ HX1.out.below HX1.out.edges).mono ?_
    rintro e w2 ⟨h1, _, hB⟩
    obtain rfl := h1 (by rw [HCX.out]; exact HH0.out)
    rw [HCX.out]
    have HX2 := Lib.hid (HX1.out.next hB)
    clear h1 hB k0 k1
    have k0 := HX2.out.c0
    have k1 := HX2.out.c1
    go_wp2_with fail
    refine (HCK.out _ HX2.out.edges).mono ?_
    rintro e w3 ⟨rfl, hB⟩
    have HXg := Lib.hid (HX2.out.next hB)
    clear hB k0 k1
    go_wp2_with fail
    go_ret
    exact ⟨rfl, HXg.out.below⟩
end Go.Proofs.Ythnchnamdoobeaa
