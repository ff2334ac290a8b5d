/- CrowdWei, walked, over what its faces tell. -/
import Derived.Test.YthnchnamdoobeaaCrowdTop
import Derived.Test.YthnchnamdoobeaaKeepGood
import Derived.IntWalk
import Derived.Deep.RegionHeld3
import Derived.Test.YthnchnamdoobeaaDegree
import Derived.Test.YthnchnamdoobeaaBitSize
namespace Go.Proofs.Ythnchnamdoobeaa
open Go.RowKit

set_option maxRecDepth 100000 in
set_option maxHeartbeats 4000000 in
theorem crowdWei_of (n : Int) (A : Option Addr) (len cap : Nat) (es : List E3) (w : World) (hE : EdgesAt w w.heap.size A len es) (hcap : len ≤ cap)
    (HP : ∀ W, Below w.heap.size w W → EdgesAt W W.heap.size A len es → Calls Try.prog 14 #[.agg #[.int .i64 n, .slice A len cap]] W (CrowdTop true W n es)) :
    Calls Try.prog 9 #[.agg #[.int .i64 n, .slice A len cap]] w fun e w' => e = .returned (.bool true) ∧ Below w.heap.size w w' := by
  have HX0 := Lib.hid (BoxG.start (n := n) (cap := cap) hE)
  have HHP := Lib.hid HP
  obtain ⟨x, hx⟩ : ∃ x, gcheck n es = x := ⟨_, rfl⟩
  have HCX := Lib.hid hx
  have k0 := HX0.out.c0
  have k1 := HX0.out.c1
  have HLE : Hid (es.length = len) := Lib.hid hE.1
  clear hE HP
  by_cases h0 : x = 0
  · subst h0
    obtain ⟨hn0, hn1, hl, hg⟩ := good_of_gcheck hx
    obtain ⟨m, rfl⟩ := Int.eq_ofNat_of_zero_le hn0
    have hm10 : m ≤ 10 := by omega
    have hlen : len ≤ 45 := by have := HLE.out; omega
    have HG := Lib.hid hg
    have HCK := Lib.hid (fun W hW => good_v (m : Int) A len cap es true W hW hcap (by rw [hx]; rfl))
    clear hx hg hl
    go_enter Try.func9, Try.ntmps9
    go_wp2_with fail
    refine (HHP.out _ HX0.out.below HX0.out.edges).mono ?_
    rintro e w1 ⟨_, h2, hB⟩
    obtain ⟨a, hb, rfl⟩ := h2 HCX.out
    have HMa := Lib.hid (show MostW (CrowdW (adjE es) true m) sizeW (2 ^ m) a from hb)
    have HX1 := Lib.hid (HX0.out.next hB)
    clear h2 hB hb k0 k1
    have k0 := HX1.out.c0
    have k1 := HX1.out.c1
    go_wp2_with fail
    refine (HCK.out _ HX1.out.edges).mono ?_
    rintro e w2 ⟨rfl, hB⟩
    have HXg := Lib.hid (HX1.out.next hB)
    clear hB k0 k1
    have k0 := HXg.out.c0
    have k1 := HXg.out.c1
    obtain ⟨z, hz⟩ : ∃ z : Nat, sizeW a = z := ⟨_, rfl⟩
    have hal : a < 1024 := pow10 hm10 (HMa.out.below (Nat.two_pow_pos m))
    have hzl : z ≤ 32 := by rw [← hz]; exact sizeTo_le a 32
    have HS := Lib.hid (fun W => size_v a (z : Int) (by omega) (by rw [hz]) W)
    obtain ⟨f, hf⟩ : ∃ f : Nat → Nat, f = fun i : Nat => 2520 / (degN es (i : Int) + 1) := ⟨_, rfl⟩
    have HT : Hid (sumTo f m ≤ 2520 * z) := Lib.hid (by
      have h := wei_w (by omega) HG.out HMa.out
      rw [hz, ← hf] at h
      exact h)
    have HFB : Hid (∀ i, f i ≤ 2520) := Lib.hid fun i => by rw [hf]; exact Nat.div_le_self _ _
    have HSB : Hid (∀ k, sumTo f k ≤ 2520 * k) := Lib.hid fun k => by
      induction k with
      | zero => exact Nat.le_refl _
      | succ k ih =>
        have := HFB.out k
        show sumTo f k + f k ≤ _
        omega
    have HFE : Hid (∀ k d : Nat, degN es (k : Int) = d → f k = 2520 / (d + 1)) := Lib.hid fun k d h => by rw [hf, ← h]
    have HDV := Lib.hid (fun (k d : Nat) (h : degN es (k : Int) = d) W (hW : EdgesAt W W.heap.size A len es) => degree_v (m : Int) (k : Int) A len cap es (d : Int) W hW hlen (by rw [h]))
    clear hz hf
    go_wp2_with fail
    go_loopw [5, 6] (fun s y wr => ∃ k : Nat, k ≤ m ∧ s = .int .i64 (sumTo f k : Nat) ∧ y = .int .i64 k ∧ Hid (BoxG w (m : Int) A len cap es wr)) (fun _ y _ => m - (intOf y).toNat)
    case atStart => exact ⟨0, Nat.zero_le _, rfl, rfl, HXg⟩
    case round =>
      clear k0 k1
      obtain ⟨k, hk, rfl, rfl, HXr⟩ := hrel
      have k0 := HXr.out.c0
      have k1 := HXr.out.c1
      have hsk := HSB.out k
      by_cases hkm : k < m
      · have hkm' : (k : Int) < (m : Int) := by omega
        obtain ⟨d, hd⟩ : ∃ d, degN es (k : Int) = d := ⟨_, rfl⟩
        have HD := Lib.hid (HDV.out k d hd)
        have hdl : d ≤ 45 := by rw [← hd]; have := deg_less HG.out hkm; omega
        obtain ⟨d1, hd1⟩ : ∃ d1, d1 = d + 1 := ⟨_, rfl⟩
        obtain ⟨q, hq⟩ : ∃ q, q = 2520 / d1 := ⟨_, rfl⟩
        have HN : Hid (sumTo f (k + 1) = sumTo f k + q) := Lib.hid (by
          show sumTo f k + f k = _
          rw [HFE.out k d hd, hq, hd1])
        have hql : q ≤ 2520 := by rw [hq]; exact Nat.div_le_self _ _
        have hd1l : d1 ≤ 46 := by omega
        have x1 : IntKind.i64.wrap ((d : Int) + 1) = (d1 : Int) := by rw [IntWalk.i64_in _ (by omega)]; omega
        have c1 : ((d1 : Int) == 0) = false := by simp; omega
        have c2 : ¬ ((d1 : Int) = 0) := by omega
        have c3 : ¬ (d1 = 0) := by omega
        have x2 : (2520 : Int).tdiv (d1 : Int) = (q : Int) := by rw [hq]; rfl
        have x6 : (2520 : Int) / (d1 : Int) = (q : Int) := by rw [hq]; rfl
        have x3 : IntKind.i64.wrap (q : Int) = (q : Int) := IntWalk.i64_in _ (by omega)
        obtain ⟨t, ht⟩ : ∃ t, sumTo f k = t := ⟨_, rfl⟩
        rw [ht] at HN hsk ⊢
        have x4 : IntKind.i64.wrap ((t : Int) + (q : Int)) = ((t + q : Nat) : Int) := by rw [IntWalk.i64_in _ (by omega)]; omega
        clear hd hd1 hq ht
        go_wp2_with fail
        refine (HD.out _ HXr.out.edges).mono ?_
        rintro e w5 ⟨rfl, hB⟩
        have HX5 := Lib.hid (HXr.out.next hB)
        clear hB k0 k1
        go_wp2_with fail
        go_roundw
        case rel => exact ⟨k + 1, by omega, by rw [HN.out, Int.natCast_add], by go_num, HX5⟩
        case measure => simp [intOf]; omega
      · obtain rfl : k = m := by omega
        have ht := HT.out
        obtain ⟨t, hte⟩ : ∃ t, sumTo f k = t := ⟨_, rfl⟩
        rw [hte] at ht ⊢
        have hle : (t : Int) ≤ 2520 * (z : Int) := by omega
        have x1 : IntKind.i64.wrap (2520 * (z : Int)) = 2520 * (z : Int) := IntWalk.i64_in _ (by omega)
        clear hte ht
        go_wp2_with fail
        refine (HS.out _).mono ?_
        rintro e w9 ⟨rfl, rfl⟩
        go_wp2_with fail
        go_ret
        exact ⟨rfl, HXr.out.below⟩
  · have HH0 := Lib.hid h0
    have hx0 : (x != 0) = true := by simpa using h0
    have HCK := Lib.hid (fun W hW => good_v n A len cap es false W hW hcap (by rw [hx]; simpa using h0))
    clear hx h0
    go_enter Try.func9, Try.ntmps9
    go_wp2_with fail
    refine (HHP.out _ HX0.out.below HX0.out.edges).mono ?_
    rintro e w1 ⟨h1, _, hB⟩
    obtain rfl := h1 (by rw [HCX.out]; exact HH0.out)
    rw [HCX.out]
    have HX1 := Lib.hid (HX0.out.next hB)
    clear h1 hB k0 k1
    have k0 := HX1.out.c0
    have k1 := HX1.out.c1
    go_wp2_with fail
    refine (HCK.out _ HX1.out.edges).mono ?_
    rintro e w2 ⟨rfl, hB⟩
    have HXg := Lib.hid (HX1.out.next hB)
    clear hB k0 k1
    go_wp2_with fail
    go_ret
    exact ⟨rfl, HXg.out.below⟩
end Go.Proofs.Ythnchnamdoobeaa
