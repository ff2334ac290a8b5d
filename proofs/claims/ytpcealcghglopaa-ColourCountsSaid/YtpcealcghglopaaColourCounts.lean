/- ColourCounts, walked, over what Count tells. -/
import Derived.Test.YtpcealcghglopaaColourTop
namespace Go.Proofs.Ytpcealcghglopaa
open Go.RowKit

set_option maxRecDepth 100000 in
set_option maxHeartbeats 2000000 in
theorem colourCounts_of (n : Int) (A : Option Addr) (len cap : Nat) (es : List E3) (k : Int) (w : World) (hE : EdgesAt w w.heap.size A len es) (hcap : len ≤ cap)
    (HO : ∀ W, EdgesAt W W.heap.size A len es → Calls Try.prog 22 #[.agg #[.int .i64 n, .slice A len cap], .int .i64 k] W (CountTop W n es k)) :
    Calls Try.prog 5 #[.agg #[.int .i64 n, .slice A len cap], .int .i64 k] w fun e w' => e = .returned (.bool true) ∧ Below w.heap.size w w' := by
  have HX := Lib.hid (BoxG.start (n := n) (cap := cap) hE)
  have HOO := Lib.hid HO
  obtain ⟨x, hx⟩ : ∃ x, gcheck n es = x := ⟨_, rfl⟩
  have HCX := Lib.hid hx
  have k0 := HX.out.c0
  have k1 := HX.out.c1
  have HCK := Lib.hid (fun W hW => check_v n A len cap es x W hW hcap hx)
  have HLE : Hid (es.length = len) := Lib.hid hE.1
  clear hE HO
  by_cases h0 : x = 0
  · subst h0
    by_cases hk : k < 0 ∨ 12 < k
    · have HK := Lib.hid hk
      clear hx
      rcases hk with hk | hk
      all_goals
        have hk2 : k < 0 ∨ ¬ k < 0 := by omega
        rcases hk2 with hk2 | hk2
        all_goals
          go_enter Try.func5, Try.ntmps5
          go_wp2_with fail
          refine (HOO.out _ HX.out.edges).mono ?_
          rintro e w1 ⟨_, h2, _, hB⟩
          obtain rfl := h2 HCX.out HK.out
          have HX1 := Lib.hid (HX.out.next hB)
          have k0' := HX1.out.c0
          have k1' := HX1.out.c1
          clear h2 hB k0 k1
          go_wp2_with fail
          refine (HCK.out _ HX1.out.edges).mono ?_
          rintro e w2 ⟨rfl, hB⟩
          have HX2 := Lib.hid (HX1.out.next hB)
          clear hB k0' k1'
          go_wp2_with fail
          go_ret
          exact ⟨rfl, HX2.out.below⟩
    · obtain ⟨hn0, hn1, hl, hg⟩ := good_of_gcheck hx
      obtain ⟨m, rfl⟩ := Int.eq_ofNat_of_zero_le hn0
      have hm10 : m ≤ 10 := by omega
      have hlen : len ≤ 45 := by have := HLE.out; omega
      obtain ⟨T, hT⟩ := tab_ex m (looseE es)
      obtain ⟨v, hv⟩ : ∃ v, polT m T (2 ^ m - 1) k = v := ⟨_, rfl⟩
      have hpos := Nat.two_pow_pos m
      have hk0 : ¬ k < 0 := by omega
      have hk1 : ¬ 12 < k := by omega
      have HRC := Lib.hid (fun W hW => refCount_any m A len cap es T k v W hW hm10 hlen (InE.of_good hg) hT (by omega) (by omega) hv)
      have HPV := Lib.hid (fun (a : Nat → Int → Int) (ha : PolA m (looseE es) a) => (pol_one ha (polT_ok hT) (2 ^ m) (2 ^ m - 1) (by omega) (by omega) k).trans hv)
      have HK := Lib.hid hk
      clear hx hg hl hT hv hpos hk
      go_enter Try.func5, Try.ntmps5
      go_wp2_with fail
      refine (HOO.out _ HX.out.edges).mono ?_
      rintro e w1 ⟨_, _, h3, hB⟩
      obtain ⟨a, ha, rfl⟩ := h3 HCX.out HK.out
      have e0 : ((m : Int)).toNat = m := rfl
      rw [e0] at ha
      rw [e0, HPV.out a ha]
      have HX1 := Lib.hid (HX.out.next hB)
      have k0' := HX1.out.c0
      have k1' := HX1.out.c1
      clear h3 hB ha e0 k0 k1
      go_wp2_with fail
      refine (HCK.out _ HX1.out.edges).mono ?_
      rintro e w2 ⟨rfl, hB⟩
      have HX2 := Lib.hid (HX1.out.next hB)
      have q0 := HX2.out.c0
      have q1 := HX2.out.c1
      clear hB k0' k1'
      go_wp2_with fail
      refine (HRC.out _ HX2.out.edges).mono ?_
      rintro e w3 ⟨rfl, hB⟩
      have HX3 := Lib.hid (HX2.out.next hB)
      clear hB q0 q1
      go_wp2_with fail
      go_ret
      exact ⟨rfl, HX3.out.below⟩
  · have HH0 := Lib.hid h0
    have hx0 : (x != 0) = true := by simpa using h0
    have hx1 : (x == 0) = false := by simpa using h0
    clear hx h0
    go_enter Try.func5, Try.ntmps5
    go_wp2_with fail
    refine (HOO.out _ HX.out.edges).mono ?_
    rintro e w1 ⟨h1, _, _, hB⟩
    obtain rfl := h1 (by rw [HCX.out]; exact HH0.out)
    rw [HCX.out]
    have HX1 := Lib.hid (HX.out.next hB)
    have k0' := HX1.out.c0
    have k1' := HX1.out.c1
    clear h1 hB HOO k0 k1
    go_wp2_with fail
    refine (HCK.out _ HX1.out.edges).mono ?_
    rintro e w2 ⟨rfl, hB⟩
    have HX2 := Lib.hid (HX1.out.next hB)
    clear hB k0' k1'
    go_wp2_with fail
    go_ret
    exact ⟨rfl, HX2.out.below⟩
end Go.Proofs.Ytpcealcghglopaa
