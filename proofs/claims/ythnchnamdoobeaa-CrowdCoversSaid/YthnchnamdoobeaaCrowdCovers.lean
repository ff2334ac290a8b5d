/- CrowdCovers, walked, over what Cover tells. -/
import Derived.Test.YthnchnamdoobeaaCrowdTop
import Derived.Test.YthnchnamdoobeaaRefGuard
namespace Go.Proofs.Ythnchnamdoobeaa
open Go.RowKit

set_option maxRecDepth 100000 in
set_option maxHeartbeats 2000000 in
theorem crowdCovers_of (n : Int) (A : Option Addr) (len cap : Nat) (es : List E3) (w : World) (hE : EdgesAt w w.heap.size A len es) (hcap : len ≤ cap)
    (HO : ∀ W, Below w.heap.size w W → EdgesAt W W.heap.size A len es → Calls Try.prog 15 #[.agg #[.int .i64 n, .slice A len cap]] W (CoverTop W n es)) :
    Calls Try.prog 5 #[.agg #[.int .i64 n, .slice A len cap]] w fun e w' => e = .returned (.bool true) ∧ Below w.heap.size w w' := by
  have HX := Lib.hid (BoxG.start (n := n) (cap := cap) hE)
  have HOO := Lib.hid HO
  obtain ⟨x, hx⟩ : ∃ x, gcheck n es = x := ⟨_, rfl⟩
  have HCX := Lib.hid hx
  have k0 := HX.out.c0
  have k1 := HX.out.c1
  have HCK := Lib.hid (fun W hW => check_v n A len cap es x W hW hcap hx)
  have HLE : Hid (es.length = len) := Lib.hid hE.1
  clear hE HO
  by_cases h0 : x = 0
  · subst h0
    obtain ⟨hn0, hn1, hl, hg⟩ := good_of_gcheck hx
    obtain ⟨m, rfl⟩ := Int.eq_ofNat_of_zero_le hn0
    have hm10 : m ≤ 10 := by omega
    have hlen : len ≤ 45 := by have := HLE.out; omega
    have HRC := Lib.hid (fun W hW => refGuard_any m A len cap es W hW hm10 hlen (InE.of_good hg))
    clear hx hg hl
    go_enter Try.func5, Try.ntmps5
    go_wp2_with fail
    refine (HOO.out _ HX.out.below HX.out.edges).mono ?_
    rintro e w1 ⟨_, h2, hB⟩
    obtain ⟨b, hb, rfl⟩ := h2 HCX.out
    have e0 : ((m : Int)).toNat = m := rfl
    rw [e0] at hb
    have HMB := Lib.hid hb
    have HX1 := Lib.hid (HX.out.next hB)
    have k0' := HX1.out.c0
    have k1' := HX1.out.c1
    have hbb : ((b : Int) == (b : Int)) = true := by simp
    clear h2 hB hb HOO e0 k0 k1
    go_wp2_with fail
    refine (HCK.out _ HX1.out.edges).mono ?_
    rintro e w2 ⟨rfl, hB⟩
    have HX2 := Lib.hid (HX1.out.next hB)
    have q0 := HX2.out.c0
    have q1 := HX2.out.c1
    clear hB k0' k1'
    go_wp2_with fail
    refine (HRC.out _ HX2.out.edges).mono ?_
    rintro e w3 ⟨⟨b2, hb2, rfl⟩, hB⟩
    have he2 := few_one hb2 HMB.out
    subst he2
    have HX3 := Lib.hid (HX2.out.next hB)
    clear hB hb2 q0 q1
    go_wp2_with fail
    go_ret
    exact ⟨rfl, HX3.out.below⟩
  · have HH0 := Lib.hid h0
    have hx0 : (x != 0) = true := by simpa using h0
    clear hx h0
    go_enter Try.func5, Try.ntmps5
    go_wp2_with fail
    refine (HOO.out _ HX.out.below HX.out.edges).mono ?_
    rintro e w1 ⟨h1, _, hB⟩
    obtain rfl := h1 (by rw [HCX.out]; exact HH0.out)
    rw [HCX.out]
    have HX1 := Lib.hid (HX.out.next hB)
    have k0' := HX1.out.c0
    have k1' := HX1.out.c1
    clear h1 hB HOO k0 k1
    go_wp2_with fail
    refine (HCK.out _ HX1.out.edges).mono ?_
    rintro e w2 ⟨rfl, hB⟩
    have HX2 := Lib.hid (HX1.out.next hB)
    clear hB k0' k1'
    go_wp2_with fail
    go_ret
    exact ⟨rfl, HX2.out.below⟩
end Go.Proofs.Ythnchnamdoobeaa
