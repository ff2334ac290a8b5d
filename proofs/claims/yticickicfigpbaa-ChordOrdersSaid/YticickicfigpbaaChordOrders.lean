/- ChordOrders, walked, over what Order tells. -/
import Derived.Test.YticickicfigpbaaChordTop
import Derived.Test.YticickicfigpbaaRefChords
import Derived.Test.YticickicfigpbaaCheckGo
import Derived.Test.YticickicfigpbaaIntsAny
namespace Go.Proofs.Yticickicfigpbaa
open Go.RowKit

set_option maxRecDepth 100000 in
set_option maxHeartbeats 2000000 in
theorem chordOrders_of (n : Int) (A : Option Addr) (len cap : Nat) (es : List E3) (w : World) (hE : EdgesAt w w.heap.size A len es) (hcap : len ≤ cap)
    (HO : ∀ W, Below w.heap.size w W → EdgesAt W W.heap.size A len es → Calls Try.prog 7 #[.agg #[.int .i64 n, .slice A len cap]] W (ChordTop W n es)) :
    Calls Try.prog 3 #[.agg #[.int .i64 n, .slice A len cap]] w fun e w' => e = .returned (.bool true) ∧ Below w.heap.size w w' := by
  have HX := Lib.hid (BoxG.start (n := n) (cap := cap) hE)
  have HOO := Lib.hid HO
  obtain ⟨x, hx⟩ : ∃ x, gcheck n es = x := ⟨_, rfl⟩
  have HCX := Lib.hid hx
  have k0 := HX.out.c0
  have k1 := HX.out.c1
  have HCK := Lib.hid (fun W hW => check_v n A len cap es x W hW hcap hx)
  have HLE : Hid (es.length = len) := Lib.hid hE.1
  clear hE HO
  by_cases h0 : x = 0
  · subst h0
    obtain ⟨hn0, hn1, hl, hg⟩ := good_of_gcheck hx
    obtain ⟨m, rfl⟩ := Int.eq_ofNat_of_zero_le hn0
    have hm10 : m ≤ 10 := by omega
    have hlen : len ≤ 45 := by have := HLE.out; omega
    clear hx hg hl
    obtain ⟨v, hv⟩ : ∃ v, elimF (adjE es) m m [] = v := ⟨_, rfl⟩
    have HRC := Lib.hid (fun W hW => refChords_any m A len cap es v W hW hm10 hlen hv)
    have HV : Hid (elimF (adjE es) ((m : Int)).toNat ((m : Int)).toNat [] = v) := Lib.hid hv
    clear hv
    cases v with
    | none =>
      go_enter Try.func3, Try.ntmps3
      go_wp2_with fail
      refine (HOO.out _ HX.out.below HX.out.edges).mono ?_
      rintro e w1 ⟨_, h2, _, hB⟩
      obtain rfl := h2 HCX.out HV.out
      have HX1 := Lib.hid (HX.out.next hB)
      have k0' := HX1.out.c0
      have k1' := HX1.out.c1
      clear h2 hB HOO k0 k1
      go_wp2_with fail
      refine (HCK.out _ HX1.out.edges).mono ?_
      rintro e w2 ⟨rfl, hB⟩
      have HX2 := Lib.hid (HX1.out.next hB)
      have q0 := HX2.out.c0
      have q1 := HX2.out.c1
      clear hB k0' k1'
      go_wp2_with fail
      refine (HRC.out _ HX2.out.edges).mono ?_
      rintro e w3 ⟨h1, _, hB⟩
      obtain rfl := h1 rfl
      have HX3 := Lib.hid (HX2.out.next hB)
      clear hB q0 q1 h1
      go_wp2_with fail
      go_ret
      exact ⟨rfl, HX3.out.below⟩
    | some l =>
      go_enter Try.func3, Try.ntmps3
      go_wp2_with fail
      refine (HOO.out _ HX.out.below HX.out.edges).mono ?_
      rintro e w1 ⟨_, _, h3, hB⟩
      obtain ⟨A1, c1, rfl, hi, _⟩ := h3 HCX.out l HV.out
      have e0 : ((m : Int)).toNat = m := rfl
      rw [e0] at hi
      rw [e0]
      have HX1 := Lib.hid (HX.out.next hB)
      have HI1 := Lib.hid hi
      have k0' := HX1.out.c0
      have k1' := HX1.out.c1
      clear h3 hB hi HOO e0 k0 k1
      go_wp2_with fail
      refine (HCK.out _ HX1.out.edges).mono ?_
      rintro e w2 ⟨rfl, hB⟩
      have HX2 := Lib.hid (HX1.out.next hB)
      have HI2 := Lib.hid (HI1.out.go_ hB)
      have q0 := HX2.out.c0
      have q1 := HX2.out.c1
      clear hB k0' k1'
      go_wp2_with fail
      refine (HRC.out _ HX2.out.edges).mono ?_
      rintro e w3 ⟨_, h2, hB⟩
      obtain ⟨A2, c2, rfl, hi, _⟩ := h2 l rfl
      have HX3 := Lib.hid (HX2.out.next hB)
      have HI3 := Lib.hid (HI2.out.go_ hB)
      have HI4 := Lib.hid hi
      clear hB hi h2 q0 q1
      go_wp2_with fail
      refine (ints_v A1 A2 m m c1 c2 _ _ true _ HI3.out HI4.out (by omega) (by omega) ⟨fun _ => rfl, fun _ => rfl⟩).mono ?_
      rintro e w4 ⟨rfl, q, rfl⟩
      go_wp2_with fail
      go_ret
      exact ⟨rfl, below_drewN HX3.out.below _⟩
  · have HH0 := Lib.hid h0
    have hx0 : (x != 0) = true := by simpa using h0
    clear hx h0
    go_enter Try.func3, Try.ntmps3
    go_wp2_with fail
    refine (HOO.out _ HX.out.below HX.out.edges).mono ?_
    rintro e w1 ⟨h1, _, _, hB⟩
    obtain rfl := h1 (by rw [HCX.out]; exact HH0.out)
    rw [HCX.out]
    have HX1 := Lib.hid (HX.out.next hB)
    have k0' := HX1.out.c0
    have k1' := HX1.out.c1
    clear h1 hB HOO k0 k1
    go_wp2_with fail
    refine (HCK.out _ HX1.out.edges).mono ?_
    rintro e w2 ⟨rfl, hB⟩
    have HX2 := Lib.hid (HX1.out.next hB)
    clear hB k0' k1'
    go_wp2_with fail
    go_ret
    exact ⟨rfl, HX2.out.below⟩
end Go.Proofs.Yticickicfigpbaa
