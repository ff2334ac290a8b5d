/- ColourTurns, walked, over what Turned tells. -/
import Derived.Test.YtpcealcghglopaaColourTop
namespace Go.Proofs.Ytpcealcghglopaa
open Go.RowKit

set_option maxRecDepth 100000 in
set_option maxHeartbeats 2000000 in
theorem colourTurns_of (n : Int) (A : Option Addr) (len cap : Nat) (es : List E3) (w : World) (hE : EdgesAt w w.heap.size A len es) (hcap : len ≤ cap)
    (HO : ∀ W, EdgesAt W W.heap.size A len es → Calls Try.prog 24 #[.agg #[.int .i64 n, .slice A len cap]] W (TurnedTop W n es)) :
    Calls Try.prog 6 #[.agg #[.int .i64 n, .slice A len cap]] w fun e w' => e = .returned (.bool true) ∧ Below w.heap.size w w' := by
  have HX := Lib.hid (BoxG.start (n := n) (cap := cap) hE)
  have HOO := Lib.hid HO
  obtain ⟨x, hx⟩ : ∃ x, gcheck n es = x := ⟨_, rfl⟩
  have HCX := Lib.hid hx
  have k0 := HX.out.c0
  have k1 := HX.out.c1
  have HCK := Lib.hid (fun W hW => check_v n A len cap es x W hW hcap hx)
  have HLE : Hid (es.length = len) := Lib.hid hE.1
  clear hE HO
  by_cases h0 : x = 0
  · subst h0
    obtain ⟨hn0, hn1, hl, hg⟩ := good_of_gcheck hx
    obtain ⟨m, rfl⟩ := Int.eq_ofNat_of_zero_le hn0
    have hm10 : m ≤ 10 := by omega
    have hlen : len ≤ 45 := by have := HLE.out; omega
    obtain ⟨T, hT⟩ := tab_ex m (looseE es)
    obtain ⟨v, hv⟩ : ∃ v, polT m T (2 ^ m - 1) (-1) = v := ⟨_, rfl⟩
    have hpos := Nat.two_pow_pos m
    have HRC := Lib.hid (fun W hW => refCount_any m A len cap es T (-1) v W hW hm10 hlen (InE.of_good hg) hT (by decide) (by decide) hv)
    have HTN : Hid (turnsN m es = if v < 0 then -v else v) := Lib.hid (by
      have h := stanley_abs (fun s => loose_edg (es := es) s) (polT_ok hT) (w := 2 ^ m - 1) (by omega)
      rw [hv] at h
      exact h)
    obtain ⟨y, hy⟩ : ∃ y, turnsN m es = y := ⟨_, rfl⟩
    have HTY := Lib.hid hy
    rw [hy] at HTN
    have hvb : -700000000000 ≤ v ∧ v ≤ 700000000000 := by
      have h := sum_abs (B := 61917364224) (m + 1) (f := fun j => T (2 ^ m - 1) j * fallI (-1) j) fun i hi => count_abs hT (looseE_zero es) hm10 (by omega) (Nat.le_refl i) (by omega) (by decide) (by decide)
      have e : polT m T (2 ^ m - 1) (-1) = sumI (fun j => T (2 ^ m - 1) j * fallI (-1) j) (m + 1) := rfl
      rw [hv] at e
      rw [← e] at h
      have h2 : ((m + 1 : Nat) : Int) ≤ 11 := by omega
      omega
    clear hx hg hl hT hv hpos hy
    go_enter Try.func6, Try.ntmps6
    go_wp2_with fail
    refine (HOO.out _ HX.out.edges).mono ?_
    rintro e w1 ⟨_, h2, hB⟩
    obtain rfl := h2 HCX.out
    have e0 : ((m : Int)).toNat = m := rfl
    rw [e0, HTY.out]
    have HX1 := Lib.hid (HX.out.next hB)
    have k0' := HX1.out.c0
    have k1' := HX1.out.c1
    clear h2 hB HOO e0 k0 k1
    go_wp2_with fail
    refine (HCK.out _ HX1.out.edges).mono ?_
    rintro e w2 ⟨rfl, hB⟩
    have HX2 := Lib.hid (HX1.out.next hB)
    have q0 := HX2.out.c0
    have q1 := HX2.out.c1
    clear hB k0' k1'
    go_wp2_with fail
    refine (HRC.out _ HX2.out.edges).mono ?_
    rintro e w3 ⟨rfl, hB⟩
    have HX3 := Lib.hid (HX2.out.next hB)
    clear hB q0 q1
    by_cases hv0 : v < 0
    · have hnw : IntKind.i64.wrap (-v) = -v := IntWalk.i64_in _ (by omega)
      have hy2 : y = -v := by rw [HTN.out, if_pos hv0]
      rw [hy2]
      clear hy2
      go_wp2_with fail
      go_ret
      exact ⟨rfl, HX3.out.below⟩
    · have hy2 : y = v := by rw [HTN.out, if_neg hv0]
      rw [hy2]
      clear hy2
      have hd : decide (v < 0) = false := decide_eq_false hv0
      clear hv0
      go_wp2_with fail
      go_ret
      exact ⟨rfl, HX3.out.below⟩
  · have HH0 := Lib.hid h0
    have hx0 : (x != 0) = true := by simpa using h0
    clear hx h0
    go_enter Try.func6, Try.ntmps6
    go_wp2_with fail
    refine (HOO.out _ HX.out.edges).mono ?_
    rintro e w1 ⟨h1, _, hB⟩
    obtain rfl := h1 (by rw [HCX.out]; exact HH0.out)
    rw [HCX.out]
    have HX1 := Lib.hid (HX.out.next hB)
    have k0' := HX1.out.c0
    have k1' := HX1.out.c1
    clear h1 hB HOO k0 k1
    go_wp2_with fail
    refine (HCK.out _ HX1.out.edges).mono ?_
    rintro e w2 ⟨rfl, hB⟩
    have HX2 := Lib.hid (HX1.out.next hB)
    clear hB k0' k1'
    go_wp2_with fail
    go_ret
    exact ⟨rfl, HX2.out.below⟩
end Go.Proofs.Ytpcealcghglopaa
