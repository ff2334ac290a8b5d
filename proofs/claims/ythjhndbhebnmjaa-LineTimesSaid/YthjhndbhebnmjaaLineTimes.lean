/- LineTimes, walked, over what Times tells. -/
import Derived.Test.YthjhndbhebnmjaaTimesTop
import Derived.Test.YthjhndbhebnmjaaLongsAny
namespace Go.Proofs.Ythjhndbhebnmjaa
open Go.RowKit

set_option maxRecDepth 100000 in
set_option maxHeartbeats 2000000 in
theorem lineTimes_of (A : Option Addr) (n c : Nat) (js : List JobV) (w : World) (S : JobsAt w w.heap.size A n js)
    (HO : ∀ W, JobsAt W W.heap.size A n js → Calls Try.prog 11 #[.slice A n c] W (TimesTop W n js)) :
    Calls Try.prog 4 #[.slice A n c] w fun e w' => e = .returned (.bool true) ∧ Below w.heap.size w w' := by
  have HS := Lib.hid S
  have HOO := Lib.hid HO
  obtain ⟨x, hx⟩ : ∃ x, jobsF js = x := ⟨_, rfl⟩
  have HX := Lib.hid hx
  have HLN := Lib.hid S.len
  by_cases h0 : x = 0
  · subst h0
    have hn10 : n ≤ 10 := by have := (jobsF_zero hx).1; have := S.len; omega
    obtain ⟨v, hv⟩ : ∃ v, ordF js n [] = v := ⟨_, rfl⟩
    have HV := Lib.hid hv
    have HRO := Lib.hid (fun W hW => refOrder_any A n c js v W hW hx hv)
    have HY : Hid (ordX js = if v = none then 5 else 0) := Lib.hid (by unfold ordX; rw [if_pos hx, HLN.out, hv])
    clear S HO hv
    cases v with
    | none =>
      have HY5 : Hid (ordX js = 5) := Lib.hid (by rw [HY.out]; rfl)
      clear hx
      go_enter Try.func4, Try.ntmps4
      go_wp2_with fail
      refine (HOO.out _ HS.out).mono ?_
      rintro e w1 ⟨h1, _, hB⟩
      obtain rfl := h1 (by rw [HY5.out]; decide)
      rw [HY5.out]
      have HB1 := Lib.hid hB
      clear h1 hB HOO
      go_wp2_with fail
      refine (jobsCheck_v A n c js 0 _ (HS.out.go_ HB1.out) HX.out).mono ?_
      rintro e w2 ⟨rfl, hB⟩
      have HB2 := Lib.hid (HB1.out.trans (hB.mono HB1.out.size))
      clear hB
      go_wp2_with fail
      refine (HRO.out _ (HS.out.go_ HB2.out)).mono ?_
      rintro e w3 ⟨h1, _, hB⟩
      obtain rfl := h1 rfl
      have HB3 := Lib.hid (HB2.out.trans (hB.mono HB2.out.size))
      clear hB h1
      go_wp2_with fail
      go_ret
      exact ⟨rfl, HB3.out⟩
    | some l =>
      have HY0 : Hid (ordX js = 0) := Lib.hid (by rw [HY.out]; rfl)
      obtain ⟨rk, hrk⟩ := rank_ex hx (by rw [HLN.out]; exact HV.out)
      have HRT := Lib.hid (fun W hW => refTimes_any A n c js rk (earlyV js) (tailV js) (endV js) W hW hx hrk (early_is hrk) (tail_is hrk) rfl)
      clear hx hrk
      obtain ⟨z, hz⟩ : ∃ z, endV js = z := ⟨_, rfl⟩
      have HZ := Lib.hid hz
      clear hz
      go_enter Try.func4, Try.ntmps4
      go_wp2_with fail
      refine (HOO.out _ HS.out).mono ?_
      rintro e w1 ⟨_, h2, hB⟩
      obtain ⟨A1, c1, A2, c2, rfl, hi1, hi2⟩ := h2 HY0.out
      rw [HZ.out]
      have HB1 := Lib.hid hB
      have HI1 := Lib.hid hi1
      have HI2 := Lib.hid hi2
      clear h2 hB hi1 hi2 HOO
      go_wp2_with fail
      refine (jobsCheck_v A n c js 0 _ (HS.out.go_ HB1.out) HX.out).mono ?_
      rintro e w2 ⟨rfl, hB⟩
      have HB2 := Lib.hid (HB1.out.trans (hB.mono HB1.out.size))
      have HI3 := Lib.hid (HI1.out.go_ hB)
      have HI4 := Lib.hid (HI2.out.go_ hB)
      clear hB
      go_wp2_with fail
      refine (HRO.out _ (HS.out.go_ HB2.out)).mono ?_
      rintro e w3 ⟨_, h2, hB⟩
      obtain ⟨A3, c3, rfl, _⟩ := h2 l rfl
      have HB3 := Lib.hid (HB2.out.trans (hB.mono HB2.out.size))
      have HI5 := Lib.hid (HI3.out.go_ hB)
      have HI6 := Lib.hid (HI4.out.go_ hB)
      clear hB h2
      go_wp2_with fail
      refine (HRT.out _ (HS.out.go_ HB3.out)).mono ?_
      rintro e w4 ⟨A4, c4, A5, c5, rfl, hi1, hi2, hB⟩
      rw [HZ.out]
      have HB4 := Lib.hid (HB3.out.trans (hB.mono HB3.out.size))
      have HI7 := Lib.hid (HI5.out.go_ hB)
      have HI8 := Lib.hid (HI6.out.go_ hB)
      have HI9 := Lib.hid hi1
      have HIA := Lib.hid hi2
      clear hB hi1 hi2
      go_wp2_with fail
      refine (longs_v A1 A4 n n c1 c4 _ _ true _ HI7.out HI9.out (by omega) (by omega) ⟨fun _ => rfl, fun _ => rfl⟩).mono ?_
      rintro e w5 ⟨rfl, q, rfl⟩
      go_wp2_with fail
      refine (longs_v A2 A5 n n c2 c5 _ _ true _ (HI8.out.go_ (below_drewN (Below.refl _ _) q)) (HIA.out.go_ (below_drewN (Below.refl _ _) q)) (by omega) (by omega) ⟨fun _ => rfl, fun _ => rfl⟩).mono ?_
      rintro e w6 ⟨rfl, q2, rfl⟩
      go_wp2_with fail
      go_ret
      exact ⟨rfl, below_drewN HB4.out _⟩
  · have HX2 : Hid (ordX js = x) := Lib.hid (by unfold ordX; rw [if_neg (by rw [hx]; exact h0), hx])
    have HH0 := Lib.hid h0
    have hx0 : (x != 0) = true := by simpa using h0
    have hx1 : (x == 0) = false := by simpa using h0
    clear hx S HO h0
    go_enter Try.func4, Try.ntmps4
    go_wp2_with fail
    refine (HOO.out _ HS.out).mono ?_
    rintro e w1 ⟨h1, _, hB⟩
    obtain rfl := h1 (by rw [HX2.out]; exact HH0.out)
    rw [HX2.out]
    have HB1 := Lib.hid hB
    clear h1 hB HOO
    go_wp2_with fail
    refine (jobsCheck_v A n c js x _ (HS.out.go_ HB1.out) HX.out).mono ?_
    rintro e w2 ⟨rfl, hB⟩
    have HB2 := Lib.hid (HB1.out.trans (hB.mono HB1.out.size))
    clear hB
    go_wp2_with fail
    go_ret
    exact ⟨rfl, HB2.out⟩
end Go.Proofs.Ythjhndbhebnmjaa
