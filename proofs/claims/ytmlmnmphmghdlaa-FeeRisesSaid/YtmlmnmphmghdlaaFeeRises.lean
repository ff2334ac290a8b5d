/- FeeRises, walked: each one more that goes costs no less than the one ahead did. -/
import Derived.Test.YtmlmnmphmghdlaaLeastFee
import Derived.Test.YtmlmnmphmghdlaaRefFlows
import Derived.Test.YtmlmnmphmghdlaaOpenNet
namespace Go.Proofs.Ytmlmnmphmghdlaa
open Go.RowKit

theorem cost_abs {m : Nat} {es : List A4} {f : Nat → Int} (hG : GoodN (m : Int) es) (hFB : ∀ k, -1048576 ≤ feeP es k ∧ feeP es k ≤ 1048576) (hM : MayP (netP (m : Int) es) f) : -32985348833280 ≤ costP (netP (m : Int) es) (feeP es) f ∧ costP (netP (m : Int) es) (feeP es) f ≤ 32985348833280 := by
  have h := sum_ge (M := 1099511627776) (c := fun k => f k * feeP es k) es.length fun k hk => by
    have h1 := hM k hk
    have h2 := netP_moG hG hk
    have h3 := hFB k
    have h4 := Int.mul_le_mul_of_nonneg_left h3.2 h1.1
    have h5 := Int.mul_le_mul_of_nonneg_left h3.1 h1.1
    have h6 := Int.mul_le_mul_of_nonneg_right (show f k ≤ 1048576 by omega) (show (0 : Int) ≤ 1048576 by decide)
    have h7 : f k * -1048576 = -(f k * 1048576) := by rw [Int.mul_neg]
    omega
  have hl : (es.length : Int) * 1099511627776 ≤ 30 * 1099511627776 := Int.mul_le_mul_of_nonneg_right (by have := hG.len; omega) (by decide)
  have e : costP (netP (m : Int) es) (feeP es) f = sumI (fun k => f k * feeP es k) es.length := rfl
  omega
/-- What Least tells, whatever it is handed. -/
def LeastErr (w : World) (e : Ending) (w' : World) : Prop := ∃ x : Int, e = .returned (.tuple #[.int .i64 0, .slice none 0 0, .int .i64 x]) ∧ x ≠ 0 ∧ Below w.heap.size w w'
set_option maxRecDepth 100000 in
set_option maxHeartbeats 4000000 in
theorem feeRises_any (n : Int) (A : Option Addr) (len cap : Nat) (es : List A4) (s t value : Int) (w : World) (hE : ArcsAt w w.heap.size A len es) (_ : len ≤ cap) (_ : ∀ e ∈ es, WfA e) (_ : (Lit.int .i64 n).wf = true) (_ : (Lit.int .i64 s).wf = true) (_ : (Lit.int .i64 t).wf = true) (_ : (Lit.int .i64 value).wf = true) :
    Calls Try.prog 5 #[.agg #[.int .i64 n, .slice A len cap], .int .i64 s, .int .i64 t, .int .i64 value] w fun e w' => e = .returned (.bool true) ∧ Below w.heap.size w w' := by
  have HX := Lib.hid (BoxN.start (n := n) (cap := cap) hE)
  obtain ⟨x, hx⟩ : ∃ x, endsF n es s t = x := ⟨_, rfl⟩
  have HV := Lib.hid hx
  have k0 := HX.out.k0
  have k1 := HX.out.k1
  by_cases h0 : x = 0
  · subst h0
    obtain ⟨hg, h1, h2, h3, h4, h5⟩ := endsF_zero hx
    have HG0 := good_of_netF hg
    obtain ⟨m, rfl⟩ := Int.eq_ofNat_of_zero_le HG0.n0
    obtain ⟨s, rfl⟩ := Int.eq_ofNat_of_zero_le h1
    obtain ⟨t, rfl⟩ := Int.eq_ofNat_of_zero_le h3
    have HG := Lib.hid HG0
    have HFB := Lib.hid (feeP_abs (fee_of_netF hg))
    have HLE := Lib.hid hE.1
    have hs : s < m := by omega
    have ht : t < m := by omega
    have hst : s ≠ t := by omega
    have hl30 : len ≤ 30 := by have := HG0.len; have := hE.1; omega
    clear hE hx hg h1 h2 h3 h4 h5 HG0
    by_cases hv : value < 0
    · go_enter Try.func5, Try.ntmps5
      go_wp2_with fail
      refine (least_neg m A len cap es s t value _ (by exact HX.out.arcs) HV.out (.inl hv)).mono ?_
      rintro e w1 ⟨rfl, hB⟩
      have HX1 := Lib.hid (HX.out.next hB)
      clear k0 k1 hB
      go_wp2_with fail
      go_ret
      exact ⟨rfl, HX1.out.below⟩
    · have hvb : decide (value < 0) = false := decide_eq_false hv
      have hv0 : 0 ≤ value := by omega
      clear hv
      by_cases hNF : NoFeeB es
      · have HNF := Lib.hid hNF
        clear hNF
        by_cases hbig : 1048576 < value
        · go_enter Try.func5, Try.ntmps5
          go_wp2_with fail
          refine (least_go m A len cap es s t value _ (by exact HX.out.arcs) HV.out hv0 HNF.out).mono ?_
          rintro e w1 (⟨g, f, π, rfl, _, _, _, hB⟩ | ⟨rfl, _, hB⟩)
          all_goals
            have HX1 := Lib.hid (HX.out.next hB)
            clear k0 k1 hB
            go_wp2_with fail
            go_ret
            exact ⟨rfl, HX1.out.below⟩
        · have hbb : decide (1048576 < value) = false := decide_eq_false hbig
          have hv1 : value ≤ 1048576 := by omega
          clear hbig
          go_enter Try.func5, Try.ntmps5
          go_wp2_with fail
          refine (least_go m A len cap es s t value _ (by exact HX.out.arcs) HV.out hv0 HNF.out).mono ?_
          rintro e w1 (⟨ga, fa, πa, rfl, hfa, hpa, hra, hB⟩ | ⟨rfl, hno, hB⟩)
          · have HX1 := Lib.hid (HX.out.next hB)
            have HFA := Lib.hid (And.intro hfa hpa)
            have hca := cost_abs HG.out HFB.out hfa.may
            have ha0 := cost_nonneg (fee := feeP es) hfa.may (fun k hk => feeP_pos HNF.out hk)
            clear k0 k1 hB hfa hpa hra
            have k0 := HX1.out.k0
            have k1 := HX1.out.k1
            obtain ⟨ca, hcae⟩ : ∃ ca, ca = costP (netP (m : Int) es) (feeP es) fa := ⟨_, rfl⟩
            rw [← hcae] at hca ha0 ⊢
            have HCA := Lib.hid hcae
            clear hcae
            go_wp2_with (go_at_call 8; refine (endsCheck_v (m : Int) 0 A len cap es s t _ (by exact HX1.out.arcs) HV.out).mono ?_; rintro e w2 ⟨rfl, hB2⟩; have HX2 := Lib.hid (HX1.out.next hB2); clear k0 k1 hB2; have k0 := HX2.out.k0; have k1 := HX2.out.k1)
            refine (least_go m A len cap es s t (value + 1) _ (by exact HX2.out.arcs) HV.out (by omega) HNF.out).mono ?_
            rintro e w3 (⟨gb, fb, πb, rfl, hfb, hpb, hrb, hB⟩ | ⟨rfl, hno, hB⟩)
            · have HX3 := Lib.hid (HX2.out.next hB)
              have HFBB := Lib.hid (And.intro hfb hpb)
              have HRB := Lib.hid hrb
              have hcb := cost_abs HG.out HFB.out hfb.may
              clear k0 k1 hB hfb hpb hrb
              have k0 := HX3.out.k0
              have k1 := HX3.out.k1
              obtain ⟨cb, hcbe⟩ : ∃ cb, cb = costP (netP (m : Int) es) (feeP es) fb := ⟨_, rfl⟩
              rw [← hcbe] at hcb ⊢
              have HCB := Lib.hid hcbe
              clear hcbe
              go_wp2_with fail
              refine (least_go m A len cap es s t (value + 2) _ (by exact HX3.out.arcs) HV.out (by omega) HNF.out).mono ?_
              rintro e w4 (⟨gc, fc, πc, rfl, hfc, hpc, hrc, hB⟩ | ⟨rfl, hno, hB⟩)
              · have HX4 := Lib.hid (HX3.out.next hB)
                have HRB4 := Lib.hid (HRB.out.of_block (hB.block _ HRB.out.lt))
                have hcc := cost_abs HG.out HFB.out hfc.may
                have h1 := rises (fee := feeP es) (netP_ok HG.out.big) (show s < (netP (m : Int) es).n by simpa [netP] using hs) (show t < (netP (m : Int) es).n by simpa [netP] using ht) hst HFBB.out.2 HFBB.out.1 HFA.out.1 hfc
                have h2 := rises_one (fee := feeP es) (netP_ok HG.out.big) (show s < (netP (m : Int) es).n by simpa [netP] using hs) (show t < (netP (m : Int) es).n by simpa [netP] using ht) hst hv0 (fun k hk => feeP_pos HNF.out hk) HFA.out.2 HFA.out.1 HFBB.out.1
                clear k0 k1 hB hfc hpc hrc
                have k0 := HX4.out.k0
                have k1 := HX4.out.k1
                obtain ⟨cc, hcce⟩ : ∃ cc, cc = costP (netP (m : Int) es) (feeP es) fc := ⟨_, rfl⟩
                rw [← hcce] at hcc h1 ⊢
                rw [← HCA.out] at h1 h2
                rw [← HCB.out] at h1 h2
                clear hcce
                go_wp2_with fail
                refine (flows_any m A len cap es (some ⟨gb, 0, none⟩) len len ((List.range len).map fb) s t _ (by exact HX4.out.arcs) (ints_row HRB4.out) (by omega) HG.out hs ht).mono ?_
                rintro e w5 ⟨⟨v', b, rfl, hb1, hb2⟩, hB⟩
                obtain ⟨rfl, hvv⟩ := hb2 rfl (value + 1) (HFBB.out.1.same fun k hk => (goes_map (by have h : k < es.length := hk; have := HLE.out; omega)).symm)
                have HX5 := Lib.hid (HX4.out.next hB)
                obtain rfl := hvv
                have d1 : decide (cb - ca ≤ cc - cb) = true := decide_eq_true (by omega)
                have d2 : decide (ca ≤ cb) = true := decide_eq_true (by omega)
                clear k0 k1 hB hb1 hb2 h1 h2
                go_wp2_with fail
                go_ret
                exact ⟨rfl, HX5.out.below⟩
              · have HX4 := Lib.hid (HX3.out.next hB)
                clear k0 k1 hB hno
                go_wp2_with fail
                go_ret
                exact ⟨rfl, HX4.out.below⟩
            · have HX3 := Lib.hid (HX2.out.next hB)
              clear k0 k1 hB hno
              have k0 := HX3.out.k0
              have k1 := HX3.out.k1
              go_wp2_with fail
              refine (least_go m A len cap es s t (value + 2) _ (by exact HX3.out.arcs) HV.out (by omega) HNF.out).mono ?_
              rintro e w4 (⟨gc, fc, πc, rfl, hfc, hpc, hrc, hB⟩ | ⟨rfl, hno, hB⟩)
              all_goals
                have HX4 := Lib.hid (HX3.out.next hB)
                clear k0 k1 hB
                go_wp2_with fail
                go_ret
                exact ⟨rfl, HX4.out.below⟩
          · have HX1 := Lib.hid (HX.out.next hB)
            have HNO := Lib.hid hno
            clear k0 k1 hB hno
            have k0 := HX1.out.k0
            have k1 := HX1.out.k1
            go_wp2_with (go_at_call 8; refine (endsCheck_v (m : Int) 0 A len cap es s t _ (by exact HX1.out.arcs) HV.out).mono ?_; rintro e w2 ⟨rfl, hB2⟩; have HX2 := Lib.hid (HX1.out.next hB2); clear k0 k1 hB2; have k0 := HX2.out.k0; have k1 := HX2.out.k1)
            refine (least_go m A len cap es s t (value + 1) _ (by exact HX2.out.arcs) HV.out (by omega) HNF.out).mono ?_
            rintro e w3 (⟨gb, fb, πb, rfl, hfb, hpb, hrb, hB⟩ | ⟨rfl, hno, hB⟩)
            · exfalso
              obtain ⟨fm, vm, h1, h2, h3⟩ := HNO.out
              exact h2 (more_come (netP_ok HG.out.big) (show s < (netP (m : Int) es).n by simpa [netP] using hs) h1 hfb (by omega))
            · have HX3 := Lib.hid (HX2.out.next hB)
              clear k0 k1 hB hno
              have k0 := HX3.out.k0
              have k1 := HX3.out.k1
              go_wp2_with fail
              refine (least_go m A len cap es s t (value + 2) _ (by exact HX3.out.arcs) HV.out (by omega) HNF.out).mono ?_
              rintro e w4 (⟨gc, fc, πc, rfl, hfc, hpc, hrc, hB⟩ | ⟨rfl, hno, hB⟩)
              all_goals
                have HX4 := Lib.hid (HX3.out.next hB)
                clear k0 k1 hB
                go_wp2_with fail
                go_ret
                exact ⟨rfl, HX4.out.below⟩
      · have HNF := Lib.hid hNF
        clear hNF
        by_cases hbig : 1048576 < value
        · go_enter Try.func5, Try.ntmps5
          go_wp2_with fail
          refine (least_neg m A len cap es s t value _ (by exact HX.out.arcs) HV.out (.inr HNF.out)).mono ?_
          rintro e w1 ⟨rfl, hB⟩
          have HX1 := Lib.hid (HX.out.next hB)
          clear k0 k1 hB
          go_wp2_with fail
          go_ret
          exact ⟨rfl, HX1.out.below⟩
        · have hbb : decide (1048576 < value) = false := decide_eq_false hbig
          have hv1 : value ≤ 1048576 := by omega
          clear hbig
          go_enter Try.func5, Try.ntmps5
          go_wp2_with fail
          refine (least_neg m A len cap es s t value _ (by exact HX.out.arcs) HV.out (.inr HNF.out)).mono ?_
          rintro e w1 ⟨rfl, hB⟩
          have HX1 := Lib.hid (HX.out.next hB)
          clear k0 k1 hB
          have k0 := HX1.out.k0
          have k1 := HX1.out.k1
          go_wp2_with (go_at_call 8; refine (endsCheck_v (m : Int) 0 A len cap es s t _ (by exact HX1.out.arcs) HV.out).mono ?_; rintro e w2 ⟨rfl, hB2⟩; have HX2 := Lib.hid (HX1.out.next hB2); clear k0 k1 hB2; have k0 := HX2.out.k0; have k1 := HX2.out.k1)
          refine (least_neg m A len cap es s t (value + 1) _ (by exact HX2.out.arcs) HV.out (.inr HNF.out)).mono ?_
          rintro e w3 ⟨rfl, hB⟩
          have HX3 := Lib.hid (HX2.out.next hB)
          clear k0 k1 hB
          have k0 := HX3.out.k0
          have k1 := HX3.out.k1
          go_wp2_with fail
          refine (least_neg m A len cap es s t (value + 2) _ (by exact HX3.out.arcs) HV.out (.inr HNF.out)).mono ?_
          rintro e w4 ⟨rfl, hB⟩
          have HX4 := Lib.hid (HX3.out.next hB)
          clear k0 k1 hB
          go_wp2_with fail
          go_ret
          exact ⟨rfl, HX4.out.below⟩
  · have HH := Lib.hid h0
    have hx0 : (x != 0) = true := by simpa using h0
    clear hE hx h0
    have tri : value < 0 ∨ 1048576 < value ∨ (0 ≤ value ∧ value ≤ 1048576) := by omega
    rcases tri with hv | hv | ⟨hv, hv2⟩
    · go_enter Try.func5, Try.ntmps5
      go_wp2_with fail
      refine (least_bad n x A len cap es s t value _ (by exact HX.out.arcs) HV.out HH.out).mono ?_
      rintro e w1 ⟨rfl, hB⟩
      have HX1 := Lib.hid (HX.out.next hB)
      clear k0 k1 hB
      go_wp2_with fail
      go_ret
      exact ⟨rfl, HX1.out.below⟩
    · have hvb : decide (value < 0) = false := decide_eq_false (by omega)
      go_enter Try.func5, Try.ntmps5
      go_wp2_with fail
      refine (least_bad n x A len cap es s t value _ (by exact HX.out.arcs) HV.out HH.out).mono ?_
      rintro e w1 ⟨rfl, hB⟩
      have HX1 := Lib.hid (HX.out.next hB)
      clear k0 k1 hB
      go_wp2_with fail
      go_ret
      exact ⟨rfl, HX1.out.below⟩
    · have hvb : decide (value < 0) = false := decide_eq_false (by omega)
      have hbb : decide (1048576 < value) = false := decide_eq_false (by omega)
      go_enter Try.func5, Try.ntmps5
      go_wp2_with fail
      refine (least_bad n x A len cap es s t value _ (by exact HX.out.arcs) HV.out HH.out).mono ?_
      rintro e w1 ⟨rfl, hB⟩
      have HX1 := Lib.hid (HX.out.next hB)
      clear k0 k1 hB
      have k0 := HX1.out.k0
      have k1 := HX1.out.k1
      go_wp2_with (go_at_call 8; refine (endsCheck_v n x A len cap es s t _ (by exact HX1.out.arcs) HV.out).mono ?_; rintro e w2 ⟨rfl, hB2⟩; have HX2 := Lib.hid (HX1.out.next hB2); clear k0 k1 hB2)
      go_ret
      exact ⟨rfl, HX2.out.below⟩
end Go.Proofs.Ytmlmnmphmghdlaa
