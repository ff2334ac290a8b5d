/- FeeSaved, walked: what is told can't be had cheaper, and any flow of that value that can't be costs as much. -/
import Derived.Test.YtmlmnmphmghdlaaLeastFee
import Derived.Test.YtmlmnmphmghdlaaSpareGo
import Derived.Test.YtmlmnmphmghdlaaRefFlows
import Derived.Test.YtmlmnmphmghdlaaOpenNet
namespace Go.Proofs.Ytmlmnmphmghdlaa
open Go.RowKit

theorem noNeg_potS {N : NetP} {fee f π : Nat → Int} (P : PotP N fee f π) : NoNeg (StepC N fee f) := by
  refine noNeg_of (π := π) ?_
  rintro i j c ⟨k, hk, ⟨rfl, rfl, h3, rfl⟩ | ⟨rfl, rfl, h3, rfl⟩⟩
  · exact (P k hk).1 h3
  · have := (P k hk).2 h3; omega
set_option maxRecDepth 100000 in
set_option maxHeartbeats 4000000 in
theorem feeSaved_any (n : Int) (A : Option Addr) (len cap : Nat) (es : List A4) (s t value : Int) (A2 : Option Addr) (l2 cap2 : Nat) (xs : List Int) (w : World) (hE : ArcsAt w w.heap.size A len es) (_ : len ≤ cap) (_ : ∀ e ∈ es, WfA e) (_ : (Lit.int .i64 n).wf = true) (_ : (Lit.int .i64 s).wf = true) (_ : (Lit.int .i64 t).wf = true) (_ : (Lit.int .i64 value).wf = true)
    (hI : IntsAt w w.heap.size A2 l2 xs) (_ : l2 ≤ cap2) (hm2 : cap2 ≤ maxLen) :
    Calls Try.prog 6 #[.agg #[.int .i64 n, .slice A len cap], .int .i64 s, .int .i64 t, .int .i64 value, .slice A2 l2 cap2] w fun e w' => e = .returned (.bool true) ∧ Below w.heap.size w w' := by
  have hl63 : l2 ≤ 9223372036854775807 := by unfold maxLen at hm2; omega
  clear hm2
  have HX := Lib.hid (BoxN.start (n := n) (cap := cap) hE)
  have HI := Lib.hid hI
  obtain ⟨x, hx⟩ : ∃ x, endsF n es s t = x := ⟨_, rfl⟩
  have HV := Lib.hid hx
  have k0 := HX.out.k0
  have k1 := HX.out.k1
  by_cases h0 : x = 0
  · subst h0
    obtain ⟨hg, h1, h2, h3, h4, h5⟩ := endsF_zero hx
    have HG0 := good_of_netF hg
    obtain ⟨m, rfl⟩ := Int.eq_ofNat_of_zero_le HG0.n0
    obtain ⟨s, rfl⟩ := Int.eq_ofNat_of_zero_le h1
    obtain ⟨t, rfl⟩ := Int.eq_ofNat_of_zero_le h3
    have HG := Lib.hid HG0
    have HNET := Lib.hid hg
    have HFB := Lib.hid (fee_of_netF hg)
    have HLE := Lib.hid hE.1
    have hs : s < m := by omega
    have ht : t < m := by omega
    have hst : s ≠ t := by omega
    have hl30 : len ≤ 30 := by have := HG0.len; have := hE.1; omega
    clear hE hI hx hg h1 h2 h3 h4 h5 HG0
    by_cases hbad : value < 0 ∨ ¬ NoFeeB es
    · have HBAD := Lib.hid hbad
      clear hbad
      go_enter Try.func6, Try.ntmps6
      go_wp2_with fail
      refine (least_neg m A len cap es s t value _ (by exact HX.out.arcs) HV.out HBAD.out).mono ?_
      rintro e w1 ⟨rfl, hB⟩
      have HX1 := Lib.hid (HX.out.next hB)
      clear k0 k1 hB
      go_wp2_with fail
      go_ret
      exact ⟨rfl, HX1.out.below⟩
    · have hv0 : 0 ≤ value := by
        apply Int.not_lt.1
        exact fun h => hbad (.inl h)
      have HNF : Hid (NoFeeB es) := Lib.hid (Classical.byContradiction fun h => hbad (.inr h))
      clear hbad
      go_enter Try.func6, Try.ntmps6
      go_wp2_with fail
      refine (least_go m A len cap es s t value _ (by exact HX.out.arcs) HV.out hv0 HNF.out).mono ?_
      rintro e w1 (⟨g, f, π, rfl, hfl, hpt, hrw, hB⟩ | ⟨rfl, hno, hB⟩)
      · have HX1 := Lib.hid (HX.out.next hB)
        have HFL := Lib.hid (And.intro hfl hpt)
        have HRW := Lib.hid hrw
        clear k0 k1 hB hfl hpt hrw
        have k0 := HX1.out.k0
        have k1 := HX1.out.k1
        obtain ⟨cc, hcc⟩ : ∃ cc, cc = costP (netP (m : Int) es) (feeP es) f := ⟨_, rfl⟩
        rw [← hcc]
        have HCC := Lib.hid hcc
        clear hcc
        have HSAME : Hid (∀ q, q < (netP (m : Int) es).K → f q = goesF ((List.range len).map f) q) := Lib.hid fun q hq => (goes_map (by have h : q < es.length := hq; have := HLE.out; omega)).symm
        have HWG : Hid (wrongG (m : Int) es ((List.range len).map f) = 0) := Lib.hid (wrongG_ok HNET.out (by rw [List.length_map, List.length_range, HLE.out]) (HFL.out.1.same HSAME.out).may)
        have HNN : Hid (¬ ¬ NoNeg (StepC (netP (m : Int) es) (feeP es) (goesF ((List.range len).map f)))) := Lib.hid fun h => h (noNeg_potS (HFL.out.2.same HSAME.out))
        go_wp2_with fail
        refine (spare_good m A len cap es (some ⟨g, 0, none⟩) len len ((List.range len).map f) false _ (by exact HX1.out.arcs) (ints_row HRW.out) HWG.out ⟨fun h => (by cases h), fun h => absurd h HNN.out⟩).mono ?_
        rintro e w2 ⟨rfl, hB⟩
        have HX2 := Lib.hid (HX1.out.next hB)
        have HR2 := Lib.hid (HRW.out.of_block (hB.block _ HRW.out.lt))
        clear k0 k1 hB HWG HNN
        have k0 := HX2.out.k0
        have k1 := HX2.out.k1
        go_wp2_with fail
        refine (flows_any m A len cap es (some ⟨g, 0, none⟩) len len ((List.range len).map f) s t _ (by exact HX2.out.arcs) (ints_row HR2.out) (by omega) HG.out hs ht).mono ?_
        rintro e w3 ⟨⟨v', b, rfl, hb1, hb2⟩, hB⟩
        obtain ⟨rfl, hvv⟩ := hb2 rfl value (HFL.out.1.same HSAME.out)
        obtain rfl := hvv
        have HX3 := Lib.hid (HX2.out.next hB)
        clear k0 k1 hB hb1 hb2
        have k0 := HX3.out.k0
        have k1 := HX3.out.k1
        go_wp2_with fail
        refine (flows_any m A len cap es A2 l2 cap2 xs s t _ (by exact HX3.out.arcs) (by exact HI.out.go_ HX3.out.below) hl63 HG.out hs ht).mono ?_
        rintro e w4 ⟨⟨v2, b, rfl, hb1, hb2⟩, hB⟩
        have HX4 := Lib.hid (HX3.out.next hB)
        have HB1 := Lib.hid hb1
        clear k0 k1 hB hb1 hb2
        have k0 := HX4.out.k0
        have k1 := HX4.out.k1
        cases b with
        | false =>
          go_wp2_with fail
          go_ret
          exact ⟨rfl, HX4.out.below⟩
        | true =>
          obtain ⟨hll, hfl2⟩ := HB1.out rfl
          subst hll
          by_cases hvq : v2 = value
          · have HF2 : Hid (FlowP (netP (m : Int) es) s t (goesF xs) value) := Lib.hid (by rw [← hvq]; exact hfl2)
            have hvb : (v2 == value) = true := by simp [hvq]
            have HXL : Hid (xs.length = l2) := Lib.hid HI.out.1
            have HWG : Hid (wrongG (m : Int) es xs = 0) := Lib.hid (wrongG_ok HNET.out (by rw [HXL.out, HLE.out]) hfl2.may)
            obtain ⟨b3, hb3⟩ : ∃ b3 : Bool, b3 = true ↔ ¬ NoNeg (StepC (netP (m : Int) es) (feeP es) (goesF xs)) := by
              classical
              exact ⟨decide _, decide_eq_true_iff⟩
            have HB3 := Lib.hid hb3
            obtain ⟨c2, hc2⟩ : ∃ c2, c2 = costP (netP (m : Int) es) (feeP es) (goesF xs) := ⟨_, rfl⟩
            have hle : cc ≤ c2 := by
              rw [hc2, HCC.out]
              exact klein (netP_ok HG.out.big) (show s < (netP (m : Int) es).n by simpa [netP] using hs) (show t < (netP (m : Int) es).n by simpa [netP] using ht) hst HFL.out.2 HFL.out.1 HF2.out
            have HEQ : Hid (b3 = false → c2 = cc) := Lib.hid fun h => by
              have hN : NoNeg (StepC (netP (m : Int) es) (feeP es) (goesF xs)) := Classical.byContradiction fun h2 => by
                have := HB3.out.2 h2
                rw [h] at this; cases this
              obtain ⟨π2, hp2⟩ := pot_ex (M := 1048576) (netP_ok HG.out.big) (fun k _ => feeP_abs HFB.out k) (by decide) hN
              have h3 := klein (netP_ok HG.out.big) (show s < (netP (m : Int) es).n by simpa [netP] using hs) (show t < (netP (m : Int) es).n by simpa [netP] using ht) hst hp2 HF2.out HFL.out.1
              rw [← hc2, ← HCC.out] at h3
              omega
            have HCO := Lib.hid (fun W (h1 : ArcsAt W W.heap.size A l2 es) (h2 : IntsAt W W.heap.size A2 l2 xs) => costs_any m A l2 cap es A2 cap2 xs W h1 h2 HG.out (feeP_abs HFB.out) (fun q hq => by
              have h3 := HF2.out.may q (by show q < es.length; have := HLE.out; omega)
              have h4 := netP_moG HG.out (k := q) (by have := HLE.out; omega)
              exact ⟨h3.1, by omega⟩))
            rw [← hc2] at HCO
            have hleb : decide (cc ≤ c2) = true := decide_eq_true hle
            clear hb3 hc2 hfl2 hvq HB1 hle
            go_wp2_with fail
            refine (spare_good m A l2 cap es A2 l2 cap2 xs b3 _ (by exact HX4.out.arcs) (by exact HI.out.go_ HX4.out.below) HWG.out HB3.out).mono ?_
            rintro e w5 ⟨rfl, hB⟩
            have HX5 := Lib.hid (HX4.out.next hB)
            clear k0 k1 hB
            have k0 := HX5.out.k0
            have k1 := HX5.out.k1
            cases b3 with
            | true =>
              go_wp2_with (go_at_call 11; refine (HCO.out _ (by exact HX5.out.arcs) (by exact HI.out.go_ HX5.out.below)).mono ?_; rintro e w6 ⟨rfl, hB6⟩)
              go_ret
              exact ⟨rfl, (HX5.out.next hB6).below⟩
            | false =>
              have heq := HEQ.out rfl
              subst heq
              have HCO2 := Lib.hid HCO.out
              go_wp2_with (first
                | (go_at_call 11; refine (HCO.out _ (by exact HX5.out.arcs) (by exact HI.out.go_ HX5.out.below)).mono ?_; rintro e w6 ⟨rfl, hB6⟩; have HX6 := Lib.hid (HX5.out.next hB6); have l0 := HX6.out.k0; have l1 := HX6.out.k1; clear k0 k1 hB6 HCO)
                | (go_at_call 11; refine (HCO2.out _ (by exact HX6.out.arcs) (by exact HI.out.go_ HX6.out.below)).mono ?_; rintro e w7 ⟨rfl, hB7⟩))
              go_ret
              exact ⟨rfl, (HX6.out.next hB7).below⟩
          · have hvb : (v2 == value) = false := by simpa using hvq
            clear hvq hfl2
            go_wp2_with fail
            go_ret
            exact ⟨rfl, HX4.out.below⟩
      · have HX1 := Lib.hid (HX.out.next hB)
        clear k0 k1 hB hno
        go_wp2_with fail
        go_ret
        exact ⟨rfl, HX1.out.below⟩
  · have HH := Lib.hid h0
    have hx0 : (x != 0) = true := by simpa using h0
    clear hE hI hx h0
    go_enter Try.func6, Try.ntmps6
    go_wp2_with fail
    refine (least_bad n x A len cap es s t value _ (by exact HX.out.arcs) HV.out HH.out).mono ?_
    rintro e w1 ⟨rfl, hB⟩
    have HX1 := Lib.hid (HX.out.next hB)
    clear k0 k1 hB
    go_wp2_with fail
    go_ret
    exact ⟨rfl, HX1.out.below⟩
end Go.Proofs.Ytmlmnmphmghdlaa
