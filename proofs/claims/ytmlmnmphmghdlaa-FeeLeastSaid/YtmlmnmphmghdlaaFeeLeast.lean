/- FeeLeast, walked: Least tells a flow of the value that can't be had cheaper, and what it costs. -/
import Derived.Test.YtmlmnmphmghdlaaLeastFee
import Derived.Test.YtmlmnmphmghdlaaRefFlows
import Derived.Test.YtmlmnmphmghdlaaRefCutGo
import Derived.Test.YtmlmnmphmghdlaaOpenNet
namespace Go.Proofs.Ytmlmnmphmghdlaa
open Go.RowKit

theorem noNeg_pot {N : NetP} {fee f π : Nat → Int} (P : PotP N fee f π) : NoNeg (StepC N fee f) := by
  refine noNeg_of (π := π) ?_
  rintro i j c ⟨k, hk, ⟨rfl, rfl, h3, rfl⟩ | ⟨rfl, rfl, h3, rfl⟩⟩
  · exact (P k hk).1 h3
  · have := (P k hk).2 h3; omega
set_option maxRecDepth 100000 in
set_option maxHeartbeats 4000000 in
theorem feeLeast_any (n : Int) (A : Option Addr) (len cap : Nat) (es : List A4) (s t value : Int) (w : World) (hE : ArcsAt w w.heap.size A len es) (hcap : len ≤ cap) (_ : ∀ e ∈ es, WfA e) (_ : (Lit.int .i64 n).wf = true) (hmx : cap ≤ maxLen) (_ : (Lit.int .i64 s).wf = true) (_ : (Lit.int .i64 t).wf = true) (_ : (Lit.int .i64 value).wf = true) :
    Calls Try.prog 3 #[.agg #[.int .i64 n, .slice A len cap], .int .i64 s, .int .i64 t, .int .i64 value] w fun e w' => e = .returned (.bool true) ∧ Below w.heap.size w w' := by
  have hl63 : len ≤ 9223372036854775807 := by unfold maxLen at hmx; omega
  clear hcap hmx
  have HX := Lib.hid (BoxN.start (n := n) (cap := cap) hE)
  obtain ⟨x, hx⟩ : ∃ x, endsF n es s t = x := ⟨_, rfl⟩
  have HV := Lib.hid hx
  have k0 := HX.out.k0
  have k1 := HX.out.k1
  by_cases h0 : x = 0
  · subst h0
    obtain ⟨hg, h1, h2, h3, h4, h5⟩ := endsF_zero hx
    have HG0 := good_of_netF hg
    obtain ⟨m, rfl⟩ := Int.eq_ofNat_of_zero_le HG0.n0
    obtain ⟨s, rfl⟩ := Int.eq_ofNat_of_zero_le h1
    obtain ⟨t, rfl⟩ := Int.eq_ofNat_of_zero_le h3
    have HG := Lib.hid HG0
    have HFB := Lib.hid (fee_of_netF hg)
    have HLE := Lib.hid hE.1
    have hs : s < m := by omega
    have ht : t < m := by omega
    have hst : s ≠ t := by omega
    have hl30 : len ≤ 30 := by have := HG0.len; have := hE.1; omega
    clear hE hx hg h1 h2 h3 h4 h5 HG0
    by_cases hbad : value < 0 ∨ ¬ NoFeeB es
    · have HBAD := Lib.hid hbad
      clear hbad
      go_enter Try.func3, Try.ntmps3
      go_wp2_with fail
      refine (least_neg m A len cap es s t value _ (by exact HX.out.arcs) HV.out HBAD.out).mono ?_
      rintro e w1 ⟨rfl, hB⟩
      have HX1 := Lib.hid (HX.out.next hB)
      clear k0 k1 hB
      have k0 := HX1.out.k0
      have k1 := HX1.out.k1
      go_wp2_with fail
      refine (endsCheck_v (m : Int) 0 A len cap es s t _ (by exact HX1.out.arcs) HV.out).mono ?_
      rintro e w2 ⟨rfl, hB⟩
      have HX2 := Lib.hid (HX1.out.next hB)
      clear k0 k1 hB
      have k1 := HX2.out.k1
      go_wp2_with fail
      clear k1
      go_loopw [12, 35] (fun v j wr => ∃ (k : Nat) (c : Int), v = .int .i64 c ∧ j = .int .i64 k ∧ k ≤ len ∧ (c = 0 ∨ c = 4) ∧ Hid (c = 0 → NoFeeB (es.take k)) ∧ Hid (BoxN w (m : Int) A len cap es wr)) (fun _ j _ => len - (intOf j).toNat)
      case atStart => exact ⟨0, 0, rfl, rfl, Nat.zero_le _, .inl rfl, Lib.hid (fun _ a ha => by simp at ha), HX2⟩
      case round =>
        clear HX2
        obtain ⟨k, c, rfl, rfl, hk, hc, HP, HB⟩ := hrel
        by_cases hlt : k < len
        · obtain ⟨bb, off, ⟨x0, x1, x2, x3⟩, rfl, hbb, hxx, hc0, hc1, hc2, hc3⟩ := HB.out.arcs.at_ hlt
          have ik0 : (0 : Int) ≤ (k : Int) := by omega
          have ik1 : (k : Int) < (len : Int) := by omega
          have HXX := Lib.hid hxx
          have HB2 : Hid (∀ W, Below wr.heap.size wr W → BoxN w (m : Int) (some ⟨bb, off, none⟩) len cap es W) := Lib.hid fun W h => HB.out.next h
          simp only at hc0 hc1 hc2 hc3
          clear hxx
          rcases hc with rfl | rfl
          · by_cases hx3 : x3 < 0
            · go_wp2_with fail
              go_roundw
              case rel => exact ⟨k + 1, 4, rfl, by go_num, by omega, .inr rfl, Lib.hid (fun h => by cases h), Lib.hid (HB2.out _ ((Below.refl _ _).alloc (Nat.le_refl _) _))⟩
              case measure => simp [intOf]; omega
            · have hx3b : decide (x3 < 0) = false := decide_eq_false hx3
              have HP2 : Hid (NoFeeB (es.take (k + 1))) := Lib.hid (by
                obtain ⟨h1, h2⟩ := List.getElem?_eq_some_iff.1 HXX.out
                intro y hy
                rw [List.take_succ_eq_append_getElem h1, h2, List.mem_append, List.mem_singleton] at hy
                rcases hy with hy | rfl
                · exact HP.out rfl y hy
                · simp only; omega)
              clear hx3
              go_wp2_with fail
              go_roundw
              case rel => exact ⟨k + 1, 0, rfl, by go_num, by omega, .inl rfl, Lib.hid (fun _ => HP2.out), Lib.hid (HB2.out _ ((Below.refl _ _).alloc (Nat.le_refl _) _))⟩
              case measure => simp [intOf]; omega
          · go_wp2_with fail
            go_roundw
            case rel => exact ⟨k + 1, 4, rfl, by go_num, by omega, .inr rfl, Lib.hid (fun h => by cases h), Lib.hid (HB2.out _ ((Below.refl _ _).alloc (Nat.le_refl _) _))⟩
            case measure => simp [intOf]; omega
        · obtain rfl : k = len := by omega
          rcases hc with rfl | rfl
          · have hneg : value < 0 := by
              rcases HBAD.out with h | h
              · exact h
              · exfalso
                have h2 := HP.out rfl
                rw [List.take_of_length_le (by have := HLE.out; omega)] at h2
                exact h h2
            go_wp2_with fail
            go_ret
            exact ⟨rfl, HB.out.below⟩
          · go_wp2_with fail
            go_ret
            exact ⟨rfl, HB.out.below⟩
    · have hv0 : 0 ≤ value := by
        apply Int.not_lt.1
        exact fun h => hbad (.inl h)
      have HNF : Hid (NoFeeB es) := Lib.hid (Classical.byContradiction fun h => hbad (.inr h))
      have hvb : decide (value < 0) = false := decide_eq_false (by omega)
      clear hbad
      go_enter Try.func3, Try.ntmps3
      go_wp2_with fail
      refine (least_go m A len cap es s t value _ (by exact HX.out.arcs) HV.out hv0 HNF.out).mono ?_
      rintro e w1 (⟨g, f, π, rfl, hfl, hpt, hrw, hB⟩ | ⟨rfl, hno, hB⟩)
      · have HX1 := Lib.hid (HX.out.next hB)
        have HFL := Lib.hid (And.intro hfl hpt)
        have HRW := Lib.hid hrw
        clear k0 k1 hB hfl hpt hrw
        have k0 := HX1.out.k0
        have k1 := HX1.out.k1
        obtain ⟨cc, hcc⟩ : ∃ cc, cc = costP (netP (m : Int) es) (feeP es) f := ⟨_, rfl⟩
        rw [← hcc]
        have HCC := Lib.hid hcc
        clear hcc
        go_wp2_with fail
        refine (endsCheck_v (m : Int) 0 A len cap es s t _ (by exact HX1.out.arcs) HV.out).mono ?_
        rintro e w2 ⟨rfl, hB⟩
        have HX2 := Lib.hid (HX1.out.next hB)
        have HR2 := Lib.hid (HRW.out.of_block (hB.block _ HRW.out.lt))
        clear k0 k1 hB
        have k1 := HX2.out.k1
        go_wp2_with fail
        clear k1
        go_loopw [12, 35] (fun v j wr => ∃ k : Nat, v = .int .i64 0 ∧ j = .int .i64 k ∧ k ≤ len ∧ Hid (BoxN w (m : Int) A len cap es wr ∧ RowI wr g len f)) (fun _ j _ => len - (intOf j).toNat)
        case atStart => exact ⟨0, rfl, rfl, Nat.zero_le _, Lib.hid ⟨HX2.out, HR2.out⟩⟩
        case round =>
          clear HX2 HR2
          obtain ⟨k, rfl, rfl, hk, HB⟩ := hrel
          by_cases hlt : k < len
          · obtain ⟨bb, off, ⟨x0, x1, x2, x3⟩, rfl, hbb, hxx, hc0, hc1, hc2, hc3⟩ := HB.out.1.arcs.at_ hlt
            have ik0 : (0 : Int) ≤ (k : Int) := by omega
            have ik1 : (k : Int) < (len : Int) := by omega
            have hx3 := HNF.out _ (List.mem_of_getElem? hxx)
            have HB2 : Hid (∀ W, Below wr.heap.size wr W → BoxN w (m : Int) (some ⟨bb, off, none⟩) len cap es W ∧ RowI W g len f) := Lib.hid fun W h => ⟨HB.out.1.next h, HB.out.2.of_block (h.block _ HB.out.2.lt)⟩
            simp only at hc0 hc1 hc2 hc3 hx3
            have hx3b : decide (x3 < 0) = false := decide_eq_false (by omega)
            clear hxx hx3
            go_wp2_with fail
            go_roundw
            case rel => exact ⟨k + 1, rfl, by go_num, by omega, Lib.hid (HB2.out _ ((Below.refl _ _).alloc (Nat.le_refl _) _))⟩
            case measure => simp [intOf]; omega
          · obtain rfl : k = len := by omega
            have HX3 := Lib.hid HB.out.1
            have HR3 := Lib.hid HB.out.2
            have k0 := HX3.out.k0
            have k1 := HX3.out.k1
            clear HB
            go_wp2_with fail
            refine (refCut_any m A k cap es s t _ (by exact HX3.out.arcs) HG.out hs ht hst).mono ?_
            rintro e w4 ⟨c, rfl, hc, hB⟩
            have hcv := flow_le (W := fun i => c.testBit i) (netP_ok HG.out.big) (by simpa [netP] using hs) HFL.out.1 hc.src hc.dst
            have HX4 := Lib.hid (HX3.out.next hB)
            have HR4 := Lib.hid (HR3.out.of_block (hB.block _ HR3.out.lt))
            clear k0 k1 hB hc
            have k0 := HX4.out.k0
            have k1 := HX4.out.k1
            generalize cutP (netP (m : Int) es) (fun i => c.testBit i) = vc at hcv ⊢
            have hcb : decide (vc < value) = false := decide_eq_false (by omega)
            clear hcv
            go_wp2_with fail
            refine (flows_any m A k cap es (some ⟨g, 0, none⟩) k k ((List.range k).map f) s t _ (by exact HX4.out.arcs) (ints_row HR4.out) (by omega) HG.out hs ht).mono ?_
            rintro e w5 ⟨⟨v', b, rfl, hb1, hb2⟩, hB⟩
            obtain ⟨rfl, hvv⟩ := hb2 rfl value (HFL.out.1.same fun q hq => (goes_map (by have h : q < es.length := hq; have := HLE.out; omega)).symm)
            obtain rfl := hvv
            have HX5 := Lib.hid (HX4.out.next hB)
            have HR5 := Lib.hid (HR4.out.of_block (hB.block _ HR4.out.lt))
            clear k0 k1 hB hb1 hb2
            have k0 := HX5.out.k0
            have k1 := HX5.out.k1
            have HCO := Lib.hid (costs_any m A k cap es (some ⟨g, 0, none⟩) k ((List.range k).map f) _ HX5.out.arcs (ints_row HR5.out) HG.out (feeP_abs HFB.out) (fun q hq => by
              rw [goes_map hq]
              have h1 := HFL.out.1.may q (by show q < es.length; have := HLE.out; omega)
              have h2 := netP_moG HG.out (k := q) (by have := HLE.out; omega)
              exact ⟨h1.1, by omega⟩))
            have e1 : costP (netP (m : Int) es) (feeP es) (goesF ((List.range k).map f)) = cc := by
              rw [HCC.out]
              exact sumI_congr _ fun q hq => by rw [goes_map (by have h : q < es.length := hq; have := HLE.out; omega)]
            rw [e1] at HCO
            have HNN : Hid (¬ ¬ NoNeg (StepC (netP (m : Int) es) (feeP es) (goesF ((List.range k).map f)))) := Lib.hid fun h => h (noNeg_pot (HFL.out.2.same fun q hq => (goes_map (by have h : q < es.length := hq; have := HLE.out; omega)).symm))
            clear e1
            go_wp2_with (first
              | (go_at_call 11; refine HCO.out.mono ?_; rintro e w6 ⟨rfl, hB6⟩; have HX6 := Lib.hid (HX5.out.next hB6); have HR6 := Lib.hid (HR5.out.of_block (hB6.block _ HR5.out.lt)); have l0 := HX6.out.k0; have l1 := HX6.out.k1; clear k0 k1 hB6)
              | (go_at_call 12; refine (cheaper_v m A k cap es (some ⟨g, 0, none⟩) k k ((List.range k).map f) false _ (by exact HX6.out.arcs) (ints_row HR6.out) rfl HG.out HFB.out ⟨fun h => (by cases h), fun h => absurd h HNN.out⟩).mono ?_; rintro e w7 ⟨rfl, hB7⟩))
            go_ret
            exact ⟨rfl, (HX6.out.next hB7).below⟩
      · have HX1 := Lib.hid (HX.out.next hB)
        have HNO := Lib.hid hno
        clear k0 k1 hB hno
        have k0 := HX1.out.k0
        have k1 := HX1.out.k1
        go_wp2_with fail
        refine (endsCheck_v (m : Int) 0 A len cap es s t _ (by exact HX1.out.arcs) HV.out).mono ?_
        rintro e w2 ⟨rfl, hB⟩
        have HX2 := Lib.hid (HX1.out.next hB)
        clear k0 k1 hB
        have k1 := HX2.out.k1
        go_wp2_with fail
        clear k1
        go_loopw [12, 35] (fun v j wr => ∃ k : Nat, v = .int .i64 0 ∧ j = .int .i64 k ∧ k ≤ len ∧ Hid (BoxN w (m : Int) A len cap es wr)) (fun _ j _ => len - (intOf j).toNat)
        case atStart => exact ⟨0, rfl, rfl, Nat.zero_le _, HX2⟩
        case round =>
          clear HX2
          obtain ⟨k, rfl, rfl, hk, HB⟩ := hrel
          by_cases hlt : k < len
          · obtain ⟨bb, off, ⟨x0, x1, x2, x3⟩, rfl, hbb, hxx, hc0, hc1, hc2, hc3⟩ := HB.out.arcs.at_ hlt
            have ik0 : (0 : Int) ≤ (k : Int) := by omega
            have ik1 : (k : Int) < (len : Int) := by omega
            have hx3 := HNF.out _ (List.mem_of_getElem? hxx)
            have HB2 : Hid (∀ W, Below wr.heap.size wr W → BoxN w (m : Int) (some ⟨bb, off, none⟩) len cap es W) := Lib.hid fun W h => HB.out.next h
            simp only at hc0 hc1 hc2 hc3 hx3
            have hx3b : decide (x3 < 0) = false := decide_eq_false (by omega)
            clear hxx hx3
            go_wp2_with fail
            go_roundw
            case rel => exact ⟨k + 1, rfl, by go_num, by omega, Lib.hid (HB2.out _ ((Below.refl _ _).alloc (Nat.le_refl _) _))⟩
            case measure => simp [intOf]; omega
          · obtain rfl : k = len := by omega
            have k0 := HB.out.k0
            have k1 := HB.out.k1
            go_wp2_with fail
            refine (refCut_any m A k cap es s t _ (by exact HB.out.arcs) HG.out hs ht hst).mono ?_
            rintro e w4 ⟨c, rfl, hc, hB⟩
            have hcv : cutP (netP (m : Int) es) (fun i => c.testBit i) < value := by
              obtain ⟨fm, vm, h1, h2, h3⟩ := HNO.out
              rw [flow_min (netP_ok HG.out.big) (by simpa [netP] using hs) h1 h2 hc]
              exact h3
            have HX4 := Lib.hid (HB.out.next hB)
            clear k0 k1 hB hc
            generalize cutP (netP (m : Int) es) (fun i => c.testBit i) = vc at hcv ⊢
            go_wp2_with fail
            go_ret
            exact ⟨rfl, HX4.out.below⟩
  · have HH := Lib.hid h0
    have hx0 : (x != 0) = true := by simpa using h0
    have hx1 : (x == 0) = false := by simpa using h0
    have HLE := Lib.hid hE.1
    clear hE hx h0
    go_enter Try.func3, Try.ntmps3
    go_wp2_with fail
    refine (least_bad n x A len cap es s t value _ (by exact HX.out.arcs) HV.out HH.out).mono ?_
    rintro e w1 ⟨rfl, hB⟩
    have HX1 := Lib.hid (HX.out.next hB)
    clear k0 k1 hB
    have k0 := HX1.out.k0
    have k1 := HX1.out.k1
    go_wp2_with fail
    refine (endsCheck_v n x A len cap es s t _ (by exact HX1.out.arcs) HV.out).mono ?_
    rintro e w2 ⟨rfl, hB⟩
    have HX2 := Lib.hid (HX1.out.next hB)
    clear k0 k1 hB
    have k1 := HX2.out.k1
    go_wp2_with fail
    clear k1
    go_loopw [12, 35] (fun v j wr => ∃ k : Nat, v = .int .i64 x ∧ j = .int .i64 k ∧ k ≤ len ∧ Hid (BoxN w n A len cap es wr)) (fun _ j _ => len - (intOf j).toNat)
    case atStart => exact ⟨0, rfl, rfl, Nat.zero_le _, HX2⟩
    case round =>
      clear HX2
      obtain ⟨k, rfl, rfl, hk, HB⟩ := hrel
      by_cases hlt : k < len
      · obtain ⟨bb, off, ⟨x0, y1, x2, x3⟩, rfl, hbb, hxx, hc0, hc1, hc2, hc3⟩ := HB.out.arcs.at_ hlt
        have ik0 : (0 : Int) ≤ (k : Int) := by omega
        have ik1 : (k : Int) < (len : Int) := by omega
        have HB2 : Hid (∀ W, Below wr.heap.size wr W → BoxN w n (some ⟨bb, off, none⟩) len cap es W) := Lib.hid fun W h => HB.out.next h
        simp only at hc0 hc1 hc2 hc3
        clear hxx
        go_wp2_with fail
        go_roundw
        case rel => exact ⟨k + 1, rfl, by go_num, by omega, Lib.hid (HB2.out _ ((Below.refl _ _).alloc (Nat.le_refl _) _))⟩
        case measure => simp [intOf]; omega
      · obtain rfl : k = len := by omega
        go_wp2_with fail
        go_ret
        exact ⟨rfl, HB.out.below⟩
end Go.Proofs.Ytmlmnmphmghdlaa
