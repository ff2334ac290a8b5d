/- FeeSpares, walked: Spare tells whether a ring of steps costs less than nothing. -/
import Derived.Test.YtmlmnmphmghdlaaSpareGo
import Derived.Test.YtmlmnmphmghdlaaOpenNet
namespace Go.Proofs.Ytmlmnmphmghdlaa
open Go.RowKit

theorem int64_bool {P : Prop} : ∃ b : Bool, b = true ↔ P := by
  classical
  exact ⟨decide P, decide_eq_true_iff⟩
set_option maxRecDepth 100000 in
set_option maxHeartbeats 4000000 in
theorem feeSpares_any (n : Int) (A : Option Addr) (len cap : Nat) (es : List A4) (A2 : Option Addr) (l2 cap2 : Nat) (xs : List Int) (w : World) (hE : ArcsAt w w.heap.size A len es) (_ : len ≤ cap) (_ : ∀ e ∈ es, WfA e) (_ : (Lit.int .i64 n).wf = true)
    (hI : IntsAt w w.heap.size A2 l2 xs) (_ : l2 ≤ cap2) (hm2 : cap2 ≤ maxLen) :
    Calls Try.prog 4 #[.agg #[.int .i64 n, .slice A len cap], .slice A2 l2 cap2] w fun e w' => e = .returned (.bool true) ∧ Below w.heap.size w w' := by
  have hl2 : l2 ≤ 9223372036854775807 := by unfold maxLen at hm2; omega
  clear hm2
  have HX := Lib.hid (BoxN.start (n := n) (cap := cap) hE)
  have HI := Lib.hid hI
  have HLL := Lib.hid (And.intro hE.1 hI.1)
  obtain ⟨x, hx⟩ : ∃ x, netF n es = x := ⟨_, rfl⟩
  have HV := Lib.hid hx
  have k0 := HX.out.k0
  have k1 := HX.out.k1
  by_cases h0 : x = 0
  · subst h0
    have HG := Lib.hid (good_of_netF hx)
    have HFB := Lib.hid (fee_of_netF hx)
    have hl30 : len ≤ 30 := by have := HG.out.len; have := hE.1; omega
    obtain ⟨m, rfl⟩ := Int.eq_ofNat_of_zero_le HG.out.n0
    by_cases hll : l2 = len
    · subst hll
      by_cases hM : MayP (netP (m : Int) es) (goesF xs)
      · obtain ⟨b, hb⟩ := int64_bool (P := ¬ NoNeg (StepC (netP (m : Int) es) (feeP es) (goesF xs)))
        have HBB := Lib.hid hb
        have HMM := Lib.hid hM
        have HW := Lib.hid (wrongG_ok hx (by rw [HLL.out.1, HLL.out.2]) hM)
        clear hE hI hx hb hM
        go_enter Try.func4, Try.ntmps4
        go_wp2_with fail
        refine (spare_good m A l2 cap es A2 l2 cap2 xs b _ (by exact HX.out.arcs) (by exact HI.out.go_ HX.out.below) HW.out HBB.out).mono ?_
        rintro e w1 ⟨rfl, hB⟩
        have HX1 := Lib.hid (HX.out.next hB)
        clear k0 k1 hB HX
        have k0 := HX1.out.k0
        have k1 := HX1.out.k1
        go_wp2_with fail
        refine (netCheck_v (m : Int) 0 A l2 cap es _ (by exact HX1.out.arcs) HV.out).mono ?_
        rintro e w2 ⟨rfl, hB⟩
        have HX2 := Lib.hid (HX1.out.next hB)
        clear k0 k1 hB HX1
        have k1 := HX2.out.k1
        go_wp2_with fail
        clear k1
        go_loopw [7, 8] (fun x y wr => ∃ k : Nat, x = .int .i64 0 ∧ y = .int .i64 k ∧ k ≤ l2 ∧ Hid (BoxN w (m : Int) A l2 cap es wr)) (fun _ y _ => l2 - (intOf y).toNat)
        case atStart => exact ⟨0, rfl, rfl, Nat.zero_le _, HX2⟩
        case round =>
          clear HX2
          obtain ⟨k, rfl, rfl, hk, HB⟩ := hrel
          have k0 := HB.out.k0
          have k1 := HB.out.k1
          by_cases hlt : k < l2
          · obtain ⟨bb, off, ⟨x0, x1, x2, x3⟩, rfl, hbb, hxx, hc0, hc1, hc2, hc3⟩ := HB.out.arcs.at_ hlt
            obtain ⟨bi, oi, z, rfl, hbi, hz, hcz⟩ := (HI.out.go_ HB.out.below).at_ hlt
            have e2 : (netP (m : Int) es).mo k = x2 := by show (es.getD k default).2.2.1 = x2; rw [List.getD_eq_getElem?_getD, hxx]; rfl
            have eZ : goesF xs k = z := by unfold goesF; rw [List.getD_eq_getElem?_getD, hz]; rfl
            have hmay := HMM.out k (by show k < es.length; have := HLL.out.1; omega)
            rw [e2, eZ] at hmay
            obtain ⟨m1, m2⟩ := hmay
            have ik0 : (0 : Int) ≤ (k : Int) := by omega
            have ik1 : (k : Int) < (l2 : Int) := by omega
            have h1b : decide (z < 0) = false := decide_eq_false (by omega)
            have h2b : decide (x2 < z) = false := decide_eq_false (by omega)
            simp only at hc0 hc1 hc2 hc3
            clear hxx hz e2 eZ m1 m2
            go_wp2_with fail
            go_quiet (fail)
            go_wp2
            go_roundw
            case rel => exact ⟨k + 1, rfl, by go_num, by omega, Lib.hid (HB.out.next (below_drewN (Below.refl _ _) _))⟩
            case measure => simp [intOf]; omega
          · obtain rfl : k = l2 := by omega
            go_wp2_with (go_at_call 12; refine (cheaper_v m A k cap es A2 k cap2 xs b _ (by exact HB.out.arcs) (by exact HI.out.go_ HB.out.below) rfl HG.out HFB.out HBB.out).mono ?_; rintro e w3 ⟨rfl, hB3⟩)
            go_ret
            exact ⟨by cases b <;> rfl, (HB.out.next hB3).below⟩
      · have HMM := Lib.hid hM
        have HW := Lib.hid (wrongG_range hx (by rw [HLL.out.1, HLL.out.2]) hM)
        clear hE hI hx hM
        go_enter Try.func4, Try.ntmps4
        go_wp2_with fail
        refine (spare_bad (m : Int) 4 A l2 cap es A2 l2 cap2 xs _ (by exact HX.out.arcs) (by exact HI.out.go_ HX.out.below) hl2 HW.out (by decide)).mono ?_
        rintro e w1 ⟨rfl, hB⟩
        have HX1 := Lib.hid (HX.out.next hB)
        clear k0 k1 hB HX
        have k0 := HX1.out.k0
        have k1 := HX1.out.k1
        go_wp2_with fail
        refine (netCheck_v (m : Int) 0 A l2 cap es _ (by exact HX1.out.arcs) HV.out).mono ?_
        rintro e w2 ⟨rfl, hB⟩
        have HX2 := Lib.hid (HX1.out.next hB)
        clear k0 k1 hB HX1
        have k1 := HX2.out.k1
        go_wp2_with fail
        clear k1
        go_loopw [7, 8] (fun x y wr => ∃ (k : Nat) (v : Int), x = .int .i64 v ∧ y = .int .i64 k ∧ k ≤ l2 ∧ (v = 0 ∨ v = 4) ∧ Hid (v = 0 → ∀ q, q < k → 0 ≤ goesF xs q ∧ goesF xs q ≤ (netP (m : Int) es).mo q) ∧ Hid (BoxN w (m : Int) A l2 cap es wr)) (fun _ y _ => l2 - (intOf y).toNat)
        case atStart => exact ⟨0, 0, rfl, rfl, Nat.zero_le _, .inl rfl, Lib.hid (fun _ q hq => by omega), HX2⟩
        case round =>
          clear HX2
          obtain ⟨k, v, rfl, rfl, hk, hv, HP, HB⟩ := hrel
          have k0 := HB.out.k0
          have k1 := HB.out.k1
          rcases hv with rfl | rfl
          · by_cases hlt : k < l2
            · obtain ⟨bb, off, ⟨x0, x1, x2, x3⟩, rfl, hbb, hxx, hc0, hc1, hc2, hc3⟩ := HB.out.arcs.at_ hlt
              obtain ⟨bi, oi, z, rfl, hbi, hz, hcz⟩ := (HI.out.go_ HB.out.below).at_ hlt
              have e2 : (netP (m : Int) es).mo k = x2 := by show (es.getD k default).2.2.1 = x2; rw [List.getD_eq_getElem?_getD, hxx]; rfl
              have eZ : goesF xs k = z := by unfold goesF; rw [List.getD_eq_getElem?_getD, hz]; rfl
              have ik0 : (0 : Int) ≤ (k : Int) := by omega
              have ik1 : (k : Int) < (l2 : Int) := by omega
              have HE2 := Lib.hid (And.intro e2 eZ)
              simp only at hc0 hc1 hc2 hc3
              clear hxx hz e2 eZ
              by_cases h1 : z < 0
              · go_wp2_with fail
                go_quiet (fail)
                go_wp2
                go_roundw
                case rel => exact ⟨k + 1, 4, rfl, by go_num, by omega, .inr rfl, Lib.hid (fun h => by cases h), Lib.hid (HB.out.next (below_drewN (Below.refl _ _) _))⟩
                case measure => simp [intOf]; omega
              · by_cases h2 : x2 < z
                · have h1b : decide (z < 0) = false := decide_eq_false h1
                  clear h1
                  go_wp2_with fail
                  go_quiet (fail)
                  go_wp2
                  go_roundw
                  case rel => exact ⟨k + 1, 4, rfl, by go_num, by omega, .inr rfl, Lib.hid (fun h => by cases h), Lib.hid (HB.out.next (below_drewN (Below.refl _ _) _))⟩
                  case measure => simp [intOf]; omega
                · have h1b : decide (z < 0) = false := decide_eq_false h1
                  have h2b : decide (x2 < z) = false := decide_eq_false h2
                  have HP2 : Hid (∀ q, q < k + 1 → 0 ≤ goesF xs q ∧ goesF xs q ≤ (netP (m : Int) es).mo q) := Lib.hid fun q hq => by
                    by_cases e : q = k
                    · subst e; rw [HE2.out.1, HE2.out.2]; omega
                    · exact HP.out rfl q (by omega)
                  clear h1 h2 HP
                  go_wp2_with fail
                  go_quiet (fail)
                  go_wp2
                  go_roundw
                  case rel => exact ⟨k + 1, 0, rfl, by go_num, by omega, .inl rfl, Lib.hid (fun _ => HP2.out), Lib.hid (HB.out.next (below_drewN (Below.refl _ _) _))⟩
                  case measure => simp [intOf]; omega
            · exact (HMM.out fun q hq => HP.out rfl q (by
                have : q < es.length := hq
                have := HLL.out.1
                omega)).elim
          · have hd : k < l2 ∨ ¬ k < l2 := by omega
            rcases hd with hlt | hlt
            · have ik1 : (k : Int) < (l2 : Int) := by omega
              go_wp2_with fail
              go_ret
              exact ⟨rfl, HB.out.below⟩
            · have ik1 : ¬ (k : Int) < (l2 : Int) := by omega
              go_wp2_with fail
              go_ret
              exact ⟨rfl, HB.out.below⟩
    · have HW := Lib.hid (wrongG_form hx (by rw [HLL.out.1, HLL.out.2]; exact hll))
      have hllb : ((l2 : Int) == (len : Int)) = false := by simp; omega
      clear hE hI hx hll
      go_enter Try.func4, Try.ntmps4
      go_wp2_with fail
      refine (spare_bad (m : Int) 3 A len cap es A2 l2 cap2 xs _ (by exact HX.out.arcs) (by exact HI.out.go_ HX.out.below) hl2 HW.out (by decide)).mono ?_
      rintro e w1 ⟨rfl, hB⟩
      have HX1 := Lib.hid (HX.out.next hB)
      clear k0 k1 hB HX
      have k0 := HX1.out.k0
      have k1 := HX1.out.k1
      go_wp2_with fail
      refine (netCheck_v (m : Int) 0 A len cap es _ (by exact HX1.out.arcs) HV.out).mono ?_
      rintro e w2 ⟨rfl, hB⟩
      have HX2 := Lib.hid (HX1.out.next hB)
      clear k0 k1 hB HX1
      have k1 := HX2.out.k1
      go_wp2_with fail
      clear k1
      go_loop [7, 8] (fun v y => v = .int .i64 3 ∧ y = .int .i64 0) (fun _ _ => 0)
      case atStart => exact ⟨rfl, rfl⟩
      case round =>
        obtain ⟨rfl, rfl⟩ := hrel
        rcases Nat.eq_zero_or_pos l2 with hz | hz
        · have hzi : ¬ (0 : Int) < (l2 : Int) := by omega
          go_wp2_with fail
          go_ret
          exact ⟨rfl, HX2.out.below⟩
        · have hzi : (0 : Int) < (l2 : Int) := by omega
          go_wp2_with fail
          go_ret
          exact ⟨rfl, HX2.out.below⟩
  · have HW := Lib.hid (wrongG_net (xs := xs) hx h0)
    have HH0 := Lib.hid h0
    have hx0 : (x != 0) = true := by simpa using h0
    have hx1 : (x == 0) = false := by simpa using h0
    clear hE hI hx h0
    go_enter Try.func4, Try.ntmps4
    go_wp2_with fail
    refine (spare_bad n x A len cap es A2 l2 cap2 xs _ (by exact HX.out.arcs) (by exact HI.out.go_ HX.out.below) hl2 HW.out HH0.out).mono ?_
    rintro e w1 ⟨rfl, hB⟩
    have HX1 := Lib.hid (HX.out.next hB)
    clear k0 k1 hB HX
    have k0 := HX1.out.k0
    have k1 := HX1.out.k1
    go_wp2_with fail
    refine (netCheck_v n x A len cap es _ (by exact HX1.out.arcs) HV.out).mono ?_
    rintro e w2 ⟨rfl, hB⟩
    have HX2 := Lib.hid (HX1.out.next hB)
    clear k0 k1 hB HX1
    go_wp2_with fail
    go_loop [7, 8] (fun v y => v = .int .i64 x ∧ y = .int .i64 0) (fun _ _ => 0)
    case atStart => exact ⟨rfl, rfl⟩
    case round =>
      obtain ⟨rfl, rfl⟩ := hrel
      rcases Nat.eq_zero_or_pos l2 with hz | hz
      · have hzi : ¬ (0 : Int) < (l2 : Int) := by omega
        go_wp2_with fail
        go_ret
        exact ⟨rfl, HX2.out.below⟩
      · have hzi : (0 : Int) < (l2 : Int) := by omega
        go_wp2_with fail
        go_ret
        exact ⟨rfl, HX2.out.below⟩
end Go.Proofs.Ytmlmnmphmghdlaa
