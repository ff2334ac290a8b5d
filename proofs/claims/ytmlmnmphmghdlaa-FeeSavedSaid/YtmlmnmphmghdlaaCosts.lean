/- What goes costs: the program's cost, and the reference's Costs. Conditions: a net without fault, and small numbers. -/
import Derived.Test.YtmlmnmphmghdlaaRefCheaper
namespace Go.Proofs.Ytmlmnmphmghdlaa
open Go.RowKit

set_option maxRecDepth 100000 in
set_option maxHeartbeats 1000000 in
theorem costGo_any (m : Nat) (A : Option Addr) (len cap : Nat) (es : List A4) (A2 : Option Addr) (cap2 : Nat) (xs : List Int) (w : World) (hE : ArcsAt w w.heap.size A len es) (hI : IntsAt w w.heap.size A2 len xs) (hG : GoodN (m : Int) es) (hFB : ∀ k, -1048576 ≤ feeP es k ∧ feeP es k ≤ 1048576)
    (hM : ∀ k, k < len → 0 ≤ goesF xs k ∧ goesF xs k ≤ 1048576) :
    Calls Try.prog 19 #[.agg #[.int .i64 m, .slice A len cap], .slice A2 len cap2] w fun e w' => e = .returned (.int .i64 (costP (netP (m : Int) es) (feeP es) (goesF xs))) ∧ Below w.heap.size w w' := by
  have HX := Lib.hid (BoxN.start (n := (m : Int)) (cap := cap) hE)
  have HI := Lib.hid hI
  have HFB := Lib.hid hFB
  have HM := Lib.hid hM
  have HL := Lib.hid hE.1
  have hl30 : len ≤ 30 := by have := hG.len; have := hE.1; omega
  have k1 := HX.out.k1
  clear hE hI hFB hM hG
  go_enter Try.func19, Try.ntmps19
  go_wp2_with fail
  clear k1
  go_loopw [5, 11] (fun x j wr => ∃ (k : Nat) (c : Int), k ≤ len ∧ x = .int .i64 c ∧ j = .int .i64 k ∧ -(k * 1099511627776) ≤ c ∧ c ≤ k * 1099511627776 ∧ Hid (c = sumI (fun k => goesF xs k * feeP es k) k) ∧ Hid (BoxN w (m : Int) A len cap es wr)) (fun _ j _ => len - (intOf j).toNat)
  case atStart => exact ⟨0, 0, Nat.zero_le _, rfl, rfl, by simp, by simp, Lib.hid rfl, HX⟩
  case round =>
    clear HX
    obtain ⟨k, c, hk, rfl, rfl, hc1, hc2, HC, HB⟩ := hrel
    by_cases hlt : k < len
    · obtain ⟨bb, off, ⟨x0, x1, x2, x3⟩, rfl, hbb, hx, hc0, hca, hcb, hc3⟩ := HB.out.arcs.at_ hlt
      obtain ⟨bi, oi, z, rfl, hbi, hz, hcz⟩ := (HI.out.go_ HB.out.below).at_ hlt
      have e3 : feeP es k = x3 := by unfold feeP; rw [List.getD_eq_getElem?_getD, hx]; rfl
      have eZ : goesF xs k = z := by unfold goesF; rw [List.getD_eq_getElem?_getD, hz]; rfl
      have hf := HFB.out k
      have hm := HM.out k hlt
      rw [e3] at hf
      rw [eZ] at hm
      have hp1 : z * x3 ≤ 1099511627776 := by
        have h1 := Int.mul_le_mul_of_nonneg_left hf.2 hm.1
        have h2 := Int.mul_le_mul_of_nonneg_right hm.2 (show (0 : Int) ≤ 1048576 by decide)
        omega
      have hp2 : -1099511627776 ≤ z * x3 := by
        have h1 := Int.mul_le_mul_of_nonneg_left hf.1 hm.1
        have h2 := Int.mul_le_mul_of_nonneg_right hm.2 (show (0 : Int) ≤ 1048576 by decide)
        have h3 : z * -1048576 = -(z * 1048576) := by rw [Int.mul_neg]
        omega
      obtain ⟨p, hp⟩ : ∃ p, z * x3 = p := ⟨_, rfl⟩
      rw [hp] at hp1 hp2
      have HN : Hid (c + p = sumI (fun k => goesF xs k * feeP es k) (k + 1)) := Lib.hid (by
        show _ = sumI (fun k => goesF xs k * feeP es k) k + goesF xs k * feeP es k
        rw [← HC.out, e3, eZ, hp])
      have HB2 : Hid (∀ W, Below wr.heap.size wr W → BoxN w (m : Int) (some ⟨bb, off, none⟩) len cap es W) := Lib.hid fun W h => HB.out.next h
      have ik0 : (0 : Int) ≤ (k : Int) := by omega
      have ik1 : (k : Int) < (len : Int) := by omega
      have cb1 : -40000000000000 ≤ c := by omega
      have cb2 : c ≤ 40000000000000 := by omega
      have n1 : -(((k + 1 : Nat) : Int) * 1099511627776) ≤ c + p := by omega
      have n2 : c + p ≤ ((k + 1 : Nat) : Int) * 1099511627776 := by omega
      have HNN := Lib.hid (And.intro n1 n2)
      simp only at hc0 hca hcb hc3
      clear hx hz e3 eZ hf hm n1 n2 hc1 hc2
      go_wp2_with fail
      go_quiet (fail)
      go_wp2
      go_roundw
      case rel => exact ⟨k + 1, c + p, by omega, rfl, by go_num, HNN.out.1, HNN.out.2, HN, Lib.hid (HB2.out _ (below_drewN ((Below.refl _ _).alloc (Nat.le_refl _) _) _))⟩
      case measure => simp [intOf]; omega
    · obtain rfl : k = len := by omega
      have HE : Hid (c = costP (netP (m : Int) es) (feeP es) (goesF xs)) := Lib.hid (by rw [HC.out]; show _ = sumI _ es.length; rw [HL.out])
      go_wp2_with fail
      go_ret
      exact ⟨ret_int HE.out, HB.out.below⟩
set_option maxRecDepth 100000 in
set_option maxHeartbeats 1000000 in
theorem costs_any (m : Nat) (A : Option Addr) (len cap : Nat) (es : List A4) (A2 : Option Addr) (cap2 : Nat) (xs : List Int) (w : World) (hE : ArcsAt w w.heap.size A len es) (hI : IntsAt w w.heap.size A2 len xs) (hG : GoodN (m : Int) es) (hFB : ∀ k, -1048576 ≤ feeP es k ∧ feeP es k ≤ 1048576)
    (hM : ∀ k, k < len → 0 ≤ goesF xs k ∧ goesF xs k ≤ 1048576) :
    Calls Try.prog 11 #[.agg #[.int .i64 m, .slice A len cap], .slice A2 len cap2] w fun e w' => e = .returned (.int .i64 (costP (netP (m : Int) es) (feeP es) (goesF xs))) ∧ Below w.heap.size w w' := by
  have HX := Lib.hid (BoxN.start (n := (m : Int)) (cap := cap) hE)
  have HI := Lib.hid hI
  have HFB := Lib.hid hFB
  have HM := Lib.hid hM
  have HL := Lib.hid hE.1
  have hl30 : len ≤ 30 := by have := hG.len; have := hE.1; omega
  have k1 := HX.out.k1
  clear hE hI hFB hM hG
  go_enter Try.func11, Try.ntmps11
  go_wp2_with fail
  clear k1
  go_loopw [5, 11] (fun x j wr => ∃ (k : Nat) (c : Int), k ≤ len ∧ x = .int .i64 c ∧ j = .int .i64 k ∧ -(k * 1099511627776) ≤ c ∧ c ≤ k * 1099511627776 ∧ Hid (c = sumI (fun k => goesF xs k * feeP es k) k) ∧ Hid (BoxN w (m : Int) A len cap es wr)) (fun _ j _ => len - (intOf j).toNat)
  case atStart => exact ⟨0, 0, Nat.zero_le _, rfl, rfl, by simp, by simp, Lib.hid rfl, HX⟩
  case round =>
    clear HX
    obtain ⟨k, c, hk, rfl, rfl, hc1, hc2, HC, HB⟩ := hrel
    by_cases hlt : k < len
    · obtain ⟨bb, off, ⟨x0, x1, x2, x3⟩, rfl, hbb, hx, hc0, hca, hcb, hc3⟩ := HB.out.arcs.at_ hlt
      obtain ⟨bi, oi, z, rfl, hbi, hz, hcz⟩ := (HI.out.go_ HB.out.below).at_ hlt
      have e3 : feeP es k = x3 := by unfold feeP; rw [List.getD_eq_getElem?_getD, hx]; rfl
      have eZ : goesF xs k = z := by unfold goesF; rw [List.getD_eq_getElem?_getD, hz]; rfl
      have hf := HFB.out k
      have hm := HM.out k hlt
      rw [e3] at hf
      rw [eZ] at hm
      have hp1 : z * x3 ≤ 1099511627776 := by
        have h1 := Int.mul_le_mul_of_nonneg_left hf.2 hm.1
        have h2 := Int.mul_le_mul_of_nonneg_right hm.2 (show (0 : Int) ≤ 1048576 by decide)
        omega
      have hp2 : -1099511627776 ≤ z * x3 := by
        have h1 := Int.mul_le_mul_of_nonneg_left hf.1 hm.1
        have h2 := Int.mul_le_mul_of_nonneg_right hm.2 (show (0 : Int) ≤ 1048576 by decide)
        have h3 : z * -1048576 = -(z * 1048576) := by rw [Int.mul_neg]
        omega
      obtain ⟨p, hp⟩ : ∃ p, z * x3 = p := ⟨_, rfl⟩
      rw [hp] at hp1 hp2
      have HN : Hid (c + p = sumI (fun k => goesF xs k * feeP es k) (k + 1)) := Lib.hid (by
        show _ = sumI (fun k => goesF xs k * feeP es k) k + goesF xs k * feeP es k
        rw [← HC.out, e3, eZ, hp])
      have HB2 : Hid (∀ W, Below wr.heap.size wr W → BoxN w (m : Int) (some ⟨bb, off, none⟩) len cap es W) := Lib.hid fun W h => HB.out.next h
      have ik0 : (0 : Int) ≤ (k : Int) := by omega
      have ik1 : (k : Int) < (len : Int) := by omega
      have cb1 : -40000000000000 ≤ c := by omega
      have cb2 : c ≤ 40000000000000 := by omega
      have n1 : -(((k + 1 : Nat) : Int) * 1099511627776) ≤ c + p := by omega
      have n2 : c + p ≤ ((k + 1 : Nat) : Int) * 1099511627776 := by omega
      have HNN := Lib.hid (And.intro n1 n2)
      simp only at hc0 hca hcb hc3
      clear hx hz e3 eZ hf hm n1 n2 hc1 hc2
      go_wp2_with fail
      go_quiet (fail)
      go_wp2
      go_roundw
      case rel => exact ⟨k + 1, c + p, by omega, rfl, by go_num, HNN.out.1, HNN.out.2, HN, Lib.hid (HB2.out _ (below_drewN ((Below.refl _ _).alloc (Nat.le_refl _) _) _))⟩
      case measure => simp [intOf]; omega
    · obtain rfl : k = len := by omega
      have HE : Hid (c = costP (netP (m : Int) es) (feeP es) (goesF xs)) := Lib.hid (by rw [HC.out]; show _ = sumI _ es.length; rw [HL.out])
      go_wp2_with fail
      go_ret
      exact ⟨ret_int HE.out, HB.out.below⟩
end Go.Proofs.Ytmlmnmphmghdlaa
