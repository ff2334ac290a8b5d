/- GALE, SHAPLEY: there is a pairing that holds. -/
import Derived.Test.YtmelgnfhocofiaaKeepWishes
namespace Go.Proofs.Ytmelgnfhocofiaa
open Go.RowKit

set_option maxRecDepth 100000 in
set_option maxHeartbeats 2000000 in
theorem wishStable_any (A1 : Option Addr) (n1 c1 : Nat) (A2 : Option Addr) (n2 c2 : Nat) (Ls Rs : List (List Int)) (w : World) (S1 : SideAt w w.heap.size A1 n1 c1 Ls) (S2 : SideAt w w.heap.size A2 n2 c2 Rs) :
    Calls Try.prog 7 #[.agg #[.slice A1 n1 c1, .slice A2 n2 c2]] w fun e w' => e = .returned (.bool true) ∧ Below w.heap.size w w' := by
  have HX := Lib.hid (BoxS.start S1 S2)
  have hk0 := HX.out.k0
  have hk1 := HX.out.k1
  obtain ⟨b, hb⟩ : ∃ b, (wishF Ls Rs == 0) = b := ⟨_, rfl⟩
  have HC := Lib.hid (fun W (h1 : BoxS w A1 n1 c1 A2 n2 c2 Ls Rs W) => wishesK_any A1 A2 n1 c1 n2 c2 Ls Rs b W h1.left h1.right hb)
  obtain ⟨r, hr⟩ : ∃ r, wishF Ls Rs = r := ⟨_, rfl⟩
  rw [hr] at hb
  by_cases hr0 : r = 0
  · subst hr0
    obtain rfl : b = true := by rw [← hb]; rfl
    obtain ⟨q8, q1, o1, o2, W⟩ := wishOK_of hr
    have e1 := S1.len
    have e2 := S2.len
    obtain rfl : n1 = n2 := by omega
    have hn : n1 ≤ 8 := by omega
    rw [e1] at o1 o2 W
    have HP := Lib.hid (fun W1 (h1 : BoxS w A1 n1 c1 A2 n1 c2 Ls Rs W1) => wishPair_good A1 A2 n1 c1 c2 Ls Rs W1 h1.left h1.right hr hn o1 o2 W)
    have HR := Lib.hid hr
    have HN := Lib.hid e1
    clear S1 S2 hr q8 q1 o1 o2 W e1 e2 hb
    go_enter Try.func7, Try.ntmps7
    go_wp2_with fail
    refine (HP.out _ (by exact HX.out)).mono ?_
    rintro e w1 ⟨a, l, rfl, hB, hrow, ha, hb1⟩
    have HX1 := Lib.hid (HX.out.next hb1)
    have HL := Lib.hid (ints_row (B := w1.heap.size) hrow hB.1.pair.len hrow.lt)
    have HB := Lib.hid hB
    have l0 := HX1.out.k0
    have l1 := HX1.out.k1
    clear hb1 hk0 hk1 hB hrow ha HP HX
    go_wp2_with fail
    refine (HC.out _ (by exact HX1.out)).mono ?_
    rintro e w2 ⟨rfl, hb2⟩
    have HX2 := Lib.hid (HX1.out.next hb2)
    have HL2 := Lib.hid (HL.out.go_ hb2)
    have k0 := HX2.out.k0
    have k1 := HX2.out.k1
    clear hb2 l0 l1 HC HX1 HL
    go_wp2_with fail
    refine (wishHolds_go A1 A2 (some ⟨a, 0, none⟩) n1 c1 n1 c2 n1 n1 Ls Rs l w2 (by exact HX2.out.left) (by exact HX2.out.right) (by exact HL2.out) (fun h => by cases h)).mono ?_
    have HE : Hid (ansW Ls Rs l = true ∧ errW Ls Rs l = 0) := Lib.hid (by
      have h5 := HB.out.1
      rw [← HN.out] at h5
      exact ⟨ansW_hold HR.out h5, errW_pair HR.out h5.pair⟩)
    rw [HE.out.1, HE.out.2]
    rintro e w3 ⟨rfl, hb3⟩
    have HX3 := Lib.hid (HX2.out.next hb3)
    have l0 := HX3.out.k0
    have l1 := HX3.out.k1
    clear hb3 k0 k1 HX2 HL2 HE
    go_wp2_with fail
    go_ret
    exact ⟨rfl, HX3.out.below⟩
  · obtain rfl : b = false := by rw [← hb]; simpa using hr0
    have hr1 : (r != 0) = true := by simpa using hr0
    have HP := Lib.hid (fun W1 (h1 : BoxS w A1 n1 c1 A2 n2 c2 Ls Rs W1) => wishPair_bad A1 A2 n1 c1 n2 c2 Ls Rs r W1 h1.left h1.right hr hr0)
    clear S1 S2 hr hb
    go_enter Try.func7, Try.ntmps7
    go_wp2_with fail
    refine (HP.out _ (by exact HX.out)).mono ?_
    rintro e w1 ⟨rfl, hb1⟩
    have HX1 := Lib.hid (HX.out.next hb1)
    have l0 := HX1.out.k0
    have l1 := HX1.out.k1
    clear hb1 hk0 hk1
    go_wp2_with fail
    refine (HC.out _ (by exact HX1.out)).mono ?_
    rintro e w2 ⟨rfl, hb2⟩
    have HX2 := Lib.hid (HX1.out.next hb2)
    clear hb2
    go_wp2_with fail
    go_ret
    exact ⟨rfl, HX2.out.below⟩
end Go.Proofs.Ytmelgnfhocofiaa
