/- WishAlls: all pairings that hold. -/
import Derived.Test.YtmelgnfhocofiaaWishAllGo
import Derived.Test.YtmelgnfhocofiaaKeepWishes
import Derived.Test.YtmelgnfhocofiaaRefWishes
import Derived.Test.YtmelgnfhocofiaaRefBestP
namespace Go.Proofs.Ytmelgnfhocofiaa
open Go.RowKit

set_option maxRecDepth 100000 in
set_option maxHeartbeats 2000000 in
theorem wishAlls_any (A1 : Option Addr) (n1 c1 : Nat) (A2 : Option Addr) (n2 c2 : Nat) (Ls Rs : List (List Int)) (w : World) (S1 : SideAt w w.heap.size A1 n1 c1 Ls) (S2 : SideAt w w.heap.size A2 n2 c2 Rs) :
    Calls Try.prog 6 #[.agg #[.slice A1 n1 c1, .slice A2 n2 c2]] w fun e w' => e = .returned (.bool true) ∧ Below w.heap.size w w' := by
  have HX := Lib.hid (BoxS.start S1 S2)
  have hk0 := HX.out.k0
  have hk1 := HX.out.k1
  have HC := Lib.hid (fun W (h1 : BoxS w A1 n1 c1 A2 n2 c2 Ls Rs W) => wishesCheck_any A1 A2 n1 c1 n2 c2 Ls Rs W h1.left h1.right)
  obtain ⟨r, hr⟩ : ∃ r, wishF Ls Rs = r := ⟨_, rfl⟩
  rw [hr] at HC
  by_cases hr0 : r = 0
  · subst hr0
    obtain ⟨q8, q1, o1, o2, W⟩ := wishOK_of hr
    have e1 := S1.len
    have e2 := S2.len
    obtain rfl : n1 = n2 := by omega
    have hn : n1 ≤ 8 := by omega
    rw [e1] at o1 o2 W
    have HP := Lib.hid (fun W1 (h1 : BoxS w A1 n1 c1 A2 n1 c2 Ls Rs W1) => wishAll_good A1 A2 n1 c1 c2 Ls Rs W1 h1.left h1.right hr hn o1 o2 W)
    have HQ := Lib.hid (fun W1 (h1 : BoxS w A1 n1 c1 A2 n1 c2 Ls Rs W1) => allPairings_any A1 A2 n1 c1 c2 Ls Rs W1 hn o1 o2 h1.left h1.right)
    have hml := allW_length (L := sd Ls) (R := sd Rs) hn
    have HHL := Lib.hid (fun xs (hx : xs ∈ allW n1 (sd Ls) (sd Rs)) => (mem_allW.1 hx).pair.len)
    generalize allW n1 (sd Ls) (sd Rs) = xss at HP HQ hml HHL
    generalize xss.length = m at HP HQ hml
    clear S1 S2 hr q8 q1 o1 o2 W e1 e2
    go_enter Try.func6, Try.ntmps6
    go_wp2_with fail
    refine (HP.out _ (by exact HX.out)).mono ?_
    rintro e w1 ⟨Aa, ca, rfl, hL, hb1⟩
    have HX1 := Lib.hid (HX.out.next hb1)
    have HL := Lib.hid hL
    have l0 := HX1.out.k0
    have l1 := HX1.out.k1
    clear hb1 hk0 hk1 hL HP HX
    go_wp2_with fail
    refine (HC.out _ (by exact HX1.out)).mono ?_
    rintro e w2 ⟨rfl, hb2⟩
    have HX2 := Lib.hid (HX1.out.next hb2)
    have HL2 := Lib.hid (HL.out.go_ hb2)
    have k0 := HX2.out.k0
    have k1 := HX2.out.k1
    clear hb2 l0 l1 HC HX1 HL
    go_wp2_with fail
    refine (HQ.out _ (by exact HX2.out)).mono ?_
    rintro e w3 ⟨A, c, rfl, hI, hb3⟩
    have HX3 := Lib.hid (HX2.out.next hb3)
    have HL3 := Lib.hid (HL2.out.go_ hb3)
    have HI3 := Lib.hid hI
    clear hb3 k0 k1 HX2 HL2 HQ hI
    go_wp2_with fail
    refine (lists_same Aa A m ca c xss w3 (by exact HL3.out) (by exact HI3.out) (by omega) (fun xs hx => by rw [HHL.out xs hx]; omega)).mono ?_
    rintro e w4 ⟨rfl, k, rfl⟩
    have HE := Lib.hid (below_drewN HX3.out.below k)
    clear HX3 HL3 HI3
    go_wp2_with fail
    go_ret
    exact ⟨rfl, HE.out⟩
  · have hr1 : (r != 0) = true := by simpa using hr0
    have HP := Lib.hid (fun W1 (h1 : BoxS w A1 n1 c1 A2 n2 c2 Ls Rs W1) => wishAll_bad A1 A2 n1 c1 n2 c2 Ls Rs r W1 h1.left h1.right hr hr0)
    clear S1 S2 hr
    go_enter Try.func6, Try.ntmps6
    go_wp2_with fail
    refine (HP.out _ (by exact HX.out)).mono ?_
    rintro e w1 ⟨rfl, hb1⟩
    have HX1 := Lib.hid (HX.out.next hb1)
    have l0 := HX1.out.k0
    have l1 := HX1.out.k1
    clear hb1 hk0 hk1
    go_wp2_with fail
    refine (HC.out _ (by exact HX1.out)).mono ?_
    rintro e w2 ⟨rfl, hb2⟩
    have HX2 := Lib.hid (HX1.out.next hb2)
    clear hb2
    go_wp2_with fail
    go_ret
    exact ⟨rfl, HX2.out.below⟩
end Go.Proofs.Ytmelgnfhocofiaa
