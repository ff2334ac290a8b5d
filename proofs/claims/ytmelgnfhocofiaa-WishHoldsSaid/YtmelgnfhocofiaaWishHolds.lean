/- WishHolds: the program's and the reference's answers are one. -/
import Derived.Test.YtmelgnfhocofiaaWishHoldsGo
import Derived.Test.YtmelgnfhocofiaaRefWishes
import Derived.Test.YtmelgnfhocofiaaRefHolds
namespace Go.Proofs.Ytmelgnfhocofiaa
open Go.RowKit

theorem IntsAt.some_ {w : World} {B n : Nat} {A : Option Addr} {xs : List Int} (h : IntsAt w B A n xs) (hA : A = none) : n = 0 := by
  rcases Nat.eq_zero_or_pos n with h0 | h0
  · exact h0
  · obtain ⟨b, off, e, _⟩ := h.2 h0
    rw [hA] at e; cases e
set_option maxRecDepth 100000 in
set_option maxHeartbeats 2000000 in
theorem wishHolds_any (A1 : Option Addr) (n1 c1 : Nat) (A2 : Option Addr) (n2 c2 : Nat) (Ls Rs : List (List Int)) (A : Option Addr) (m cap : Nat) (xs : List Int) (w : World) (S1 : SideAt w w.heap.size A1 n1 c1 Ls) (S2 : SideAt w w.heap.size A2 n2 c2 Rs) (hI : IntsAt w w.heap.size A m xs) (_ : m ≤ cap) (_ : cap ≤ maxLen) :
    Calls Try.prog 4 #[.agg #[.slice A1 n1 c1, .slice A2 n2 c2], .slice A m cap] w fun e w' => e = .returned (.bool true) ∧ Below w.heap.size w w' := by
  have HX := Lib.hid (BoxS.start S1 S2)
  have hk0 := HX.out.k0
  have hk1 := HX.out.k1
  have HI := Lib.hid hI
  have HG := Lib.hid (fun W (h1 : BoxS w A1 n1 c1 A2 n2 c2 Ls Rs W) => wishHolds_go A1 A2 A n1 c1 n2 c2 m cap Ls Rs xs W h1.left h1.right (hI.go_ h1.below) hI.some_)
  have HC := Lib.hid (fun W (h1 : BoxS w A1 n1 c1 A2 n2 c2 Ls Rs W) => wishesCheck_any A1 A2 n1 c1 n2 c2 Ls Rs W h1.left h1.right)
  obtain ⟨r, hr⟩ : ∃ r, wishF Ls Rs = r := ⟨_, rfl⟩
  rw [hr] at HC
  by_cases hr0 : r = 0
  · subst hr0
    obtain ⟨q8, q1, o1, o2, W⟩ := wishOK_of hr
    have e1 := S1.len
    have e2 := S2.len
    obtain rfl : n1 = n2 := by omega
    have hn : n1 ≤ 8 := by omega
    rw [e1] at o1 o2 W
    obtain ⟨s, hs⟩ : ∃ s, pairF n1 xs = s := ⟨_, rfl⟩
    have e : errW Ls Rs xs = s := by unfold errW; rw [if_pos hr, e1, hs]
    have HPC := Lib.hid (fun W (h1 : BoxS w A1 n1 c1 A2 n1 c2 Ls Rs W) => pairingCheck_any A1 A2 A n1 c1 n1 c2 m cap xs W (hI.go_ h1.below) hn)
    rw [hs] at HPC
    by_cases hs0 : s = 0
    · subst hs0
      have hmn : m = n1 := by
        unfold pairF at hs
        split at hs
        · cases hs
        · have := hI.1; omega
      subst hmn
      have hpb : pairB m xs = true := by
        unfold pairF at hs
        split at hs
        · cases hs
        · split at hs
          · assumption
          · cases hs
      obtain ⟨q, hq⟩ : ∃ q, holdB m (sd Ls) (sd Rs) xs = q := ⟨_, rfl⟩
      have ea : ansW Ls Rs xs = q := by unfold ansW; rw [e, e1, hq]; rfl
      rw [e, ea] at HG
      have HRH := Lib.hid (fun W (h1 : BoxS w A1 m c1 A2 m c2 Ls Rs W) => refHolds_any A1 A2 A m c1 c2 cap Ls Rs xs q W h1.left h1.right (hI.go_ h1.below) hn ((pairB_iff hI.1).1 hpb) o1 o2 (by rw [← hq, holdB_iff]))
      have hqq : (q == q) = true := by simp
      clear S1 S2 hI hr q8 q1 o1 o2 W e1 e2 hs e hpb hq ea
      go_enter Try.func4, Try.ntmps4
      go_wp2_with fail
      refine (HG.out _ (by exact HX.out)).mono ?_
      rintro e w1 ⟨rfl, hb1⟩
      have HX1 := Lib.hid (HX.out.next hb1)
      have l0 := HX1.out.k0
      have l1 := HX1.out.k1
      clear hb1 hk0 hk1 HG
      go_wp2_with fail
      refine (HC.out _ (by exact HX1.out)).mono ?_
      rintro e w2 ⟨rfl, hb2⟩
      have HX2 := Lib.hid (HX1.out.next hb2)
      have k0 := HX2.out.k0
      have k1 := HX2.out.k1
      clear hb2 l0 l1 HC
      go_wp2_with fail
      refine (HPC.out _ (by exact HX2.out)).mono ?_
      rintro e w3 ⟨rfl, hb3⟩
      have HX3 := Lib.hid (HX2.out.next hb3)
      have l0 := HX3.out.k0
      have l1 := HX3.out.k1
      clear hb3 k0 k1 HPC
      go_wp2_with fail
      refine (HRH.out _ (by exact HX3.out)).mono ?_
      rintro e w4 ⟨rfl, hb4⟩
      have HX4 := Lib.hid (HX3.out.next hb4)
      clear hb4 HRH
      go_wp2_with fail
      go_ret
      exact ⟨by simp, HX4.out.below⟩
    · have ea : ansW Ls Rs xs = false := by unfold ansW; rw [e, decide_eq_false hs0]; rfl
      rw [e, ea] at HG
      have hs1 : (s != 0) = true := by simpa using hs0
      have hs2 : (s == s) = true := by simp
      have HS0 := Lib.hid hs0
      clear S1 S2 hI hr q8 q1 o1 o2 W e1 e2 hs e ea
      go_enter Try.func4, Try.ntmps4
      go_wp2_with fail
      refine (HG.out _ (by exact HX.out)).mono ?_
      rintro e w1 ⟨rfl, hb1⟩
      have HX1 := Lib.hid (HX.out.next hb1)
      have l0 := HX1.out.k0
      have l1 := HX1.out.k1
      clear hb1 hk0 hk1 HG
      go_wp2_with fail
      refine (HC.out _ (by exact HX1.out)).mono ?_
      rintro e w2 ⟨rfl, hb2⟩
      have HX2 := Lib.hid (HX1.out.next hb2)
      have k0 := HX2.out.k0
      have k1 := HX2.out.k1
      clear hb2 l0 l1 HC
      go_wp2_with fail
      refine (HPC.out _ (by exact HX2.out)).mono ?_
      rintro e w3 ⟨rfl, hb3⟩
      have HX3 := Lib.hid (HX2.out.next hb3)
      clear hb3 HPC
      go_wp2_with fail
      go_ret
      exact ⟨rfl, HX3.out.below⟩
  · have e : errW Ls Rs xs = r := by unfold errW; rw [hr, if_neg hr0]
    have ea : ansW Ls Rs xs = false := by unfold ansW; rw [e, decide_eq_false hr0]; rfl
    rw [e, ea] at HG
    have hr1 : (r != 0) = true := by simpa using hr0
    have hr2 : (r == 0) = false := by simpa using hr0
    have hr3 : (r == r) = true := by simp
    clear S1 S2 hI hr e ea
    go_enter Try.func4, Try.ntmps4
    go_wp2_with fail
    refine (HG.out _ (by exact HX.out)).mono ?_
    rintro e w1 ⟨rfl, hb1⟩
    have HX1 := Lib.hid (HX.out.next hb1)
    have l0 := HX1.out.k0
    have l1 := HX1.out.k1
    clear hb1 hk0 hk1 HG
    go_wp2_with fail
    refine (HC.out _ (by exact HX1.out)).mono ?_
    rintro e w2 ⟨rfl, hb2⟩
    have HX2 := Lib.hid (HX1.out.next hb2)
    clear hb2 HC
    go_wp2_with fail
    go_ret
    exact ⟨rfl, HX2.out.below⟩
end Go.Proofs.Ytmelgnfhocofiaa
