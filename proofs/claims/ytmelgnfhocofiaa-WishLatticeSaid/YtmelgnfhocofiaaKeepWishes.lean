/- The keepers' wishes; a pairing that is the best one, held against what is asked. -/
import Derived.Test.YtmelgnfhocofiaaWishPairGo
import Derived.Test.YtmelgnfhocofiaaRefWishes
namespace Go.Proofs.Ytmelgnfhocofiaa
open Go.RowKit

set_option maxRecDepth 100000 in
set_option maxHeartbeats 1000000 in
theorem wishesK_any (A1 A2 : Option Addr) (n1 c1 n2 c2 : Nat) (Ls Rs : List (List Int)) (b : Bool) (w : World) (S1 : SideAt w w.heap.size A1 n1 c1 Ls) (S2 : SideAt w w.heap.size A2 n2 c2 Rs) (hb : (wishF Ls Rs == 0) = b) :
    Calls Try.prog 22 #[.agg #[.slice A1 n1 c1, .slice A2 n2 c2]] w fun e w' => e = .returned (.bool b) ∧ Below w.heap.size w w' := by
  have HX := Lib.hid (BoxS.start S1 S2)
  have hk0 := HX.out.k0
  have hk1 := HX.out.k1
  have HC := Lib.hid (fun W (h1 : BoxS w A1 n1 c1 A2 n2 c2 Ls Rs W) => wishesCheck_any A1 A2 n1 c1 n2 c2 Ls Rs W h1.left h1.right)
  obtain ⟨r, hr⟩ : ∃ r, wishF Ls Rs = r := ⟨_, rfl⟩
  rw [hr] at HC hb
  clear S1 S2 hr
  go_enter Try.func22, Try.ntmps22
  go_wp2_with fail
  refine (HC.out _ (by exact HX.out)).mono ?_
  rintro e w1 ⟨rfl, hb1⟩
  have HX1 := Lib.hid (HX.out.next hb1)
  clear hb1
  go_wp2_with fail
  go_ret
  exact ⟨rfl, HX1.out.below⟩
section
variable {n : Nat} {Ls Rs : List (List Int)} {l : List Int}
theorem errW_pair (h0 : wishF Ls Rs = 0) (P : PairOK Ls.length l) : errW Ls Rs l = 0 := by
  unfold errW pairF
  rw [if_pos h0, if_neg (by rw [P.len]; simp), if_pos ((pairB_iff P.len).2 P)]
theorem ansW_hold (h0 : wishF Ls Rs = 0) (H : HoldP Ls.length (sd Ls) (sd Rs) l) : ansW Ls Rs l = true := by
  unfold ansW
  rw [errW_pair h0 H.pair, holdB_iff.2 H]; rfl
theorem hold_ans (h : ansW Ls Rs l = true) : HoldP Ls.length (sd Ls) (sd Rs) l := by
  unfold ansW at h
  rw [Bool.and_eq_true] at h
  exact holdB_iff.1 h.2
theorem ints_row {w : World} {a n B : Nat} {l : List Int} (h : RowC w a n (fun i => l.getD i (-1))) (hl : l.length = n) (ha : a < B) : IntsAt w B (some ⟨a, 0, none⟩) n l :=
  ⟨hl, fun _ => ⟨a, 0, rfl, ha, fun i x hx => by
    have hlt := (List.getElem?_eq_some_iff.1 hx).1
    rw [Nat.zero_add, h.cell (by omega), List.getD_eq_getElem?_getD, hx]; rfl⟩⟩
end
end Go.Proofs.Ytmelgnfhocofiaa
