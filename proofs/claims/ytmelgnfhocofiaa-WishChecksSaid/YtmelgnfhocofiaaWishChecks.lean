/- WishChecks: the program's and the reference's answers are one. -/
import Derived.Test.YtmelgnfhocofiaaWishCheckGo
import Derived.Test.YtmelgnfhocofiaaRefWishes
import Derived.Test.YtmelgnfhocofiaaBoxS
namespace Go.Proofs.Ytmelgnfhocofiaa
open Go.RowKit

set_option maxRecDepth 100000 in
set_option maxHeartbeats 1000000 in
theorem wishChecks_any (A1 : Option Addr) (n1 c1 : Nat) (A2 : Option Addr) (n2 c2 : Nat) (Ls Rs : List (List Int)) (w : World) (S1 : SideAt w w.heap.size A1 n1 c1 Ls) (S2 : SideAt w w.heap.size A2 n2 c2 Rs) :
    Calls Try.prog 3 #[.agg #[.slice A1 n1 c1, .slice A2 n2 c2]] w fun e w' => e = .returned (.bool true) ∧ Below w.heap.size w w' := by
  have HX := Lib.hid (BoxS.start S1 S2)
  have hk0 := HX.out.k0
  have hk1 := HX.out.k1
  have HXd := Lib.hid HX.out.drew
  clear S1 S2
  go_enter Try.func3, Try.ntmps3
  go_wp2
  go_region_with (first
    | (go_at_call 11; refine (wishCheck_any A1 A2 n1 c1 n2 c2 Ls Rs _ (by exact HXd.out.left) (by exact HXd.out.right)).mono ?_; rintro e w1 ⟨rfl, hb1⟩; have HX1 := Lib.hid (HXd.out.next hb1); have hk2 := HX1.out.k0; have hk3 := HX1.out.k1)
    | (go_at_call 12; refine (wishesCheck_any A1 A2 n1 c1 n2 c2 Ls Rs _ (by exact HX1.out.left) (by exact HX1.out.right)).mono ?_; rintro e w2 ⟨rfl, hb2⟩; have HX2 := Lib.hid (HX1.out.next hb2)))
  all_goals
    go_wp2
    go_ret
    exact ⟨rfl, HX2.out.below⟩
end Go.Proofs.Ytmelgnfhocofiaa
