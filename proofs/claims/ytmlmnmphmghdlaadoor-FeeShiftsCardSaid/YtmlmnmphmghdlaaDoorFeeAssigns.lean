/- FeeAssigns, walked: what is told is what the recursion that tries all finds. -/
import Derived.Test.YtmlmnmphmghdlaaDoorAssignGo
import Derived.Test.YtmlmnmphmghdlaaDoorRefAssign
import Derived.Test.YtmlmnmphmghdlaaDoorIntsAny
namespace Go.Proofs.YtmlmnmphmghdlaaDoor
open Go.RowKit

theorem RowC.intsOf {w : World} {g n : Nat} {l : List Nat} (h : RowC w g n (fun i => ((l.getD i 0 : Nat) : Int))) (hl : l.length = n) : IntsAt w w.heap.size (some ⟨g, 0, none⟩) n (Go.Proofs.YtmlmnmphmghdlaaDoor.intsOf l) := by
  refine ⟨by simp [Go.Proofs.YtmlmnmphmghdlaaDoor.intsOf, hl], fun _ => ⟨g, 0, rfl, h.lt, fun i x hx => ?_⟩⟩
  unfold Go.Proofs.YtmlmnmphmghdlaaDoor.intsOf at hx
  rw [List.getElem?_map] at hx
  cases hq : l[i]? with
  | none => rw [hq] at hx; cases hx
  | some y =>
    rw [hq] at hx
    simp only [Option.map_some, Option.some.injEq] at hx
    have hi := (List.getElem?_eq_some_iff.1 hq).1
    rw [Nat.zero_add, h.cell (by omega), List.getD_eq_getElem?_getD, hq, ← hx]; rfl
theorem asg_best {Ls : List (List Int)} {n : Nat} : BestA (feeQ Ls) n [] (asgR (feeQ Ls) n n []).1 ∧ costA (feeQ Ls) 0 (asgR (feeQ Ls) n n []).1 = (asgR (feeQ Ls) n n []).2 := by
  obtain ⟨h1, h2⟩ := asgR_ok (fee := feeQ Ls) (n := n) n [] (by simp) (by simp) (by simp)
  exact ⟨h1, by rw [h2]; simp [costA]⟩
set_option maxRecDepth 100000 in
set_option maxHeartbeats 4000000 in
theorem feeAssigns_any (A : Option Addr) (n c : Nat) (Ls : List (List Int)) (w : World) (S : SideAt w w.heap.size A n c Ls) (hT : Tab w) :
    Calls Tryd.prog 3 #[.slice A n c] w fun e w' => e = .returned (.bool true) ∧ Below w.heap.size w w' := by
  obtain ⟨x, hx⟩ : ∃ x, feesF Ls = x := ⟨_, rfl⟩
  have HS := Lib.hid S
  have HF := Lib.hid hx
  by_cases h0 : x = 0
  · subst h0
    have HA := Lib.hid (assign_good A n c Ls w S hx hT)
    have hlen : (asgR (feeQ Ls) n n []).1.length = n := asg_best.1.ext.len
    have hn8 := (feesF_zero hx).1
    rw [S.len] at hn8
    have HL := Lib.hid hlen
    clear S hx hT hlen
    go_enter Tryd.func3, Tryd.ntmps3
    go_wp2_with fail
    refine HA.out.mono ?_
    rintro e w1 ⟨g, rfl, hrow, hb1⟩
    have HR1 := Lib.hid hrow
    have HB1 := Lib.hid hb1
    clear HA hrow hb1
    go_wp2_with fail
    refine ((feesCheck_any A n c Ls w1 (HS.out.go_ HB1.out)).mono (R' := fun e w' => e = .returned (.int .i64 0) ∧ w' = w1) (fun e w' h => by rw [HF.out] at h; exact h)).mono ?_
    rintro e w2 ⟨rfl, rfl⟩
    go_wp2_with fail
    refine (refAssign_any A n c Ls _ (by exact HS.out.go_ HB1.out) HF.out).mono ?_
    rintro e w3 ⟨A', c', rfl, ha3, hb3⟩
    have HA3 := Lib.hid ha3
    have HB3 : Hid (Below w.heap.size w w3) := Lib.hid (HB1.out.trans (hb3.mono HB1.out.size))
    have HR3 : Hid (IntsAt w3 w3.heap.size (some ⟨g, 0, none⟩) n (intsOf (asgR (feeQ Ls) n n []).1)) := Lib.hid (RowC.intsOf (HR1.out.of_block (hb3.block _ HR1.out.lt)) HL.out)
    clear ha3 hb3
    generalize (asgR (feeQ Ls) n n []).2 = z
    go_wp2_with (go_at_call 9; refine (ints_v _ _ n n _ _ _ _ true _ HR3.out HA3.out.ints (by omega) (by omega) (by simp)).mono ?_; rintro e w4 ⟨rfl, q4, rfl⟩)
    go_ret
    exact ⟨rfl, below_drewN HB3.out _⟩
  · have HA := Lib.hid (assign_bad A n c Ls x w S hx h0)
    have hx0 : (x != 0) = true := by simpa using h0
    clear S hx hT h0
    go_enter Tryd.func3, Tryd.ntmps3
    go_wp2_with fail
    refine HA.out.mono ?_
    rintro e w1 ⟨rfl, hb1⟩
    have HB1 := Lib.hid hb1
    clear HA hb1
    go_wp2_with fail
    refine ((feesCheck_any A n c Ls w1 (HS.out.go_ HB1.out)).mono (R' := fun e w' => e = .returned (.int .i64 x) ∧ w' = w1) (fun e w' h => by rw [HF.out] at h; exact h)).mono ?_
    rintro e w2 ⟨rfl, rfl⟩
    go_wp2_with fail
    go_ret
    exact ⟨rfl, HB1.out⟩
end Go.Proofs.YtmlmnmphmghdlaaDoor
