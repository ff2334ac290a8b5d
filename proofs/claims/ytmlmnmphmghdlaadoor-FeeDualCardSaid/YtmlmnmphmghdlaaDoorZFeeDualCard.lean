/- The card FeeDualCardSaid, out of the law's walk: the table of math/bits is tied to the program's text. No conditions. -/
import Derived.Test.YtmlmnmphmghdlaaDoorFeeDual
import Derived.Test.YtmlmnmphmghdlaaDoorLaid
import Derived.Test.YtmlmnmphmghdlaaDoorOpenSet
import Derived.Test.YtmlmnmphmghdlaaDoorOpenFees
namespace Go.Proofs.YtmlmnmphmghdlaaDoor
open Go.ChangeShapes Go.WideShapes Go.ChangeAt Go.RowKit

set_option maxRecDepth 100000 in
theorem feeDual_lifted (os : Os) (started : os.Started) (H : Type) (enc : TypeId × Value → H) :
    ReturnsInHanded {} Tryd.checked os 4 .any (fun w args => (Rows.feeDualSpec.pre enc Tryd.prog Tryd.f4 [] false w args ∧ laidMetH Tryd.prog laidL w) ∧ sizedMet enc Tryd.prog Tryd.f4 (OpenSpec.ofChange Rows.feeDualSpec) false w args)
      (Rows.feeDualSpec.post enc Tryd.prog Tryd.f4 false true false false) := by
  refine returnsInHanded_of_change_and (C := Tryd.checked) (X := fun w _ => laidMetH Tryd.prog laidL w) (fun _ _ _ hh h => h.of_heap hh) ownK started (by kernel_rfl) Tryd.func4
    (ChangeSpec.witness_shaped (enc := enc) (C := Tryd.checked) (os := os) (X := fun w _ => laidMetH Tryd.prog laidL w) false (World.doorLaid Tryd.prog 400 os) #[.slice none 0 0, .slice none 0 0, .slice none 0 0] 8 rfl (World.shaped_of_RefB (by kernel_rfl) (by kernel_rfl)) (by kernel_rfl) (by kernel_rfl) (by kernel_rfl) (door_met os _)) ?_
  intro W base args ds gs before hval0 hW _ _ hL _
  have hval : ∀ (j : Nat) t v, Tryd.f4.params[j]? = some t → args[j]? = some v → Value.okWide Tryd.prog W .any base t v := hval0
  have hW' := hW
  obtain ⟨p, q, hA0, hV, rfl, _, _⟩ := hW
  have hA : DataW.TrodAll enc Tryd.prog W 0 (fun _ => true) true Tryd.f4.params.toList args.toList ds p := hA0
  rw [Tryd.params4] at hA hval
  obtain ⟨v0, v1, v2, d0, d1, d2, p0, p1, p2, rfl, rfl, rfl, h0, h1, h2⟩ := trodAll_three hA
  obtain ⟨rfl, rfl⟩ := trodVars_none hV
  obtain ⟨A0, n0, c0, Ls0, rfl, hS0⟩ := open_fees (hval 0 22 v0 rfl rfl) h0
  obtain ⟨A1, len1, cap1, xs1, rfl, hI1, hcap1, hm1⟩ := open_i64s (hval 1 32 v1 rfl rfl) h1
  obtain ⟨A2, len2, cap2, xs2, rfl, hI2, hcap2, hm2⟩ := open_i64s (hval 2 32 v2 rfl rfl) h2
  clear hA0 hval0
  simp only [List.append_nil] at hW'
  refine (feeDual_any A0 n0 c0 Ls0 A1 len1 cap1 xs1 A2 len2 cap2 xs2 W hS0 hI1 hcap1 hm1 hI2 hcap2 hm2 (tab_of_laid hL)).mono fun e W' ⟨he, hb⟩ => ?_
  subst he
  exact ⟨_, rfl, _, _, _, [], (p0 ++ (p1 ++ (p2))), [], hW', trodAll_mk1 (shut_bool Tryd.underlying4 _), (by have h := trodAll_mk3 (Below.trod laidOutO recFees rowFees h0 hb (fun x hx => hW'.lt x (by simp [hx]))) (Below.trod laidOutO recI64s rowI64s h1 hb (fun x hx => hW'.lt x (by simp [hx]))) (Below.trod laidOutO recI64s rowI64s h2 hb (fun x hx => hW'.lt x (by simp [hx]))); first | exact h | (simp only [List.append_nil] at h; exact h)), rfl, hb.frame _, fun h => by cases h⟩

theorem feeDual_holds : Rows.FeeDualSaid :=
  OpenClaim.holds_of_wide 4 Tryd.f4 rfl rfl rfl rfl rfl rfl rfl ⟨rfl, rfl, rfl, rfl, rfl⟩ rfl rfl rfl rfl rfl (by kernel_rfl) Tryd.func4 (by kernel_rfl)
    (of_decide_eq_true (by kernel_rfl)) (by unfold Func.isWrapper; first | (rw [if_pos (by decide +kernel)]; kernel_rfl) | (rw [if_neg (by decide +kernel)]; exact ⟨rfl, rfl⟩))
    (fun os started H enc _ => feeDual_lifted os started H enc)

theorem feeDual_card : Rows.FeeDualCardSaid :=
  Claim7.holds_tied_plain_at .later [] [.data] true Rows.feeDualCard.stood.harness false
    feeDual_holds (fun _ h => by cases h) (by kernel_rfl) (fun _ h => by cases h) feeDual_row_tie rfl ⟨rfl, rfl⟩ (by kernel_rfl) rfl
    (fun f fn hf hfn => by
      obtain rfl : f = 4 := Option.some.inj ((show Tryd.prog.funcNamed "teamster/teamsterkeep.FeeDual" = some 4 by kernel_rfl).symm.trans hf) |>.symm
      obtain rfl : fn = Tryd.f4 := (Option.some.inj (Tryd.func4.symm.trans hfn)).symm
      exact ⟨by kernel_rfl, fun j t ht => by
        rw [Tryd.params4] at ht
        have hm : t ∈ [22, 32, 32] := by simpa using Array.mem_of_getElem? ht
        have hall : ([22, 32, 32].all fun u => !Tryd.prog.wantsStandIn u) = true := by kernel_rfl
        exact (show Tryd.prog.wantsStandIn t = false by simpa using List.all_eq_true.1 hall t hm)⟩)
    (by kernel_rfl)
#print axioms feeDual_card
end Go.Proofs.YtmlmnmphmghdlaaDoor
