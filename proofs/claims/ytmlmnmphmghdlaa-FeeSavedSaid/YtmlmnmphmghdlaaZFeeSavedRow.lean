/- The statement FeeSavedSaid, out of the law's walk. No conditions. -/
import Derived.Test.YtmlmnmphmghdlaaFeeSaved
import Derived.Test.YtmlmnmphmghdlaaFive
import Derived.Test.YtmlmnmphmghdlaaOpenSet
import Derived.Test.YtmlmnmphmghdlaaOpenNet
namespace Go.Proofs.Ytmlmnmphmghdlaa
open Go.ChangeShapes Go.WideShapes Go.ChangeAt Go.RowKit

set_option maxRecDepth 100000 in
theorem feeSaved_lifted (os : Os) (started : os.Started) (H : Type) (enc : TypeId × Value → H) :
    ReturnsInHanded {} Try.checked os 6 .any (Rows.feeSavedSpec.pre6 enc Try.prog Try.f6 Rows.feeSavedRow.domain false) (Rows.feeSavedSpec.post enc Try.prog Try.f6 false true false false) := by
  refine returnsInHanded_of_change (C := Try.checked) ownK started (by kernel_rfl) Try.func6
    (ChangeSpec.witness6 (enc := enc) (C := Try.checked) false ⟨#[], #[.agg #[.int .i64 0, .slice none 0 0], .int .i64 0, .int .i64 0, .int .i64 0, .slice none 0 0], []⟩ 8 (by kernel_rfl) (by kernel_rfl) (by kernel_rfl) (by kernel_rfl)) ?_
  intro W base args ds gs before hval0 hW _ _
  have hval : ∀ (j : Nat) t v, Try.f6.params[j]? = some t → args[j]? = some v → Value.okWide Try.prog W .any base t v := hval0
  have hW' := hW
  obtain ⟨p, q, hA0, hV, rfl, _, _⟩ := hW
  have hA : DataW.TrodAll enc Try.prog W 0 (fun _ => true) true Try.f6.params.toList args.toList ds p := hA0
  rw [Try.params6] at hA hval
  obtain ⟨v0, v1, v2, v3, v4, d0, d1, d2, d3, d4, p0, p1, p2, p3, p4, rfl, rfl, rfl, h0, h1, h2, h3, h4⟩ := trodAll_five hA
  obtain ⟨rfl, rfl⟩ := trodVars_none hV
  obtain ⟨n0, A0, len0, cap0, es0, rfl, hE0, hcap0, hwf0, hwn0⟩ := open_net (hval 0 24 v0 rfl rfl) h0
  obtain ⟨x1, rfl, rfl, rfl, wx1⟩ := open_int Try.underlying3 (hval 1 3 v1 rfl rfl) h1
  obtain ⟨x2, rfl, rfl, rfl, wx2⟩ := open_int Try.underlying3 (hval 2 3 v2 rfl rfl) h2
  obtain ⟨x3, rfl, rfl, rfl, wx3⟩ := open_int Try.underlying2 (hval 3 2 v3 rfl rfl) h3
  obtain ⟨A4, len4, cap4, xs4, rfl, hI4, hcap4, hm4⟩ := open_i64s (hval 4 25 v4 rfl rfl) h4
  clear hA0 hval0
  simp only [List.append_nil] at hW'
  refine (feeSaved_any n0 A0 len0 cap0 es0 x1 x2 x3 A4 len4 cap4 xs4 W hE0 hcap0 hwf0 hwn0 wx1 wx2 wx3 hI4 hcap4 hm4).mono fun e W' ⟨he, hb⟩ => ?_
  subst he
  exact ⟨_, rfl, _, _, _, [], (p0 ++ p4), [], hW', trodAll_mk1 (shut_bool Try.underlying4 _), (by have h := trodAll_mk5 (Below.trod laidOutO recNet rowNet h0 hb (fun x hx => hW'.lt x (List.mem_append_left _ hx))) (shut_int Try.underlying3 wx1) (shut_int Try.underlying3 wx2) (shut_int Try.underlying2 wx3) (Below.trod laidOutO recI64s rowI64s h4 hb (fun x hx => hW'.lt x (List.mem_append_right _ hx))); first | exact h | (simp only [List.append_nil, List.nil_append] at h; exact h)), rfl, hb.frame _, fun h => by cases h⟩

theorem feeSaved_holds : Rows.FeeSavedSaid :=
  OpenClaim.holds_of_wide 6 Try.f6 rfl rfl rfl rfl rfl rfl rfl ⟨rfl, rfl, rfl, rfl, rfl⟩ rfl rfl rfl rfl rfl (by kernel_rfl) Try.func6 (by kernel_rfl)
    (of_decide_eq_true (by kernel_rfl)) (by unfold Func.isWrapper; first | (rw [if_pos (by decide +kernel)]; kernel_rfl) | (rw [if_neg (by decide +kernel)]; exact ⟨rfl, rfl⟩))
    (fun os started H enc _ => feeSaved_lifted os started H enc)
#print axioms feeSaved_holds
end Go.Proofs.Ytmlmnmphmghdlaa
