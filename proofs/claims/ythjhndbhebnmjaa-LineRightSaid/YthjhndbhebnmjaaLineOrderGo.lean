/- line.Order: what it tells. No conditions. -/
import Derived.Test.YthjhndbhebnmjaaLineUp
namespace Go.Proofs.Ythjhndbhebnmjaa
open Go.RowKit

set_option maxRecDepth 100000 in
set_option maxHeartbeats 1000000 in
theorem lineOrder_any (A : Option Addr) (n c : Nat) (js : List JobV) (w : World) (S : JobsAt w w.heap.size A n js) :
    Calls Try.prog 7 #[.slice A n c] w (OrdTop w n js) := by
  have HU := Lib.hid (lineUp_any A n c js w S)
  obtain ⟨x, hx⟩ : ∃ x, ordX js = x := ⟨_, rfl⟩
  have HX := Lib.hid hx
  clear S hx
  by_cases h0 : x = 0
  · subst h0
    go_enter Try.func7, Try.ntmps7
    go_wp2_with fail
    refine HU.out.mono ?_
    rintro e w1 ⟨_, h2, hB⟩
    obtain ⟨l, A', c', g, v, a1, rfl, a3, a4, _, _⟩ := h2 HX.out
    have HRET : Hid (∀ e, e = Ending.returned (.tuple #[.slice A' n c', .int .i64 0]) → OrdTop w n js e w1) := Lib.hid fun e he =>
      ⟨fun h => absurd HX.out h, fun _ l' hl' => ⟨A', c', he, by rw [a1] at hl'; injection hl' with hl'; rw [← hl']; exact a3, a4⟩, hB⟩
    clear h2 hB a1 a3 a4 HU
    go_wp2_with fail
    go_ret2
    exact HRET.out _ rfl
  · have HRET : Hid (∀ W, Below w.heap.size w W → ∀ e, e = Ending.returned (.tuple #[.slice none 0 0, .int .i64 x]) → OrdTop w n js e W) := Lib.hid fun W hb e he => ⟨fun _ => by rw [HX.out]; exact he, fun h => absurd (HX.out.symm.trans h) h0, hb⟩
    have HH := Lib.hid h0
    clear h0
    go_enter Try.func7, Try.ntmps7
    go_wp2_with fail
    refine HU.out.mono ?_
    rintro e w1 ⟨h1, _, hB⟩
    obtain rfl := h1 (by rw [HX.out]; exact HH.out)
    rw [HX.out]
    have HB1 := Lib.hid hB
    clear h1 hB HU
    go_wp2_with fail
    go_ret2
    exact HRET.out _ HB1.out _ rfl
end Go.Proofs.Ythjhndbhebnmjaa
