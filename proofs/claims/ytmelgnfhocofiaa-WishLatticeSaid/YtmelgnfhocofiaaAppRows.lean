/- append(out, l...) of lists of lists, in a region that draws. No conditions. -/
import Derived.Test.YtmelgnfhocofiaaAppStep
namespace Go.Proofs.Ytmelgnfhocofiaa
open Go.RowKit

section
variable {ops : Array Oper} {o : Oper} {a : Act} {w : World} {K : Act → World → Prop} {Q : Exit → Act → World → Prop} {E : Prop}
set_option maxRecDepth 100000 in
/-- append(out, l...) of lists. -/
theorem step_app_rows (hinfo : (Try.prog.info? 28).map (fun i => (i.zero, i.size, i.bytes)) = some (some (.slice none 0 0), 1, 24)) (hgd : o.guard = none) (s x : Operand) (ho : o.op = .call { callee := .builtin .append, args := #[s, x], argTypes := #[22, 22] })
    (base base2 n cnt cnt2 c c2 : Nat) (A A2 : Option Addr) (us us2 : List Value) (xss xss2 : List (List Int)) (hs : a.eval s = .slice A cnt c) (hx : a.eval x = .slice A2 cnt2 c2) (hc1 : cnt = xss.length) (hc2 : cnt2 = xss2.length) (h1 : RowsV w base n (.slice A cnt c) us xss) (h2 : RowsV w base2 n (.slice A2 cnt2 c2) us2 xss2) (hm : cnt + cnt2 ≤ 1000000000) (hb : base ≤ w.heap.size)
    (h : ∀ A' c' w', RowsV w' base n (.slice A' (cnt + cnt2) c') (us ++ us2) (xss ++ xss2) → w.grownBy w' (Value.slice A cnt c).ownBlock → K (a.put o.dst (.slice A' (cnt + cnt2) c')) w') :
    if Region.wanted o (yielded ops a.tmps) = true then Oper.wp Try.prog o a w K Q else E := by
  obtain ⟨i0, hi0, hz0, hz1, hz2⟩ := info_parts hinfo
  obtain ⟨q1, q2, q3, q4⟩ := h2.cells
  refine step_app hgd s x 22 ho base 28 i0 (.slice none 0 0) 24 Try.underlying22 hi0 hz0 hz1 hz2 rfl _ cnt us hs (by rw [hc1]; rw [hc1] at h1; exact h1.own) A2 cnt2 c2 us2 hx (by rw [hc2]; exact q1) (by rw [hc2]; exact q2) q3 q4 (by unfold maxLen; omega) (by omega) hb ?_
  intro A' c' w' ho2 hgr
  exact h A' c' w' (h1.app h2 hgr (by rw [← hc1, ← hc2]; exact ho2)) hgr
end
end Go.Proofs.Ytmelgnfhocofiaa
