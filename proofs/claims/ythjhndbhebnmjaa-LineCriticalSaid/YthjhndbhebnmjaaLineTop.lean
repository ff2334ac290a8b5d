/- What Order and Times are to tell. -/
import Derived.Test.YthjhndbhebnmjaaRefOrder
namespace Go.Proofs.Ythjhndbhebnmjaa
open Go.RowKit

open Classical in
/-- What is wrong with jobs, or that there is no order of them. -/
noncomputable def ordX (js : List JobV) : Int := if jobsF js = 0 then (if ordF js js.length [] = none then 5 else 0) else jobsF js
def OrdTop (w : World) (n : Nat) (js : List JobV) (e : Ending) (w' : World) : Prop :=
  (ordX js ≠ 0 → e = .returned (.tuple #[.slice none 0 0, .int .i64 (ordX js)])) ∧ (ordX js = 0 → ∀ l, ordF js js.length [] = some l → ∃ A' c', e = .returned (.tuple #[.slice A' n c', .int .i64 0]) ∧ IntsAt w' w'.heap.size A' n (natI l) ∧ n ≤ c') ∧ Below w.heap.size w w'
theorem ordX_zero {js : List JobV} (h : ordX js = 0) : jobsF js = 0 ∧ ∃ l, ordF js js.length [] = some l := by
  unfold ordX at h
  split at h
  · rename_i h0
    refine ⟨h0, ?_⟩
    split at h
    · cases h
    · rename_i h1
      exact Option.ne_none_iff_exists'.1 h1
  · contradiction
theorem jobsCheck_v (A : Option Addr) (n c : Nat) (js : List JobV) (v : Int) (w : World) (S : JobsAt w w.heap.size A n js) (hv : jobsF js = v) :
    Calls Try.prog 8 #[.slice A n c] w fun e w' => e = .returned (.int .i64 v) ∧ Below w.heap.size w w' := by
  subst hv; exact jobsCheck_any A n c js w S
end Go.Proofs.Ythjhndbhebnmjaa
