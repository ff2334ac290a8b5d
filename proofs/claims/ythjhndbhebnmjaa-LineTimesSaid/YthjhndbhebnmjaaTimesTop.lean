/- What Times is to tell. -/
import Derived.Test.YthjhndbhebnmjaaLineTop
import Derived.Test.YthjhndbhebnmjaaRefTimes
namespace Go.Proofs.Ythjhndbhebnmjaa
open Go.RowKit

def earlyV (js : List JobV) : Nat → Int := eFuel (jobsP js) js.length
def tailV (js : List JobV) : Nat → Int := tFuel (jobsP js) js.length
def endV (js : List JobV) : Int := endP (jobsP js) (earlyV js)
def lateV (js : List JobV) (i : Nat) : Int := endV js - tailV js i
def TimesTop (w : World) (n : Nat) (js : List JobV) (e : Ending) (w' : World) : Prop :=
  (ordX js ≠ 0 → e = .returned (.tuple #[.slice none 0 0, .slice none 0 0, .int .i64 0, .int .i64 (ordX js)])) ∧ (ordX js = 0 → ∃ A1 c1 A2 c2, e = .returned (.tuple #[.slice A1 n c1, .slice A2 n c2, .int .i64 (endV js), .int .i64 0]) ∧ IntsAt w' w'.heap.size A1 n ((List.range n).map (earlyV js)) ∧ IntsAt w' w'.heap.size A2 n ((List.range n).map (lateV js))) ∧ Below w.heap.size w w'
section
variable {js : List JobV}
theorem job_mem {i : Nat} (hi : i < js.length) : js.getD i jobD ∈ js := by
  rw [List.getD_eq_getElem?_getD, List.getElem?_eq_getElem hi]
  exact List.getElem_mem _
theorem rank_ex (h : jobsF js = 0) {l : List Nat} (hl : ordF js js.length [] = some l) : ∃ rk, RankP (jobsP js) rk := by
  obtain ⟨_, h2⟩ := jobsF_zero h
  obtain ⟨h3, h4⟩ := ord_ok (fun j hj => (h2 j hj).2.2.2) js.length [] l (OrderP.nil _) hl
  have h5 : l.length = js.length := by rw [h4]; simp
  exact ⟨_, h3.rank (ord_all h3 h5) (fun i hi => (h2 _ (job_mem hi)).2.1) (by rw [h5]; exact Nat.le_refl _)⟩
theorem early_is {rk : Nat → Nat} (R : RankP (jobsP js) rk) : IsE (jobsP js) (earlyV js) := e_ex R
theorem tail_is {rk : Nat → Nat} (R : RankP (jobsP js) rk) : IsT (jobsP js) (tailV js) := t_ex R
end
end Go.Proofs.Ythjhndbhebnmjaa
