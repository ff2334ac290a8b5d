/- Jobs that came in, opened. -/
import Derived.Test.YthjhndbhebnmjaaOpenSet
import Derived.Test.YthjhndbhebnmjaaJobs
namespace Go.Proofs.Ythjhndbhebnmjaa
open Go.ChangeShapes Go.WideShapes Go.ChangeAt Go.RowKit Go.Joins Go.Deep

set_option maxRecDepth 100000 in
theorem recJobs : Try.prog.readableRec 22 = true := by kernel_rfl
set_option maxRecDepth 100000 in
theorem rowJobs : (22 : TypeId) < Try.prog.types.size := of_decide_eq_true (by kernel_rfl)
set_option maxRecDepth 100000 in
theorem cellsJob : Try.prog.cellsOf 40 = 4 := by kernel_rfl
set_option maxRecDepth 100000 in
theorem cellsI64j : Try.prog.cellsOf 2 = 1 := by kernel_rfl
set_option maxRecDepth 100000 in
theorem cellsIntsj : Try.prog.cellsOf 23 = 1 := by kernel_rfl
section
variable {H : Type} {enc : TypeId × Value → H} {W : World} {base : Nat} {spare : Nat → Bool} {held : Bool}
def WfJ (j : JobV) : Prop := (Lit.int .i64 j.time).wf = true
set_option maxRecDepth 100000 in
theorem intsj_of {n : Nat} {v : Value} {x : DataW H × List MemPlace} (h : DataW.trod enc Try.prog W base spare held n 23 [v] = some x) :
    ∃ (A : Option Addr) (cap : Nat) (xs : List Int), v = .slice A xs.length cap ∧ IntsAt W W.heap.size A xs.length xs ∧ xs.length ≤ cap ∧ cap ≤ maxLen := by
  rcases open_ints Try.underlying23 Try.underlying3 cellsInt h with ⟨hcs, _⟩ | ⟨a, len, cap, zs, hcs, _, hl, hm, hz, _, hcell, _⟩
  · simp only [List.cons.injEq, and_true] at hcs
    subst hcs
    exact ⟨none, 0, [], rfl, IntsAt.nil_ _ _ _, Nat.le_refl _, Nat.zero_le _⟩
  · simp only [List.cons.injEq, and_true] at hcs
    subst hcs
    have hzl : len ≤ zs.length := by rw [hz]; split <;> omega
    have hlen : (zs.take len).length = len := by rw [List.length_take]; omega
    refine ⟨some a, cap, zs.take len, by rw [hlen], ⟨rfl, fun hn => ?_⟩, by omega, hm⟩
    rw [hlen] at hn
    have hz0 := hcell 0 (by omega)
    obtain ⟨b, off, spot⟩ := a
    have hspot : spot = none := by simpa [Addr.add] using World.cell?_spot hz0
    subst hspot
    have hb : b < W.heap.size := by
      rcases Nat.lt_or_ge b W.heap.size with h | h
      · exact h
      · simp [World.cell?, Addr.add, Array.getElem?_eq_none h] at hz0
    refine ⟨b, off, rfl, hb, fun i x hx => ?_⟩
    obtain ⟨h1, h2⟩ := List.getElem?_eq_some_iff.1 hx
    rw [List.length_take] at h1
    rw [List.getElem_take] at h2
    have := hcell i (by omega)
    rw [add_plain, List.getD_eq_getElem?_getD, List.getElem?_eq_getElem (by omega), Option.getD_some, h2] at this
    exact this
set_option maxRecDepth 100000 in
theorem job_of {n : Nat} {cs : List Value} {x : DataW H × List MemPlace} (h : DataW.trod enc Try.prog W base spare held n 40 cs = some x) :
    ∃ (j : JobV) (A' : Option Addr) (c' : Nat), cs = [.int .i64 j.time, .slice A' j.aft.length c', .int .i64 j.due, .int .i64 j.worth] ∧ IntsAt W W.heap.size A' j.aft.length j.aft ∧ j.aft.length ≤ c' ∧ c' ≤ maxLen ∧ WfJ j := by
  obtain ⟨y0, y1, y2, y3, m, _, hlen, h0, h1, h2, h3⟩ := trod_struct4 Try.underlying40 h
  rw [cellsJob] at hlen
  match cs, hlen with
  | [c0, c1, c2, c3], _ =>
    simp only [cellsIntsj, cellsI64j, List.drop_zero, List.take_succ_cons, List.take_zero, List.drop_succ_cons] at h0 h1 h2 h3
    obtain ⟨a, e0, _, wa⟩ := DataW.trod_int Try.underlying2 h0
    obtain ⟨A', c', xs, rfl, g1, g2, g3⟩ := intsj_of h1
    obtain ⟨c, e2, _, _⟩ := DataW.trod_int Try.underlying2 h2
    obtain ⟨d, e3, _, _⟩ := DataW.trod_int Try.underlying2 h3
    simp only [List.cons.injEq, and_true] at e0 e2 e3
    subst e0 e2 e3
    exact ⟨⟨a, xs, c, d⟩, A', c', rfl, g1, g2, g3, wa⟩
set_option maxRecDepth 100000 in
theorem jobs_of {n : Nat} {v : Value} {x : DataW H × List MemPlace} (h : DataW.trod enc Try.prog W base spare held n 22 [v] = some x) :
    ∃ (A : Option Addr) (len cap : Nat) (js : List JobV), v = .slice A len cap ∧ JobsAt W W.heap.size A len js ∧ len ≤ cap ∧ cap ≤ maxLen ∧ ∀ j ∈ js, WfJ j := by
  rcases open_slice Try.underlying22 h with ⟨h0, _⟩ | ⟨a, len, cap, m, k, D, Pl, hcs, _, hl, hcm, hmm, _, hi⟩
  · simp only [List.cons.injEq, and_true] at h0
    subst h0
    exact ⟨none, 0, 0, [], rfl, ⟨rfl, fun h => absurd h (by omega)⟩, Nat.le_refl _, Nat.zero_le _, by simp⟩
  · simp only [List.cons.injEq, and_true] at hcs
    subst hcs
    have hlm : len ≤ m := by rw [hmm]; split <;> omega
    have hall : ∀ i, ∃ j : JobV, i < len → ∃ A' c', (∀ q, q < 4 → W.cell? (a.add (i * 4 + q)) = [Value.int .i64 j.time, .slice A' j.aft.length c', .int .i64 j.due, .int .i64 j.worth][q]?) ∧ IntsAt W W.heap.size A' j.aft.length j.aft ∧ j.aft.length ≤ c' ∧ c' ≤ maxLen ∧ WfJ j := fun i => by
      by_cases hlt : i < len
      · obtain ⟨cs', hc, ht⟩ := hi i (by omega)
        obtain ⟨j, A', c', rfl, h1, h2, h3, h4⟩ := job_of ht
        rw [cellsJob] at hc
        obtain ⟨_, _, hat⟩ := World.cells?_some hc
        exact ⟨j, fun _ => ⟨A', c', fun q hq => by rw [← Go.Deep.add_add]; exact hat q hq, h1, h2, h3, h4⟩⟩
      · exact ⟨⟨0, [], 0, 0⟩, fun h => absurd h hlt⟩
    obtain ⟨f, hf⟩ := Classical.axiomOfChoice hall
    refine ⟨some a, len, cap, (List.range len).map f, rfl, ⟨by simp, fun hn => ?_⟩, hl, hcm, fun j hj => ?_⟩
    · obtain ⟨_, _, hz', _⟩ := hf 0 hn
      have hz := hz' 0 (by omega)
      simp only [Nat.zero_mul, Nat.add_zero, List.getElem?_cons_zero] at hz
      obtain ⟨b, off, spot⟩ := a
      have hspot : spot = none := by simpa [Addr.add] using World.cell?_spot hz
      subst hspot
      have hb : b < W.heap.size := by
        rcases Nat.lt_or_ge b W.heap.size with h | h
        · exact h
        · simp [World.cell?, Addr.add, Array.getElem?_eq_none h] at hz
      refine ⟨b, off, rfl, hb, fun i j hij => ?_⟩
      obtain ⟨hil, hie⟩ := List.getElem?_eq_some_iff.1 hij
      simp only [List.length_map, List.length_range] at hil
      simp only [List.getElem_map, List.getElem_range] at hie
      subst hie
      obtain ⟨A', c', hc, h2, h3, h4, _⟩ := hf i hil
      refine ⟨A', c', ⟨?_, ?_, ?_, ?_⟩, h2, h3, h4⟩
      · have := hc 0 (by omega); rw [Go.WideShapes.add_plain] at this; simpa using this
      · have := hc 1 (by omega); rw [Go.WideShapes.add_plain] at this; simpa [Nat.add_assoc] using this
      · have := hc 2 (by omega); rw [Go.WideShapes.add_plain] at this; simpa [Nat.add_assoc] using this
      · have := hc 3 (by omega); rw [Go.WideShapes.add_plain] at this; simpa [Nat.add_assoc] using this
    · simp only [List.mem_map, List.mem_range] at hj
      obtain ⟨i, hi', rfl⟩ := hj
      obtain ⟨_, _, _, _, _, _, h⟩ := hf i hi'
      exact h
set_option maxRecDepth 100000 in
theorem open_jobs {r : Reach} {b0 : Nat} {v : Value} {d : DataW H} {p : List MemPlace} (hv : Value.okWide Try.prog W r b0 22 v) (h : DataW.Trod enc Try.prog W base spare held 22 v d p) :
    ∃ (A : Option Addr) (len cap : Nat) (js : List JobV), v = .slice A len cap ∧ JobsAt W W.heap.size A len js ∧ len ≤ cap ∧ cap ≤ maxLen ∧ ∀ j ∈ js, WfJ j := by
  obtain ⟨A, len, cap, rfl⟩ := okWide_slice Try.underlying22 hv
  obtain ⟨fuel, hf⟩ := h
  have hf' : DataW.trod enc Try.prog W base spare held fuel 22 [.slice A len cap] = some (d, p) := by simpa [Value.cells] using hf
  exact jobs_of hf'
end
end Go.Proofs.Ythjhndbhebnmjaa
