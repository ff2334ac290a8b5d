/- BELLMAN: no arc makes a shorter way than is told; each that is told is made by some arc. Plain facts, of no program. -/
import Derived.Test.YtkpejmpnbdblbaaShortP
namespace Go.Proofs.Ytkpejmpnbdblbaa

section
variable {N : ArcsF} {s t k r : Nat} {l : List Nat} {M : Int}
theorem bell_start (hM : ∀ k, k < N.K → -M ≤ N.fee k ∧ N.fee k ≤ M) (hM0 : 0 ≤ M) (hN : N.ok) (hs : s < N.n) (hK : N.K ≤ 64) (hS : ¬ SinksP N s) (hr : N.n ≤ r + 1) : ∃ l, runD N s r s = some l ∧ lenL N l = 0 := by
  obtain ⟨l, hl⟩ := (OkD.run (N := N) hN hs r).2
  refine ⟨l, hl, ?_⟩
  have hb := ((run_all hM hM0 hN hs hK hS hr).1 s).1 l hl
  have h1 := LessW.len_le (hb.2 [] rfl)
  have h2 : ¬ lenL N l < 0 := fun h => hS ⟨s, _, _, ⟨0, 0, .nil N s⟩, hb.1.walk, h⟩
  simp only [lenL] at h1
  omega
theorem bell_arc (hM : ∀ k, k < N.K → -M ≤ N.fee k ∧ N.fee k ≤ M) (hM0 : 0 ≤ M) (hN : N.ok) (hs : s < N.n) (hK : N.K ≤ 64) (hS : ¬ SinksP N s) (hr : N.n ≤ r + 1) (hk : k < N.K) (h : runD N s r (N.fr k) = some l) : ∃ q, runD N s r (N.to k) = some q ∧ lenL N q ≤ lenL N l + N.fee k := by
  have hp := (((run_all hM hM0 hN hs hK hS hr).1 _).1 l h).1.snoc hk
  cases ht : runD N s r (N.to k) with
  | none => exact absurd hp (((run_all hM hM0 hN hs hK hS hr).1 _).2 ht _)
  | some q =>
    have h1 := LessW.len_le ((((run_all hM hM0 hN hs hK hS hr).1 _).1 q ht).2 _ hp)
    rw [lenL_snoc] at h1
    exact ⟨q, rfl, h1⟩
theorem bell_made (hM : ∀ k, k < N.K → -M ≤ N.fee k ∧ N.fee k ≤ M) (hM0 : 0 ≤ M) (hN : N.ok) (hs : s < N.n) (hK : N.K ≤ 64) (hS : ¬ SinksP N s) (hr : N.n ≤ r + 1) (h : runD N s r t = some l) (hne : t ≠ s) : ∃ k q, k < N.K ∧ N.to k = t ∧ runD N s r (N.fr k) = some q ∧ lenL N l = lenL N q + N.fee k := by
  have hall := run_all hM hM0 hN hs hK hS hr
  have hb := (hall.1 t).1 l h
  rcases List.eq_nil_or_concat l with rfl | ⟨q, k, rfl⟩
  · exact absurd (show s = t from hb.1).symm hne
  · rw [List.concat_eq_append] at hb ⊢
    obtain ⟨h1, h2, h3⟩ := hb.before
    refine ⟨k, q, h2, h3, ?_, lenL_snoc⟩
    cases hd : runD N s r (N.fr k) with
    | none => exact absurd h1.1 ((hall.1 _).2 hd q)
    | some q' => rw [BestW.one hK ((hall.1 _).1 q' hd) h1]
end
end Go.Proofs.Ytkpejmpnbdblbaa
