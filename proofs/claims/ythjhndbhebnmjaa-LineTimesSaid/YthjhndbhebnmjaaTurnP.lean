/- Rounds that make it later when jobs may begin: job by job, one by one of those ahead. Plain facts, of no program. -/
import Derived.Test.YthjhndbhebnmjaaOrdP
namespace Go.Proofs.Ythjhndbhebnmjaa

/-- In round r, so many jobs were gone through, and of the next one so many of those ahead of it. -/
structure TurnI (js : List JobV) (rk : Nat → Nat) (E : Nat → Int) (r i t : Nat) (x : Nat → Int) : Prop where
  early : EarlyI (jobsP js) rk E r x
  done : ∀ i' k, i' < i → rk i' = r → k < js.length → hasI (js.getD i' jobD).aft (k : Int) = true → E k + (js.getD k jobD).time ≤ x i'
  part : ∀ t' k : Nat, t' < t → (js.getD i jobD).aft[t']? = some (k : Int) → rk i = r → E k + (js.getD k jobD).time ≤ x i
section
variable {js : List JobV} {rk : Nat → Nat} {E x : Nat → Int} {r i t k : Nat}
theorem TurnI.start (h : EarlyI (jobsP js) rk E r x) : TurnI js rk E r 0 0 x := ⟨h, fun _ _ h => absurd h (by omega), fun _ _ h => absurd h (by omega)⟩
theorem aft_of (ht : (js.getD i jobD).aft[t]? = some (k : Int)) : (jobsP js).aft i k = true := hasI_iff.2 (List.mem_of_getElem? ht)
theorem TurnI.relax (R : RankP (jobsP js) rk) (hE : IsE (jobsP js) E) (h : TurnI js rk E r i t x) (hi : i < js.length) (ht : (js.getD i jobD).aft[t]? = some (k : Int)) (hlt : x i < x k + (js.getD k jobD).time) :
    TurnI js rk E r i (t + 1) (updI x i (x k + (js.getD k jobD).time)) := by
  have ha : (jobsP js).aft i k = true := aft_of ht
  obtain ⟨hk, hrk⟩ := R.up i k hi ha
  refine ⟨h.early.step hE hi hk ha hlt, fun i' k' h1 h2 h3 h4 => ?_, fun t' k' h1 h2 h3 => ?_⟩
  · unfold updI
    rw [if_neg (by omega)]
    exact h.done i' k' h1 h2 h3 h4
  · unfold updI
    rw [if_pos rfl]
    by_cases e : t' = t
    · subst e
      rw [ht] at h2
      injection h2 with h2
      have e2 : k = k' := by omega
      subst e2
      rw [h.early.right k hk (by omega)]
      exact Int.le_refl _
    · have := h.part t' k' (by omega) h2 h3
      omega
theorem TurnI.skip (R : RankP (jobsP js) rk) (h : TurnI js rk E r i t x) (hi : i < js.length) (ht : (js.getD i jobD).aft[t]? = some (k : Int)) (hle : x k + (js.getD k jobD).time ≤ x i) :
    TurnI js rk E r i (t + 1) x := by
  have ha : (jobsP js).aft i k = true := aft_of ht
  obtain ⟨hk, hrk⟩ := R.up i k hi ha
  refine ⟨h.early, h.done, fun t' k' h1 h2 h3 => ?_⟩
  by_cases e : t' = t
  · subst e
    rw [ht] at h2
    injection h2 with h2
    have e2 : k = k' := by omega
    subst e2
    rw [← h.early.right k hk (by omega)]
    exact hle
  · exact h.part t' k' (by omega) h2 h3
theorem TurnI.next (h : TurnI js rk E r i (js.getD i jobD).aft.length x) : TurnI js rk E r (i + 1) 0 x :=
  ⟨h.early, fun i' k h1 h2 h3 h4 => by
    by_cases e : i' = i
    · subst e
      obtain ⟨t', ht'⟩ := List.getElem?_of_mem (hasI_iff.1 h4)
      exact h.part t' k (List.getElem?_eq_some_iff.1 ht').1 ht' h2
    · exact h.done i' k (by omega) h2 h3 h4, fun _ _ h => absurd h (by omega)⟩
theorem TurnI.end_ (hE : IsE (jobsP js) E) (h : TurnI js rk E r js.length 0 x) : EarlyI (jobsP js) rk E (r + 1) x :=
  h.early.done hE fun i hi hr k hk ha => h.done i k hi hr hk ha
end
end Go.Proofs.Ythjhndbhebnmjaa
