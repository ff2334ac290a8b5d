/- A list of numbers as a walk: how long, and where it ends. Plain facts, of no program. -/
import Derived.Test.YtkpejmpnbdblbaaBetterGo
namespace Go.Proofs.Ytkpejmpnbdblbaa

/-- How long a list of places is as a walk from a node, and where it ends. -/
def wkF (N : ArcsF) : Nat → List Int → Option (Int × Nat)
  | s, [] => some (0, s)
  | s, k :: r => if 0 ≤ k ∧ k < (N.K : Int) ∧ N.fr k.toNat = s then (wkF N (N.to k.toNat) r).map (fun p => (N.fee k.toNat + p.1, p.2)) else none
section
variable {N : ArcsF} {s t : Nat} {x : Int}
theorem wkF_path : ∀ (ms : List Int) (s : Nat) (x : Int), wkF N s ms = some (x, t) → ∃ l, ms = lI l ∧ PathL N s t l ∧ lenL N l = x := fun ms => by
  induction ms with
  | nil =>
    intro s x h
    unfold wkF at h
    injection h with h
    injection h with h1 h2
    subst h1 h2
    exact ⟨[], rfl, rfl, rfl⟩
  | cons k r ih =>
    intro s x h
    unfold wkF at h
    split at h
    · rename_i hc
      obtain ⟨h1, h2, h3⟩ := hc
      obtain ⟨⟨y, e⟩, h4, h5⟩ := Option.map_eq_some_iff.1 h
      injection h5 with h5 h6
      simp only at h5 h6
      subst h6
      obtain ⟨l, rfl, h7, h8⟩ := ih _ _ h4
      refine ⟨k.toNat :: l, ?_, ⟨by omega, h3, h7⟩, by simp only [lenL]; omega⟩
      simp only [lI, List.map_cons, List.cons.injEq, and_true]
      omega
    · cases h
theorem path_wkF : ∀ {l : List Nat} {s : Nat}, PathL N s t l → wkF N s (lI l) = some (lenL N l, t)
  | [], s, h => by
    have e : s = t := h
    subst e; rfl
  | k :: r, s, ⟨h1, h2, h3⟩ => by
    have ih := path_wkF h3
    show (if 0 ≤ (k : Int) ∧ (k : Int) < (N.K : Int) ∧ N.fr (k : Int).toNat = s then (wkF N (N.to (k : Int).toNat) (lI r)).map (fun p => (N.fee (k : Int).toNat + p.1, p.2)) else none) = _
    rw [if_pos ⟨by omega, by omega, by simpa using h2⟩]
    simp only [Int.toNat_natCast]
    rw [ih]; rfl
theorem wkF_app : ∀ {ms : List Int} {s : Nat} {r : List Int}, wkF N s (ms ++ r) = (wkF N s ms).bind fun p => (wkF N p.2 r).map fun q => (p.1 + q.1, q.2)
  | [], s, r => by
    show wkF N s r = (wkF N s r).map fun q => (0 + q.1, q.2)
    simp
  | k :: ms, s, r => by
    simp only [List.cons_append, wkF]
    split
    · rw [wkF_app]
      cases wkF N (N.to k.toNat) ms with
      | none => rfl
      | some p =>
        simp only [Option.bind_some, Option.map_some]
        cases wkF N p.2 r with
        | none => rfl
        | some q => simp only [Option.map_some]; congr 2; omega
    · rfl
theorem wkF_none {ms r : List Int} (h : wkF N s ms = none) : wkF N s (ms ++ r) = none := by rw [wkF_app, h]; rfl
theorem wkF_one {ms : List Int} {c : Nat} {k : Int} (h : wkF N s ms = some (x, c)) (h1 : 0 ≤ k) (h2 : k < (N.K : Int)) (h3 : N.fr k.toNat = c) : wkF N s (ms ++ [k]) = some (x + N.fee k.toNat, N.to k.toNat) := by
  rw [wkF_app, h]
  simp only [Option.bind_some, wkF]
  rw [if_pos ⟨h1, h2, h3⟩]
  simp
theorem wkF_bad {ms : List Int} {c : Nat} {k : Int} (h : wkF N s ms = some (x, c)) (hk : ¬ (0 ≤ k ∧ k < (N.K : Int) ∧ N.fr k.toNat = c)) : wkF N s (ms ++ [k]) = none := by
  rw [wkF_app, h]
  simp only [Option.bind_some, wkF]
  rw [if_neg hk]; rfl
end
/-- What the keepers' walk answers. -/
def wkX (N : ArcsF) (s : Nat) (ms : List Int) : Int := match wkF N s ms with | some p => p.1 | none => 0
def wkB (N : ArcsF) (s t : Nat) (ms : List Int) : Bool := match wkF N s ms with | some p => decide (p.2 = t) | none => false
end Go.Proofs.Ytkpejmpnbdblbaa
