/- Node by node goes the least of which each two neighbours that are left have an edge: all go just if there is no ring of four or more without a short cut. Plain facts, of no program. -/
import Derived.Test.YticickicfigpbaaChordP
import Derived.Test.YticickicfigpbaaNextF
import Derived.Test.YticickicfigpbaaAllOf
namespace Go.Proofs.Yticickicfigpbaa

/-- Those that are left. -/
def restB (n : Nat) (l : List Nat) : BS := fun j => decide (j < n) && !decide (j ∈ l)
theorem restB_iff {n : Nat} {l : List Nat} {j : Nat} : restB n l j = true ↔ j < n ∧ j ∉ l := by unfold restB; simp
/-- May i go next, behind those of l? -/
def simpB (adj : Nat → Nat → Bool) (n : Nat) (l : List Nat) (i : Nat) : Bool := !decide (i ∈ l) && (List.range n).all fun a => (List.range a).all fun b => !(adj i a && adj i b && !decide (a ∈ l) && !decide (b ∈ l) && !adj a b)
def elimF (adj : Nat → Nat → Bool) (n : Nat) : Nat → List Nat → Option (List Nat)
  | 0, l => some l
  | r + 1, l => match nextF (simpB adj n l) n 0 with
    | none => none
    | some i => elimF adj n r (l ++ [i])
structure ElimP (adj : Nat → Nat → Bool) (n : Nat) (l : List Nat) : Prop where
  nd : l.Nodup
  lt : ∀ x ∈ l, x < n
  simp : ∀ k i, l[k]? = some i → SimpP adj (restB n (l.take k)) i
section
variable {adj : Nat → Nat → Bool} {n r i : Nat} {l l' : List Nat}
theorem simpB_iff (hs : ∀ i j, adj i j = adj j i) : simpB adj n l i = true ↔ i ∉ l ∧ SimpP adj (restB n l) i := by
  unfold simpB
  rw [Bool.and_eq_true, List.all_eq_true]
  constructor
  · rintro ⟨h1, h2⟩
    refine ⟨by simpa using h1, ?_⟩
    have key : ∀ a b, b < a → restB n l a = true → restB n l b = true → adj i a = true → adj i b = true → adj a b = true := fun a b hab ha hb g1 g2 => by
      have h3 := h2 a (List.mem_range.2 (restB_iff.1 ha).1)
      rw [List.all_eq_true] at h3
      have h4 := h3 b (List.mem_range.2 hab)
      have p1 := (restB_iff.1 ha).2
      have p2 := (restB_iff.1 hb).2
      cases hq : adj a b with
      | true => rfl
      | false => rw [g1, g2, hq, decide_eq_false p1, decide_eq_false p2] at h4; cases h4
    intro a b ha hb g1 g2 hne
    rcases Nat.lt_or_gt_of_ne hne with h | h
    · rw [hs]; exact key b a h hb ha g2 g1
    · exact key a b h ha hb g1 g2
  · rintro ⟨h1, h2⟩
    refine ⟨by simpa using h1, fun a ha => ?_⟩
    rw [List.all_eq_true]
    intro b hb
    have han := List.mem_range.1 ha
    have hba := List.mem_range.1 hb
    rw [Bool.not_eq_true', Bool.eq_false_iff]
    intro hc
    simp only [Bool.and_eq_true, Bool.not_eq_true', decide_eq_false_iff_not] at hc
    obtain ⟨⟨⟨⟨g1, g2⟩, g3⟩, g4⟩, g5⟩ := hc
    rw [h2 a b (restB_iff.2 ⟨han, g3⟩) (restB_iff.2 ⟨by omega, g4⟩) g1 g2 (by omega)] at g5
    cases g5
theorem ElimP.nil : ElimP adj n [] := ⟨List.nodup_nil, fun x h => by simp at h, fun k i h => by simp at h⟩
theorem ElimP.snoc (hs : ∀ i j, adj i j = adj j i) (h : ElimP adj n l) (hi : i < n) (hb : simpB adj n l i = true) : ElimP adj n (l ++ [i]) := by
  obtain ⟨h1, h2⟩ := (simpB_iff hs).1 hb
  refine ⟨?_, fun x hx => ?_, fun k x hx => ?_⟩
  · rw [List.nodup_append]
    refine ⟨h.nd, by simp, fun a ha b hb => ?_⟩
    rw [List.mem_singleton.1 hb]
    rintro rfl
    exact h1 ha
  · rcases List.mem_append.1 hx with hx | hx
    · exact h.lt x hx
    · rw [List.mem_singleton.1 hx]; exact hi
  · rcases Nat.lt_or_ge k l.length with hk | hk
    · rw [List.getElem?_append_left hk] at hx
      rw [List.take_append_of_le_length (by omega)]
      exact h.simp k x hx
    · have hk2 := (List.getElem?_eq_some_iff.1 hx).1
      rw [List.length_append, List.length_singleton] at hk2
      have e : k = l.length := by omega
      subst e
      rw [List.getElem?_append_right (Nat.le_refl _), Nat.sub_self] at hx
      have hx' : some i = some x := hx
      injection hx' with hx'
      subst hx'
      rw [List.take_append_of_le_length (Nat.le_refl _), List.take_length]
      exact h2
theorem elim_ok (hs : ∀ i j, adj i j = adj j i) : ∀ (r : Nat) (l l' : List Nat), ElimP adj n l → elimF adj n r l = some l' → ElimP adj n l' ∧ l'.length = l.length + r
  | 0, l, l', h, e => by
    have e' : some l = some l' := e
    injection e' with e'
    subst e'
    exact ⟨h, rfl⟩
  | r + 1, l, l', h, e => by
    cases hn : nextF (simpB adj n l) n 0 with
    | none =>
      have e' : (match nextF (simpB adj n l) n 0 with | none => none | some i => elimF adj n r (l ++ [i])) = some l' := e
      rw [hn] at e'
      cases e'
    | some i =>
      have e' : (match nextF (simpB adj n l) n 0 with | none => none | some i => elimF adj n r (l ++ [i])) = some l' := e
      rw [hn] at e'
      obtain ⟨_, h2, h3⟩ := nextF_some hn
      obtain ⟨h4, h5⟩ := elim_ok hs r (l ++ [i]) l' (h.snoc hs h2 h3) e'
      exact ⟨h4, by rw [h5]; simp; omega⟩
theorem elim_step (h : nextF (simpB adj n l) n 0 = some i) : elimF adj n (r + 1) l = elimF adj n r (l ++ [i]) := by
  show (match nextF (simpB adj n l) n 0 with | none => none | some i => elimF adj n r (l ++ [i])) = _
  rw [h]
theorem elim_stuck (h : nextF (simpB adj n l) n 0 = none) : elimF adj n (r + 1) l = none := by
  show (match nextF (simpB adj n l) n 0 with | none => none | some i => elimF adj n r (l ++ [i])) = _
  rw [h]
/-- Without such a ring all go. -/
theorem elim_some (hs : ∀ i j, adj i j = adj j i) (hr : ∀ i, adj i i = false) (hno : ∀ L q, ¬ HoleP adj (restB n []) L q) : ∀ (r : Nat) (l : List Nat), l.length + r = n → ∃ l', elimF adj n r l = some l'
  | 0, l, _ => ⟨l, rfl⟩
  | r + 1, l, hl => by
    obtain ⟨v, hv1, hv2⟩ := left_some n l (by omega)
    have hex : ∃ s, restB n l s = true ∧ SimpP adj (restB n l) s := by
      apply Classical.byContradiction
      intro hc
      obtain ⟨L, q, hq⟩ := stuck_hole (n := n) (S := restB n l) hs hr (fun i hi => (restB_iff.1 hi).1) (restB_iff.2 ⟨hv1, hv2⟩) fun s h1 h2 => hc ⟨s, h1, h2⟩
      exact hno L q (hole_up (fun i hi => restB_iff.2 ⟨(restB_iff.1 hi).1, by simp⟩) hq)
    obtain ⟨s, h1, h2⟩ := hex
    cases hn : nextF (simpB adj n l) n 0 with
    | none =>
      have h3 := nextF_none hn s (Nat.zero_le _) (restB_iff.1 h1).1
      rw [(simpB_iff hs).2 ⟨(restB_iff.1 h1).2, h2⟩] at h3
      cases h3
    | some k =>
      obtain ⟨l', h⟩ := elim_some hs hr hno r (l ++ [k]) (by simp; omega)
      exact ⟨l', by rw [elim_step hn]; exact h⟩
/-- With one they don't. -/
theorem elim_none (hs : ∀ i j, adj i j = adj j i) {L : Nat} {q : Nat → Nat} (hq : HoleP adj (restB n []) L q) : elimF adj n n [] = none := by
  cases he : elimF adj n n [] with
  | none => rfl
  | some l' =>
    exfalso
    obtain ⟨h1, h2⟩ := elim_ok hs n [] l' ElimP.nil he
    have hall : ∀ i, i < n → i ∈ l' := all_of_nodup _ l' h1.nd h1.lt (by rw [h2]; simp)
    -- the first one of the ring that goes
    have key : ∀ k, k ≤ l'.length → ∀ i, i < L → q i ∉ l'.take k := fun k => by
      induction k with
      | zero => intro _ i _ hm; simp at hm
      | succ k ih =>
        intro hk i hi hm
        have hkl : k < l'.length := by omega
        rw [List.take_succ_eq_append_getElem hkl, List.mem_append, List.mem_singleton] at hm
        rcases hm with hm | hm
        · exact ih (by omega) i hi hm
        · have hsp := h1.simp k (q i) (by rw [hm, List.getElem?_eq_getElem hkl])
          exact hole_not_simp hs (S := restB n (l'.take k)) ⟨hq.four, fun j hj => restB_iff.2 ⟨(restB_iff.1 (hq.mem j hj)).1, ih (by omega) j hj⟩, hq.inj, hq.edge⟩ hi hsp
    have h4 := hq.four
    have h5 := hall (q 0) (restB_iff.1 (hq.mem 0 (by omega))).1
    exact key l'.length (Nat.le_refl _) 0 (by omega) (by rw [List.take_length]; exact h5)
end
end Go.Proofs.Yticickicfigpbaa
