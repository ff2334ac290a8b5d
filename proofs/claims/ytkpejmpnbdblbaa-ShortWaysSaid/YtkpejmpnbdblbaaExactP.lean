/- The table of least lengths of walks of just so many arcs, as numbers; the first walk by it. Plain facts, of no program. -/
import Derived.Test.YtkpejmpnbdblbaaShortBf
namespace Go.Proofs.Ytkpejmpnbdblbaa

section
variable {N : ArcsF} {t i k j : Nat} {c M : Int}
theorem exR_abs (hM : ∀ k, k < N.K → -M ≤ N.fee k ∧ N.fee k ≤ M) (h : exR N t k i = some c) : -(M * (k : Int)) ≤ c ∧ c ≤ M * (k : Int) := by
  obtain ⟨q, h1, h2, h3⟩ := (ex_sound k i c h).path
  have h4 := lenL_abs hM h2.all
  rw [h1, h3] at h4
  exact h4
theorem exTo_abs (hM : ∀ k, k < N.K → -M ≤ N.fee k ∧ N.fee k ≤ M) (hj : j ≤ N.K) (h : exTo N (exR N t k) i j = some c) : -(M * (k : Int) + M) ≤ c ∧ c ≤ M * (k : Int) + M := by
  obtain ⟨l, a, h1, _, h3, rfl⟩ := exTo_from _ h
  have h4 := exR_abs hM h3
  have h5 := hM l (by omega)
  omega
theorem ex_step {D : Nat → Option Int} (hD : ∀ c, D (N.to j) = some c → c < farE ∧ c + N.fee j < farE) (i : Nat) :
    encR (exTo N D i (j + 1)) = if N.fr j = i ∧ encR (D (N.to j)) < farE ∧ encR (D (N.to j)) + N.fee j < encR (exTo N D i j) then encR (D (N.to j)) + N.fee j else encR (exTo N D i j) := by
  show encR (match D (N.to j) with | some a => if N.fr j = i then lessO (exTo N D i j) (a + N.fee j) else exTo N D i j | none => exTo N D i j) = _
  cases hd : D (N.to j) with
  | none =>
    rw [if_neg]
    rintro ⟨_, h, _⟩
    simp [encR] at h
  | some a =>
    obtain ⟨h1, h2⟩ := hD a hd
    simp only
    by_cases hi : N.fr j = i
    · rw [if_pos hi]
      cases hb : exTo N D i j with
      | none =>
        exact (if_pos (c := N.fr j = i ∧ encR (some a) < farE ∧ encR (some a) + N.fee j < encR none) ⟨hi, h1, h2⟩).symm
      | some c =>
        by_cases hc : a + N.fee j < c
        · rw [show lessO (some c) (a + N.fee j) = some (a + N.fee j) from if_pos hc]
          exact (if_pos (c := N.fr j = i ∧ encR (some a) < farE ∧ encR (some a) + N.fee j < encR (some c)) ⟨hi, h1, hc⟩).symm
        · rw [show lessO (some c) (a + N.fee j) = some c from if_neg hc]
          exact (if_neg (c := N.fr j = i ∧ encR (some a) < farE ∧ encR (some a) + N.fee j < encR (some c)) fun h => hc h.2.2).symm
    · rw [if_neg hi, if_neg (fun h => hi h.1)]
end
/-- The first arc, of those that begin at a node, by which a walk of so many arcs goes on that is as short as can be. -/
def FirstA (N : ArcsF) (t left at_ : Nat) (k : Nat) : Prop := k < N.K ∧ N.fr k = at_ ∧ encR (exR N t left (N.to k)) < farE ∧ encR (exR N t left (N.to k)) + N.fee k = encR (exR N t (left + 1) at_)
/-- The walk that goes on by the first such arc, each time. -/
def GreedyA (N : ArcsF) (t : Nat) : Nat → Nat → List Nat → Prop
  | 0, at_, l => l = [] ∧ at_ = t
  | left + 1, at_, l => ∃ k r, l = k :: r ∧ FirstA N t left at_ k ∧ (∀ j, j < k → ¬ FirstA N t left at_ j) ∧ GreedyA N t left (N.to k) r
section
variable {N : ArcsF} {t at_ left k : Nat} {l m : List Nat} {M : Int}
theorem ex_lim (hM : ∀ k, k < N.K → -M ≤ N.fee k ∧ N.fee k ≤ M) {k i : Nat} {c : Int} (hk : M * (k : Int) < farE) (h : exR N t k i = some c) : c < farE := by
  have := (exR_abs hM h).2
  omega
/-- Where there is a walk of so many arcs, there is such an arc. -/
theorem first_some (hM : ∀ k, k < N.K → -M ≤ N.fee k ∧ N.fee k ≤ M) (hl : M * (left : Int) < farE) {c : Int} (h : exR N t (left + 1) at_ = some c) : ∃ k, FirstA N t left at_ k ∧ ∀ j, j < k → ¬ FirstA N t left at_ j := by
  obtain ⟨x, a, h1, h2, h3, h4⟩ := exTo_from _ (show exTo N (exR N t left) at_ N.K = some c from h)
  have h5 : FirstA N t left at_ x := ⟨h1, h2, by rw [h3]; exact ex_lim hM hl h3, by rw [h3, h]; exact h4.symm⟩
  obtain ⟨k, h6, h7⟩ := nat_least ⟨x, h5⟩
  exact ⟨k, h6, fun j hj hf => by have := h7 j hf; omega⟩
/-- The walk by the first arcs is a walk, as long as can be told. -/
theorem greedy_path (hM : ∀ k, k < N.K → -M ≤ N.fee k ∧ N.fee k ≤ M) (hM0 : 0 ≤ M) : ∀ (left at_ : Nat) (l : List Nat), M * (left : Int) < farE → GreedyA N t left at_ l → (∃ c, exR N t left at_ = some c) → PathL N at_ t l ∧ l.length = left ∧ exR N t left at_ = some (lenL N l)
  | 0, at_, l, _, h, _ => by
    obtain ⟨rfl, h2⟩ := h
    subst h2
    exact ⟨rfl, rfl, if_pos rfl⟩
  | left + 1, at_, l, hl, h, ⟨c, hc⟩ => by
    obtain ⟨k, r, rfl, ⟨h1, h2, h3, h4⟩, _, h6⟩ := h
    have hl2 : M * (left : Int) < farE := by
      have : M * ((left + 1 : Nat) : Int) = M * (left : Int) + M := by rw [Int.natCast_succ, Int.mul_add, Int.mul_one]
      omega
    have hex : ∃ c', exR N t left (N.to k) = some c' := by
      cases hx : exR N t left (N.to k) with
      | none => rw [hx] at h3; simp [encR] at h3
      | some c' => exact ⟨c', rfl⟩
    obtain ⟨g1, g2, g3⟩ := greedy_path hM hM0 left (N.to k) r hl2 h6 hex
    refine ⟨⟨h1, h2, g1⟩, by simp [g2], ?_⟩
    rw [g3, hc] at h4
    rw [hc]
    simp only [encR] at h4
    simp only [lenL]
    congr 1; omega
/-- It is the least of those of so many arcs that are as short. -/
theorem greedy_least (hM : ∀ k, k < N.K → -M ≤ N.fee k ∧ N.fee k ≤ M) (hM0 : 0 ≤ M) (hK : N.K ≤ 64) : ∀ (left at_ : Nat) (l m p : List Nat), M * (left : Int) < farE → GreedyA N t left at_ l → (∃ c, exR N t left at_ = some c) → PathL N at_ t m → m.length = left → exR N t left at_ = some (lenL N m) → valL (p ++ l) ≤ valL (p ++ m)
  | 0, at_, l, m, p, _, h, _, _, h2, _ => by
    obtain ⟨rfl, _⟩ := h
    rw [List.length_eq_zero_iff.1 h2]; exact Nat.le_refl _
  | left + 1, at_, l, m, p, hl, h, ⟨c, hc⟩, hp, hm, hx => by
    obtain ⟨k, r, rfl, hf, hno, h6⟩ := h
    cases m with
    | nil => simp at hm
    | cons b q =>
      have hl2 : M * (left : Int) < farE := by
        have : M * ((left + 1 : Nat) : Int) = M * (left : Int) + M := by rw [Int.natCast_succ, Int.mul_add, Int.mul_one]
        omega
      obtain ⟨hb1, hb2, hb3⟩ := hp
      simp only [List.length_cons] at hm
      have hm' : q.length = left := by omega
      -- what is left behind the first arc is as short as can be
      obtain ⟨c', h7, h8⟩ := ex_least left (N.to b) (lenL N q) (by have := hb3.walk; rwa [hm'] at this)
      have h9 : c' = lenL N q := by
        obtain ⟨q', g1, g2, g3⟩ := (ex_sound left (N.to b) c' h7).path
        have hw : WalkN N (left + 1) at_ t (N.fee b + lenL N q') := by
          have := (show PathL N at_ t (b :: q') from ⟨hb1, hb2, g2⟩).walk
          simp only [List.length_cons, g1, lenL] at this
          exact this
        obtain ⟨c2, g4, g5⟩ := ex_least (left + 1) at_ _ hw
        rw [hx] at g4
        injection g4 with g4
        simp only [lenL] at g4
        omega
      have hfb : FirstA N t left at_ b := ⟨hb1, hb2, by rw [h7]; exact ex_lim hM hl2 h7, by rw [h7, hx, h9]; simp only [encR, lenL]; omega⟩
      obtain ⟨g1, g2, g3⟩ := greedy_path hM hM0 (left + 1) at_ (k :: r) hl ⟨k, r, rfl, hf, hno, h6⟩ ⟨c, hc⟩
      simp only [List.length_cons] at g2
      have hrl : r.length = left := by omega
      have hr64 : ∀ x ∈ r, x < 64 := fun x hx => by have := g1.all x (List.mem_cons_of_mem _ hx); omega
      rcases Nat.lt_trichotomy k b with hkb | rfl | hkb
      · exact Nat.le_of_lt (valL_less (p := p) hkb hr64 (by omega))
      · have := greedy_least hM hM0 hK left (N.to k) r q (p ++ [k]) hl2 h6 ⟨c', h7⟩ hb3 hm' (by rw [h7, h9])
        rwa [List.append_assoc, List.append_assoc] at this
      · exact absurd hfb (hno b hkb)
end
end Go.Proofs.Ytkpejmpnbdblbaa
