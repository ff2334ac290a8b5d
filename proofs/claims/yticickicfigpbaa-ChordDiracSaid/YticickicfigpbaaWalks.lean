/- Ways along edges and how far nodes are: plain facts over any relation. No conditions. -/
import Derived.Test.YticickicfigpbaaPlain
namespace Go.Proofs.Yticickicfigpbaa

/-- A way of k edges from i to j. -/
def wk (adj : Nat → Nat → Bool) : Nat → Nat → Nat → Prop
  | 0, i, j => i = j
  | k + 1, i, j => ∃ x, wk adj k i x ∧ adj x j = true
theorem wk_trans {adj : Nat → Nat → Bool} {a : Nat} {i x : Nat} (h : wk adj a i x) : ∀ {b j : Nat}, wk adj b x j → wk adj (a + b) i j
  | 0, _, hb => by cases hb; exact h
  | b + 1, _, ⟨y, hy, hj⟩ => ⟨y, wk_trans h hy, hj⟩
theorem wk_one {adj : Nat → Nat → Bool} {i j : Nat} : wk adj 1 i j ↔ adj i j = true :=
  ⟨fun ⟨_, hx, h⟩ => by cases hx; exact h, fun h => ⟨i, rfl, h⟩⟩
theorem wk_symm {adj : Nat → Nat → Bool} (hs : ∀ i j, adj i j = adj j i) : ∀ {k i j : Nat}, wk adj k i j → wk adj k j i
  | 0, _, _, h => h.symm
  | k + 1, i, j, ⟨x, hx, hj⟩ => by
    have h1 : wk adj 1 j x := wk_one.2 (by rw [hs]; exact hj)
    have := wk_trans h1 (wk_symm hs hx)
    rwa [Nat.add_comm] at this

def IsDist (adj : Nat → Nat → Bool) (i j d : Nat) : Prop := wk adj d i j ∧ ∀ k, k < d → ¬ wk adj k i j
theorem least_of {p : Nat → Prop} : ∀ n, p n → ∃ d, d ≤ n ∧ p d ∧ ∀ k, k < d → ¬ p k := by
  intro n
  induction n using Nat.strongRecOn with
  | ind n ih =>
    intro h
    by_cases hk : ∃ k, k < n ∧ p k
    · obtain ⟨k, hkn, hp⟩ := hk
      obtain ⟨d, h1, h2, h3⟩ := ih k hkn hp
      exact ⟨d, by omega, h2, h3⟩
    · exact ⟨n, Nat.le_refl _, h, fun k hkn hp => hk ⟨k, hkn, hp⟩⟩
theorem dist_of_wk {adj : Nat → Nat → Bool} {i j k : Nat} (h : wk adj k i j) : ∃ d, d ≤ k ∧ IsDist adj i j d := by
  obtain ⟨d, h1, h2, h3⟩ := least_of (p := fun k => wk adj k i j) k h
  exact ⟨d, h1, h2, h3⟩
theorem dist_unique {adj : Nat → Nat → Bool} {i j d e : Nat} (h : IsDist adj i j d) (k : IsDist adj i j e) : d = e := by
  rcases Nat.lt_trichotomy d e with hlt | heq | hlt
  · exact absurd h.1 (k.2 d hlt)
  · exact heq
  · exact absurd k.1 (h.2 e hlt)
theorem dist_zero {adj : Nat → Nat → Bool} {i j : Nat} : IsDist adj i j 0 ↔ i = j := ⟨fun h => h.1, fun h => ⟨h, fun k hk => absurd hk (by omega)⟩⟩
theorem dist_pred {adj : Nat → Nat → Bool} {i j d : Nat} (h : IsDist adj i j (d + 1)) : ∃ x, IsDist adj i x d ∧ adj x j = true := by
  obtain ⟨x, hx, hj⟩ := h.1
  exact ⟨x, ⟨hx, fun k hk hw => h.2 (k + 1) (by omega) ⟨x, hw, hj⟩⟩, hj⟩
theorem dist_down {adj : Nat → Nat → Bool} {i : Nat} : ∀ {d j : Nat}, IsDist adj i j d → ∀ e, e ≤ d → ∃ x, IsDist adj i x e
  | 0, j, h, e, he => by
    have h0 : e = 0 := by omega
    subst h0
    exact ⟨j, h⟩
  | d + 1, j, h, e, he => by
    rcases Nat.lt_or_ge e (d + 1) with hlt | hge
    · obtain ⟨x, hx, _⟩ := dist_pred h
      exact dist_down hx e (by omega)
    · obtain rfl : e = d + 1 := by omega
      exact ⟨j, h⟩

open Classical in
/-- How far: -1, if there is no way. -/
noncomputable def distI (adj : Nat → Nat → Bool) (i j : Nat) : Int := if h : ∃ d, IsDist adj i j d then ((Classical.choose h : Nat) : Int) else -1
theorem distI_eq {adj : Nat → Nat → Bool} {i j d : Nat} (h : IsDist adj i j d) : distI adj i j = d := by
  have hex : ∃ d, IsDist adj i j d := ⟨d, h⟩
  unfold distI
  rw [dif_pos hex, dist_unique (Classical.choose_spec hex) h]
theorem distI_none {adj : Nat → Nat → Bool} {i j : Nat} (h : ∀ d, ¬ IsDist adj i j d) : distI adj i j = -1 := by
  unfold distI
  rw [dif_neg (fun ⟨d, hd⟩ => h d hd)]
theorem distI_cases (adj : Nat → Nat → Bool) (i j : Nat) : (∃ d : Nat, IsDist adj i j d ∧ distI adj i j = d) ∨ ((∀ d, ¬ IsDist adj i j d) ∧ distI adj i j = -1) := by
  by_cases h : ∃ d, IsDist adj i j d
  · obtain ⟨d, hd⟩ := h
    exact .inl ⟨d, hd, distI_eq hd⟩
  · exact .inr ⟨fun d hd => h ⟨d, hd⟩, distI_none (fun d hd => h ⟨d, hd⟩)⟩
theorem distI_nonneg {adj : Nat → Nat → Bool} {i j : Nat} : 0 ≤ distI adj i j ↔ ∃ k, wk adj k i j := by
  rcases distI_cases adj i j with ⟨d, hd, he⟩ | ⟨hn, he⟩
  · rw [he]; exact ⟨fun _ => ⟨d, hd.1⟩, fun _ => by omega⟩
  · rw [he]
    refine ⟨fun h => absurd h (by decide), fun ⟨k, hk⟩ => ?_⟩
    obtain ⟨d, _, hd⟩ := dist_of_wk hk
    exact absurd hd (hn d)

/-- What the law of distances says. -/
theorem distI_symm {adj : Nat → Nat → Bool} (hs : ∀ i j, adj i j = adj j i) (i j : Nat) : distI adj i j = distI adj j i := by
  have hd : ∀ d i j, IsDist adj i j d → IsDist adj j i d := fun d i j h => ⟨wk_symm hs h.1, fun k hk hw => h.2 k hk (wk_symm hs hw)⟩
  rcases distI_cases adj i j with ⟨d, h, he⟩ | ⟨hn, he⟩
  · rw [he, distI_eq (hd d i j h)]
  · rw [he, distI_none (fun d h => hn d (hd d j i h))]
theorem distI_zero {adj : Nat → Nat → Bool} (i j : Nat) : distI adj i j = 0 ↔ i = j := by
  refine ⟨fun h => ?_, fun h => by rw [distI_eq (dist_zero.2 h)]; rfl⟩
  rcases distI_cases adj i j with ⟨d, hd, he⟩ | ⟨_, he⟩
  · have : d = 0 := by omega
    subst this
    exact dist_zero.1 hd
  · omega
theorem distI_one {adj : Nat → Nat → Bool} (hr : ∀ i, adj i i = false) (i j : Nat) : distI adj i j = 1 ↔ adj i j = true := by
  refine ⟨fun h => ?_, fun h => ?_⟩
  · rcases distI_cases adj i j with ⟨d, hd, he⟩ | ⟨_, he⟩
    · have : d = 1 := by omega
      subst this
      exact wk_one.1 hd.1
    · omega
  · have hd : IsDist adj i j 1 := ⟨wk_one.2 h, fun k hk hw => by
      obtain rfl : k = 0 := by omega
      obtain rfl : i = j := hw
      rw [hr] at h
      cases h⟩
    rw [distI_eq hd]; rfl
theorem distI_tri {adj : Nat → Nat → Bool} (a b c : Nat) (h1 : 0 ≤ distI adj a b) (h2 : 0 ≤ distI adj b c) : 0 ≤ distI adj a c ∧ distI adj a c ≤ distI adj a b + distI adj b c := by
  rcases distI_cases adj a b with ⟨d, hd, he⟩ | ⟨_, he⟩
  · rcases distI_cases adj b c with ⟨e, hd2, he2⟩ | ⟨_, he2⟩
    · obtain ⟨x, hx, hxd⟩ := dist_of_wk (wk_trans hd.1 hd2.1)
      rw [distI_eq hxd, he, he2]
      omega
    · omega
  · omega
end Go.Proofs.Yticickicfigpbaa
