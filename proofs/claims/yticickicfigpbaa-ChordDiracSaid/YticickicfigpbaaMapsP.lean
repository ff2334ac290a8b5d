/- For EULER's bound: classes of some size; rings of some length; rings the other way round. Plain facts, of no program. -/
import Derived.Test.YticickicfigpbaaEulerP
namespace Go.Proofs.Yticickicfigpbaa
section
variable {N : Nat} {D : BS} {R R' : Nat → Nat → Prop} {f g : Nat → Nat}
theorem inj_size : ∀ (m : Nat) (p : Nat → Nat) (A : BS), (∀ i, i < m → p i < N ∧ A (p i) = true) → (∀ i j, i < j → j < m → p i ≠ p j) → m ≤ sizeP A N
  | 0, _, _, _, _ => Nat.zero_le _
  | m + 1, p, A, h, hi => by
    have h1 := h m (by omega)
    have ih := inj_size m p (delB A (p m)) (fun i hm => ⟨(h i (by omega)).1, delB_iff.2 ⟨(h i (by omega)).2, hi i m hm (by omega)⟩⟩) fun i j hij hj => hi i j hij (by omega)
    have := sizeP_del h1.2 h1.1
    omega
/-- The least one of its class. -/
theorem class_least (E : EqvP D R) {x : Nat} (hx : D x = true) : ∃ l, D l = true ∧ R l x ∧ ∀ y, D y = true → R y x → l ≤ y := by
  obtain ⟨l, ⟨h1, h2⟩, h3⟩ := arg_min (P := fun y => D y = true ∧ R y x) (fun y => y) _ x (Nat.le_refl _) ⟨hx, E.refl x hx⟩
  exact ⟨l, h1, h2, fun y hy hr => h3 y ⟨hy, hr⟩⟩
open Classical in
noncomputable def leadB (R : Nat → Nat → Prop) (D : BS) : BS := fun x => D x && decide (∀ y, y < x → D y = true → ¬ R y x)
theorem leadB_iff {x : Nat} : leadB R D x = true ↔ D x = true ∧ ∀ y, y < x → D y = true → ¬ R y x := by
  unfold leadB; simp only [Bool.and_eq_true, decide_eq_true_eq]
theorem cls_lead : clsP R D N = sizeP (leadB R D) N := rfl
theorem lead_least {l : Nat} (h : leadB R D l = true) (_E : EqvP D R) {y : Nat} (hy : D y = true) (hr : R y l) : l ≤ y := by
  obtain ⟨_, h2⟩ := leadB_iff.1 h
  exact Nat.le_of_not_lt fun hlt => h2 y hlt hy hr
open Classical in
/-- Classes of m members at least are so many times fewer. -/
theorem cls_size (E : EqvP D R) (hD : ∀ x, D x = true → x < N) {m : Nat} (h : ∀ x, D x = true → m ≤ sizeP (fun y => D y && decide (R x y)) N) : clsP R D N * m ≤ sizeP D N := by
  have hch : ∃ lab : Nat → Nat, ∀ x, D x = true → D (lab x) = true ∧ R (lab x) x ∧ ∀ y, D y = true → R y x → lab x ≤ y := by
    refine ⟨fun x => if hx : D x = true then Classical.choose (class_least E hx) else 0, fun x hx => ?_⟩
    simp only [dif_pos hx]
    exact Classical.choose_spec (class_least E hx)
  obtain ⟨lab, hlab⟩ := hch
  rw [← sizeP_parts (N := N) (lab := lab) N fun j _ hj => hD _ (hlab j hj).1, cls_lead, ← sumA_const]
  refine sumTo_le N fun i _ => ?_
  by_cases hi : leadB R D i = true
  · rw [if_pos hi]
    obtain ⟨hdi, _⟩ := leadB_iff.1 hi
    refine Nat.le_trans (h i hdi) (sizeP_sub fun y _ hy => ?_)
    simp only [Bool.and_eq_true, decide_eq_true_eq] at hy ⊢
    refine ⟨hy.1, ?_⟩
    obtain ⟨g1, g2, g3⟩ := hlab y hy.1
    have h1 := g3 i hdi hy.2
    have h2 := lead_least hi E g1 (E.trans (lab y) y i g1 hy.1 hdi g2 (E.symm i y hdi hy.1 hy.2))
    omega
  · rw [if_neg hi]; exact Nat.zero_le _
open Classical in
/-- A ring that does not come back within m steps has m members. -/
theorem ring_size (P : PermB N D f) {m : Nat} {x : Nat} (hx : D x = true) (h : ∀ j, 0 < j → j < m → itF f j x ≠ x) : m ≤ sizeP (fun y => D y && decide (OrbP f x y)) N := by
  refine inj_size m (fun j => itF f j x) _ (fun i _ => ?_) fun i j hij hj e => ?_
  · have := itF_map P i x hx
    refine ⟨P.lt _ this, ?_⟩
    simp only [Bool.and_eq_true, decide_eq_true_eq]
    exact ⟨this, i, rfl⟩
  · have h1 : itF f i x = itF f i (itF f (j - i) x) := by rw [← itF_add, show i + (j - i) = j by omega]; exact e
    exact h (j - i) (by omega) (by omega) (itF_inj P i _ _ hx (itF_map P _ x hx) h1).symm
/-- By other names as many classes. -/
theorem cls_le (E : EqvP D R) (E' : EqvP D R') (hD : ∀ x, D x = true → x < N) (hg : ∀ x, D x = true → D (g x) = true) (h : ∀ x y, D x = true → D y = true → R' (g x) (g y) → R x y) : clsP R D N ≤ clsP R' D N := by
  classical
  have hch : ∃ lab : Nat → Nat, ∀ x, D x = true → D (lab x) = true ∧ R' (lab x) (g x) ∧ ∀ y, D y = true → R' y (g x) → lab x ≤ y := by
    refine ⟨fun x => if hx : D x = true then Classical.choose (class_least E' (hg x hx)) else 0, fun x hx => ?_⟩
    simp only [dif_pos hx]
    exact Classical.choose_spec (class_least E' (hg x hx))
  obtain ⟨lab, hlab⟩ := hch
  rw [cls_lead, cls_lead]
  refine sizeP_inj _ (m := lab) rfl (fun x _ hx => ?_) fun x y _ _ hx hy e => ?_
  · obtain ⟨hdx, _⟩ := leadB_iff.1 hx
    obtain ⟨g1, g2, g3⟩ := hlab x hdx
    refine ⟨hD _ g1, leadB_iff.2 ⟨g1, fun y hy hdy hr => ?_⟩⟩
    have := g3 y hdy (E'.trans y (lab x) (g x) hdy g1 (hg x hdx) hr g2)
    omega
  · obtain ⟨hdx, _⟩ := leadB_iff.1 hx
    obtain ⟨hdy, _⟩ := leadB_iff.1 hy
    obtain ⟨g1, g2, _⟩ := hlab x hdx
    obtain ⟨k1, k2, _⟩ := hlab y hdy
    rw [← e] at k2
    have hr : R x y := h x y hdx hdy (E'.trans (g x) (lab x) (g y) (hg x hdx) g1 (hg y hdy) (E'.symm _ _ g1 (hg x hdx) g2) k2)
    have h1 := lead_least hx E hdy (E.symm x y hdx hdy hr)
    have h2 := lead_least hy E hdx hr
    omega
/-- The other way round as many rings. -/
theorem orb_inv (P : PermB N D f) (Q : PermB N D g) (hfg : ∀ x, D x = true → g (f x) = x) {x y : Nat} (hx : D x = true) (h : OrbP f x y) : OrbP g x y := by
  have E := orb_eqv Q
  obtain ⟨k, hk⟩ := h
  subst hk
  induction k with
  | zero => exact E.refl x hx
  | succ k ih =>
    rw [itF_succ]
    have hz := itF_map P k x hx
    have hfz := P.map _ hz
    exact E.trans x _ _ hx hz hfz ih (E.symm _ _ hfz hz ⟨1, hfg _ hz⟩)
/-- al after g, or g after al: as many rings. -/
theorem orb_conj {al t : Nat → Nat} (hal : ∀ x, D x = true → D (al x) = true) (ht : ∀ x, D x = true → D (t x) = true) {x y : Nat} (hx : D x = true) (h : OrbP (fun x => al (t x)) x y) : OrbP (fun x => t (al x)) (t x) (t y) := by
  obtain ⟨k, hk⟩ := h
  subst hk
  refine ⟨k, ?_⟩
  induction k generalizing x with
  | zero => rfl
  | succ k ih =>
    show itF _ k (t (al (t x))) = t (itF _ k (al (t x)))
    exact ih (hal _ (ht x hx))
end
end Go.Proofs.Yticickicfigpbaa
