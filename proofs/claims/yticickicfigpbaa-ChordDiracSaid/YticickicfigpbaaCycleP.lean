/- For EULER's and POINCARE's: how many rings a turning round has, and what becomes of them when two ends change places. Plain facts, of no program. -/
import Derived.Test.YticickicfigpbaaCrowdP
import Derived.Test.YticickicfigpbaaPotP
namespace Go.Proofs.Yticickicfigpbaa

open Classical in
/-- How many classes there are: of each its least one counts. -/
noncomputable def clsP (R : Nat → Nat → Prop) (D : BS) (N : Nat) : Nat := sizeP (fun x => D x && decide (∀ y, y < x → D y = true → ¬ R y x)) N
structure EqvP (D : BS) (R : Nat → Nat → Prop) : Prop where
  refl : ∀ x, D x = true → R x x
  symm : ∀ x y, D x = true → D y = true → R x y → R y x
  trans : ∀ x y z, D x = true → D y = true → D z = true → R x y → R y z → R x z
section
variable {N : Nat} {D : BS} {R R' : Nat → Nat → Prop} {f : Nat → Nat}
open Classical in
theorem cls_lt (E : EqvP D R) (hD : ∀ x, D x = true → x < N) {a b : Nat} (ha : D a = true) (hb : D b = true) (_hab : ¬ R a b)
    (h : ∀ x y, D x = true → D y = true → (R' x y ↔ R x y ∨ (R x a ∧ R b y) ∨ (R x b ∧ R a y)))
    {la lb : Nat} (hla : D la = true) (hra : R la a) (hma : ∀ x, D x = true → R x a → la ≤ x) (hlb : D lb = true) (hrb : R lb b) (hmb : ∀ x, D x = true → R x b → lb ≤ x) (hlt : la < lb) :
    clsP R D N = clsP R' D N + 1 := by
  have hL : (fun x => D x && decide (∀ y, y < x → D y = true → ¬ R y x)) lb = true := by
    simp only [Bool.and_eq_true, decide_eq_true_eq]
    refine ⟨hlb, fun y hy hdy hr => ?_⟩
    have := hmb y hdy (E.trans y lb b hdy hlb hb hr hrb)
    omega
  unfold clsP
  rw [sizeP_del hL (hD lb hlb)]
  congr 1
  refine sizeP_congr N fun x hx => ?_
  rw [Bool.eq_iff_iff, delB_iff]
  simp only [Bool.and_eq_true, decide_eq_true_eq]
  constructor
  · rintro ⟨⟨hdx, h1⟩, hne⟩
    refine ⟨hdx, fun y hy hdy hr => ?_⟩
    rcases (h y x hdy hdx).1 hr with hr | ⟨r1, r2⟩ | ⟨r1, r2⟩
    · exact h1 y hy hdy hr
    · -- x is of b's
      have h2 := hmb x hdx (E.symm b x hb hdx r2)
      have : lb < x := by omega
      exact h1 lb this hlb (E.trans lb b x hlb hb hdx hrb r2)
    · have h2 := hma x hdx (E.symm a x ha hdx r2)
      have h3 := hmb y hdy r1
      have : la < x := by omega
      exact h1 la this hla (E.trans la a x hla ha hdx hra r2)
  · rintro ⟨hdx, h1⟩
    refine ⟨⟨hdx, fun y hy hdy hr => h1 y hy hdy ((h y x hdy hdx).2 (.inl hr))⟩, fun e => ?_⟩
    subst e
    exact h1 la hlt hla ((h la x hla hdx).2 (.inr (.inl ⟨hra, E.symm x b hdx hb hrb⟩)))
theorem cls_merge (E : EqvP D R) (hD : ∀ x, D x = true → x < N) {a b : Nat} (ha : D a = true) (hb : D b = true) (hab : ¬ R a b)
    (h : ∀ x y, D x = true → D y = true → (R' x y ↔ R x y ∨ (R x a ∧ R b y) ∨ (R x b ∧ R a y))) : clsP R D N = clsP R' D N + 1 := by
  obtain ⟨la, ⟨hla, hra⟩, hma⟩ := arg_min (P := fun x => D x = true ∧ R x a) (fun x => x) _ a (Nat.le_refl _) ⟨ha, E.refl a ha⟩
  obtain ⟨lb, ⟨hlb, hrb⟩, hmb⟩ := arg_min (P := fun x => D x = true ∧ R x b) (fun x => x) _ b (Nat.le_refl _) ⟨hb, E.refl b hb⟩
  rcases Nat.lt_trichotomy la lb with hlt | e | hlt
  · exact cls_lt E hD ha hb hab h hla hra (fun x h1 h2 => hma x ⟨h1, h2⟩) hlb hrb (fun x h1 h2 => hmb x ⟨h1, h2⟩) hlt
  · subst e
    exact absurd (E.trans a la b ha hla hb (E.symm la a hla ha hra) hrb) hab
  · refine cls_lt E hD hb ha (fun h' => hab (E.symm b a hb ha h')) (fun x y hx hy => ?_) hlb hrb (fun x h1 h2 => hmb x ⟨h1, h2⟩) hla hra (fun x h1 h2 => hma x ⟨h1, h2⟩) hlt
    rw [h x y hx hy]
    exact ⟨fun h => h.elim .inl fun h => .inr h.symm, fun h => h.elim .inl fun h => .inr h.symm⟩
def itF (f : Nat → Nat) : Nat → Nat → Nat
  | 0, x => x
  | k + 1, x => itF f k (f x)
def OrbP (f : Nat → Nat) (x y : Nat) : Prop := ∃ k, itF f k x = y
structure PermB (N : Nat) (D : BS) (f : Nat → Nat) : Prop where
  lt : ∀ x, D x = true → x < N
  map : ∀ x, D x = true → D (f x) = true
  inj : ∀ x y, D x = true → D y = true → f x = f y → x = y
theorem itF_add (j : Nat) : ∀ k x, itF f (j + k) x = itF f j (itF f k x)
  | 0, _ => rfl
  | k + 1, x => itF_add j k (f x)
theorem itF_succ (k x : Nat) : itF f (k + 1) x = f (itF f k x) := by
  rw [Nat.add_comm, itF_add 1 k x]; rfl
theorem itF_map (P : PermB N D f) : ∀ k x, D x = true → D (itF f k x) = true
  | 0, _, h => h
  | k + 1, x, h => itF_map P k (f x) (P.map x h)
theorem itF_inj (P : PermB N D f) : ∀ k x y, D x = true → D y = true → itF f k x = itF f k y → x = y
  | 0, _, _, _, _, h => h
  | k + 1, x, y, hx, hy, h => P.inj x y hx hy (itF_inj P k (f x) (f y) (P.map x hx) (P.map y hy) h)
theorem itF_back (P : PermB N D f) {x : Nat} (hx : D x = true) : ∃ m, 0 < m ∧ itF f m x = x := by
  obtain ⟨a, b, hab, _, he⟩ := pigeon (n := N) (k := N) (p := fun t => itF f t x) (fun t _ => P.lt _ (itF_map P t x hx)) (Nat.le_refl N)
  refine ⟨b - a, by omega, ?_⟩
  have h : itF f a x = itF f a (itF f (b - a) x) := by
    rw [← itF_add, show a + (b - a) = b by omega]; exact he
  exact (itF_inj P a _ _ hx (itF_map P _ x hx) h).symm
theorem itF_mul {m x : Nat} (h : itF f m x = x) : ∀ j, itF f (m * j) x = x
  | 0 => rfl
  | j + 1 => by rw [Nat.mul_succ, itF_add, h, itF_mul h j]
theorem orb_eqv (P : PermB N D f) : EqvP D (OrbP f) := by
  refine ⟨fun x _ => ⟨0, rfl⟩, fun x y hx _ ⟨k, hk⟩ => ?_, fun x y z _ _ _ ⟨k, hk⟩ ⟨j, hj⟩ => ⟨j + k, by rw [itF_add, hk, hj]⟩⟩
  obtain ⟨m, hm, he⟩ := itF_back P hx
  have h1 : k ≤ m * k := Nat.le_mul_of_pos_left k hm
  refine ⟨m * k - k, ?_⟩
  rw [← hk, ← itF_add, show m * k - k + k = m * k by omega]
  exact itF_mul he k
/-- Two ends change places. -/
def swF (f : Nat → Nat) (p q : Nat) : Nat → Nat := fun x => if x = p then f q else if x = q then f p else f x
theorem swF_p (p q : Nat) : swF f p q p = f q := if_pos rfl
theorem swF_q (p q : Nat) : swF f p q q = f p := by
  unfold swF
  by_cases h : q = p
  · rw [if_pos h, h]
  · rw [if_neg h, if_pos rfl]
theorem swF_else {p q x : Nat} (h1 : x ≠ p) (h2 : x ≠ q) : swF f p q x = f x := by unfold swF; rw [if_neg h1, if_neg h2]
theorem swF_perm (P : PermB N D f) {p q : Nat} (hp : D p = true) (hq : D q = true) : PermB N D (swF f p q) := by
  have hval : ∀ x, D x = true → ∃ x', D x' = true ∧ swF f p q x = f x' ∧ x' = (if x = p then q else if x = q then p else x) := fun x hx => by
    by_cases h1 : x = p
    · exact ⟨q, hq, by rw [h1, swF_p], by rw [if_pos h1]⟩
    · by_cases h2 : x = q
      · exact ⟨p, hp, by rw [h2, swF_q], by rw [if_neg h1, if_pos h2]⟩
      · exact ⟨x, hx, swF_else h1 h2, by rw [if_neg h1, if_neg h2]⟩
  refine ⟨P.lt, fun x hx => ?_, fun x y hx hy h => ?_⟩
  · obtain ⟨x', h1, h2, _⟩ := hval x hx
    rw [h2]; exact P.map x' h1
  · obtain ⟨x', h1, h2, h3⟩ := hval x hx
    obtain ⟨y', g1, g2, g3⟩ := hval y hy
    have e := P.inj x' y' h1 g1 (by rw [← h2, ← g2, h])
    rw [h3, g3] at e
    by_cases a1 : x = p <;> by_cases a2 : y = p
    · omega
    · rw [if_pos a1, if_neg a2] at e; split at e <;> omega
    · rw [if_neg a1, if_pos a2] at e; split at e <;> omega
    · rw [if_neg a1, if_neg a2] at e
      split at e <;> split at e <;> omega
theorem itF_same {p q : Nat} : ∀ k x, (∀ j, j < k → itF f j x ≠ p ∧ itF f j x ≠ q) → itF (swF f p q) k x = itF f k x
  | 0, _, _ => rfl
  | k + 1, x, h => by
    have h0 := h 0 (by omega)
    show itF (swF f p q) k (swF f p q x) = itF f k (f x)
    rw [swF_else (x := x) h0.1 h0.2]
    exact itF_same k (f x) fun j hj => h (j + 1) (by omega)
theorem orb_to {p q x : Nat} (h1 : OrbP f x p) (h2 : ¬ OrbP f x q) : OrbP (swF f p q) x p := by
  obtain ⟨k0, hk0⟩ := h1
  obtain ⟨k, hk, hmin⟩ := arg_min (P := fun k => itF f k x = p) (fun k => k) k0 k0 (Nat.le_refl _) hk0
  refine ⟨k, ?_⟩
  rw [itF_same k x fun j hj => ⟨fun e => by have := hmin j e; omega, fun e => h2 ⟨j, e⟩⟩]
  exact hk
theorem swF_comm (p q : Nat) : swF f p q = swF f q p := by
  funext x
  unfold swF
  by_cases h1 : x = p <;> by_cases h2 : x = q
  · subst h1; subst h2; rfl
  · rw [if_pos h1, if_neg h2, if_pos h1]
  · rw [if_neg h1, if_pos h2, if_pos h2]
  · rw [if_neg h1, if_neg h2, if_neg h2, if_neg h1]
/-- Two rings become one. -/
theorem orb_merge (P : PermB N D f) {p q : Nat} (hp : D p = true) (hq : D q = true) (hno : ¬ OrbP f p q) (x y : Nat) (hx : D x = true) (hy : D y = true) :
    OrbP (swF f p q) x y ↔ OrbP f x y ∨ (OrbP f x p ∧ OrbP f q y) ∨ (OrbP f x q ∧ OrbP f p y) := by
  have E := orb_eqv P
  have E' := orb_eqv (swF_perm P hp hq)
  have hno' : ¬ OrbP f q p := fun h => hno (E.symm q p hq hp h)
  have kp : ∀ x, D x = true → OrbP f x p → OrbP (swF f p q) x p := fun x hx h => orb_to h fun h' => hno (E.trans p x q hp hx hq (E.symm x p hx hp h) h')
  have kq : ∀ x, D x = true → OrbP f x q → OrbP (swF f p q) x q := fun x hx h => by
    rw [swF_comm]; exact orb_to h fun h' => hno (E.trans p x q hp hx hq (E.symm x p hx hp h') h)
  have hfq := P.map q hq
  have hpq : OrbP (swF f p q) p q := by
    have h1 : OrbP (swF f p q) (f q) q := kq (f q) hfq (E.symm q (f q) hq hfq ⟨1, rfl⟩)
    obtain ⟨k, hk⟩ := h1
    exact ⟨k + 1, by show itF _ k (swF f p q p) = q; rw [swF_p]; exact hk⟩
  constructor
  · rintro ⟨k, hk⟩
    subst hk
    clear hy
    induction k with
    | zero => exact .inl ⟨0, rfl⟩
    | succ k ih =>
      rw [itF_succ]
      have hz := itF_map (swF_perm P hp hq) k x hx
      generalize itF (swF f p q) k x = z at *
      have hfz := P.map z hz
      have hfp := P.map p hp
      by_cases e1 : z = p
      · subst e1
        rw [swF_p]
        rcases ih with h | ⟨h1, h2⟩ | ⟨h1, _⟩
        · exact .inr (.inl ⟨h, ⟨1, rfl⟩⟩)
        · exact absurd h2 hno'
        · exact .inl (E.trans x q (f q) hx hq hfq h1 ⟨1, rfl⟩)
      · by_cases e2 : z = q
        · subst e2
          rw [swF_q]
          rcases ih with h | ⟨h1, _⟩ | ⟨h1, h2⟩
          · exact .inr (.inr ⟨h, ⟨1, rfl⟩⟩)
          · exact .inl (E.trans x p (f p) hx hp hfp h1 ⟨1, rfl⟩)
          · exact absurd h2 hno
        · rw [swF_else e1 e2]
          rcases ih with h | ⟨h1, h2⟩ | ⟨h1, h2⟩
          · exact .inl (E.trans x z (f z) hx hz hfz h ⟨1, rfl⟩)
          · exact .inr (.inl ⟨h1, E.trans q z (f z) hq hz hfz h2 ⟨1, rfl⟩⟩)
          · exact .inr (.inr ⟨h1, E.trans p z (f z) hp hz hfz h2 ⟨1, rfl⟩⟩)
  · rintro (h | ⟨h1, h2⟩ | ⟨h1, h2⟩)
    · by_cases g1 : OrbP f x p
      · have g2 : OrbP f y p := E.trans y x p hy hx hp (E.symm x y hx hy h) g1
        exact E'.trans x p y hx hp hy (kp x hx g1) (E'.symm y p hy hp (kp y hy g2))
      · by_cases g3 : OrbP f x q
        · have g2 : OrbP f y q := E.trans y x q hy hx hq (E.symm x y hx hy h) g3
          exact E'.trans x q y hx hq hy (kq x hx g3) (E'.symm y q hy hq (kq y hy g2))
        · obtain ⟨k, hk⟩ := h
          exact ⟨k, by rw [itF_same k x fun j _ => ⟨fun e => g1 ⟨j, e⟩, fun e => g3 ⟨j, e⟩⟩]; exact hk⟩
    · have h3 := kq y hy (E.symm q y hq hy h2)
      exact E'.trans x p y hx hp hy (kp x hx h1) (E'.trans p q y hp hq hy hpq (E'.symm y q hy hq h3))
    · have h3 := kp y hy (E.symm p y hp hy h2)
      exact E'.trans x q y hx hq hy (kq x hx h1) (E'.trans q p y hq hp hy (E'.symm p q hp hq hpq) (E'.symm y p hy hp h3))
theorem rings_merge (P : PermB N D f) {p q : Nat} (hp : D p = true) (hq : D q = true) (hno : ¬ OrbP f p q) : clsP (OrbP f) D N = clsP (OrbP (swF f p q)) D N + 1 :=
  cls_merge (orb_eqv P) P.lt hp hq hno fun x y hx hy => orb_merge P hp hq hno x y hx hy
/-- One ring becomes two. -/
theorem rings_split (P : PermB N D f) {p q : Nat} (hp : D p = true) (hq : D q = true) (hpq : p ≠ q) (h : OrbP f p q) : clsP (OrbP (swF f p q)) D N = clsP (OrbP f) D N + 1 := by
  have E := orb_eqv P
  have hno : ¬ OrbP (swF f p q) p q := by
    obtain ⟨l0, hl0⟩ := E.symm p q hp hq h
    obtain ⟨l, hl, hmin⟩ := arg_min (P := fun l => itF f l q = p) (fun l => l) l0 l0 (Nat.le_refl _) hl0
    have hl1 : 0 < l := by
      rcases Nat.eq_zero_or_pos l with rfl | h
      · exact absurd hl.symm hpq
      · exact h
    have hq' : ∀ j, 0 < j → j ≤ l → itF f j q ≠ q := fun j h1 h2 e => by
      by_cases e2 : j = l
      · subst e2; rw [hl] at e; exact hpq e
      · have h3 : itF f (l - j) q = p := by
          have h4 : itF f l q = itF f (l - j) (itF f j q) := by rw [← itF_add, show l - j + j = l by omega]
          rw [e] at h4
          rw [← h4]; exact hl
        have := hmin _ h3
        omega
    have hin : ∀ k, ∃ j, 0 < j ∧ j ≤ l ∧ itF (swF f p q) k p = itF f j q := fun k => by
      induction k with
      | zero => exact ⟨l, hl1, Nat.le_refl _, hl.symm⟩
      | succ k ih =>
        obtain ⟨j, h1, h2, h3⟩ := ih
        rw [itF_succ, h3]
        by_cases e : j = l
        · subst e; rw [hl, swF_p]; exact ⟨1, by omega, by omega, rfl⟩
        · rw [swF_else (fun e' => by have := hmin j e'; omega) (hq' j h1 h2), ← itF_succ (f := f)]
          exact ⟨j + 1, by omega, by omega, rfl⟩
    rintro ⟨k, hk⟩
    obtain ⟨j, h1, h2, h3⟩ := hin k
    exact hq' j h1 h2 (h3.symm.trans hk)
  have e : swF (swF f p q) p q = f := by
    funext x
    by_cases h1 : x = p
    · subst h1; rw [swF_p, swF_q]
    · by_cases h2 : x = q
      · subst h2; rw [swF_q, swF_p]
      · rw [swF_else h1 h2, swF_else h1 h2]
  have := rings_merge (swF_perm P hp hq) hp hq hno
  rw [e] at this
  exact this
end
end Go.Proofs.Yticickicfigpbaa
