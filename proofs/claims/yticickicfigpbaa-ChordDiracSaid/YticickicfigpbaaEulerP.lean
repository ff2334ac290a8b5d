/- EULER, POINCARE: nodes, less edges, and faces, are twice the parts, less twice the holes. Plain facts, of no program. (Of darts: each edge has two; the turning leads round each node; edge by edge two ends change places.) -/
import Derived.Test.YticickicfigpbaaCycleP
namespace Go.Proofs.Yticickicfigpbaa

/-- The faces' turning, when these edges have been put in. -/
def phiF (s : Nat → Nat) : List (Nat × Nat) → Nat → Nat
  | [] => s
  | e :: L => swF (phiF s L) e.1 e.2
/-- Two classes in one. -/
def mgR (R : Nat → Nat → Prop) (a b : Nat) : Nat → Nat → Prop := fun x y => R x y ∨ (R x a ∧ R b y) ∨ (R x b ∧ R a y)
/-- Who is linked, when these edges have been put in. -/
def relF (s : Nat → Nat) : List (Nat × Nat) → Nat → Nat → Prop
  | [] => OrbP s
  | e :: L => mgR (relF s L) e.1 e.2
def DartsP (D : BS) (L : List (Nat × Nat)) : Prop := ∀ e, e ∈ L → D e.1 = true ∧ D e.2 = true ∧ e.1 ≠ e.2
section
variable {N : Nat} {D : BS} {R R' : Nat → Nat → Prop} {s : Nat → Nat}
theorem mg_eqv (E : EqvP D R) {a b : Nat} (ha : D a = true) (hb : D b = true) : EqvP D (mgR R a b) := by
  refine ⟨fun x hx => .inl (E.refl x hx), fun x y hx hy h => ?_, fun x y z hx hy hz h1 h2 => ?_⟩
  · rcases h with h | ⟨h1, h2⟩ | ⟨h1, h2⟩
    · exact .inl (E.symm x y hx hy h)
    · exact .inr (.inr ⟨E.symm b y hb hy h2, E.symm x a hx ha h1⟩)
    · exact .inr (.inl ⟨E.symm a y ha hy h2, E.symm x b hx hb h1⟩)
  · rcases h1 with h1 | ⟨h1, h3⟩ | ⟨h1, h3⟩ <;> rcases h2 with h2 | ⟨h2, h4⟩ | ⟨h2, h4⟩
    · exact .inl (E.trans x y z hx hy hz h1 h2)
    · exact .inr (.inl ⟨E.trans x y a hx hy ha h1 h2, h4⟩)
    · exact .inr (.inr ⟨E.trans x y b hx hy hb h1 h2, h4⟩)
    · exact .inr (.inl ⟨h1, E.trans b y z hb hy hz h3 h2⟩)
    · have h5 := E.trans b y a hb hy ha h3 h2
      exact .inl (E.trans x a z hx ha hz h1 (E.trans a b z ha hb hz (E.symm b a hb ha h5) h4))
    · exact .inl (E.trans x a z hx ha hz h1 h4)
    · exact .inr (.inr ⟨h1, E.trans a y z ha hy hz h3 h2⟩)
    · exact .inl (E.trans x b z hx hb hz h1 h4)
    · have h5 := E.trans a y b ha hy hb h3 h2
      exact .inl (E.trans x b z hx hb hz h1 (E.trans b a z hb ha hz (E.symm a b ha hb h5) h4))
theorem cls_congr (h : ∀ x y, D x = true → D y = true → (R x y ↔ R' x y)) : clsP R D N = clsP R' D N := by
  classical
  unfold clsP
  refine sizeP_congr N fun x _ => ?_
  rw [Bool.eq_iff_iff]
  simp only [Bool.and_eq_true, decide_eq_true_eq]
  exact ⟨fun ⟨h1, h2⟩ => ⟨h1, fun y hy hdy hr => h2 y hy hdy ((h y x hdy h1).2 hr)⟩, fun ⟨h1, h2⟩ => ⟨h1, fun y hy hdy hr => h2 y hy hdy ((h y x hdy h1).1 hr)⟩⟩
/-- Finer classes are no fewer. -/
theorem cls_finer (h : ∀ x y, D x = true → D y = true → R x y → R' x y) : clsP R' D N ≤ clsP R D N := by
  classical
  unfold clsP
  refine sizeP_sub fun x _ h1 => ?_
  simp only [Bool.and_eq_true, decide_eq_true_eq] at h1 ⊢
  exact ⟨h1.1, fun y hy hdy hr => h1.2 y hy hdy (h y x hdy h1.1 hr)⟩
theorem phi_perm (P : PermB N D s) : ∀ L, DartsP D L → PermB N D (phiF s L)
  | [], _ => P
  | e :: L, h => by
    have h1 := h e (List.mem_cons_self ..)
    exact swF_perm (phi_perm P L fun x hx => h x (List.mem_cons_of_mem _ hx)) h1.1 h1.2.1
theorem rel_eqv (P : PermB N D s) : ∀ L, DartsP D L → EqvP D (relF s L)
  | [], _ => orb_eqv P
  | e :: L, h => by
    have h1 := h e (List.mem_cons_self ..)
    exact mg_eqv (rel_eqv P L fun x hx => h x (List.mem_cons_of_mem _ hx)) h1.1 h1.2.1
/-- A face is of one part. -/
theorem face_part (P : PermB N D s) : ∀ L, DartsP D L → ∀ x y, D x = true → D y = true → OrbP (phiF s L) x y → relF s L x y
  | [], _, _, _, _, _, h => h
  | e :: L, hL, x, y, hx, _, ⟨k, hk⟩ => by
    have h1 := hL e (List.mem_cons_self ..)
    have hL' : DartsP D L := fun x hx => hL x (List.mem_cons_of_mem _ hx)
    have Q := phi_perm P L hL'
    have Q' := phi_perm P (e :: L) hL
    have E := rel_eqv P L hL'
    have E' := rel_eqv P (e :: L) hL
    have hstep : ∀ z, D z = true → relF s (e :: L) z (phiF s (e :: L) z) := fun z hz => by
      show mgR (relF s L) e.1 e.2 z (swF (phiF s L) e.1 e.2 z)
      by_cases e1 : z = e.1
      · rw [e1, swF_p]
        exact .inr (.inl ⟨E.refl _ h1.1, face_part P L hL' _ _ h1.2.1 (Q.map _ h1.2.1) ⟨1, rfl⟩⟩)
      · by_cases e2 : z = e.2
        · rw [e2, swF_q]
          exact .inr (.inr ⟨E.refl _ h1.2.1, face_part P L hL' _ _ h1.1 (Q.map _ h1.1) ⟨1, rfl⟩⟩)
        · rw [swF_else e1 e2]
          exact .inl (face_part P L hL' _ _ hz (Q.map z hz) ⟨1, rfl⟩)
    subst hk
    induction k with
    | zero => exact E'.refl x hx
    | succ k ih =>
      rw [itF_succ]
      have hz := itF_map Q' k x hx
      exact E'.trans x _ _ hx hz (Q'.map _ hz) (ih hz) (hstep _ hz)
/-- EULER, POINCARE. -/
theorem euler (P : PermB N D s) : ∀ L, DartsP D L → ∃ h, clsP (OrbP s) D N + clsP (OrbP (phiF s L)) D N + 2 * h = 2 * clsP (relF s L) D N + L.length
  | [], _ => ⟨0, by show clsP (OrbP s) D N + clsP (OrbP s) D N + 2 * 0 = 2 * clsP (OrbP s) D N + 0; omega⟩
  | e :: L, hL => by
    have h1 := hL e (List.mem_cons_self ..)
    have hL' : DartsP D L := fun x hx => hL x (List.mem_cons_of_mem _ hx)
    have Q := phi_perm P L hL'
    have E := rel_eqv P L hL'
    obtain ⟨h, ih⟩ := euler P L hL'
    show ∃ h, clsP (OrbP s) D N + clsP (OrbP (swF (phiF s L) e.1 e.2)) D N + 2 * h = 2 * clsP (mgR (relF s L) e.1 e.2) D N + (L.length + 1)
    by_cases hr : relF s L e.1 e.2
    · have e1 : clsP (mgR (relF s L) e.1 e.2) D N = clsP (relF s L) D N := cls_congr fun x y hx hy => by
        constructor
        · rintro (h | ⟨g1, g2⟩ | ⟨g1, g2⟩)
          · exact h
          · exact E.trans x e.1 y hx h1.1 hy g1 (E.trans e.1 e.2 y h1.1 h1.2.1 hy hr g2)
          · exact E.trans x e.2 y hx h1.2.1 hy g1 (E.trans e.2 e.1 y h1.2.1 h1.1 hy (E.symm e.1 e.2 h1.1 h1.2.1 hr) g2)
        · exact .inl
      by_cases ho : OrbP (phiF s L) e.1 e.2
      · have e2 := rings_split Q h1.1 h1.2.1 h1.2.2 ho
        exact ⟨h, by omega⟩
      · have e2 := rings_merge Q h1.1 h1.2.1 ho
        exact ⟨h + 1, by omega⟩
    · have ho : ¬ OrbP (phiF s L) e.1 e.2 := fun ho => hr (face_part P L hL' _ _ h1.1 h1.2.1 ho)
      have e2 := rings_merge Q h1.1 h1.2.1 ho
      have e3 := cls_merge (R' := mgR (relF s L) e.1 e.2) E P.lt h1.1 h1.2.1 hr fun x y _ _ => Iff.rfl
      exact ⟨h, by omega⟩
theorem faces_parts (P : PermB N D s) (L : List (Nat × Nat)) (hL : DartsP D L) : clsP (relF s L) D N ≤ clsP (OrbP (phiF s L)) D N := cls_finer fun x y hx hy h => face_part P L hL x y hx hy h
/-- The faces' turning goes over the edge first, then round the node. -/
theorem phi_eq {al : Nat → Nat} : ∀ L : List (Nat × Nat), (L.map (·.1) ++ L.map (·.2)).Nodup → (∀ e, e ∈ L → al e.1 = e.2 ∧ al e.2 = e.1) → (∀ x, (∀ e, e ∈ L → x ≠ e.1 ∧ x ≠ e.2) → phiF s L x = s x) ∧ ∀ e, e ∈ L → phiF s L e.1 = s e.2 ∧ phiF s L e.2 = s e.1
  | [], _, _ => ⟨fun _ _ => rfl, fun e he => by cases he⟩
  | e :: L, hn, ha => by
    have hn' : (e.1 :: (L.map (·.1) ++ e.2 :: L.map (·.2))).Nodup := by simpa using hn
    obtain ⟨n1, n2⟩ := List.nodup_cons.1 hn'
    have hp : (e.2 :: (L.map (·.1) ++ L.map (·.2))).Nodup := (List.perm_middle.nodup_iff).1 n2
    obtain ⟨n3, n4⟩ := List.nodup_cons.1 hp
    obtain ⟨ih1, ih2⟩ := phi_eq (al := al) L n4 fun x hx => ha x (List.mem_cons_of_mem _ hx)
    have hfar : ∀ e', e' ∈ L → (e.1 ≠ e'.1 ∧ e.1 ≠ e'.2) ∧ e.2 ≠ e'.1 ∧ e.2 ≠ e'.2 := fun e' he' => by
      have m1 : e'.1 ∈ L.map (·.1) := List.mem_map.2 ⟨e', he', rfl⟩
      have m2 : e'.2 ∈ L.map (·.2) := List.mem_map.2 ⟨e', he', rfl⟩
      refine ⟨⟨fun h => n1 ?_, fun h => n1 ?_⟩, fun h => n3 ?_, fun h => n3 ?_⟩
      · rw [h]; exact List.mem_append.2 (.inl m1)
      · rw [h]; exact List.mem_append.2 (.inr (List.mem_cons_of_mem _ m2))
      · rw [h]; exact List.mem_append.2 (.inl m1)
      · rw [h]; exact List.mem_append.2 (.inr m2)
    have v1 := ih1 e.1 fun e' he' => (hfar e' he').1
    have v2 := ih1 e.2 fun e' he' => (hfar e' he').2
    refine ⟨fun x hx => ?_, fun e' he' => ?_⟩
    · obtain ⟨g1, g2⟩ := hx e (List.mem_cons_self ..)
      show swF (phiF s L) e.1 e.2 x = s x
      rw [swF_else g1 g2]
      exact ih1 x fun e' he' => hx e' (List.mem_cons_of_mem _ he')
    · rcases List.mem_cons.1 he' with rfl | he'
      · show swF (phiF s L) e'.1 e'.2 e'.1 = _ ∧ swF (phiF s L) e'.1 e'.2 e'.2 = _
        rw [swF_p, swF_q]; exact ⟨v2, v1⟩
      · obtain ⟨⟨g1, g2⟩, g3, g4⟩ := hfar e' he'
        show swF (phiF s L) e.1 e.2 e'.1 = _ ∧ swF (phiF s L) e.1 e.2 e'.2 = _
        rw [swF_else (Ne.symm g1) (Ne.symm g3), swF_else (Ne.symm g2) (Ne.symm g4)]
        exact ih2 e' he'
end
end Go.Proofs.Yticickicfigpbaa
