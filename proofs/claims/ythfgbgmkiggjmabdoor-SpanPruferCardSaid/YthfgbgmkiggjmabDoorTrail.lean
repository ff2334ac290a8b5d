/- Tours: which way uses up the edges, and that it is the first one. Plain facts on lists of pairs. No conditions. -/
import Derived.Test.YthfgbgmkiggjmabDoorWalks
namespace Go.Proofs.YthfgbgmkiggjmabDoor

abbrev Pr := Nat × Nat
/-- Two nodes, whichever comes first. -/
def pr (a b : Nat) : Pr := (min a b, max a b)
theorem pr_comm (a b : Nat) : pr a b = pr b a := by unfold pr; rw [Nat.min_comm, Nat.max_comm]
theorem pr_eq {a b c d : Nat} (h : pr a b = pr c d) : (a = c ∧ b = d) ∨ (a = d ∧ b = c) := by
  unfold pr at h
  injection h with h1 h2
  omega
theorem pr_self (p : Pr) (h : p.1 < p.2) : pr p.1 p.2 = p := by
  unfold pr
  rw [Nat.min_eq_left (by omega), Nat.max_eq_right (by omega)]
theorem pr_right {x j u : Nat} (h : pr x j = pr x u) : j = u := by rcases pr_eq h with h | h <;> omega

def prs : Nat → List Nat → List Pr
  | _, [] => []
  | x, y :: l => pr x y :: prs y l
def endN : Nat → List Nat → Nat
  | x, [] => x
  | _, y :: l => endN y l
theorem prs_append : ∀ (x : Nat) (l l' : List Nat), prs x (l ++ l') = prs x l ++ prs (endN x l) l'
  | _, [], _ => rfl
  | x, y :: l, l' => by simp only [List.cons_append, prs, endN, prs_append y l l']
theorem endN_append : ∀ (x : Nat) (l l' : List Nat), endN x (l ++ l') = endN (endN x l) l'
  | _, [], _ => rfl
  | _, y :: l, l' => by simp only [List.cons_append, endN, endN_append y l l']
theorem prs_length : ∀ (x : Nat) (l : List Nat), (prs x l).length = l.length
  | _, [] => rfl
  | _, y :: l => by simp only [prs, List.length_cons, prs_length y l]
/-- Both nodes of a pair of a way lie on it. -/
theorem prs_mem : ∀ (x : Nat) (l : List Nat) (a b : Nat), pr a b ∈ prs x l → a ∈ x :: l ∧ b ∈ x :: l
  | _, [], _, _, h => by simp [prs] at h
  | x, y :: l, a, b, h => by
    simp only [prs, List.mem_cons] at h
    rcases h with h | h
    · rcases pr_eq h with ⟨rfl, rfl⟩ | ⟨rfl, rfl⟩ <;> simp
    · have := prs_mem y l a b h
      exact ⟨List.mem_cons_of_mem _ this.1, List.mem_cons_of_mem _ this.2⟩

def has (y : Nat) (p : Pr) : Bool := p.1 == y || p.2 == y
theorem has_pr (y a b : Nat) : has y (pr a b) = (a == y || b == y) := by
  unfold has pr
  rw [Bool.eq_iff_iff]
  simp only [Bool.or_eq_true, beq_iff_eq]
  omega
def degP (G : List Pr) (y : Nat) : Nat := G.countP (has y)
theorem degP_cons (p : Pr) (G : List Pr) (y : Nat) : degP (p :: G) y = degP G y + if has y p = true then 1 else 0 := by
  unfold degP; rw [List.countP_cons]
theorem degP_append (G H : List Pr) (y : Nat) : degP (G ++ H) y = degP G y + degP H y := by unfold degP; rw [List.countP_append]
theorem degP_perm {G H : List Pr} (h : G.Perm H) (y : Nat) : degP G y = degP H y := h.countP_eq _
theorem degP_erase {G : List Pr} {p : Pr} (h : p ∈ G) (y : Nat) : degP G y = degP (G.erase p) y + if has y p = true then 1 else 0 := by
  rw [degP_perm (List.perm_cons_erase h) y, degP_cons]
theorem degP_zero {G : List Pr} {y : Nat} (hs : ∀ p ∈ G, p.1 < p.2) (h : ∀ j, pr y j ∉ G) : degP G y = 0 := by
  unfold degP
  rw [List.countP_eq_zero]
  intro p hp hh
  have hlt := hs p hp
  simp only [has, Bool.or_eq_true, beq_iff_eq] at hh
  have he := pr_self p hlt
  rcases hh with rfl | rfl
  · exact h p.2 (by rw [he]; exact hp)
  · exact h p.1 (by rw [pr_comm, he]; exact hp)
theorem degP_pos {G : List Pr} {y j : Nat} (h : pr y j ∈ G) : 0 < degP G y := by
  unfold degP
  rw [List.countP_pos_iff]
  exact ⟨_, h, by rw [has_pr]; simp⟩

/-- Edges that are no loops, none of them twice. -/
structure Simp (G : List Pr) : Prop where
  lt : ∀ p ∈ G, p.1 < p.2
  once : G.Nodup
theorem Simp.ne {G : List Pr} (h : Simp G) {a b : Nat} (hp : pr a b ∈ G) : a ≠ b := fun e => by
  have := h.lt _ hp
  subst e
  simp [pr] at this
theorem Simp.erase {G : List Pr} (h : Simp G) (p : Pr) : Simp (G.erase p) := ⟨fun q hq => h.lt q (List.mem_of_mem_erase hq), h.once.erase p⟩
theorem Simp.mem_erase {G : List Pr} (h : Simp G) {p q : Pr} : q ∈ G.erase p ↔ q ≠ p ∧ q ∈ G := h.once.mem_erase_iff
theorem Simp.perm {G H : List Pr} (h : Simp G) (hp : G.Perm H) : Simp H := ⟨fun p hm => h.lt p (hp.mem_iff.2 hm), hp.nodup_iff.1 h.once⟩
theorem Simp.right {G H : List Pr} (h : Simp (G ++ H)) : Simp H := ⟨fun p hm => h.lt p (List.mem_append_right _ hm), (List.nodup_append.1 h.once).2.1⟩
theorem Simp.left {G H : List Pr} (h : Simp (G ++ H)) : Simp G := ⟨fun p hm => h.lt p (List.mem_append_left _ hm), (List.nodup_append.1 h.once).1⟩

/-- Just the two ends are odd. -/
def Par (G : List Pr) (x s : Nat) : Prop := ∀ y, degP G y % 2 = if (y = x ↔ y = s) then 0 else 1
theorem Par.perm {G H : List Pr} {x s : Nat} (h : Par G x s) (hp : G.Perm H) : Par H x s := fun y => by rw [← degP_perm hp]; exact h y
theorem par_num (y x z e d : Nat) (hxz : x ≠ z) (ih : d % 2 = if (y = z ↔ y = e) then 0 else 1) : (d + if x = y ∨ z = y then 1 else 0) % 2 = if (y = x ↔ y = e) then 0 else 1 := by
  by_cases h1 : y = x
  · by_cases h2 : y = e
    · rw [if_neg (by omega)] at ih; rw [if_pos (.inl h1.symm), if_pos (by omega)]; omega
    · rw [if_pos (by omega)] at ih; rw [if_pos (.inl h1.symm), if_neg (by omega)]; omega
  · by_cases h2 : y = z
    · by_cases h3 : y = e
      · rw [if_pos (by omega)] at ih; rw [if_pos (.inr h2.symm), if_neg (by omega)]; omega
      · rw [if_neg (by omega)] at ih; rw [if_pos (.inr h2.symm), if_pos (by omega)]; omega
    · by_cases h3 : y = e
      · rw [if_neg (by omega)] at ih; rw [if_neg (by omega), if_neg (by omega)]; omega
      · rw [if_pos (by omega)] at ih; rw [if_neg (by omega), if_pos (by omega)]; omega
theorem par_way : ∀ (x : Nat) (l : List Nat), (∀ p ∈ prs x l, p.1 < p.2) → Par (prs x l) x (endN x l)
  | x, [], _ => fun y => by simp [prs, endN, degP]
  | x, z :: l, h => fun y => by
    have ih := par_way z l (fun p hp => h p (List.mem_cons_of_mem _ hp)) y
    have hxz : x ≠ z := fun e => by
      have := h (pr x z) (List.mem_cons_self ..)
      subst e
      simp [pr] at this
    simp only [prs, endN, degP_cons, has_pr, Bool.or_eq_true, beq_iff_eq]
    exact par_num _ _ _ _ _ hxz ih
theorem Par.step {G : List Pr} {x s u : Nat} (h : Par G x s) (hu : pr x u ∈ G) (hxu : x ≠ u) : Par (G.erase (pr x u)) u s := fun y => by
  have h0 := h y
  have h1 := degP_erase hu y
  rw [has_pr] at h1
  simp only [Bool.or_eq_true, beq_iff_eq] at h1
  generalize degP G y = d at *
  generalize degP (G.erase (pr x u)) y = d' at *
  by_cases e1 : y = x
  · rw [if_pos (.inl e1.symm)] at h1
    by_cases e2 : y = s
    · rw [if_pos (by omega)] at h0; rw [if_neg (by omega)]; omega
    · rw [if_neg (by omega)] at h0; rw [if_pos (by omega)]; omega
  · by_cases e3 : y = u
    · rw [if_pos (.inr e3.symm)] at h1
      by_cases e2 : y = s
      · rw [if_neg (by omega)] at h0; rw [if_pos (by omega)]; omega
      · rw [if_pos (by omega)] at h0; rw [if_neg (by omega)]; omega
    · rw [if_neg (by omega)] at h1
      by_cases e2 : y = s
      · rw [if_neg (by omega)] at h0; rw [if_neg (by omega)]; omega
      · rw [if_pos (by omega)] at h0; rw [if_pos (by omega)]; omega

/-- How the edges are used up from a node: the least step first; what is left of it then stands ahead of that step. -/
inductive Wk : List Pr → Nat → List Pr → List Nat → Prop
  | stop {G : List Pr} {x : Nat} : (∀ j, pr x j ∉ G) → Wk G x G []
  | go {G G1 G2 : List Pr} {x u : Nat} {l1 l2 : List Nat} : pr x u ∈ G → (∀ j, j < u → pr x j ∉ G) → Wk (G.erase (pr x u)) u G1 l1 → Wk G1 x G2 l2 → Wk G x G2 (l2 ++ u :: l1)

theorem Wk.way {G G' : List Pr} {x : Nat} {l : List Nat} (h : Wk G x G' l) : ∀ s, Simp G → Par G x s → endN x l = s ∧ (prs x l ++ G').Perm G ∧ ∀ y ∈ x :: l, ∀ j, pr y j ∉ G' := by
  induction h with
  | stop hn =>
    rename_i G x
    intro s hs hp
    refine ⟨?_, by simp [prs], fun y hy j => by simp at hy; subst hy; exact hn j⟩
    have h0 := hp x
    rw [degP_zero hs.lt hn] at h0
    by_cases e : x = s
    · exact e
    · rw [if_neg (by omega)] at h0; omega
  | go hu hl w1 w2 ih1 ih2 =>
    rename_i G G1 G2 x u l1 l2
    intro s hs hp
    have hxu := hs.ne hu
    obtain ⟨e1, p1, n1⟩ := ih1 s (hs.erase _) (hp.step hu hxu)
    have hs1 : Simp (prs u l1 ++ G1) := (hs.erase _).perm p1.symm
    have hpar1 : Par G1 x x := fun y => by
      have a1 := par_way u l1 hs1.left.lt y
      have a2 := hp.step hu hxu y
      rw [← degP_perm p1, degP_append] at a2
      rw [e1] at a1
      rw [if_pos Iff.rfl]
      split at a1 <;> split at a2 <;> omega
    obtain ⟨e2, p2, n2⟩ := ih2 x hs1.right hpar1
    have sub : ∀ p, p ∈ G2 → p ∈ G1 := fun p hp => p2.mem_iff.1 (List.mem_append_right _ hp)
    refine ⟨by rw [endN_append, e2]; exact e1, ?_, fun y hy j hj => ?_⟩
    · rw [prs_append, e2]
      have q1 : (prs x l2 ++ pr x u :: prs u l1 ++ G2).Perm (pr x u :: (prs u l1 ++ (prs x l2 ++ G2))) := by
        have a : (prs x l2 ++ (pr x u :: prs u l1)).Perm ((pr x u :: prs u l1) ++ prs x l2) := List.perm_append_comm
        have b := a.append_right G2
        simpa [List.append_assoc] using b
      exact (q1.trans (((List.Perm.append_left (prs u l1) p2).trans p1).cons _)).trans (List.perm_cons_erase hu).symm
    · simp only [List.mem_cons, List.mem_append] at hy
      rcases hy with rfl | hy | hy
      · exact n2 y (List.mem_cons_self ..) j hj
      · exact n2 y (List.mem_cons_of_mem _ hy) j hj
      · exact n1 y (by simpa using hy) j (sub _ hj)

theorem Wk.length {G G' : List Pr} {x : Nat} {l : List Nat} (h : Wk G x G' l) : l.length + G'.length = G.length := by
  induction h with
  | stop _ => simp
  | go hu _ _ _ ih1 ih2 =>
    have := List.length_erase_of_mem hu
    have := List.length_pos_of_mem hu
    simp only [List.length_append, List.length_cons]
    omega
theorem Wk.sub {G G' : List Pr} {x : Nat} {l : List Nat} (h : Wk G x G' l) : G'.Sublist G := by
  induction h with
  | stop _ => exact List.Sublist.refl _
  | go _ _ _ _ ih1 ih2 => exact (ih2.trans ih1).trans List.erase_sublist
theorem Simp.sub {G H : List Pr} (h : Simp G) (hs : H.Sublist G) : Simp H := ⟨fun p hp => h.lt p (hs.subset hp), h.once.sublist hs⟩

def adjP (F : List Pr) (i j : Nat) : Bool := F.contains (pr i j)
theorem adjP_iff {F : List Pr} {i j : Nat} : adjP F i j = true ↔ pr i j ∈ F := by unfold adjP; rw [List.contains_iff_mem]
/-- Is there a way? -/
def Lk (F : List Pr) (a y : Nat) : Prop := ∃ k, wk (adjP F) k a y
theorem Lk.perm {F H : List Pr} (hp : F.Perm H) {a y : Nat} (h : Lk F a y) : Lk H a y := by
  obtain ⟨k, hk⟩ := h
  refine ⟨k, ?_⟩
  have : adjP F = adjP H := by
    funext i j
    rw [Bool.eq_iff_iff, adjP_iff, adjP_iff, hp.mem_iff]
  rw [← this]; exact hk
/-- May all edges be met, each once, from a to b? -/
def Tg (F : List Pr) (a b : Nat) : Prop := Par F a b ∧ ∀ y, 0 < degP F y → Lk F a y
theorem Tg.perm {F H : List Pr} (hp : F.Perm H) {a b : Nat} (h : Tg F a b) : Tg H a b := ⟨h.1.perm hp, fun y hy => (h.2 y (by rw [degP_perm hp]; exact hy)).perm hp⟩
theorem lk_way : ∀ (x : Nat) (l : List Nat) (F : List Pr), (∀ p ∈ prs x l, p ∈ F) → ∀ y ∈ x :: l, Lk F x y
  | x, [], _, _, y, hy => by simp at hy; subst hy; exact ⟨0, rfl⟩
  | x, z :: l, F, h, y, hy => by
    simp only [List.mem_cons] at hy
    rcases hy with rfl | hy
    · exact ⟨0, rfl⟩
    · obtain ⟨k, hk⟩ := lk_way z l F (fun p hp => h p (List.mem_cons_of_mem _ hp)) y (by simpa using hy)
      exact ⟨1 + k, wk_trans (wk_one.2 (adjP_iff.2 (h _ (List.mem_cons_self ..)))) hk⟩
theorem deg_on {F : List Pr} (hs : ∀ p ∈ F, p.1 < p.2) {y : Nat} (h : 0 < degP F y) : ∃ j, pr y j ∈ F := by
  apply Classical.byContradiction
  intro hn
  have := degP_zero hs (y := y) (fun j hj => hn ⟨j, hj⟩)
  omega
theorem tg_way (x : Nat) (l : List Nat) (hs : ∀ p ∈ prs x l, p.1 < p.2) : Tg (prs x l) x (endN x l) :=
  ⟨par_way x l hs, fun y hy => by
    obtain ⟨j, hj⟩ := deg_on hs hy
    exact lk_way x l _ (fun _ h => h) y (prs_mem x l y j hj).1⟩

/-- Each step is the least one behind which all that is left can be met; C is met afterwards. -/
def Grd (s0 : Nat) (C : List Pr) : Nat → List Nat → Prop
  | _, [] => True
  | x, v :: l => (∀ j, j < v → pr x j ∈ prs x (v :: l) ++ C → ¬ Tg ((prs x (v :: l) ++ C).erase (pr x j)) j s0) ∧ Grd s0 C v l
theorem grd_append (s0 : Nat) (C : List Pr) : ∀ (x : Nat) (l l' : List Nat), Grd s0 (prs (endN x l) l' ++ C) x l → Grd s0 C (endN x l) l' → Grd s0 C x (l ++ l')
  | _, [], _, _, h => h
  | x, v :: l, l', h, h' => by
    obtain ⟨h1, h2⟩ := h
    refine ⟨?_, grd_append s0 C v l l' h2 h'⟩
    have e : prs x (v :: (l ++ l')) ++ C = prs x (v :: l) ++ (prs (endN x (v :: l)) l' ++ C) := by
      rw [← List.cons_append, prs_append, List.append_assoc]
    simp only [List.append_eq]
    rw [e]
    exact h1

theorem Wk.first {G G' : List Pr} {x : Nat} {l : List Nat} (h : Wk G x G' l) : ∀ (s : Nat) (K : List Nat) (s0 : Nat), Simp G → Par G x s → (∀ y ∈ K, ∀ j, pr y j ∉ G) → (prs s K).Nodup → Grd s0 (prs s K) x l := by
  induction h with
  | stop hn => intros; trivial
  | go hu hl w1 w2 ih1 ih2 =>
    rename_i G G1 G2 x u l1 l2
    intro s K s0 hs hp hK hKn
    have hxu := hs.ne hu
    obtain ⟨e1, p1, n1⟩ := w1.way s (hs.erase _) (hp.step hu hxu)
    have hs1 : Simp (prs u l1 ++ G1) := (hs.erase _).perm p1.symm
    have hpar1 : Par G1 x x := fun y => by
      have a1 := par_way u l1 hs1.left.lt y
      have a2 := hp.step hu hxu y
      rw [← degP_perm p1, degP_append] at a2
      rw [e1] at a1
      rw [if_pos Iff.rfl]
      split at a1 <;> split at a2 <;> omega
    obtain ⟨e2, p2, n2⟩ := w2.way x hs1.right hpar1
    have inG : ∀ p, p ∈ prs u l1 ++ G1 → p ∈ G := fun p hp => List.mem_of_mem_erase (p1.mem_iff.1 hp)
    have hxK : x ∉ K := fun hx => hK x hx u hu
    have hnd : (prs x ((u :: l1) ++ K)).Nodup := by
      rw [prs_append, show endN x (u :: l1) = s from e1]
      have ha : (prs x (u :: l1)).Nodup := by
        show (pr x u :: prs u l1).Nodup
        rw [List.nodup_cons]
        refine ⟨fun hm => ?_, hs1.left.once⟩
        have := p1.mem_iff.1 (List.mem_append_left _ hm)
        exact (hs.mem_erase.1 this).1 rfl
      rw [List.nodup_append]
      refine ⟨ha, hKn, fun p hp q hq he => ?_⟩
      subst he
      have hpG : p ∈ G := by
        simp only [prs, List.mem_cons] at hp
        rcases hp with rfl | hp
        · exact hu
        · exact inG p (List.mem_append_left _ hp)
      cases K with
      | nil => simp [prs] at hq
      | cons k K' =>
        simp only [prs, List.mem_cons] at hq
        rcases hq with rfl | hq
        · exact hK k (List.mem_cons_self ..) s (by rw [pr_comm]; exact hpG)
        · have hlt := hs.lt p hpG
          have hpe := pr_self p hlt
          have := (prs_mem k K' p.1 p.2 (by rw [hpe]; exact hq)).1
          exact hK p.1 this p.2 (by rw [hpe]; exact hpG)
    apply grd_append
    · rw [e2]
      have h2 := ih2 x ((u :: l1) ++ K) s0 hs1.right hpar1 (fun y hy j hj => by
        rw [List.mem_append] at hy
        rcases hy with hy | hy
        · exact n1 y hy j hj
        · exact hK y hy j (inG _ (List.mem_append_right _ hj))) hnd
      rw [prs_append, show endN x (u :: l1) = s from e1] at h2
      exact h2
    · rw [e2]
      refine ⟨fun j hj hm ht => ?_, ih1 s K s0 (hs.erase _) (hp.step hu hxu) (fun y hy j hj => hK y hy j (List.mem_of_mem_erase hj)) hKn⟩
      have hnd2 : (prs x (u :: l1) ++ prs s K).Nodup := by
        rw [prs_append, show endN x (u :: l1) = s from e1] at hnd
        exact hnd
      have hjK : ∃ K', K = j :: K' ∧ x = s := by
        rw [List.mem_append] at hm
        rcases hm with hm | hm
        · simp only [prs, List.mem_cons] at hm
          rcases hm with hm | hm
          · have := pr_right hm; omega
          · exact absurd (inG _ (List.mem_append_left _ hm)) (hl j hj)
        · cases K with
          | nil => simp [prs] at hm
          | cons k K' =>
            simp only [prs, List.mem_cons] at hm
            rcases hm with hm | hm
            · rcases pr_eq hm with ⟨a, b⟩ | ⟨a, b⟩
              · exact ⟨K', by rw [b], a⟩
              · exact absurd (by rw [a]; exact List.mem_cons_self ..) hxK
            · exact absurd (prs_mem k K' x j hm).1 hxK
      obtain ⟨K', rfl, rfl⟩ := hjK
      have hux : pr x u ∈ (prs x (u :: l1) ++ prs x (j :: K')).erase (pr x j) := by
        rw [hnd2.mem_erase_iff]
        exact ⟨fun e => by have := pr_right e; omega, by simp [prs]⟩
      obtain ⟨n, hn⟩ := ht.2 x (degP_pos hux)
      have stay : ∀ (n y : Nat), wk (adjP ((prs x (u :: l1) ++ prs x (j :: K')).erase (pr x j))) n j y → y ∈ j :: K' := by
        intro n
        induction n with
        | zero => intro y hy; cases hy; exact List.mem_cons_self ..
        | succ n ih =>
          rintro z ⟨y, hy, ha⟩
          have hyK := ih y hy
          have hmem := adjP_iff.1 ha
          rw [hnd2.mem_erase_iff] at hmem
          obtain ⟨hne, hmem⟩ := hmem
          rw [List.mem_append] at hmem
          rcases hmem with hmem | hmem
          · simp only [prs, List.mem_cons] at hmem
            rcases hmem with hmem | hmem
            · exact absurd (by rw [hmem]; exact hu) (hK y hyK z)
            · exact absurd (inG _ (List.mem_append_left _ hmem)) (hK y hyK z)
          · simp only [prs, List.mem_cons] at hmem
            rcases hmem with hmem | hmem
            · exact absurd hmem hne
            · exact (prs_mem j K' y z hmem).2
      exact hxK (stay n x hn)

/-- If all that have edges are linked with the first one, all edges are met. -/
theorem Wk.whole {G G' : List Pr} {x : Nat} {l : List Nat} (h : Wk G x G' l) (hs : Simp G) (ht : Tg G x x) : G' = [] := by
  obtain ⟨_, p, n⟩ := h.way x hs ht.1
  apply Classical.byContradiction
  intro hne
  obtain ⟨q, hq⟩ := List.exists_mem_of_ne_nil _ hne
  have hqG : q ∈ G := p.mem_iff.1 (List.mem_append_right _ hq)
  have hpe := pr_self q (hs.lt q hqG)
  obtain ⟨k, hk⟩ := ht.2 q.1 (degP_pos (by rw [hpe]; exact hqG))
  have on : ∀ (k y : Nat), wk (adjP G) k x y → y ∈ x :: l := by
    intro k
    induction k with
    | zero => intro y hy; cases hy; exact List.mem_cons_self ..
    | succ k ih =>
      rintro z ⟨y, hy, ha⟩
      have hyl := ih y hy
      have hm := p.mem_iff.2 (adjP_iff.1 ha)
      rw [List.mem_append] at hm
      rcases hm with hm | hm
      · exact (prs_mem x l y z hm).2
      · exact absurd hm (n y hyl z)
  exact n q.1 (on k q.1 hk) q.2 (by rw [hpe]; exact hq)
theorem Wk.tells {G : List Pr} {x : Nat} {l : List Nat} (h : Wk G x [] l) (hs : Simp G) (hp : Par G x x) : Tg G x x := by
  obtain ⟨e, p, _⟩ := h.way x hs hp
  rw [List.append_nil] at p
  have := tg_way x l (hs.perm p.symm).lt
  rw [e] at this
  exact this.perm p
end Go.Proofs.YthfgbgmkiggjmabDoor
