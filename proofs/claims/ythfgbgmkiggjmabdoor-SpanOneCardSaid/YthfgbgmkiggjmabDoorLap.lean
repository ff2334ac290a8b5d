/- Edges as a form on nodes' numbers, and its determinant: an edge counts what is there without it, and what is there when its ends are one. Plain facts. -/
import Derived.Test.YthfgbgmkiggjmabDoorDet
namespace Go.Proofs.YthfgbgmkiggjmabDoor

abbrev NE := List (Nat × Nat)
def lapS : NE → (Nat → Int) → (Nat → Int) → Int
  | [], _, _ => 0
  | e :: E, u, v => (u e.1 - u e.2) * (v e.1 - v e.2) + lapS E u v
theorem lapS_comm (u v : Nat → Int) : ∀ E : NE, lapS E u v = lapS E v u
  | [] => rfl
  | e :: E => by simp only [lapS]; rw [lapS_comm u v E, Int.mul_comm]
theorem lapS_add (u v w : Nat → Int) : ∀ E : NE, lapS E u (fun i => v i + w i) = lapS E u v + lapS E u w
  | [] => rfl
  | e :: E => by
    simp only [lapS]
    rw [lapS_add u v w E, show v e.1 + w e.1 - (v e.2 + w e.2) = (v e.1 - v e.2) + (w e.1 - w e.2) by omega, Int.mul_add]
    omega
theorem lapS_perm {E F : NE} (h : E.Perm F) (u v : Nat → Int) : lapS E u v = lapS F u v := by
  induction h with
  | nil => rfl
  | cons e _ ih => simp only [lapS]; rw [ih]
  | swap a b l => simp only [lapS]; omega
  | trans _ _ h1 h2 => rw [h1, h2]

/-! The determinant does not ask for the order of things. -/
theorem det_swap_both {α : Type} {A : α → α → Int} {u v : α} (P Q : List α) : det A (P ++ u :: v :: Q) (P ++ u :: v :: Q) = det A (P ++ v :: u :: Q) (P ++ v :: u :: Q) := by
  have h1 := det_swap (A := A) (u := u) (v := v) (P ++ u :: v :: Q) P Q (by simp; omega)
  have h2 := det_flip A (P ++ v :: u :: Q) (P ++ u :: v :: Q) (by simp)
  have h3 := det_swap (A := fun c r => A r c) (u := u) (v := v) (P ++ v :: u :: Q) P Q (by simp; omega)
  have h4 : det A (P ++ v :: u :: Q) (P ++ v :: u :: Q) = det (fun c r => A r c) (P ++ v :: u :: Q) (P ++ v :: u :: Q) := det_flip A _ _ (by simp)
  omega
theorem det_perm {α : Type} {A : α → α → Int} {U V : List α} (h : U.Perm V) : ∀ P : List α, det A (P ++ U) (P ++ U) = det A (P ++ V) (P ++ V) := by
  induction h with
  | nil => intro P; rfl
  | cons x _ ih => intro P; have := ih (P ++ [x]); simpa using this
  | swap a b l => intro P; exact det_swap_both P l
  | trans _ _ h1 h2 => intro P; rw [h1, h2]

def detE (E : NE) (U : List (Nat → Int)) : Int := det (lapS E) U U
theorem detE_perm {U V : List (Nat → Int)} (h : U.Perm V) (E : NE) : detE E U = detE E V := by
  have := det_perm (A := lapS E) h []
  unfold detE
  simpa using this
theorem detE_edges {E F : NE} (h : E.Perm F) (U : List (Nat → Int)) : detE E U = detE F U :=
  det_agree U U (fun u _ v _ => lapS_perm h u v)
/-- An edge within. -/
theorem detE_same {e : Nat × Nat} {E : NE} {U : List (Nat → Int)} (h : ∀ u ∈ U, u e.1 = u e.2) : detE (e :: E) U = detE E U :=
  det_agree U U (fun u hu v _ => by
    simp only [lapS]
    rw [h u hu, Int.sub_self, Int.zero_mul, Int.zero_add])
/-- An edge that one thing alone sees. -/
theorem detE_one {e : Nat × Nat} {E : NE} {y : Nat → Int} {U : List (Nat → Int)} (h : ∀ u ∈ U, u e.1 = u e.2) : detE (e :: E) (y :: U) = detE E (y :: U) + (y e.1 - y e.2) * (y e.1 - y e.2) * detE E U := by
  unfold detE
  simp only [det, altS, List.nil_append]
  have hr : ∀ X : List (Nat → Int), det (lapS (e :: E)) U X = det (lapS E) U X := fun X => det_agree U X (fun u hu v _ => by
    simp only [lapS]
    rw [h u hu, Int.sub_self, Int.zero_mul, Int.zero_add])
  have h2 : altS (fun c rest => lapS (e :: E) y c * det (lapS (e :: E)) U rest) [y] U = altS (fun c rest => lapS E y c * det (lapS E) U rest) [y] U :=
    altS_congr U [y] (fun c hc X _ _ => by
      rw [hr X]
      simp only [lapS]
      rw [h c hc, Int.sub_self, Int.mul_zero, Int.zero_add])
  rw [h2, hr U]
  simp only [lapS]
  rw [Int.add_mul]
  omega
/-- Two things may be put together in one of them. -/
theorem detE_join (E : NE) (y x : Nat → Int) (R : List (Nat → Int)) : detE E (y :: x :: R) = detE E (y :: (fun i => x i + y i) :: R) := by
  unfold detE
  have h1 := det_add (A := lapS E) (u := y) (v := x) (w := fun i => x i + y i) 1 1 (y :: x :: R) [] R (fun r _ => by rw [lapS_add]; omega) (by simp)
  rw [List.nil_append, List.nil_append, Int.one_mul] at h1
  rw [← h1, det_flip _ _ _ (by simp)]
  have h2 := det_add (A := fun c r => lapS E r c) (u := y) (v := x) (w := fun i => x i + y i) 1 1 (y :: (fun i => x i + y i) :: R) [] R (fun r _ => by
    rw [lapS_comm (fun i => x i + y i) r, lapS_add, lapS_comm x r, lapS_comm y r]; omega) (by simp)
  rw [List.nil_append, List.nil_append, Int.one_mul] at h2
  rw [← h2, det_flip _ _ _ (by simp)]

/-! Classes of nodes: a name for each node; those of some names are looked at. -/
def ind (lab : Nat → Nat) (r : Nat) : Nat → Int := fun i => if lab i = r then 1 else 0
def detL (E : NE) (lab : Nat → Nat) (reps : List Nat) : Int := detE E (reps.map (ind lab))
def mrg (lab : Nat → Nat) (x y : Nat) : Nat → Nat := fun i => if lab i = y then x else lab i
theorem ind_merge {lab : Nat → Nat} {x y : Nat} (hxy : x ≠ y) : ind (mrg lab x y) x = fun i => ind lab x i + ind lab y i := by
  funext i
  unfold ind mrg
  by_cases h1 : lab i = y
  · rw [if_pos h1, if_pos rfl, if_neg (by omega), if_pos h1]; rfl
  · rw [if_neg h1, if_neg h1]; omega
theorem ind_other {lab : Nat → Nat} {x y z : Nat} (hx : z ≠ x) (hy : z ≠ y) : ind (mrg lab x y) z = ind lab z := by
  funext i
  unfold ind mrg
  by_cases h1 : lab i = y
  · rw [if_pos h1, if_neg (by omega), if_neg (by omega)]
  · rw [if_neg h1]
theorem detL_perm {r s : List Nat} (h : r.Perm s) (E : NE) (lab : Nat → Nat) : detL E lab r = detL E lab s := detE_perm (h.map _) E
theorem detL_same {e : Nat × Nat} {E : NE} {lab : Nat → Nat} {reps : List Nat} (h : lab e.1 = lab e.2) : detL (e :: E) lab reps = detL E lab reps :=
  detE_same (fun u hu => by
    obtain ⟨r, _, rfl⟩ := List.mem_map.1 hu
    unfold ind; rw [h])
theorem ind_edge {lab : Nat → Nat} {e : Nat × Nat} {x y z : Nat} (he : (lab e.1 = x ∧ lab e.2 = y) ∨ (lab e.1 = y ∧ lab e.2 = x)) (hx : z ≠ x) (hy : z ≠ y) : ind lab z e.1 = ind lab z e.2 := by
  unfold ind
  rcases he with ⟨h1, h2⟩ | ⟨h1, h2⟩ <;> rw [if_neg (by omega), if_neg (by omega)]
/-- An edge between two classes: without it, and with both of them as one. -/
theorem detL_cons {e : Nat × Nat} {E : NE} {lab : Nat → Nat} {reps : List Nat} {x y : Nat} (hn : reps.Nodup) (hy : y ∈ reps) (he : (lab e.1 = x ∧ lab e.2 = y) ∨ (lab e.1 = y ∧ lab e.2 = x)) (hxy : x ≠ y) :
    detL (e :: E) lab reps = detL E lab reps + detL E (mrg lab x y) (reps.erase y) := by
  have hp := List.perm_cons_erase hy
  have hyn : y ∉ reps.erase y := fun h => (hn.mem_erase_iff.1 h).1 rfl
  have hone : (ind lab y e.1 - ind lab y e.2) * (ind lab y e.1 - ind lab y e.2) = 1 := by
    unfold ind
    rcases he with ⟨h1, h2⟩ | ⟨h1, h2⟩
    · rw [if_neg (by omega), if_pos h2]; rfl
    · rw [if_pos h1, if_neg (by omega)]; rfl
  rw [detL_perm hp, detL_perm (E := E) hp]
  generalize reps.erase y = R at *
  by_cases hx : x ∈ R
  · have hp2 := List.perm_cons_erase hx
    have hRn : R.Nodup := (List.nodup_cons.1 (hp.nodup_iff.1 hn)).2
    have hxn : x ∉ R.erase x := fun h => (hRn.mem_erase_iff.1 h).1 rfl
    have hyn2 : y ∉ R.erase x := fun h => hyn (List.mem_of_mem_erase h)
    rw [detL_perm (hp2.cons y), detL_perm (E := E) (hp2.cons y), detL_perm (E := E) hp2]
    generalize R.erase x = Q at *
    have hQ : Q.map (ind (mrg lab x y)) = Q.map (ind lab) := List.map_congr_left (fun z hz => ind_other (fun h => hxn (h ▸ hz)) (fun h => hyn2 (h ▸ hz)))
    unfold detL
    simp only [List.map_cons]
    rw [detE_join (e :: E), detE_join E, hQ, ind_merge hxy]
    have h1 := detE_one (e := e) (E := E) (y := ind lab y) (U := (fun i => ind lab x i + ind lab y i) :: Q.map (ind lab)) (fun u hu => by
      rcases List.mem_cons.1 hu with rfl | hu
      · unfold ind
        rcases he with ⟨h1, h2⟩ | ⟨h1, h2⟩
        · simp only [h1, h2, if_true, if_neg hxy, if_neg (Ne.symm hxy)]; rfl
        · simp only [h1, h2, if_true, if_neg hxy, if_neg (Ne.symm hxy)]; rfl
      · obtain ⟨z, hz, rfl⟩ := List.mem_map.1 hu
        exact ind_edge he (fun h => hxn (h ▸ hz)) (fun h => hyn2 (h ▸ hz)))
    rw [h1, hone, Int.one_mul]
  · have hR : R.map (ind (mrg lab x y)) = R.map (ind lab) := List.map_congr_left (fun z hz => ind_other (fun h => hx (h ▸ hz)) (fun h => hyn (h ▸ hz)))
    unfold detL
    simp only [List.map_cons]
    rw [hR]
    have h1 := detE_one (e := e) (E := E) (y := ind lab y) (U := R.map (ind lab)) (fun u hu => by
      obtain ⟨z, hz, rfl⟩ := List.mem_map.1 hu
      exact ind_edge he (fun h => hx (h ▸ hz)) (fun h => hyn (h ▸ hz)))
    rw [h1, hone, Int.one_mul]
theorem detL_none (lab : Nat → Nat) : ∀ reps : List Nat, detL [] lab reps = if reps = [] then 1 else 0
  | [] => rfl
  | r :: rs => by
    rw [if_neg (by simp)]
    unfold detL detE
    simp only [List.map_cons, det]
    exact altS_zero _ _ (fun c _ X => by simp [lapS])

section
/-- What an induction along the edges needs: each class that is looked at has a node. -/
def Full (lab : Nat → Nat) (reps : List Nat) : Prop := reps.Nodup ∧ ∀ r ∈ reps, ∃ i, lab i = r
theorem Full.mrg {lab : Nat → Nat} {reps : List Nat} {x y : Nat} (h : Full lab reps) (_hxy : x ≠ y) : Full (mrg lab x y) (reps.erase y) := by
  refine ⟨h.1.erase y, fun r hr => ?_⟩
  obtain ⟨h1, h2⟩ := h.1.mem_erase_iff.1 hr
  obtain ⟨i, hi⟩ := h.2 r h2
  exact ⟨i, by unfold YthfgbgmkiggjmabDoor.mrg; rw [if_neg (by omega)]; exact hi⟩
/-- One more edge: the three cases. -/
theorem detL_cases (e : Nat × Nat) (E : NE) (lab : Nat → Nat) {reps : List Nat} (hn : reps.Nodup) :
    (lab e.1 = lab e.2 ∧ detL (e :: E) lab reps = detL E lab reps) ∨ (lab e.1 ≠ lab e.2 ∧ lab e.1 ∉ reps ∧ lab e.2 ∉ reps ∧ detL (e :: E) lab reps = detL E lab reps) ∨
    ∃ x y, x ≠ y ∧ y ∈ reps ∧ ((lab e.1 = x ∧ lab e.2 = y) ∨ (lab e.1 = y ∧ lab e.2 = x)) ∧ detL (e :: E) lab reps = detL E lab reps + detL E (mrg lab x y) (reps.erase y) := by
  by_cases h0 : lab e.1 = lab e.2
  · exact .inl ⟨h0, detL_same h0⟩
  · by_cases h2 : lab e.2 ∈ reps
    · exact .inr (.inr ⟨lab e.1, lab e.2, h0, h2, .inl ⟨rfl, rfl⟩, detL_cons hn h2 (.inl ⟨rfl, rfl⟩) h0⟩)
    · by_cases h1 : lab e.1 ∈ reps
      · exact .inr (.inr ⟨lab e.2, lab e.1, Ne.symm h0, h1, .inr ⟨rfl, rfl⟩, detL_cons hn h1 (.inr ⟨rfl, rfl⟩) (Ne.symm h0)⟩)
      · refine .inr (.inl ⟨h0, h1, h2, detE_same (fun u hu => ?_)⟩)
        obtain ⟨r, hr, rfl⟩ := List.mem_map.1 hu
        unfold ind
        rw [if_neg (fun h : lab e.1 = r => h1 (h ▸ hr)), if_neg (fun h : lab e.2 = r => h2 (h ▸ hr))]
theorem detL_nonneg : ∀ (E : NE) (lab : Nat → Nat) (reps : List Nat), reps.Nodup → 0 ≤ detL E lab reps
  | [], lab, reps, _ => by rw [detL_none]; split <;> omega
  | e :: E, lab, reps, hn => by
    have h1 := detL_nonneg E lab reps hn
    rcases detL_cases e E lab hn with ⟨_, h⟩ | ⟨_, _, _, h⟩ | ⟨x, y, _, hy, _, h⟩
    · omega
    · omega
    · have := detL_nonneg E (mrg lab x y) (reps.erase y) (hn.erase y); omega
theorem detL_le : ∀ (E : NE) (lab : Nat → Nat) (reps : List Nat), reps.Nodup → detL E lab reps ≤ 2 ^ E.length
  | [], lab, reps, _ => by rw [detL_none]; split <;> simp
  | e :: E, lab, reps, hn => by
    have h1 := detL_le E lab reps hn
    rw [List.length_cons, Int.pow_succ]
    have hp : (0 : Int) < 2 ^ E.length := by
      have := Int.pow_pos (n := 2) (m := E.length) (by omega); exact this
    rcases detL_cases e E lab hn with ⟨_, h⟩ | ⟨_, _, _, h⟩ | ⟨x, y, _, hy, _, h⟩
    · omega
    · omega
    · have := detL_le E (mrg lab x y) (reps.erase y) (hn.erase y); omega
/-- Nothing is cut off: whoever is on a side that no edge leaves, and no class, and nothing that isn't looked at, is nobody. -/
def Tied (E : NE) (lab : Nat → Nat) (reps : List Nat) : Prop := ∀ f : Nat → Bool, (∀ i j, lab i = lab j → f i = f j) → (∀ e ∈ E, f e.1 = f e.2) → (∀ i, lab i ∉ reps → f i = false) → ∀ i, f i = false
theorem Tied.perm {E F : NE} {lab : Nat → Nat} {reps : List Nat} (h : Tied E lab reps) (hp : E.Perm F) : Tied F lab reps := fun f h1 h2 h3 => h f h1 (fun e he => h2 e (hp.mem_iff.1 he)) h3
theorem Tied.same {e : Nat × Nat} {E : NE} {lab : Nat → Nat} {reps : List Nat} (h : Tied (e :: E) lab reps) (he : lab e.1 = lab e.2 ∨ (lab e.1 ∉ reps ∧ lab e.2 ∉ reps)) : Tied E lab reps := fun f h1 h2 h3 => h f h1 (fun d hd => by
  rcases List.mem_cons.1 hd with rfl | hd
  · rcases he with he | ⟨ha, hb⟩
    · exact h1 _ _ he
    · rw [h3 _ ha, h3 _ hb]
  · exact h2 d hd) h3
theorem Tied.mrg {e : Nat × Nat} {E : NE} {lab : Nat → Nat} {reps : List Nat} {x y : Nat} (h : Tied (e :: E) lab reps) (_hn : reps.Nodup) (hxy : x ≠ y) (hy : y ∈ reps) (he : (lab e.1 = x ∧ lab e.2 = y) ∨ (lab e.1 = y ∧ lab e.2 = x)) : Tied E (mrg lab x y) (reps.erase y) := fun f h1 h2 h3 => by
  have hm : ∀ i j, lab i = lab j → f i = f j := fun i j hij => h1 i j (by unfold YthfgbgmkiggjmabDoor.mrg; rw [hij])
  have he' : YthfgbgmkiggjmabDoor.mrg lab x y e.1 = YthfgbgmkiggjmabDoor.mrg lab x y e.2 := by
    unfold YthfgbgmkiggjmabDoor.mrg
    rcases he with ⟨a, b⟩ | ⟨a, b⟩
    · rw [a, b, if_neg hxy, if_pos rfl]
    · rw [a, b, if_neg hxy, if_pos rfl]
  exact h f hm (fun d hd => by
    rcases List.mem_cons.1 hd with rfl | hd
    · exact h1 _ _ he'
    · exact h2 d hd) (fun i hi => h3 i (fun hmem => by
      have hne : lab i ≠ y := fun h => hi (h ▸ hy)
      unfold YthfgbgmkiggjmabDoor.mrg at hmem
      rw [if_neg hne] at hmem
      exact hi (List.mem_of_mem_erase hmem)))
theorem detL_pos : ∀ (E : NE) (lab : Nat → Nat) (reps : List Nat), Full lab reps → Tied E lab reps → 1 ≤ detL E lab reps
  | [], lab, reps, hf, ht => by
    rw [detL_none]
    cases reps with
    | nil => simp
    | cons r rs =>
      obtain ⟨i, hi⟩ := hf.2 r (List.mem_cons_self ..)
      have := ht (fun j => lab j == r) (fun a b hab => by rw [hab]) (fun e he => by simp at he) (fun j hj => by
        simp only [beq_eq_false_iff_ne]
        intro h
        exact hj (h ▸ List.mem_cons_self ..)) i
      simp [hi] at this
  | e :: E, lab, reps, hf, ht => by
    rcases detL_cases e E lab hf.1 with ⟨h0, h⟩ | ⟨_, ha, hb, h⟩ | ⟨x, y, hxy, hy, he, h⟩
    · rw [h]; exact detL_pos E lab reps hf (ht.same (.inl h0))
    · rw [h]; exact detL_pos E lab reps hf (ht.same (.inr ⟨ha, hb⟩))
    · have h1 := detL_nonneg E lab reps hf.1
      have h2 := detL_pos E (mrg lab x y) (reps.erase y) (hf.mrg hxy) (ht.mrg hf.1 hxy hy he)
      omega
theorem detL_few : ∀ (E : NE) (lab : Nat → Nat) (reps : List Nat), reps.Nodup → E.length < reps.length → detL E lab reps = 0
  | [], lab, reps, _, h => by rw [detL_none, if_neg (by intro e; subst e; simp at h)]
  | e :: E, lab, reps, hn, hl => by
    have h1 := detL_few E lab reps hn (by simp at hl; omega)
    rcases detL_cases e E lab hn with ⟨_, h⟩ | ⟨_, _, _, h⟩ | ⟨x, y, _, hy, _, h⟩
    · omega
    · omega
    · have := detL_few E (mrg lab x y) (reps.erase y) (hn.erase y) (by rw [List.length_erase_of_mem hy]; simp at hl; omega); omega
theorem detL_one : ∀ (E : NE) (lab : Nat → Nat) (reps : List Nat), reps.Nodup → E.length ≤ reps.length → detL E lab reps ≤ 1
  | [], lab, reps, _, _ => by rw [detL_none]; split <;> simp
  | e :: E, lab, reps, hn, hl => by
    have h1 := detL_few E lab reps hn (by simp at hl; omega)
    rcases detL_cases e E lab hn with ⟨_, h⟩ | ⟨_, _, _, h⟩ | ⟨x, y, _, hy, _, h⟩
    · omega
    · omega
    · have := detL_one E (mrg lab x y) (reps.erase y) (hn.erase y) (by rw [List.length_erase_of_mem hy]; simp at hl; omega); omega
/-- An edge more between two classes, where all is linked: more forests. -/
theorem detL_more {e : Nat × Nat} {E : NE} {lab : Nat → Nat} {reps : List Nat} (hf : Full lab reps) (ht : Tied (e :: E) lab reps) (h0 : lab e.1 ≠ lab e.2) (h1 : lab e.1 ∈ reps ∨ lab e.2 ∈ reps) : detL E lab reps < detL (e :: E) lab reps := by
  rcases detL_cases e E lab hf.1 with ⟨h, _⟩ | ⟨_, ha, hb, h⟩ | ⟨x, y, hxy, hy, he, h⟩
  · exact absurd h h0
  · rcases h1 with h1 | h1
    · exact absurd h1 ha
    · exact absurd h1 hb
  · have := detL_pos E (mrg lab x y) (reps.erase y) (hf.mrg hxy) (ht.mrg hf.1 hxy hy he)
    omega
end
end Go.Proofs.YthfgbgmkiggjmabDoor
