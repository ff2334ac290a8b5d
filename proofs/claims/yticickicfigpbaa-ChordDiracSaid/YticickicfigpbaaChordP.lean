/- DIRAC; FULKERSON, GROSS: where no node's neighbours have all edges there is a ring of four or more without a short cut. Plain facts, of no program. -/
import Derived.Test.YticickicfigpbaaCrowdP
namespace Go.Proofs.Yticickicfigpbaa

/-- A ring of four or more within some, of which no two have an edge that are not neighbours in it. -/
structure HoleP (adj : Nat → Nat → Bool) (S : BS) (L : Nat) (q : Nat → Nat) : Prop where
  four : 4 ≤ L
  mem : ∀ i, i < L → S (q i) = true
  inj : ∀ i j, i < L → j < L → q i = q j → i = j
  edge : ∀ i j, i < j → j < L → (adj (q i) (q j) = true ↔ j = i + 1 ∨ (i = 0 ∧ j = L - 1))
/-- Of whom each two neighbours have an edge. -/
def SimpP (adj : Nat → Nat → Bool) (S : BS) (s : Nat) : Prop := ∀ i j, S i = true → S j = true → adj s i = true → adj s j = true → i ≠ j → adj i j = true
section
variable {n L : Nat} {S T C : BS} {q : Nat → Nat} {adj : Nat → Nat → Bool}
theorem hole_up (h : ∀ i, S i = true → T i = true) (H : HoleP adj S L q) : HoleP adj T L q := ⟨H.four, fun i hi => h _ (H.mem i hi), H.inj, H.edge⟩
theorem simp_down (h : ∀ i, S i = true → T i = true) {s : Nat} (H : SimpP adj T s) : SimpP adj S s := fun i j hi hj h1 h2 => H i j (h i hi) (h j hj) h1 h2
/-- Who is in such a ring is not one whose neighbours have all edges. -/
theorem hole_not_simp (hsym : ∀ i j, adj i j = adj j i) (H : HoleP adj S L q) {i : Nat} (hi : i < L) : ¬ SimpP adj S (q i) := by
  intro hs
  have h4 := H.four
  have use : ∀ a b, a < b → b < L → adj (q i) (q a) = true → adj (q i) (q b) = true → ¬ (b = a + 1 ∨ (a = 0 ∧ b = L - 1)) → False := fun a b hab hb h1 h2 hno => by
    have := hs (q a) (q b) (H.mem a (by omega)) (H.mem b hb) h1 h2 fun e => by have := H.inj a b (by omega) hb e; omega
    exact hno ((H.edge a b hab hb).1 this)
  rcases Nat.eq_zero_or_pos i with rfl | hp
  · exact use 1 (L - 1) (by omega) (by omega) ((H.edge 0 1 (by omega) (by omega)).2 (.inl rfl)) ((H.edge 0 (L - 1) (by omega) (by omega)).2 (.inr ⟨rfl, rfl⟩)) (by omega)
  · by_cases hl : i = L - 1
    · subst hl
      refine use 0 (L - 2) (by omega) (by omega) ?_ ?_ (by omega)
      · rw [hsym]; exact (H.edge 0 (L - 1) (by omega) (by omega)).2 (.inr ⟨rfl, rfl⟩)
      · rw [hsym]; exact (H.edge (L - 2) (L - 1) (by omega) (by omega)).2 (.inl (by omega))
    · refine use (i - 1) (i + 1) (by omega) (by omega) ?_ ?_ (by omega)
      · rw [hsym]; exact (H.edge (i - 1) i (by omega) (by omega)).2 (.inl (by omega))
      · exact (H.edge i (i + 1) (by omega) (by omega)).2 (.inl rfl)
/-- A walk, between whose ends all are of C. -/
structure RoadP (adj : Nat → Nat → Bool) (C : BS) (x y m : Nat) (p : Nat → Nat) : Prop where
  fst : p 0 = x
  lst : p m = y
  on : ∀ i, i < m → adj (p i) (p (i + 1)) = true
  mem : ∀ i, 0 < i → i < m → C (p i) = true
theorem road_cut {x y m : Nat} {p : Nat → Nat} (H : RoadP adj C x y m p) {i d : Nat} (hi : i + 1 + d ≤ m) (he : adj (p i) (p (i + 1 + d)) = true) : RoadP adj C x y (m - d) (fun k => if k ≤ i then p k else p (k + d)) := by
  refine ⟨?_, ?_, fun k hk => ?_, fun k hk hk' => ?_⟩
  · simp only [if_pos (Nat.zero_le i)]; exact H.fst
  · simp only [if_neg (show ¬ m - d ≤ i by omega)]; rw [show m - d + d = m by omega]; exact H.lst
  · by_cases h1 : k + 1 ≤ i
    · simp only [if_pos h1, if_pos (show k ≤ i by omega)]; exact H.on k (by omega)
    · by_cases h2 : k ≤ i
      · simp only [if_pos h2, if_neg h1]
        have : k = i := by omega
        subst this
        exact he
      · simp only [if_neg h2, if_neg h1]
        have := H.on (k + d) (by omega)
        rwa [show k + d + 1 = k + 1 + d by omega] at this
  · by_cases h : k ≤ i
    · simp only [if_pos h]; exact H.mem k hk (by omega)
    · simp only [if_neg h]; exact H.mem _ (by omega) (by omega)
/-- Of the shortest one no two have an edge that are not next to each other. -/
theorem road_short {x y m : Nat} {p : Nat → Nat} (H : RoadP adj C x y m p) (hmin : ∀ m' p', RoadP adj C x y m' p' → m ≤ m') {i j : Nat} (hij : i < j) (hj : j ≤ m) : (adj (p i) (p j) = true → j = i + 1) ∧ p i ≠ p j := by
  have h1 : ∀ i j, i < j → j ≤ m → adj (p i) (p j) = true → j = i + 1 := fun i j hij hj he => by
    obtain ⟨d, rfl⟩ : ∃ d, j = i + 1 + d := ⟨j - i - 1, by omega⟩
    have := hmin _ _ (road_cut H hj he)
    omega
  refine ⟨h1 i j hij hj, fun e => ?_⟩
  rcases Nat.lt_or_ge j m with hm | hm
  · have he : adj (p i) (p (j + 1)) = true := by rw [e]; exact H.on j hm
    have := h1 i (j + 1) (by omega) hm he
    omega
  · have hjm : j = m := by omega
    subst hjm
    have := hmin i p ⟨H.fst, by rw [e]; exact H.lst, fun k hk => H.on k (by omega), fun k h1 h2 => H.mem k h1 (by omega)⟩
    omega
/-- One who sees both ends alone closes the shortest road to a ring without a short cut. -/
theorem road_hole (_hsym : ∀ i j, adj i j = adj j i) {v x y m : Nat} {p : Nat → Nat} (H : RoadP adj C x y m p) (hmin : ∀ m' p', RoadP adj C x y m' p' → m ≤ m')
    (hne : x ≠ y) (hno : adj x y = false) (hx : adj v x = true) (hy : adj v y = true) (hC : ∀ c, C c = true → adj v c = false ∧ c ≠ v) (hxv : x ≠ v) (hyv : y ≠ v)
    (hS : S v = true ∧ S x = true ∧ S y = true) (hCS : ∀ c, C c = true → S c = true) : ∃ q, HoleP adj S (m + 2) q := by
  have hm : 2 ≤ m := by
    rcases Nat.lt_or_ge m 2 with h | h
    · rcases (show m = 0 ∨ m = 1 by omega) with rfl | rfl
      · exact absurd (H.fst.symm.trans H.lst) hne
      · have := H.on 0 (by omega)
        rw [H.fst, show (0 : Nat) + 1 = 1 from rfl, H.lst, hno] at this
        cases this
    · exact h
  have hpv : ∀ i, i ≤ m → p i ≠ v := fun i hi => by
    rcases Nat.eq_zero_or_pos i with rfl | h0
    · rw [H.fst]; exact hxv
    · by_cases e : i = m
      · subst e; rw [H.lst]; exact hyv
      · exact (hC _ (H.mem i h0 (by omega))).2
  refine ⟨fun k => if k = 0 then v else p (k - 1), by omega, fun k hk => ?_, fun i j hi hj e => ?_, fun i j hij hj => ?_⟩
  · by_cases h : k = 0
    · simp only [if_pos h]; exact hS.1
    · simp only [if_neg h]
      by_cases h1 : k = 1
      · subst h1; rw [show 1 - 1 = 0 from rfl, H.fst]; exact hS.2.1
      · by_cases h2 : k - 1 = m
        · rw [h2, H.lst]; exact hS.2.2
        · exact hCS _ (H.mem _ (by omega) (by omega))
  · by_cases h1 : i = 0 <;> by_cases h2 : j = 0
    · omega
    · simp only [if_pos h1, if_neg h2] at e; exact absurd e.symm (hpv _ (by omega))
    · simp only [if_neg h1, if_pos h2] at e; exact absurd e (hpv _ (by omega))
    · simp only [if_neg h1, if_neg h2] at e
      rcases Nat.lt_trichotomy i j with h | h | h
      · exact absurd e (road_short H hmin (i := i - 1) (j := j - 1) (by omega) (by omega)).2
      · exact h
      · exact absurd e.symm (road_short H hmin (i := j - 1) (j := i - 1) (by omega) (by omega)).2
  · have hj0 : j ≠ 0 := by omega
    by_cases h1 : i = 0
    · subst h1
      simp only [if_pos, if_neg hj0]
      by_cases e1 : j = 1
      · subst e1; rw [show 1 - 1 = 0 from rfl, H.fst]; simp [hx]
      · by_cases e2 : j - 1 = m
        · rw [e2, H.lst]; simp [hy]; omega
        · rw [(hC _ (H.mem (j - 1) (by omega) (by omega))).1]
          constructor
          · intro h; cases h
          · omega
    · simp only [if_neg h1, if_neg hj0]
      constructor
      · intro h; have := (road_short H hmin (i := i - 1) (j := j - 1) (by omega) (by omega)).1 h; omega
      · intro h
        have e : j = i + 1 := by omega
        subst e
        have := H.on (i - 1) (by omega)
        rwa [show i - 1 + 1 = i + 1 - 1 by omega] at this
/-- Who can be come to within U. -/
inductive ToP (adj : Nat → Nat → Bool) (U : BS) (u : Nat) : Nat → Prop where
  | here (h : U u = true) : ToP adj U u u
  | on {c d : Nat} (h : ToP adj U u c) (hd : U d = true) (he : adj c d = true) : ToP adj U u d
theorem to_in {U : BS} {u c : Nat} (h : ToP adj U u c) : U c = true := by cases h <;> assumption
/-- A road from x into C. -/
def HitP (adj : Nat → Nat → Bool) (C : BS) (x z : Nat) : Prop := ∃ (m : Nat) (p : Nat → Nat), p 0 = x ∧ p m = z ∧ 0 < m ∧ (∀ i, i < m → adj (p i) (p (i + 1)) = true) ∧ ∀ i, 0 < i → i ≤ m → C (p i) = true
theorem hit_on {x c d : Nat} (h : HitP adj C x c) (hd : C d = true) (he : adj c d = true) : HitP adj C x d := by
  obtain ⟨m, p, h0, h1, h2, h3, h4⟩ := h
  refine ⟨m + 1, fun k => if k ≤ m then p k else d, ?_, ?_, by omega, fun i hi => ?_, fun i hi hi' => ?_⟩
  · simp only [if_pos (Nat.zero_le m)]; exact h0
  · exact if_neg (by omega)
  · by_cases h : i + 1 ≤ m
    · simp only [if_pos h, if_pos (show i ≤ m by omega)]; exact h3 i (by omega)
    · have : i = m := by omega
      subst this
      simp only [if_pos (Nat.le_refl i), if_neg h, h1]; exact he
  · by_cases h : i ≤ m
    · simp only [if_pos h]; exact h4 i hi h
    · simp only [if_neg h]; exact hd
theorem hit_first {x c : Nat} (hc : C c = true) (he : adj x c = true) : HitP adj C x c :=
  ⟨1, fun k => if k = 0 then x else c, rfl, rfl, by omega, fun i hi => by rw [show i = 0 by omega]; exact he, fun i hi hi' => by rw [show i = 1 by omega]; exact hc⟩
theorem hit_road {x c y : Nat} (h : HitP adj C x c) (he : adj c y = true) : ∃ m p, RoadP adj C x y m p := by
  obtain ⟨m, p, h0, h1, h2, h3, h4⟩ := h
  refine ⟨m + 1, fun k => if k ≤ m then p k else y, ?_, ?_, fun i hi => ?_, fun i hi hi' => ?_⟩
  · simp only [if_pos (Nat.zero_le m)]; exact h0
  · exact if_neg (by omega)
  · by_cases h : i + 1 ≤ m
    · simp only [if_pos h, if_pos (show i ≤ m by omega)]; exact h3 i (by omega)
    · have : i = m := by omega
      subst this
      simp only [if_pos (Nat.le_refl i), if_neg h, h1]; exact he
  · simp only [if_pos (show i ≤ m by omega)]; exact h4 i hi (by omega)
open Classical in
/-- DIRAC: away from one who does not see all there is one whose neighbours have all edges. -/
theorem dirac (hsym : ∀ i j, adj i j = adj j i) (hirr : ∀ i, adj i i = false) : ∀ (c : Nat) (S : BS), sizeP S n ≤ c → (∀ i, S i = true → i < n) → (∀ L q, ¬ HoleP adj S L q) →
    ∀ v u, S v = true → S u = true → u ≠ v → adj v u = false → ∃ s, S s = true ∧ s ≠ v ∧ adj v s = false ∧ SimpP adj S s := fun c => by
  induction c with
  | zero => intro S hc hS _ v u hv _ _ _; have := sizeP_del hv (hS v hv); omega
  | succ c ih =>
    intro S hc hS hno v u hv hu huv hvu
    let U : BS := fun i => S i && (!decide (i = v) && !adj v i)
    have hU : ∀ i, U i = true ↔ S i = true ∧ i ≠ v ∧ adj v i = false := fun i => by
      show (S i && (!decide (i = v) && !adj v i)) = true ↔ _
      simp
    let C : BS := fun i => decide (ToP adj U u i)
    have hC : ∀ i, C i = true ↔ ToP adj U u i := fun i => by show decide _ = true ↔ _; simp
    have hCU : ∀ i, C i = true → S i = true ∧ i ≠ v ∧ adj v i = false := fun i hi => (hU i).1 (to_in ((hC i).1 hi))
    have hCu : C u = true := (hC u).2 (.here ((hU u).2 ⟨hu, huv, hvu⟩))
    let W : BS := fun i => S i && (adj v i && decide (∃ x, C x = true ∧ adj i x = true))
    have hW : ∀ i, W i = true ↔ S i = true ∧ adj v i = true ∧ ∃ x, C x = true ∧ adj i x = true := fun i => by
      show (S i && (adj v i && decide (∃ x, C x = true ∧ adj i x = true))) = true ↔ _
      simp
    -- all from which C is come to see each other
    have hWq : ∀ x y, W x = true → W y = true → x ≠ y → adj x y = true := fun x y hx hy hxy => by
      cases hxy' : adj x y with
      | true => rfl
      | false =>
        obtain ⟨x1, x2, a, ha, hxa⟩ := (hW x).1 hx
        obtain ⟨y1, y2, b, hb, hyb⟩ := (hW y).1 hy
        have hall : ∀ d, ToP adj U u d → (HitP adj C x d ↔ HitP adj C x u) := fun d hd => by
          induction hd with
          | here h => exact Iff.rfl
          | @on c d h hd he ih' =>
            rw [← ih']
            exact ⟨fun h' => hit_on h' ((hC c).2 h) (by rw [hsym]; exact he), fun h' => hit_on h' ((hC d).2 (.on h hd he)) he⟩
        have h1 : HitP adj C x b := (hall b ((hC b).1 hb)).2 ((hall a ((hC a).1 ha)).1 (hit_first ha hxa))
        obtain ⟨m0, p0, h2⟩ := hit_road (y := y) h1 (by rw [hsym]; exact hyb)
        obtain ⟨m, ⟨p, hp⟩, hmin⟩ := arg_min (P := fun m => ∃ p, RoadP adj C x y m p) (fun m => m) m0 m0 (Nat.le_refl _) ⟨p0, h2⟩
        obtain ⟨q, hq⟩ := road_hole hsym hp (fun m' p' h' => hmin m' ⟨p', h'⟩) hxy hxy' x2 y2 (fun c hc => ⟨(hCU c hc).2.2, (hCU c hc).2.1⟩)
          (fun e => by rw [e, hirr] at x2; cases x2) (fun e => by rw [e, hirr] at y2; cases y2) ⟨hv, x1, y1⟩ fun c hc => (hCU c hc).1
        exact absurd hq (hno _ q)
    let S' : BS := fun i => C i || W i
    have hS' : ∀ i, S' i = true ↔ C i = true ∨ W i = true := fun i => by show (C i || W i) = true ↔ _; simp
    have hsub : ∀ i, S' i = true → S i = true := fun i hi => by
      rcases (hS' i).1 hi with h | h
      · exact (hCU i h).1
      · exact ((hW i).1 h).1
    have hlt : sizeP S' n ≤ c := by
      have : sizeP S' n < sizeP S n := sizeP_lt hsub (hS v hv) (by
        cases g : S' v with
        | false => rfl
        | true =>
          rcases (hS' v).1 g with h | h
          · exact absurd rfl (hCU v h).2.1
          · have := ((hW v).1 h).2.1; rw [hirr] at this; cases this) hv
      omega
    -- who is so among C and those sees no more in all
    have hup : ∀ s, C s = true → SimpP adj S' s → SimpP adj S s := fun s hs h => by
      have hin : ∀ t, S t = true → adj s t = true → S' t = true := fun t ht hst => by
        obtain ⟨s1, s2, s3⟩ := hCU s hs
        have htv : t ≠ v := fun e => by rw [e, hsym, s3] at hst; cases hst
        cases g : adj v t with
        | true => exact (hS' t).2 (.inr ((hW t).2 ⟨ht, g, s, hs, by rw [hsym]; exact hst⟩))
        | false => exact (hS' t).2 (.inl ((hC t).2 (.on ((hC s).1 hs) ((hU t).2 ⟨ht, htv, g⟩) hst)))
      exact fun i j hi hj h1 h2 hij => h i j (hin i hi h1) (hin j hj h2) h1 h2 hij
    have hfin : ∀ s, C s = true → SimpP adj S' s → ∃ s, S s = true ∧ s ≠ v ∧ adj v s = false ∧ SimpP adj S s := fun s hs h => ⟨s, (hCU s hs).1, (hCU s hs).2.1, (hCU s hs).2.2, hup s hs h⟩
    have hih := ih S' hlt (fun i hi => hS i (hsub i hi)) fun L q H => hno L q (hole_up hsub H)
    -- one who does not see all of them, but all of W
    have huse : ∀ z t, S' z = true → S' t = true → t ≠ z → adj z t = false → (∀ w, W w = true → w = z ∨ adj z w = true) → ∃ s, S s = true ∧ s ≠ v ∧ adj v s = false ∧ SimpP adj S s := fun z t hz ht htz hzt hwz => by
      obtain ⟨s, s1, s2, s3, s4⟩ := hih z t hz ht htz hzt
      rcases (hS' s).1 s1 with h | h
      · exact hfin s h s4
      · rcases hwz s h with e | e
        · exact absurd e s2
        · rw [s3] at e; cases e
    by_cases h1 : ∃ w t, W w = true ∧ S' t = true ∧ t ≠ w ∧ adj w t = false
    · obtain ⟨w, t, hw, ht, htw, hwt⟩ := h1
      exact huse w t ((hS' w).2 (.inr hw)) ht htw hwt fun w' hw' => by
        by_cases e : w' = w
        · exact .inl e
        · exact .inr (hWq w w' hw hw' (Ne.symm e))
    · by_cases h2 : ∃ z t, S' z = true ∧ S' t = true ∧ t ≠ z ∧ adj z t = false
      · obtain ⟨z, t, hz, ht, htz, hzt⟩ := h2
        exact huse z t hz ht htz hzt fun w hw => by
          by_cases e : w = z
          · exact .inl e
          · right
            cases g : adj z w with
            | true => rfl
            | false => exact absurd ⟨w, z, hw, hz, Ne.symm e, by rw [hsym]; exact g⟩ h1
      · refine hfin u hCu fun i j hi hj _ _ hij => ?_
        cases g : adj i j with
        | true => rfl
        | false => exact absurd ⟨i, j, hi, hj, Ne.symm hij, g⟩ h2
/-- Where nobody can go there is a ring of four or more without a short cut. -/
theorem stuck_hole (hsym : ∀ i j, adj i j = adj j i) (hirr : ∀ i, adj i i = false) (hS : ∀ i, S i = true → i < n) {v : Nat} (hv : S v = true) (hst : ∀ s, S s = true → ¬ SimpP adj S s) : ∃ L q, HoleP adj S L q := by
  apply Classical.byContradiction
  intro hno
  have hno' : ∀ L q, ¬ HoleP adj S L q := fun L q h => hno ⟨L, q, h⟩
  refine hst v hv fun i j hi hj h1 h2 hij => ?_
  cases g : adj i j with
  | true => rfl
  | false =>
    obtain ⟨s, s1, _, _, s4⟩ := dirac hsym hirr _ S (Nat.le_refl _) hS hno' i j hi hj (Ne.symm hij) g
    exact absurd s4 (hst s s1)
end
end Go.Proofs.Yticickicfigpbaa
