/- BROOKS (by a longest row and the ring at its end): where no node has more than d neighbours, three or more, and no d + 1 nodes have all edges, d colours are enough. Plain facts, of no program. -/
import Derived.Test.YticickicfigpbaaTutteP
namespace Go.Proofs.Yticickicfigpbaa

/-- How many neighbours one has in a set. -/
def degS (adj : Nat → Nat → Bool) (n : Nat) (S : Nat → Bool) (v : Nat) : Nat := sizeP (fun u => S u && adj v u) n
/-- A colouring of a set, by d colours. -/
structure ColP (adj : Nat → Nat → Bool) (n d : Nat) (P : Nat → Bool) (c : Nat → Nat) : Prop where
  lt : ∀ i, i < n → P i = true → c i < d
  ne : ∀ i j, i < n → j < n → P i = true → P j = true → adj i j = true → c i ≠ c j
def addB (P : Nat → Bool) (x : Nat) : Nat → Bool := fun i => P i || decide (i = x)
theorem addB_iff {P : Nat → Bool} {x i : Nat} : addB P x i = true ↔ P i = true ∨ i = x := by simp [addB]
def updC (c : Nat → Nat) (x v : Nat) : Nat → Nat := fun i => if i = x then v else c i
section
variable {adj : Nat → Nat → Bool} {n d : Nat} {S P : Nat → Bool} {c : Nat → Nat}
theorem sizeP_below : ∀ (n : Nat) {d : Nat}, d ≤ n → sizeP (fun x => decide (x < d)) n = d
  | 0, d, h => by rw [show d = 0 by omega]; rfl
  | n + 1, d, h => by
    rw [sizeP_succ]
    rcases Nat.lt_or_ge n d with h1 | h1
    · have e : sizeP (fun x => decide (x < d)) n = sizeP (fun x => decide (x < n)) n := sizeP_congr n fun i hi => by rw [decide_eq_true (show i < d by omega), decide_eq_true hi]
      rw [e, sizeP_below n (Nat.le_refl n), if_pos (by simpa using h1)]; omega
    · rw [sizeP_below n h1, if_neg (by simp; omega)]; rfl
/-- A colour that no neighbour has: one neighbour has none yet, or two have one. -/
theorem free_col (hdn : d ≤ n) {x : Nat} (_hx : x < n) (hdeg : degS adj n S x ≤ d) (hPS : ∀ i, P i = true → S i = true)
    (h : (∃ y, y < n ∧ S y = true ∧ adj x y = true ∧ P y = false) ∨ ∃ u w, u < n ∧ w < n ∧ u ≠ w ∧ P u = true ∧ P w = true ∧ adj x u = true ∧ adj x w = true ∧ c u = c w) :
    ∃ k, k < d ∧ ∀ j, j < n → P j = true → adj x j = true → c j ≠ k := by
  apply Classical.byContradiction
  intro hno
  have hall : ∀ k, ∃ j, k < d → j < n ∧ P j = true ∧ adj x j = true ∧ c j = k := fun k => by
    by_cases hk : k < d
    · apply Classical.byContradiction
      intro h2
      exact hno ⟨k, hk, fun j hj hP ha e => h2 ⟨j, fun _ => ⟨hj, hP, ha, e⟩⟩⟩
    · exact ⟨0, fun h => absurd h hk⟩
  obtain ⟨f, hf⟩ := Classical.axiomOfChoice hall
  have hinj : ∀ i j, i < n → j < n → decide (i < d) = true → decide (j < d) = true → f i = f j → i = j := fun i j _ _ h1 h2 e => by
    have a := (hf i (by simpa using h1)).2.2.2
    have b := (hf j (by simpa using h2)).2.2.2
    rw [← a, ← b, e]
  have hlt : ∀ z, z < n → S z = true → adj x z = true → (∀ k, k < d → f k ≠ z) → False := fun z hz hSz haz hne => by
    have h1 := sizeP_inj (n := n) _ (A := fun k => decide (k < d)) (B := delB (fun u => S u && adj x u) z) (m := f) rfl (fun k _ hk => by
      obtain ⟨a1, a2, a3, _⟩ := hf k (by simpa using hk)
      exact ⟨a1, delB_iff.2 ⟨by simp [hPS _ a2, a3], hne k (by simpa using hk)⟩⟩) hinj
    have h2 := sizeP_del (A := fun u => S u && adj x u) (i := z) (by simp [hSz, haz]) hz
    rw [sizeP_below n hdn] at h1
    unfold degS at hdeg
    omega
  rcases h with ⟨y, hy, hSy, hay, hPy⟩ | ⟨u, w, hu, hw, huw, hPu, hPw, hau, haw, he⟩
  · refine hlt y hy hSy hay fun k hk e => ?_
    have := (hf k hk).2.1
    rw [e, hPy] at this; cases this
  · by_cases hk : ∃ k, k < d ∧ f k = u
    · obtain ⟨k, hk, e⟩ := hk
      refine hlt w hw (hPS w hPw) haw fun k' hk' e' => huw ?_
      have h1 := (hf k hk).2.2.2
      have h2 := (hf k' hk').2.2.2
      rw [e] at h1; rw [e'] at h2
      have : k = k' := by omega
      rw [← e, ← e', this]
    · exact hlt u hu (hPS u hPu) hau fun k hk' e => hk ⟨k, hk', e⟩
theorem col_add (hsym : ∀ a b, adj a b = adj b a) (hirr : ∀ a, adj a a = false) (H : ColP adj n d P c) {x k : Nat} (hk : k < d) (hno : ∀ j, j < n → P j = true → adj x j = true → c j ≠ k) (hxP : P x = false) : ColP adj n d (addB P x) (updC c x k) := by
  have hne : ∀ i, P i = true → i ≠ x := fun i hi e => by rw [e, hxP] at hi; cases hi
  refine ⟨fun i hi hP => ?_, fun i j hi hj hPi hPj ha => ?_⟩
  · unfold updC
    split
    · exact hk
    · rename_i e; exact H.lt i hi ((addB_iff.1 hP).resolve_right e)
  · unfold updC
    rcases addB_iff.1 hPi with h1 | h1 <;> rcases addB_iff.1 hPj with h2 | h2
    · rw [if_neg (hne i h1), if_neg (hne j h2)]; exact H.ne i j hi hj h1 h2 ha
    · rw [if_neg (hne i h1), if_pos h2]
      exact hno i hi h1 (by rw [hsym, ← h2]; exact ha)
    · rw [if_pos h1, if_neg (hne j h2)]
      exact fun e => hno j hj h2 (by rw [← h1]; exact ha) e.symm
    · rw [h1, h2, hirr] at ha; cases ha
/-- One after the other, each with a neighbour that has no colour yet. -/
theorem col_seq (hdn : d ≤ n) (hsym : ∀ a b, adj a b = adj b a) (hirr : ∀ a, adj a a = false) (hdeg : ∀ x, x < n → S x = true → degS adj n S x ≤ d) (hPS : ∀ i, P i = true → S i = true) (H : ColP adj n d P c) (q : Nat → Nat) : ∀ k,
    (∀ t, t < k → q t < n ∧ S (q t) = true ∧ P (q t) = false ∧ (∀ t', t' < t → q t' ≠ q t) ∧ ∃ y, y < n ∧ S y = true ∧ adj (q t) y = true ∧ P y = false ∧ ∀ t', t' ≤ t → y ≠ q t') →
    ∃ c', ColP adj n d (fun i => P i || (List.range k).any fun t => decide (i = q t)) c' ∧ ∀ i, P i = true → c' i = c i
  | 0, _ => ⟨c, ⟨fun i hi h => H.lt i hi (by simpa using h), fun i j hi hj h1 h2 => H.ne i j hi hj (by simpa using h1) (by simpa using h2)⟩, fun _ _ => rfl⟩
  | k + 1, hq => by
    obtain ⟨c1, h1, h2⟩ := col_seq hdn hsym hirr hdeg hPS H q k fun t ht => hq t (by omega)
    obtain ⟨a1, a2, a3, a4, y, b1, b2, b3, b4, b5⟩ := hq k (by omega)
    have hmem : ∀ i, ((List.range k).any fun t => decide (i = q t)) = true ↔ ∃ t, t < k ∧ i = q t := fun i => by
      rw [List.any_eq_true]
      exact ⟨fun ⟨t, ht, e⟩ => ⟨t, List.mem_range.1 ht, by simpa using e⟩, fun ⟨t, ht, e⟩ => ⟨t, List.mem_range.2 ht, by simpa using e⟩⟩
    have hnk : (P (q k) || (List.range k).any fun t => decide (q k = q t)) = false := by
      rw [a3, Bool.false_or, Bool.eq_false_iff]
      intro h
      obtain ⟨t, ht, e⟩ := (hmem _).1 h
      exact a4 t ht e.symm
    obtain ⟨col, g1, g2⟩ := free_col (adj := adj) (n := n) (S := S) (P := fun i => P i || (List.range k).any fun t => decide (i = q t)) (c := c1) hdn a1 (hdeg _ a1 a2) (fun i hi => by
      simp only [Bool.or_eq_true] at hi
      rcases hi with hi | hi
      · exact hPS i hi
      · obtain ⟨t, ht, e⟩ := (hmem i).1 hi
        rw [e]; exact (hq t (by omega)).2.1) (.inl ⟨y, b1, b2, b3, by
          show (P y || _) = false
          rw [b4, Bool.false_or, Bool.eq_false_iff]
          intro h
          obtain ⟨t, ht, e⟩ := (hmem _).1 h
          exact b5 t (by omega) e⟩)
    have h3 := col_add hsym hirr h1 g1 g2 hnk
    refine ⟨_, ⟨fun i hi h => h3.lt i hi ?_, fun i j hi hj hh1 hh2 => h3.ne i j hi hj ?_ ?_⟩, fun i hi => ?_⟩
    · rw [List.range_succ, List.any_append, List.any_cons, List.any_nil, Bool.or_false, ← Bool.or_assoc] at h; exact h
    · rw [List.range_succ, List.any_append, List.any_cons, List.any_nil, Bool.or_false, ← Bool.or_assoc] at hh1; exact hh1
    · rw [List.range_succ, List.any_append, List.any_cons, List.any_nil, Bool.or_false, ← Bool.or_assoc] at hh2; exact hh2
    · unfold updC
      rw [if_neg (fun e => by rw [e, a3] at hi; cases hi)]
      exact h2 i hi
/-- A row of so many, each with an edge to the next, none twice. -/
structure RowP (adj : Nat → Nat → Bool) (n : Nat) (S : Nat → Bool) (r : Nat) (p : Nat → Nat) : Prop where
  in_ : ∀ t, t < r → p t < n ∧ S (p t) = true
  adj_ : ∀ t, t + 1 < r → adj (p t) (p (t + 1)) = true
  one : ∀ a b, a < r → b < r → p a = p b → a = b
theorem RowP.le {r : Nat} {p : Nat → Nat} (H : RowP adj n S r p) : r ≤ n := by
  rcases Nat.lt_or_ge n r with h | h
  · have h1 := sizeP_inj (n := r) _ (A := fun _ => true) (B := fun x => decide (x < n)) (m := p) rfl (fun i hi _ => ⟨by have := (H.in_ i hi).1; omega, by simpa using (H.in_ i hi).1⟩) fun i j hi hj _ _ e => H.one i j hi hj e
    rw [sizeP_below r (by omega)] at h1
    have h2 : sizeP (fun _ : Nat => false) r + sizeP (fun _ : Nat => true) r = r := sizeP_not (fun _ : Nat => true) r
    have h3 : sizeP (fun _ : Nat => false) r = 0 := sizeP_none fun _ _ => rfl
    omega
  · exact h
/-- The longest row with a given beginning: all neighbours of its last one are of it. -/
theorem row_max : ∀ (k r : Nat) (p : Nat → Nat), n ≤ r + k → 0 < r → RowP adj n S r p → ∃ r' p', r ≤ r' ∧ RowP adj n S r' p' ∧ (∀ t, t < r → p' t = p t) ∧ ∀ y, y < n → S y = true → adj (p' (r' - 1)) y = true → ∃ t, t < r' ∧ p' t = y
  | k, r, p, hk, hr, H => by
    by_cases hex : ∃ y, y < n ∧ S y = true ∧ adj (p (r - 1)) y = true ∧ ∀ t, t < r → p t ≠ y
    · obtain ⟨y, h1, h2, h3, h4⟩ := hex
      have H' : RowP adj n S (r + 1) (fun t => if t < r then p t else y) := by
        refine ⟨fun t ht => ?_, fun t ht => ?_, fun a b ha hb e => ?_⟩
        · by_cases h : t < r
          · simp only [if_pos h]; exact H.in_ t h
          · simp only [if_neg h]; exact ⟨h1, h2⟩
        · by_cases h : t + 1 < r
          · simp only [if_pos (show t < r by omega), if_pos h]; exact H.adj_ t h
          · simp only [if_pos (show t < r by omega), if_neg h]
            rw [show t = r - 1 by omega]; exact h3
        · by_cases ha' : a < r <;> by_cases hb' : b < r
          · simp only [if_pos ha', if_pos hb'] at e; exact H.one a b ha' hb' e
          · simp only [if_pos ha', if_neg hb'] at e; exact absurd e (h4 a ha')
          · simp only [if_neg ha', if_pos hb'] at e; exact absurd e.symm (h4 b hb')
          · omega
      have hle := H'.le
      cases k with
      | zero => omega
      | succ k =>
        obtain ⟨r', p', g1, g2, g3, g4⟩ := row_max k (r + 1) _ (by omega) (by omega) H'
        exact ⟨r', p', by omega, g2, fun t ht => by rw [g3 t (by omega), if_pos ht], g4⟩
    · refine ⟨r, p, Nat.le_refl _, H, fun _ _ => rfl, fun y h1 h2 h3 => Classical.byContradiction fun hno => hex ⟨y, h1, h2, h3, fun t ht e => hno ⟨t, ht, e⟩⟩⟩
/-- All of a ring but one: each has a neighbour that has no colour yet; and the last one two of one colour. -/
theorem ring_col (hdn : d ≤ n) (hsym : ∀ a b, adj a b = adj b a) (hirr : ∀ a, adj a a = false) (hdeg : ∀ x, x < n → S x = true → degS adj n S x ≤ d) (hPS : ∀ i, P i = true → S i = true) (H : ColP adj n d P c) {L : Nat} {w : Nat → Nat} (hL : 2 ≤ L)
    (hin : ∀ t, t < L → w t < n ∧ S (w t) = true ∧ P (w t) = false) (hadj : ∀ t, t + 1 < L → adj (w t) (w (t + 1)) = true) (hlast : adj (w (L - 1)) (w 0) = true) (hone : ∀ a b, a < L → b < L → w a = w b → a = b)
    {u : Nat} (hu : u < n) (hPu : P u = true) (hua : adj (w (L - 1)) u = true) (h0 : ∀ j, j < n → P j = true → adj (w 0) j = false) :
    ∃ c', ColP adj n d (fun i => P i || (List.range L).any fun t => decide (i = w t)) c' := by
  obtain ⟨a1, a2, a3⟩ := hin 0 (by omega)
  -- the first one: as the one outside
  have H1 : ColP adj n d (addB P (w 0)) (updC c (w 0) (c u)) := col_add hsym hirr H (H.lt u hu hPu) (fun j hj hP ha => by rw [h0 j hj hP] at ha; cases ha) a3
  have hPS1 : ∀ i, addB P (w 0) i = true → S i = true := fun i hi => by
    rcases addB_iff.1 hi with h | h
    · exact hPS i h
    · rw [h]; exact a2
  obtain ⟨c2, h2, h3⟩ := col_seq hdn hsym hirr hdeg hPS1 H1 (fun t => w (t + 1)) (L - 2) fun t ht => by
    obtain ⟨b1, b2, b3⟩ := hin (t + 1) (by omega)
    obtain ⟨d1, d2, d3⟩ := hin (t + 2) (by omega)
    have hn : ∀ s, s < L → s ≠ 0 → P (w s) = false → addB P (w 0) (w s) = false := fun s hs hs0 hP => by
      rw [Bool.eq_false_iff]
      intro h
      rcases addB_iff.1 h with h | h
      · rw [hP] at h; cases h
      · exact hs0 (hone s 0 hs (by omega) h)
    exact ⟨b1, b2, hn _ (by omega) (by omega) b3, fun t' ht' e => by have := hone _ _ (by omega) (by omega) e; omega, w (t + 2), d1, d2, hadj (t + 1) (by omega), hn _ (by omega) (by omega) d3, fun t' ht' e => by have := hone _ _ (by omega) (by omega) e; omega⟩
  have hmem : ∀ i k, ((List.range k).any fun t => decide (i = w (t + 1))) = true ↔ ∃ t, t < k ∧ i = w (t + 1) := fun i k => by
    rw [List.any_eq_true]
    exact ⟨fun ⟨t, ht, e⟩ => ⟨t, List.mem_range.1 ht, by simpa using e⟩, fun ⟨t, ht, e⟩ => ⟨t, List.mem_range.2 ht, by simpa using e⟩⟩
  obtain ⟨l1, l2, l3⟩ := hin (L - 1) (by omega)
  have hne0 : w (L - 1) ≠ w 0 := fun e => by have := hone _ _ (by omega) (by omega) e; omega
  have hnl : (addB P (w 0) (w (L - 1)) || (List.range (L - 2)).any fun t => decide (w (L - 1) = w (t + 1))) = false := by
    rw [Bool.eq_false_iff]
    intro h
    rcases Bool.or_eq_true _ _ |>.mp h with h | h
    · rcases addB_iff.1 h with h | h
      · rw [l3] at h; cases h
      · exact hne0 h
    · obtain ⟨t, ht, e⟩ := (hmem _ _).1 h
      have := hone _ _ (by omega) (by omega) e
      omega
  have hPu1 : addB P (w 0) u = true := addB_iff.2 (.inl hPu)
  have hP01 : addB P (w 0) (w 0) = true := addB_iff.2 (.inr rfl)
  have hu0 : u ≠ w 0 := fun e => by rw [e, a3] at hPu; cases hPu
  have hcol : c2 u = c2 (w 0) := by
    rw [h3 u hPu1, h3 _ hP01]
    unfold updC
    rw [if_neg hu0, if_pos rfl]
  obtain ⟨col, g1, g2⟩ := free_col (adj := adj) (n := n) (S := S) (P := fun i => addB P (w 0) i || (List.range (L - 2)).any fun t => decide (i = w (t + 1))) (c := c2) hdn l1 (hdeg _ l1 l2) (fun i hi => by
    rcases Bool.or_eq_true _ _ |>.mp hi with hi | hi
    · exact hPS1 i hi
    · obtain ⟨t, ht, e⟩ := (hmem _ _).1 hi
      rw [e]; exact (hin _ (by omega)).2.1) (.inr ⟨u, w 0, hu, a1, hu0, by simp [hPu1], by simp [hP01], hua, hlast, hcol⟩)
  have h4 := col_add hsym hirr h2 g1 g2 hnl
  have hall : ∀ i, (P i || (List.range L).any fun t => decide (i = w t)) = true → addB (fun i => addB P (w 0) i || (List.range (L - 2)).any fun t => decide (i = w (t + 1))) (w (L - 1)) i = true := fun i hi => by
    rw [addB_iff]
    rcases Bool.or_eq_true _ _ |>.mp hi with hi | hi
    · left; simp [addB_iff.2 (.inl hi)]
    · rw [List.any_eq_true] at hi
      obtain ⟨t, ht, e⟩ := hi
      have ht := List.mem_range.1 ht
      have e : i = w t := by simpa using e
      rcases Nat.eq_zero_or_pos t with h5 | h5
      · left; rw [e, h5]; simp [hP01]
      · rcases Nat.lt_or_ge t (L - 1) with h6 | h6
        · left
          rw [Bool.or_eq_true]
          exact .inr ((hmem i (L - 2)).2 ⟨t - 1, by omega, by rw [show t - 1 + 1 = t by omega]; exact e⟩)
        · right; rw [e, show t = L - 1 by omega]
  exact ⟨_, ⟨fun i hi h => h4.lt i hi (hall i h), fun i j hi hj p1 p2 => h4.ne i j hi hj (hall i p1) (hall j p2)⟩⟩
/-- No so many nodes have all edges. -/
def NoClique (adj : Nat → Nat → Bool) (n k : Nat) (S : Nat → Bool) : Prop := ∀ K : Nat → Bool, (∀ i, i < n → K i = true → S i = true) → (∀ i j, i < n → j < n → K i = true → K j = true → i ≠ j → adj i j = true) → sizeP K n ≠ k
/-- BROOKS. -/
theorem brooks (hdn : d ≤ n) (hd : 3 ≤ d) (hsym : ∀ a b, adj a b = adj b a) (hirr : ∀ a, adj a a = false) : ∀ (m : Nat) (S : Nat → Bool), sizeP S n = m → (∀ x, x < n → S x = true → degS adj n S x ≤ d) → NoClique adj n (d + 1) S → ∃ c, ColP adj n d S c
  | m, S, hm, hdeg, hcl => by
    have hsub : ∀ T : Nat → Bool, (∀ i, i < n → T i = true → S i = true) → (∀ x, x < n → T x = true → degS adj n T x ≤ d) ∧ NoClique adj n (d + 1) T := fun T hT =>
      ⟨fun x hx hTx => Nat.le_trans (sizeP_sub fun i hi h => by
        simp only [Bool.and_eq_true] at h ⊢
        exact ⟨hT i hi h.1, h.2⟩) (hdeg x hx (hT x hx hTx)), fun K h1 h2 => hcl K (fun i hi h => hT i hi (h1 i hi h)) h2⟩
    by_cases hlow : ∃ x, x < n ∧ S x = true ∧ degS adj n S x < d
    · -- one with fewer neighbours goes last
      obtain ⟨x, hx, hSx, hdx⟩ := hlow
      have hdel := sizeP_del hSx hx
      obtain ⟨h1, h2⟩ := hsub (delB S x) fun i _ h => (delB_iff.1 h).1
      obtain ⟨c, hc⟩ := brooks hdn hd hsym hirr (m - 1) (delB S x) (by omega) h1 h2
      have hfree : ∃ k, k < d ∧ ∀ j, j < n → delB S x j = true → adj x j = true → c j ≠ k := by
        apply Classical.byContradiction
        intro hno
        have hall : ∀ k, ∃ j, k < d → j < n ∧ delB S x j = true ∧ adj x j = true ∧ c j = k := fun k => by
          by_cases hk : k < d
          · apply Classical.byContradiction
            intro h2
            exact hno ⟨k, hk, fun j hj hP ha e => h2 ⟨j, fun _ => ⟨hj, hP, ha, e⟩⟩⟩
          · exact ⟨0, fun h => absurd h hk⟩
        obtain ⟨f, hf⟩ := Classical.axiomOfChoice hall
        have h1 := sizeP_inj (n := n) _ (A := fun k => decide (k < d)) (B := fun u => S u && adj x u) (m := f) rfl (fun k _ hk => by
          obtain ⟨a1, a2, a3, _⟩ := hf k (by simpa using hk)
          exact ⟨a1, by simp [(delB_iff.1 a2).1, a3]⟩) fun i j _ _ h1 h2 e => by
            have a := (hf i (by simpa using h1)).2.2.2
            have b := (hf j (by simpa using h2)).2.2.2
            rw [← a, ← b, e]
        rw [sizeP_below n hdn] at h1
        unfold degS at hdx
        omega
      obtain ⟨k, g1, g2⟩ := hfree
      have h3 := col_add hsym hirr hc g1 g2 (by simp [delB])
      have hS : ∀ i, S i = true → addB (delB S x) x i = true := fun i hi => by
        rw [addB_iff, delB_iff]
        by_cases e : i = x
        · exact .inr e
        · exact .inl ⟨hi, e⟩
      exact ⟨_, ⟨fun i hi h => h3.lt i hi (hS i h), fun i j hi hj p1 p2 => h3.ne i j hi hj (hS i p1) (hS j p2)⟩⟩
    · have hreg : ∀ x, x < n → S x = true → degS adj n S x = d := fun x hx hSx => by
        have h1 := hdeg x hx hSx
        have h2 : ¬ degS adj n S x < d := fun h => hlow ⟨x, hx, hSx, h⟩
        omega
      rcases Nat.eq_zero_or_pos (sizeP S n) with h0 | h0
      · have hno : ∀ i, i < n → S i = true → False := fun i hi h => by have := sizeP_del h hi; omega
        exact ⟨fun _ => 0, ⟨fun i hi h => (hno i hi h).elim, fun i _ hi _ h => (hno i hi h).elim⟩⟩
      · obtain ⟨v, hv, hSv⟩ := sizeP_pos h0
        -- two neighbours without an edge
        obtain ⟨x, y, hx, hy, hSx, hSy, hvx, hvy, hxy, hnxy⟩ : ∃ x y, x < n ∧ y < n ∧ S x = true ∧ S y = true ∧ adj v x = true ∧ adj v y = true ∧ x ≠ y ∧ adj x y = false := by
          apply Classical.byContradiction
          intro hno
          have hK : ∀ i j, i < n → j < n → addB (fun u => S u && adj v u) v i = true → addB (fun u => S u && adj v u) v j = true → i ≠ j → adj i j = true := fun i j hi hj h1 h2 hij => by
            rw [addB_iff] at h1 h2
            simp only [Bool.and_eq_true] at h1 h2
            rcases h1 with h1 | h1 <;> rcases h2 with h2 | h2
            · cases ha : adj i j with
              | true => rfl
              | false => exact absurd ⟨i, j, hi, hj, h1.1, h2.1, h1.2, h2.2, hij, ha⟩ hno
            · rw [h2, hsym]; exact h1.2
            · rw [h1]; exact h2.2
            · exact absurd (h1.trans h2.symm) hij
          refine hcl _ (fun i _ h => ?_) hK ?_
          · rw [addB_iff] at h
            simp only [Bool.and_eq_true] at h
            rcases h with h | h
            · exact h.1
            · rw [h]; exact hSv
          · rw [sizeP_del (A := addB (fun u => S u && adj v u) v) (i := v) (addB_iff.2 (.inr rfl)) hv]
            have e : sizeP (delB (addB (fun u => S u && adj v u) v) v) n = degS adj n S v := sizeP_congr n fun i _ => by
              rw [Bool.eq_iff_iff, delB_iff, addB_iff]
              constructor
              · rintro ⟨h1 | h1, h2⟩
                · exact h1
                · exact absurd h1 h2
              · intro h1
                refine ⟨.inl h1, fun e => ?_⟩
                simp only [Bool.and_eq_true] at h1
                rw [e, hirr] at h1
                cases h1.2
            rw [e, hreg v hv hSv]
        have hvx' : v ≠ x := fun e => by rw [e, hirr] at hvx; cases hvx
        have hvy' : v ≠ y := fun e => by rw [e, hirr] at hvy; cases hvy
        -- the longest row that begins with them
        have H3 : RowP adj n S 3 (fun t => if t = 0 then x else if t = 1 then v else y) := by
          refine ⟨fun t ht => ?_, fun t ht => ?_, fun a b ha hb e => ?_⟩
          · rcases (show t = 0 ∨ t = 1 ∨ t = 2 by omega) with rfl | rfl | rfl
            · exact ⟨hx, hSx⟩
            · exact ⟨hv, hSv⟩
            · exact ⟨hy, hSy⟩
          · rcases (show t = 0 ∨ t = 1 by omega) with rfl | rfl
            · show adj x v = true; rw [hsym]; exact hvx
            · exact hvy
          · rcases (show a = 0 ∨ a = 1 ∨ a = 2 by omega) with rfl | rfl | rfl <;> rcases (show b = 0 ∨ b = 1 ∨ b = 2 by omega) with rfl | rfl | rfl <;> first | rfl | exact absurd e hvx' | exact absurd e.symm hvx' | exact absurd e hvy' | exact absurd e.symm hvy' | exact absurd e hxy | exact absurd e.symm hxy
        obtain ⟨r, p, hr3, HR, hbeg, hmax⟩ := row_max n 3 _ (by omega) (by omega) H3
        have hp0 : p 0 = x := hbeg 0 (by omega)
        have hp1 : p 1 = v := hbeg 1 (by omega)
        have hp2 : p 2 = y := hbeg 2 (by omega)
        obtain ⟨hzn, hzS⟩ := HR.in_ (r - 1) (by omega)
        -- the first one of it that has an edge with the last
        have hexj : ∃ j, j < r ∧ adj (p (r - 1)) (p j) = true := by
          have : adj (p (r - 2)) (p (r - 2 + 1)) = true := HR.adj_ (r - 2) (by omega)
          rw [show r - 2 + 1 = r - 1 by omega] at this
          exact ⟨r - 2, by omega, by rw [hsym]; exact this⟩
        obtain ⟨j, hjr, hja, hjleast⟩ : ∃ j, j < r ∧ adj (p (r - 1)) (p j) = true ∧ ∀ i, i < j → adj (p (r - 1)) (p i) = false := by
          obtain ⟨j0, h1, h2⟩ := hexj
          have : ∀ k j, j ≤ k → j < r → adj (p (r - 1)) (p j) = true → ∃ j, j < r ∧ adj (p (r - 1)) (p j) = true ∧ ∀ i, i < j → adj (p (r - 1)) (p i) = false := fun k => by
            induction k with
            | zero => exact fun j hj hr h => ⟨j, hr, h, fun i hi => by omega⟩
            | succ k ih =>
              intro j hj hr h
              by_cases hh : ∃ i, i < j ∧ adj (p (r - 1)) (p i) = true
              · obtain ⟨i, hi, h'⟩ := hh
                exact ih i (by omega) (by omega) h'
              · exact ⟨j, hr, h, fun i hi => by
                  cases ha : adj (p (r - 1)) (p i) with
                  | false => rfl
                  | true => exact absurd ⟨i, hi, ha⟩ hh⟩
          exact this j0 j0 (Nat.le_refl _) h1 h2
        have hjr1 : j ≠ r - 1 := fun e => by rw [e, hirr] at hja; cases hja
        -- the ring at the end
        obtain ⟨L, hL⟩ : ∃ L, r = j + L := ⟨r - j, by omega⟩
        have hL2 : 2 ≤ L := by omega
        let inC : Nat → Bool := fun i => (List.range L).any fun t => decide (i = p (j + t))
        have hinC : ∀ i, inC i = true ↔ ∃ t, t < L ∧ i = p (j + t) := fun i => by
          show ((List.range L).any fun t => decide (i = p (j + t))) = true ↔ _
          rw [List.any_eq_true]
          exact ⟨fun ⟨t, ht, e⟩ => ⟨t, List.mem_range.1 ht, by simpa using e⟩, fun ⟨t, ht, e⟩ => ⟨t, List.mem_range.2 ht, by simpa using e⟩⟩
        have hCS : ∀ i, inC i = true → i < n ∧ S i = true := fun i hi => by
          obtain ⟨t, ht, e⟩ := (hinC i).1 hi
          rw [e]; exact HR.in_ _ (by omega)
        have hCpos : 0 < sizeP inC n := by
          have := sizeP_del (A := inC) (i := p j) ((hinC _).2 ⟨0, by omega, rfl⟩) (HR.in_ j hjr).1
          omega
        have hlastC : ∀ z, z < n → S z = true → adj (p (r - 1)) z = true → inC z = true := fun z hz hSz ha => by
          obtain ⟨t, ht, e⟩ := hmax z hz hSz ha
          refine (hinC z).2 ⟨t - j, ?_, ?_⟩
          · rcases Nat.lt_or_ge t j with h | h
            · have := hjleast t h; rw [e, ha] at this; cases this
            · omega
          · rcases Nat.lt_or_ge t j with h | h
            · have := hjleast t h; rw [e, ha] at this; cases this
            · rw [show j + (t - j) = t by omega]; exact e.symm
        have hout : sizeP (fun i => S i && !inC i) n < m := by
          have h1 := sizeP_part S inC n
          have h2 : sizeP (fun i => S i && inC i) n = sizeP inC n := sizeP_congr n fun i _ => by
            cases hc : inC i with
            | false => simp
            | true => simp [(hCS i hc).2]
          omega
        obtain ⟨hd1, hd2⟩ := hsub (fun i => S i && !inC i) fun i _ h => by simp only [Bool.and_eq_true] at h; exact h.1
        obtain ⟨c, hc⟩ := brooks hdn hd hsym hirr (sizeP (fun i => S i && !inC i) n) (fun i => S i && !inC i) rfl hd1 hd2
        by_cases hB : ∃ t u, t < L ∧ u < n ∧ S u = true ∧ inC u = false ∧ adj (p (j + t)) u = true
        · -- the last one of the ring that has a neighbour outside
          obtain ⟨t, u, htL, hu, hSu, huC, hua, htop⟩ : ∃ t u, t + 1 < L ∧ u < n ∧ S u = true ∧ inC u = false ∧ adj (p (j + t)) u = true ∧ ∀ z, z < n → S z = true → inC z = false → adj (p (j + (t + 1))) z = false := by
            have hlast : ∀ z, z < n → S z = true → inC z = false → adj (p (j + (L - 1))) z = false := fun z hz hSz hzC => by
              cases ha : adj (p (j + (L - 1))) z with
              | false => rfl
              | true =>
                rw [show j + (L - 1) = r - 1 by omega] at ha
                rw [hlastC z hz hSz ha] at hzC; cases hzC
            have : ∀ k t u, t + k + 1 = L → u < n → S u = true → inC u = false → adj (p (j + t)) u = true → ∃ t u, t + 1 < L ∧ u < n ∧ S u = true ∧ inC u = false ∧ adj (p (j + t)) u = true ∧ ∀ z, z < n → S z = true → inC z = false → adj (p (j + (t + 1))) z = false := fun k => by
              induction k with
              | zero =>
                intro t u h1 h2 h3 h4 h5
                rw [show t = L - 1 by omega, hlast u h2 h3 h4] at h5; cases h5
              | succ k ih =>
                intro t u h1 h2 h3 h4 h5
                by_cases hh : ∃ z, z < n ∧ S z = true ∧ inC z = false ∧ adj (p (j + (t + 1))) z = true
                · obtain ⟨z, z1, z2, z3, z4⟩ := hh
                  exact ih (t + 1) z (by omega) z1 z2 z3 z4
                · exact ⟨t, u, by omega, h2, h3, h4, h5, fun z z1 z2 z3 => by
                    cases ha : adj (p (j + (t + 1))) z with
                    | false => rfl
                    | true => exact absurd ⟨z, z1, z2, z3, ha⟩ hh⟩
            obtain ⟨t, u, h1, h2, h3, h4, h5⟩ := hB
            exact this (L - 1 - t) t u (by omega) h2 h3 h4 h5
          -- round from the next one
          have hidx : ∀ s, s < L → ∃ q, q < L ∧ (if t + 1 + s < L then t + 1 + s else t + 1 + s - L) = q := fun s hs => ⟨_, by split <;> omega, rfl⟩
          obtain ⟨c', hc'⟩ := ring_col (S := S) (P := fun i => S i && !inC i) (c := c) (L := L) (w := fun s => p (j + (if t + 1 + s < L then t + 1 + s else t + 1 + s - L))) (u := u) hdn hsym hirr hdeg (fun i hi => by simp only [Bool.and_eq_true] at hi; exact hi.1) hc hL2
            (fun s hs => by
              obtain ⟨q, hq, e⟩ := hidx s hs
              rw [e]
              have hqC : inC (p (j + q)) = true := (hinC _).2 ⟨q, hq, rfl⟩
              exact ⟨(hCS _ hqC).1, (hCS _ hqC).2, by simp [hqC]⟩)
            (fun s hs => by
              by_cases h1 : t + 1 + (s + 1) < L
              · simp only [if_pos (show t + 1 + s < L by omega), if_pos h1]
                exact HR.adj_ (j + (t + 1 + s)) (by omega)
              · by_cases h2 : t + 1 + s < L
                · simp only [if_pos h2, if_neg h1]
                  rw [show j + (t + 1 + s) = r - 1 by omega, show j + (t + 1 + (s + 1) - L) = j by omega]
                  exact hja
                · simp only [if_neg h2, if_neg h1]
                  rw [show j + (t + 1 + (s + 1) - L) = j + (t + 1 + s - L) + 1 by omega]
                  exact HR.adj_ _ (by omega))
            (by
              simp only [if_neg (show ¬ t + 1 + (L - 1) < L by omega), if_pos (show t + 1 + 0 < L by omega)]
              rw [show j + (t + 1 + (L - 1) - L) = j + t by omega, show j + (t + 1 + 0) = j + t + 1 by omega]
              exact HR.adj_ _ (by omega))
            (fun a b ha hb e => by
              have h1 := HR.one _ _ (by split <;> omega) (by split <;> omega) e
              split at h1 <;> split at h1 <;> omega)
            hu (by simp [hSu, huC])
            (by
              simp only [if_neg (show ¬ t + 1 + (L - 1) < L by omega)]
              rw [show j + (t + 1 + (L - 1) - L) = j + t by omega]
              exact hua)
            (fun z hz hzP => by
              simp only [Bool.and_eq_true, Bool.not_eq_true'] at hzP
              simp only [if_pos (show t + 1 + 0 < L by omega)]
              rw [show j + (t + 1 + 0) = j + (t + 1) by omega]
              exact htop z hz hzP.1 hzP.2)
          have hS : ∀ i, S i = true → ((S i && !inC i) || (List.range L).any fun s => decide (i = p (j + (if t + 1 + s < L then t + 1 + s else t + 1 + s - L)))) = true := fun i hi => by
            cases hiC : inC i with
            | false => simp [hi]
            | true =>
              obtain ⟨q, hq, e⟩ := (hinC i).1 hiC
              rw [Bool.or_eq_true]
              right
              rw [List.any_eq_true]
              refine ⟨if t + 1 ≤ q then q - (t + 1) else q + L - (t + 1), List.mem_range.2 (by split <;> omega), ?_⟩
              rw [decide_eq_true_eq, e]
              congr 2
              split <;> split <;> omega
          exact ⟨c', ⟨fun i hi h => hc'.lt i hi (hS i h), fun i k hi hk p1 p2 => hc'.ne i k hi hk (hS i p1) (hS k p2)⟩⟩
        · have hclosed : ∀ i z, inC i = true → z < n → S z = true → adj i z = true → inC z = true := fun i z hi hz hSz ha => by
            obtain ⟨t, ht, e⟩ := (hinC i).1 hi
            cases hzC : inC z with
            | true => rfl
            | false => exact absurd ⟨t, z, ht, hz, hSz, hzC, by rw [← e]; exact ha⟩ hB
          by_cases hCall : sizeP inC n < m
          · -- apart
            obtain ⟨e1, e2⟩ := hsub inC fun i _ h => (hCS i h).2
            obtain ⟨c2, hc2⟩ := brooks hdn hd hsym hirr (sizeP inC n) inC rfl e1 e2
            refine ⟨fun i => if inC i = true then c2 i else c i, ⟨fun i hi h => ?_, fun i k hi hk p1 p2 ha => ?_⟩⟩
            · by_cases h1 : inC i = true
              · simp only [if_pos h1]; exact hc2.lt i hi h1
              · simp only [if_neg h1]; exact hc.lt i hi (by simp [h, h1])
            · by_cases h1 : inC i = true <;> by_cases h2 : inC k = true
              · simp only [if_pos h1, if_pos h2]; exact hc2.ne i k hi hk h1 h2 ha
              · exact absurd (hclosed i k h1 hk p2 ha) h2
              · exact absurd (hclosed k i h2 hi p1 (by rw [hsym]; exact ha)) h1
              · simp only [if_neg h1, if_neg h2]; exact hc.ne i k hi hk (by simp [p1, h1]) (by simp [p2, h2]) ha
          · -- the row has all
            have hall : ∀ i, i < n → S i = true → inC i = true := fun i hi hSi => by
              cases hiC : inC i with
              | true => rfl
              | false =>
                have h1 : sizeP inC n < sizeP S n := sizeP_lt (u := i) (fun z hz => (hCS z hz).2) hi hiC hSi
                omega
            have hj0 : j = 0 := by
              obtain ⟨t, ht, e⟩ := (hinC x).1 (hall x hx hSx)
              have := HR.one 0 (j + t) (by omega) (by omega) (by rw [hp0]; exact e)
              omega
            subst hj0
            have hrow : ∀ i, i < n → S i = true → ∃ t, t < r ∧ i = p t := fun i hi hSi => by
              obtain ⟨t, ht, e⟩ := (hinC i).1 (hall i hi hSi)
              rw [Nat.zero_add] at e
              exact ⟨t, by omega, e⟩
            -- a third neighbour of the second
            obtain ⟨k, hk3, hkr, hka⟩ : ∃ k, 3 ≤ k ∧ k < r ∧ adj v (p k) = true := by
              have hdv := hreg v hv hSv
              have e1 := sizeP_del (A := fun u => S u && adj v u) (i := x) (by simp [hSx, hvx]) hx
              have e2 := sizeP_del (A := delB (fun u => S u && adj v u) x) (i := y) (delB_iff.2 ⟨by simp [hSy, hvy], Ne.symm hxy⟩) hy
              unfold degS at hdv
              obtain ⟨z, hz, hzb⟩ := sizeP_pos (show 0 < sizeP (delB (delB (fun u => S u && adj v u) x) y) n by omega)
              obtain ⟨z1, z2⟩ := delB_iff.1 hzb
              obtain ⟨z3, z4⟩ := delB_iff.1 z1
              simp only [Bool.and_eq_true] at z3
              obtain ⟨k, hk, e⟩ := hrow z hz z3.1
              refine ⟨k, ?_, hk, by rw [← e]; exact z3.2⟩
              apply Nat.le_of_not_lt
              intro hlt
              rcases (show k = 0 ∨ k = 1 ∨ k = 2 by omega) with rfl | rfl | rfl
              · exact z4 (e.trans hp0)
              · rw [e, hp1, hirr] at z3; cases z3.2
              · exact z2 (e.trans hp2)
            -- the first and the third
            have hne : ∀ a b, a < r → b < r → a ≠ b → p a ≠ p b := fun a b ha hb hab e => hab (HR.one a b ha hb e)
            have H1 : ColP adj n d (addB (addB (fun _ => false) (p 0)) (p 2)) (fun _ => 0) := by
              refine ⟨fun i hi _ => by omega, fun i z hi hz p1 p2 ha => ?_⟩
              rw [addB_iff, addB_iff] at p1 p2
              exfalso
              have q1 : i = x ∨ i = y := p1.elim (fun h => h.elim (fun h => by cases h) fun h => .inl (h.trans hp0)) fun h => .inr (h.trans hp2)
              have q2 : z = x ∨ z = y := p2.elim (fun h => h.elim (fun h => by cases h) fun h => .inl (h.trans hp0)) fun h => .inr (h.trans hp2)
              rcases q1 with rfl | rfl <;> rcases q2 with rfl | rfl
              · rw [hirr] at ha; cases ha
              · rw [hnxy] at ha; cases ha
              · rw [hsym, hnxy] at ha; cases ha
              · rw [hirr] at ha; cases ha
            have hPS1 : ∀ i, addB (addB (fun _ => false) (p 0)) (p 2) i = true → S i = true := fun i hi => by
              rw [addB_iff, addB_iff] at hi
              rcases hi with (h | h) | h
              · cases h
              · rw [h]; exact (HR.in_ 0 (by omega)).2
              · rw [h]; exact (HR.in_ 2 (by omega)).2
            have hnP : ∀ a, a < r → a ≠ 0 → a ≠ 2 → addB (addB (fun _ => false) (p 0)) (p 2) (p a) = false := fun a ha h0 h2 => by
              rw [Bool.eq_false_iff]
              intro h
              rw [addB_iff, addB_iff] at h
              rcases h with (h | h) | h
              · cases h
              · exact hne a 0 ha (by omega) h0 h
              · exact hne a 2 ha (by omega) h2 h
            -- then those up to the third neighbour, and those behind it from the last one on, it itself: q
            let q : Nat → Nat := fun t => if t + 3 < k then t + 3 else if t + 3 < r then r - 1 - (t + 3 - k) else r
            have hq : ∀ t, t + 3 < r → 3 ≤ q t ∧ q t < r ∧ (∀ t', t' < t → q t' ≠ q t) ∧ ∃ z, z < r ∧ z ≠ 0 ∧ z ≠ 2 ∧ adj (p (q t)) (p z) = true ∧ ∀ t', t' ≤ t → z ≠ q t' := fun t ht => by
              have hqv : ∀ t', t' + 3 < r → q t' = if t' + 3 < k then t' + 3 else r - 1 - (t' + 3 - k) := fun t' h => by
                show (if t' + 3 < k then t' + 3 else if t' + 3 < r then r - 1 - (t' + 3 - k) else r) = _
                rw [if_pos h]
              refine ⟨by rw [hqv t ht]; split <;> omega, by rw [hqv t ht]; split <;> omega, fun t' ht' => by rw [hqv t ht, hqv t' (by omega)]; split <;> split <;> omega, ?_⟩
              by_cases h1 : t + 3 < k
              · refine ⟨t + 4, by omega, by omega, by omega, ?_, fun t' ht' => by rw [hqv t' (by omega), if_pos (by omega)]; omega⟩
                rw [hqv t ht, if_pos h1]
                exact HR.adj_ (t + 3) (by omega)
              · by_cases h2 : t + 4 < r
                · refine ⟨r - 2 - (t + 3 - k), by omega, by omega, by omega, ?_, fun t' ht' => by rw [hqv t' (by omega)]; split <;> omega⟩
                  rw [hqv t ht, if_neg h1]
                  have := HR.adj_ (r - 2 - (t + 3 - k)) (by omega)
                  rw [show r - 2 - (t + 3 - k) + 1 = r - 1 - (t + 3 - k) by omega] at this
                  rw [hsym]; exact this
                · refine ⟨1, by omega, by omega, by omega, ?_, fun t' ht' => by rw [hqv t' (by omega)]; split <;> omega⟩
                  rw [hqv t ht, if_neg h1, show r - 1 - (t + 3 - k) = k by omega, hp1, hsym]
                  exact hka
            obtain ⟨c3, h3, h4⟩ := col_seq hdn hsym hirr hdeg hPS1 H1 (fun t => p (q t)) (r - 3) fun t ht => by
              obtain ⟨b1, b2, b3, z, z1, z2, z3, z4, z5⟩ := hq t (by omega)
              obtain ⟨g1, g2⟩ := HR.in_ (q t) b2
              obtain ⟨g3, g4⟩ := HR.in_ z z1
              refine ⟨g1, g2, hnP _ b2 (by omega) (by omega), fun t' ht' e => b3 t' ht' (HR.one _ _ ((hq t' (by omega)).2.1) b2 e), p z, g3, g4, z4, hnP z z1 z2 z3, fun t' ht' e => z5 t' ht' (HR.one _ _ z1 ((hq t' (by omega)).2.1) e)⟩
            -- at last the second
            have hmem : ∀ i, ((List.range (r - 3)).any fun t => decide (i = p (q t))) = true ↔ ∃ t, t < r - 3 ∧ i = p (q t) := fun i => by
              rw [List.any_eq_true]
              exact ⟨fun ⟨t, ht, e⟩ => ⟨t, List.mem_range.1 ht, by simpa using e⟩, fun ⟨t, ht, e⟩ => ⟨t, List.mem_range.2 ht, by simpa using e⟩⟩
            have hn1 : (addB (addB (fun _ => false) (p 0)) (p 2) (p 1) || (List.range (r - 3)).any fun t => decide (p 1 = p (q t))) = false := by
              rw [hnP 1 (by omega) (by omega) (by omega), Bool.false_or, Bool.eq_false_iff]
              intro h
              obtain ⟨t, ht, e⟩ := (hmem _).1 h
              obtain ⟨b1, b2, _⟩ := hq t (by omega)
              have := HR.one _ _ (by omega) b2 e
              omega
            have h0P : addB (addB (fun _ => false) (p 0)) (p 2) (p 0) = true := addB_iff.2 (.inl (addB_iff.2 (.inr rfl)))
            have h2P : addB (addB (fun _ => false) (p 0)) (p 2) (p 2) = true := addB_iff.2 (.inr rfl)
            obtain ⟨col, g1, g2⟩ := free_col (adj := adj) (n := n) (S := S) (P := fun i => addB (addB (fun _ => false) (p 0)) (p 2) i || (List.range (r - 3)).any fun t => decide (i = p (q t))) (c := c3) hdn (HR.in_ 1 (by omega)).1 (hdeg _ (HR.in_ 1 (by omega)).1 (HR.in_ 1 (by omega)).2) (fun i hi => by
              rcases Bool.or_eq_true _ _ |>.mp hi with hi | hi
              · exact hPS1 i hi
              · obtain ⟨t, ht, e⟩ := (hmem _).1 hi
                rw [e]; exact (HR.in_ _ (hq t (by omega)).2.1).2) (.inr ⟨p 0, p 2, (HR.in_ 0 (by omega)).1, (HR.in_ 2 (by omega)).1, hne 0 2 (by omega) (by omega) (by omega), by simp [h0P], by simp [h2P], by rw [hp1, hp0]; exact hvx, by rw [hp1, hp2]; exact hvy, by rw [h4 _ h0P, h4 _ h2P]⟩)
            have h5 := col_add hsym hirr h3 g1 g2 hn1
            have hfin : ∀ i, i < n → S i = true → addB (fun i => addB (addB (fun _ => false) (p 0)) (p 2) i || (List.range (r - 3)).any fun t => decide (i = p (q t))) (p 1) i = true := fun i hi hSi => by
              obtain ⟨a, ha, e⟩ := hrow i hi hSi
              rw [addB_iff]
              by_cases a1 : a = 1
              · right; rw [e, a1]
              · left
                rw [Bool.or_eq_true]
                by_cases a0 : a = 0
                · left; rw [e, a0]; exact h0P
                · by_cases a2 : a = 2
                  · left; rw [e, a2]; exact h2P
                  · right
                    refine (hmem i).2 ⟨if a < k then a - 3 else k - 3 + (r - 1 - a), by split <;> omega, ?_⟩
                    rw [e]
                    congr 1
                    show a = (if (if a < k then a - 3 else k - 3 + (r - 1 - a)) + 3 < k then _ else _)
                    by_cases hak : a < k
                    · rw [if_pos hak, if_pos (by omega)]; omega
                    · rw [if_neg hak, if_neg (by omega), if_pos (by omega)]; omega
            exact ⟨_, ⟨fun i hi h => h5.lt i hi (hfin i hi h), fun i z hi hz p1 p2 => h5.ne i z hi hz (hfin i hi p1) (hfin z hz p2)⟩⟩
  termination_by m => m
  decreasing_by all_goals omega
end
end Go.Proofs.Yticickicfigpbaa
