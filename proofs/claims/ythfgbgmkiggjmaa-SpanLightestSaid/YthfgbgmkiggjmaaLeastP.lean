/- The order of the edges by weight and place, and which of them are kept: plain facts. No conditions. -/
import Derived.Test.YthfgbgmkiggjmaaSpanPlain
import Derived.Test.YthfgbgmkiggjmaaSidesP
import Derived.Test.YthfgbgmkiggjmaaSortStable
namespace Go.Proofs.Ythfgbgmkiggjmaa

theorem wOf_at (es : List E3) (x : Int) : wOf es x = wAt es x.toNat := rfl
theorem ltP_ahead {es : List E3} {x y : Int} (hx : 0 ≤ x) (hy : 0 ≤ y) : ltP (wOf es) x y ↔ aheadB es x.toNat y.toNat = true := by
  rw [ahead_iff]
  unfold ltP
  rw [wOf_at, wOf_at]
  omega
/-- The first places of the order. -/
def firstT (f : Nat → Int) (t : Nat) : List Nat := (List.range t).map fun i => (f i).toNat
theorem firstT_succ (f : Nat → Int) (t : Nat) : firstT f (t + 1) = firstT f t ++ [(f t).toNat] := by
  unfold firstT; rw [List.range_succ, List.map_append]; rfl
theorem mem_firstT {f : Nat → Int} {t x : Nat} : x ∈ firstT f t ↔ ∃ i, i < t ∧ (f i).toNat = x := by
  unfold firstT; rw [List.mem_map]
  constructor
  · rintro ⟨i, hi, h⟩; exact ⟨i, List.mem_range.1 hi, h⟩
  · rintro ⟨i, hi, h⟩; exact ⟨i, List.mem_range.2 hi, h⟩
theorem order_inj {es : List E3} {n : Nat} {f : Nat → Int} (h : J3 (wOf es) n f) {i j : Nat} (hij : i < j) (hj : j < n) : (f i).toNat ≠ (f j).toNat := fun e => by
  have h1 := h.s0 i j (Nat.zero_le _) hij hj
  have h2 := h.inn i (by omega)
  have h3 := h.inn j hj
  have : f i = f j := by omega
  rw [this] at h1
  exact h1.irr
theorem order_nodup {es : List E3} {n : Nat} {f : Nat → Int} (h : J3 (wOf es) n f) {t : Nat} (ht : t ≤ n) : (firstT f t).Nodup := by
  unfold firstT
  rw [List.nodup_iff_pairwise_ne, List.pairwise_map]
  refine List.Pairwise.imp_of_mem (fun {a b} _ hb hab => ?_) (List.pairwise_lt_range (n := t))
  exact order_inj h hab (by have := List.mem_range.1 hb; omega)
theorem order_all {es : List E3} {n : Nat} {f : Nat → Int} (h : J3 (wOf es) n f) {x : Nat} (hx : x < n) : ∃ i, i < n ∧ (f i).toNat = x := by
  apply Classical.byContradiction
  intro hno
  have hnm : x ∉ firstT f n := fun hm => hno (mem_firstT.1 hm)
  have := nodup_bd n (x :: firstT f n) (List.nodup_cons.2 ⟨hnm, order_nodup h (Nat.le_refl _)⟩) (fun y hy => by
    rcases List.mem_cons.1 hy with rfl | hy
    · exact hx
    · obtain ⟨i, hi, rfl⟩ := mem_firstT.1 hy
      have := h.inn i hi
      omega)
  simp [firstT] at this
  omega
theorem order_ahead {es : List E3} {f : Nat → Int} (h : J3 (wOf es) es.length f) {t : Nat} (ht : t < es.length) (x : Nat) : x ∈ firstT f t ↔ x ∈ aheadS es (f t).toNat := by
  rw [mem_firstT, mem_aheadS]
  have h3 := h.inn t ht
  constructor
  · rintro ⟨i, hi, rfl⟩
    have h2 := h.inn i (by omega)
    exact ⟨by omega, (ltP_ahead h2.1 h3.1).1 (h.s0 i t (Nat.zero_le _) hi ht)⟩
  · rintro ⟨hx, ha⟩
    obtain ⟨i, hi, rfl⟩ := order_all h hx
    refine ⟨i, ?_, rfl⟩
    have h2 := h.inn i hi
    have hlt := (ltP_ahead h2.1 h3.1).2 ha
    rcases Nat.lt_trichotomy i t with h4 | h4 | h4
    · exact h4
    · subst h4; exact absurd hlt (fun h => h.irr)
    · exact absurd (hlt.trans (h.s0 t i (Nat.zero_le _) h4 hi)) (fun h => h.irr)
theorem eg_mem {es : List E3} {S T : List Nat} (h : ∀ x, x ∈ S ↔ x ∈ T) (i j : Nat) : Rch (eg es S) i j ↔ Rch (eg es T) i j :=
  ⟨fun hr => hr.sub (eg_sub fun x hx => (h x).1 hx), fun hr => hr.sub (eg_sub fun x hx => (h x).2 hx)⟩
/-- Kept: the ends are not linked by what is ahead in the order. -/
theorem order_kept {es : List E3} {f : Nat → Int} (h : J3 (wOf es) es.length f) {t : Nat} (ht : t < es.length) {a b : Nat} (ha : (edgeAt es (f t).toNat).1 = (a : Int)) (hb : (edgeAt es (f t).toNat).2.1 = (b : Int)) : Kept es (f t).toNat ↔ ¬ Rch (eg es (firstT f t)) a b := by
  have h3 := h.inn t ht
  rw [eg_mem (order_ahead h ht)]
  constructor
  · exact fun hk => hk.2 a b ha hb
  · intro hn
    refine ⟨by omega, fun a' b' ha' hb' => ?_⟩
    obtain rfl : a' = a := by rw [ha] at ha'; omega
    obtain rfl : b' = b := by rw [hb] at hb'; omega
    exact hn
/-- Groups tell who is linked by some edges. -/
def GroupsOf (m : Nat) (G : Nat → Int) (F : List E3) : Prop := ∀ x y, x < m → y < m → (G x = G y ↔ Rch F x y)
theorem GroupsOf.start (m : Nat) : GroupsOf m (fun i => (i : Int)) [] := fun x y _ _ => by
  constructor
  · intro h
    have h2 : (x : Int) = (y : Int) := h
    obtain rfl : x = y := by omega
    exact Rch.refl _ _
  · rintro ⟨k, hk⟩
    cases k with
    | zero => cases hk; rfl
    | succ k => obtain ⟨z, _, hz⟩ := hk; simp [adjE] at hz
theorem rch_snoc {F : List E3} {a b : Nat} {c : Int} {x y : Nat} : Rch (F ++ [((a : Int), (b : Int), c)]) x y ↔ Rch F x y ∨ (Rch F x a ∧ Rch F b y) ∨ (Rch F x b ∧ Rch F a y) := by
  have hl : ∀ i j, Rch F i j → Rch (F ++ [((a : Int), (b : Int), c)]) i j := fun i j h => h.sub fun e he => List.mem_append_left _ he
  have he : Rch (F ++ [((a : Int), (b : Int), c)]) a b := Rch.edge (List.mem_append_right _ (List.mem_singleton.2 rfl)) rfl rfl
  constructor
  · rintro ⟨k, hk⟩; exact rch_add hk
  · rintro (h | ⟨h1, h2⟩ | ⟨h1, h2⟩)
    · exact hl _ _ h
    · exact (hl _ _ h1).trans (he.trans (hl _ _ h2))
    · exact (hl _ _ h1).trans (he.symm.trans (hl _ _ h2))
theorem GroupsOf.same {m : Nat} {G : Nat → Int} {F : List E3} {a b : Nat} {c : Int} (h : GroupsOf m G F) (hab : Rch F a b) : GroupsOf m G (F ++ [((a : Int), (b : Int), c)]) := fun x y hx hy => by
  rw [h x y hx hy, rch_snoc]
  constructor
  · exact .inl
  · rintro (h | ⟨h1, h2⟩ | ⟨h1, h2⟩)
    · exact h
    · exact h1.trans (hab.trans h2)
    · exact h1.trans (hab.symm.trans h2)
theorem GroupsOf.join {m : Nat} {G : Nat → Int} {F : List E3} {a b : Nat} {c : Int} (h : GroupsOf m G F) (ha : a < m) (hb : b < m) : GroupsOf m (fun x => if G x = G b then G a else G x) (F ++ [((a : Int), (b : Int), c)]) := fun x y hx hy => by
  rw [rch_snoc, ← h x y hx hy, ← h x a hx ha, ← h b y hb hy, ← h x b hx hb, ← h a y ha hy]
  show (if G x = G b then G a else G x) = (if G y = G b then G a else G y) ↔ _
  split <;> split <;> omega
/-- What is kept of the first places of the order. -/
noncomputable def keptT (es : List E3) (f : Nat → Int) (t : Nat) : List Nat := (firstT f t).filter fun x => @decide (Kept es x) (Classical.propDecidable _)
theorem keptT_yes {es : List E3} {f : Nat → Int} {t : Nat} (h : Kept es (f t).toNat) : keptT es f (t + 1) = keptT es f t ++ [(f t).toNat] := by
  unfold keptT; rw [firstT_succ, List.filter_append]; simp [h]
theorem keptT_no {es : List E3} {f : Nat → Int} {t : Nat} (h : ¬ Kept es (f t).toNat) : keptT es f (t + 1) = keptT es f t := by
  unfold keptT; rw [firstT_succ, List.filter_append]; simp [h]
theorem sorted_ext : ∀ l1 l2 : List Nat, l1.Pairwise (· < ·) → l2.Pairwise (· < ·) → (∀ x, x ∈ l1 ↔ x ∈ l2) → l1 = l2
  | [], [], _, _, _ => rfl
  | [], b :: l2, _, _, h => by have := (h b).2 (List.mem_cons_self ..); cases this
  | a :: l1, [], _, _, h => by have := (h a).1 (List.mem_cons_self ..); cases this
  | a :: l1, b :: l2, h1, h2, h => by
    rw [List.pairwise_cons] at h1 h2
    have hab : a = b := by
      have ha := (h a).1 (List.mem_cons_self ..)
      have hb := (h b).2 (List.mem_cons_self ..)
      rcases List.mem_cons.1 ha with e | ha
      · exact e
      · rcases List.mem_cons.1 hb with e | hb
        · exact e.symm
        · have := h1.1 b hb; have := h2.1 a ha; omega
    subst hab
    congr 1
    refine sorted_ext l1 l2 h1.2 h2.2 fun x => ⟨fun hx => ?_, fun hx => ?_⟩
    · rcases List.mem_cons.1 ((h x).1 (List.mem_cons_of_mem _ hx)) with e | h3
      · subst e; have := h1.1 x hx; omega
      · exact h3
    · rcases List.mem_cons.1 ((h x).2 (List.mem_cons_of_mem _ hx)) with e | h3
      · subst e; have := h2.1 x hx; omega
      · exact h3
theorem sub_len : ∀ l1 l2 : List Nat, l1.Nodup → (∀ x ∈ l1, x ∈ l2) → l1.length ≤ l2.length
  | [], _, _, _ => Nat.zero_le _
  | a :: l1, l2, hn, h => by
    rw [List.nodup_cons] at hn
    have ha := h a (List.mem_cons_self ..)
    have h1 := sub_len l1 (l2.erase a) hn.2 (fun x hx => by
      have hne : x ≠ a := fun e => hn.1 (e ▸ hx)
      exact (List.mem_erase_of_ne hne).2 (h x (List.mem_cons_of_mem _ hx)))
    rw [List.length_erase_of_mem ha] at h1
    have := List.length_pos_of_mem ha
    simp only [List.length_cons]
    omega
theorem sub_all {l1 l2 : List Nat} (hn : l1.Nodup) (h : ∀ x ∈ l1, x ∈ l2) (hl : l2.length ≤ l1.length) : ∀ x ∈ l2, x ∈ l1 := fun x hx => by
  apply Classical.byContradiction
  intro hx1
  have := sub_len (x :: l1) l2 (List.nodup_cons.2 ⟨hx1, hn⟩) (fun y hy => by
    rcases List.mem_cons.1 hy with rfl | hy
    · exact hx
    · exact h y hy)
  simp at this
  omega
theorem mem_keptT {es : List E3} {f : Nat → Int} (h : J3 (wOf es) es.length f) (x : Nat) : x ∈ keptT es f es.length ↔ x ∈ keptS es := by
  unfold keptT
  rw [List.mem_filter, mem_keptS]
  simp only [decide_eq_true_eq]
  refine ⟨fun h => h.2, fun hk => ⟨?_, hk⟩⟩
  obtain ⟨i, hi, he⟩ := order_all h hk.1
  exact mem_firstT.2 ⟨i, hi, he⟩
theorem keptT_nodup {es : List E3} {f : Nat → Int} (h : J3 (wOf es) es.length f) : (keptT es f es.length).Nodup := (order_nodup h (Nat.le_refl _)).filter _
theorem keptT_same {es : List E3} {f : Nat → Int} (h : J3 (wOf es) es.length f) : (keptT es f es.length).length = (keptS es).length :=
  Nat.le_antisymm (sub_len _ _ (keptT_nodup h) fun x hx => (mem_keptT h x).1 hx) (sub_len _ _ keptS_nodup fun x hx => (mem_keptT h x).2 hx)
theorem keptS_sorted (es : List E3) : (keptS es).Pairwise (· < ·) := List.Pairwise.filter _ List.pairwise_lt_range
/-- What is kept, sorted. -/
theorem kept_sort {es : List E3} {f g : Nat → Int} (h : J3 (wOf es) es.length f) (hs : Shuf 0 (keptT es f es.length).length (fun j => (((keptT es f es.length).getD j 0 : Nat) : Int)) g) (hk : SortedF (fun _ => 0) g 0 (keptT es f es.length).length) :
    (List.range (keptT es f es.length).length).map (fun i => (g i).toNat) = keptS es ∧ ∀ i, i < (keptT es f es.length).length → 0 ≤ g i := by
  have hg : ∀ i, i < (keptT es f es.length).length → ∃ x, x ∈ keptT es f es.length ∧ g i = (x : Int) := fun i hi => by
    obtain ⟨j, _, hj, he⟩ := hs.inn i (Nat.zero_le _) hi
    refine ⟨(keptT es f es.length).getD j 0, ?_, he⟩
    rw [List.getD_eq_getElem?_getD, List.getElem?_eq_getElem hj]
    exact List.getElem_mem _
  have hpw : ((List.range (keptT es f es.length).length).map (fun i => (g i).toNat)).Pairwise (· < ·) := by
    rw [List.pairwise_map]
    refine List.Pairwise.imp_of_mem (fun {a b} ha hb hab => ?_) (List.pairwise_lt_range (n := (keptT es f es.length).length))
    have h1 := hk a b (Nat.zero_le _) hab (List.mem_range.1 hb)
    obtain ⟨x, _, hx⟩ := hg a (List.mem_range.1 ha)
    obtain ⟨y, _, hy⟩ := hg b (List.mem_range.1 hb)
    have h2 : g a < g b := by
      rcases h1 with h1 | h1
      · exact absurd h1 (Int.lt_irrefl _)
      · exact h1.2
    omega
  have hsub : ∀ x ∈ (List.range (keptT es f es.length).length).map (fun i => (g i).toNat), x ∈ keptT es f es.length := fun x hx => by
    obtain ⟨i, hi, rfl⟩ := List.mem_map.1 hx
    obtain ⟨y, hy, he⟩ := hg i (List.mem_range.1 hi)
    show (g i).toNat ∈ _
    rw [he, Int.toNat_natCast]; exact hy
  have hall := sub_all (hpw.imp (fun h => Nat.ne_of_lt h)) hsub (by simp)
  refine ⟨sorted_ext _ _ hpw (keptS_sorted es) fun x => ?_, fun i hi => by obtain ⟨x, _, hx⟩ := hg i hi; omega⟩
  rw [← mem_keptT h]
  exact ⟨hsub x, hall x⟩
theorem eg_snoc (es : List E3) (S : List Nat) (x : Nat) : eg es (S ++ [x]) = eg es S ++ [edgeAt es x] := by simp [eg]
end Go.Proofs.Ythfgbgmkiggjmaa
