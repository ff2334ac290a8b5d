/- TUTTE, BERGE in words: walls, and the parts behind them by their least nodes; how many edges the best bond of some nodes has, node by node. Plain facts, of no program. -/
import Derived.Test.YthfgbgmkiggjmacDoorBondsP
import Derived.Test.YthfgbgmkiggjmacDoorPairW
import Derived.Test.YthfgbgmkiggjmacDoorMinR0
namespace Go.Proofs.YthfgbgmkiggjmacDoor

/-- What is not of a wall; the edges that do not meet it. -/
def offW (w : Nat) : Nat → Bool := fun i => !w.testBit i
def offE (w : Nat) (es : List E3) : List E3 := es.filter fun e => !w.testBit e.1.toNat && !w.testBit e.2.1.toNat
theorem adjE_off {n : Nat} {es : List E3} (hg : goodE n es) {w i j : Nat} : adjE (offE w es) i j = true ↔ adjE es i j = true ∧ offW w i = true ∧ offW w j = true := by
  unfold adjE offE offW
  rw [List.any_filter]
  simp only [List.any_eq_true]
  constructor
  · rintro ⟨e, he, h⟩
    obtain ⟨k, hk⟩ := List.getElem?_of_mem he
    obtain ⟨p0, _, p2, _, _, _⟩ := edge_ok (hg k e hk)
    simp only [Bool.and_eq_true, Bool.or_eq_true, beq_iff_eq, Bool.not_eq_true'] at h ⊢
    obtain ⟨⟨h1, h2⟩, h3⟩ := h
    refine ⟨⟨e, he, h3⟩, ?_⟩
    rcases h3 with ⟨h4, h5⟩ | ⟨h4, h5⟩
    · rw [h4, Int.toNat_natCast] at h1; rw [h5, Int.toNat_natCast] at h2; exact ⟨h1, h2⟩
    · rw [h4, Int.toNat_natCast] at h1; rw [h5, Int.toNat_natCast] at h2; exact ⟨h2, h1⟩
  · rintro ⟨⟨e, he, h3⟩, h1, h2⟩
    refine ⟨e, he, ?_⟩
    simp only [Bool.and_eq_true, Bool.or_eq_true, beq_iff_eq, Bool.not_eq_true'] at h1 h2 h3 ⊢
    refine ⟨?_, h3⟩
    rcases h3 with ⟨h4, h5⟩ | ⟨h4, h5⟩
    · rw [h4, h5, Int.toNat_natCast, Int.toNat_natCast]; exact ⟨h1, h2⟩
    · rw [h4, h5, Int.toNat_natCast, Int.toNat_natCast]; exact ⟨h2, h1⟩
theorem wk_off {n : Nat} {es : List E3} (hg : goodE n es) {w : Nat} : ∀ {k a b : Nat}, wk (adjE (offE w es)) k a b → lnkS (adjE es) n (offW w) k a b
  | 0, _, _, h => h
  | k + 1, a, b, ⟨x, h1, h2⟩ => by
    obtain ⟨h3, h4, _⟩ := (adjE_off hg).1 h2
    exact ⟨x, (adjE_lt hg h3).1, h4, wk_off hg h1, h3⟩
theorem lab_wall {n : Nat} {es : List E3} (hg : goodE n es) (w : Nat) : LabOK (adjE es) n (offW w) (minR (offE w es)) := by
  refine ⟨fun a ha _ => Nat.lt_of_le_of_lt minR_le ha, fun a b _ _ h1 h2 h3 => ?_, fun a b _ _ _ _ h => ?_⟩
  · exact minR_eq.2 ⟨1, wk_one.2 ((adjE_off hg).2 ⟨h3, h1, h2⟩)⟩
  · obtain ⟨k, hk⟩ := minR_eq.1 h
    exact ⟨k, wk_off hg hk⟩
/-- How many parts are odd behind a wall, and how many more they are than the wall has nodes. -/
noncomputable def oddW (n : Nat) (es : List E3) (w : Nat) : Nat := oddS n (minR (offE w es)) (offW w)
def szN (n w : Nat) : Nat := sizeP (fun i => w.testBit i) n
noncomputable def overW (n : Nat) (es : List E3) (w : Nat) : Int := (oddW n es w : Int) - (szN n w : Int)
theorem oddS_congr {n : Nat} {lab : Nat → Nat} {T T' : Nat → Bool} (h : ∀ i, i < n → T i = T' i) : oddS n lab T = oddS n lab T' := sumTo_congr n fun i _ => by
  rw [sizeP_congr n fun j hj => by rw [h j hj]]
theorem lnkS_congr {adj : Nat → Nat → Bool} {n : Nat} {T T' : Nat → Bool} (h : ∀ i, i < n → T i = T' i) : ∀ {k a b : Nat}, lnkS adj n T k a b → lnkS adj n T' k a b
  | 0, _, _, hl => hl
  | _ + 1, _, _, ⟨t, h1, h2, h3, h4⟩ => ⟨t, h1, by rw [← h t h1]; exact h2, lnkS_congr h h3, h4⟩
theorem lab_congr {adj : Nat → Nat → Bool} {n : Nat} {T T' : Nat → Bool} {lab : Nat → Nat} (h : ∀ i, i < n → T i = T' i) (H : LabOK adj n T lab) : LabOK adj n T' lab := by
  refine ⟨fun a ha h1 => H.lt a ha (by rw [h a ha]; exact h1), fun a b ha hb h1 h2 h3 => H.near a b ha hb (by rw [h a ha]; exact h1) (by rw [h b hb]; exact h2) h3, fun a b ha hb h1 h2 h3 => ?_⟩
  obtain ⟨k, hk⟩ := H.far a b ha hb (by rw [h a ha]; exact h1) (by rw [h b hb]; exact h2) h3
  exact ⟨k, lnkS_congr h hk⟩
/-- BERGE: behind no wall more is left over than by the best bond. -/
theorem wall_le {n : Nat} {es : List E3} (hg : goodE n es) (w : Nat) : overW n es w ≤ (n : Int) - 2 * (bN es es.length 0 0 : Int) := by
  obtain ⟨m, h1, h2⟩ := bond_least hg
  have hL := lab_wall hg w
  have h3 := berge_le h1.1 hL.lt hL.near
  have h4 : sizeP (offW w) n + szN n w = n := sizeP_not (fun i => w.testBit i) n
  unfold overW oddW
  omega
/-- TUTTE: and behind one as much is. -/
theorem wall_ex {n : Nat} {es : List E3} (hg : goodE n es) : ∃ w, w < 2 ^ n ∧ overW n es w = (n : Int) - 2 * (bN es es.length 0 0 : Int) := by
  obtain ⟨m, h1, h2⟩ := bond_least hg
  obtain ⟨T, m', _, h4, h5⟩ := tutte_ex (adj := adjE es) (n := n) (adjE_symm es) _ (fun _ => true) rfl
  obtain ⟨w, hw1, hw2⟩ := word_ex (fun i => !T i) n
  have hT : ∀ i, i < n → offW w i = T i := fun i hi => by unfold offW; rw [hw2 i hi]; simp
  refine ⟨w, hw1, Int.le_antisymm (wall_le hg w) ?_⟩
  have h6 := h5 _ (lab_congr hT (lab_wall hg w))
  have h7 := h1.2 _ h4
  have h8 : sizeP (offW w) n + szN n w = n := sizeP_not (fun i => w.testBit i) n
  have e1 : sizeP (offW w) n = sizeP T n := sizeP_congr n hT
  have e3 : oddW n es w = oddS n (minR (offE w es)) T := oddS_congr hT
  have e4 : sizeP (fun _ : Nat => true) n = n := by
    have h : sizeP (fun _ : Nat => false) n + sizeP (fun _ : Nat => true) n = n := sizeP_not (fun _ : Nat => true) n
    have e : sizeP (fun _ : Nat => false) n = 0 := sizeP_none fun _ _ => rfl
    omega
  unfold overW
  omega
/-- The first of the best walls leaves over just what the best bond does. -/
theorem wall_best {n a : Nat} {es : List E3} (hg : goodE n es) (h : FirstMax (overW n es) (2 ^ n) a) : overW n es a = (n : Int) - 2 * (bN es es.length 0 0 : Int) := by
  obtain ⟨w, h1, h2⟩ := wall_ex hg
  have h3 := (h.2 w h1).1
  have h4 := wall_le hg a
  omega

/-! ### The best bond of some nodes, node by node -/
section
variable {n : Nat} {es : List E3} {u v x k : Nat}
theorem avoid_more {u' : Nat} {l : List Nat} (h : Avoid es u' l) (hu : ∀ i, u.testBit i = true → u'.testBit i = true) : Avoid es u l := fun k hk => freeK_iff.2 fun i hi => by
  have := freeK_iff.1 (h k hk) i hi
  cases hb : u.testBit i with
  | false => rfl
  | true => rw [hu i hb] at this; cases this
theorem bN_mono {u' : Nat} (hu : ∀ i, u.testBit i = true → u'.testBit i = true) : bN es es.length 0 u' ≤ bN es es.length 0 u := by
  obtain ⟨h1, _, h3, h4⟩ := bndL_ok (es := es) es.length 0 u' (by omega)
  rw [← h4]
  exact bond_le _ _ _ _ (by omega) h1 (fun _ _ => Nat.zero_le _) (avoid_more h3 hu)
theorem bit_or_pow {s i j : Nat} : (s ||| 2 ^ i).testBit j = (s.testBit j || i == j) := by
  rw [Nat.testBit_or, Nat.testBit_two_pow]; rfl
theorem bN_leave : bN es es.length 0 (u ||| 2 ^ v) ≤ bN es es.length 0 u := bN_mono fun i h => by rw [bit_or_pow, h]; rfl
theorem bN_take (hg : goodE n es) (ha : adjE es v x = true) (hv : u.testBit v = false) (hx : u.testBit x = false) : 1 + bN es es.length 0 (u ||| 2 ^ v ||| 2 ^ x) ≤ bN es es.length 0 u := by
  obtain ⟨k, hk, hkk⟩ := (adjE_place hg).1 ha
  have ht : ∀ i, tchK es k i = true ↔ i = v ∨ i = x := fun i => by rw [tchK_iff]; constructor <;> intro h <;> omega
  obtain ⟨h1, _, h3, h4⟩ := bndL_ok (es := es) es.length 0 (u ||| 2 ^ v ||| 2 ^ x) (by omega)
  have hbit : ∀ i, (u ||| 2 ^ v ||| 2 ^ x).testBit i = true ↔ u.testBit i = true ∨ i = v ∨ i = x := fun i => by
    rw [bit_or_pow, bit_or_pow]
    simp only [Bool.or_eq_true, beq_iff_eq]
    constructor
    · rintro ((h | h) | h)
      · exact .inl h
      · exact .inr (.inl h.symm)
      · exact .inr (.inr h.symm)
    · rintro (h | h | h)
      · exact .inl (.inl h)
      · exact .inl (.inr h.symm)
      · exact .inr h.symm
  have hc : ∀ y ∈ bndL es es.length 0 (u ||| 2 ^ v ||| 2 ^ x), ¬ crsK es k y := fun y hy ⟨i, hi1, hi2⟩ => by
    have := freeK_iff.1 (h3 y hy) i hi2
    rw [(hbit i).2 (.inr ((ht i).1 hi1))] at this; cases this
  have hself : crsK es k k := ⟨eA es k, tchK_iff.2 (.inl rfl), tchK_iff.2 (.inl rfl)⟩
  obtain ⟨l', g1, g2⟩ := insert_bond h1 hk hc fun hm => hc k hm hself
  have := bond_le es.length 0 u l' (by omega) g1 (fun _ _ => Nat.zero_le _) fun y hy => by
    rcases List.mem_cons.1 (g2.mem_iff.1 hy) with rfl | hy
    · refine freeK_iff.2 fun i hi => ?_
      rcases (ht i).1 hi with rfl | rfl
      · exact hv
      · exact hx
    · refine freeK_iff.2 fun i hi => ?_
      have := freeK_iff.1 (h3 y hy) i hi
      cases hb : u.testBit i with
      | false => rfl
      | true => rw [(hbit i).2 (.inl hb)] at this; cases this
  rw [g2.length_eq, List.length_cons, h4] at this
  omega
theorem bond_erase : ∀ {l : List Nat}, BondL es l → BondL es (l.erase k)
  | [], h => h
  | y :: l, h => by
    obtain ⟨h1, h2, h3, h4⟩ := bond_cons.1 h
    rw [List.erase_cons]
    split
    · exact h2
    · exact bond_cons.2 ⟨h1, bond_erase h2, fun x hx => h3 x (List.mem_of_mem_erase hx), fun x hx => h4 x (List.mem_of_mem_erase hx)⟩
theorem bond_apart {l : List Nat} (h : BondL es l) {y : Nat} (hk : k ∈ l) (hy : y ∈ l) (hne : y ≠ k) : ¬ crsK es k y := by
  obtain ⟨p, hp1, hp2⟩ := List.getElem_of_mem hk
  obtain ⟨q, hq1, hq2⟩ := List.getElem_of_mem hy
  have hpa := List.pairwise_iff_getElem.1 h.apart
  rcases Nat.lt_trichotomy p q with h3 | h3 | h3
  · have := hpa p q hp1 hq1 h3
    rwa [hp2, hq2] at this
  · subst h3; exact absurd (hq2.symm.trans hp2) hne
  · have := hpa q p hq1 hp1 h3
    rw [hp2, hq2] at this
    exact fun ⟨i, a, b⟩ => this ⟨i, b, a⟩
/-- Either the node is left, or bound to some other one. -/
theorem bN_node (hg : goodE n es) (hv : u.testBit v = false) : bN es es.length 0 u = bN es es.length 0 (u ||| 2 ^ v) ∨ ∃ x, adjE es v x = true ∧ u.testBit x = false ∧ bN es es.length 0 u = 1 + bN es es.length 0 (u ||| 2 ^ v ||| 2 ^ x) := by
  obtain ⟨h1, _, h3, h4⟩ := bndL_ok (es := es) es.length 0 u (by omega)
  by_cases hc : covK es (bndL es es.length 0 u) v = true
  · obtain ⟨k, hk, ht⟩ := List.any_eq_true.1 hc
    have hkl := h1.lt k hk
    obtain ⟨_, _, _, _, hne, _⟩ := ends hg hkl
    have ho := (othK_iff (j := othK es k v) hg hkl ht).1 rfl
    have hax : adjE es v (othK es k v) = true := (adjE_place hg).2 ⟨k, hkl, by
      have a1 := tchK_iff.1 ht
      have a2 := tchK_iff.1 ho.1
      omega⟩
    have hxf := freeK_iff.1 (h3 k hk) _ ho.1
    refine .inr ⟨_, hax, hxf, Nat.le_antisymm ?_ (bN_take hg hax hv hxf)⟩
    have hlen := List.length_erase_of_mem hk
    have hpos := List.length_pos_of_mem hk
    have hnd : (bndL es es.length 0 u).Nodup := h1.rise.imp fun h => by omega
    have := bond_le es.length 0 (u ||| 2 ^ v ||| 2 ^ othK es k v) _ (by omega) (bond_erase (k := k) h1) (fun _ _ => Nat.zero_le _) fun y hy => by
      obtain ⟨hyk, hyl⟩ := hnd.mem_erase_iff.1 hy
      refine freeK_iff.2 fun i hi => ?_
      have hf := freeK_iff.1 (h3 y hyl) i hi
      rw [bit_or_pow, bit_or_pow, hf, Bool.false_or, Bool.or_eq_false_iff]
      have hap := bond_apart h1 hk hyl hyk
      refine ⟨?_, ?_⟩
      · rw [beq_eq_false_iff_ne]
        exact fun e => hap ⟨i, by rw [← e]; exact ht, hi⟩
      · rw [beq_eq_false_iff_ne]
        exact fun e => hap ⟨i, by rw [← e]; exact ho.1, hi⟩
    omega
  · refine .inl (Nat.le_antisymm ?_ bN_leave)
    rw [← h4]
    refine bond_le _ _ _ _ (by omega) h1 (fun _ _ => Nat.zero_le _) fun y hy => freeK_iff.2 fun i hi => ?_
    rw [bit_or_pow, freeK_iff.1 (h3 y hy) i hi, Bool.false_or, beq_eq_false_iff_ne]
    exact fun e => hc (List.any_eq_true.2 ⟨y, hy, by rw [e]; exact hi⟩)
end
end Go.Proofs.YthfgbgmkiggjmacDoor
