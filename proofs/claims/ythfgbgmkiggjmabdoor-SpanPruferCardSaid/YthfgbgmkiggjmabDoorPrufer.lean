/- PRUFER, plain: the code of a tree, and the tree of a code. No conditions. -/
import Derived.Test.YthfgbgmkiggjmabDoorPairs
import Derived.Test.YthfgbgmkiggjmabDoorPruferDef
import Derived.Test.YthfgbgmkiggjmabDoorSpanPlain
namespace Go.Proofs.YthfgbgmkiggjmabDoor

/-- A list of nodes, each the one with which the least node with one edge has it, these edges going one by one. -/
def Cd (m : Nat) : List E3 → List Nat → Prop
  | _, [] => True
  | esc, c :: cs => ∃ i k e, i < m ∧ degP (prsE esc) i = 1 ∧ (∀ j, j < i → degP (prsE esc) j ≠ 1) ∧ esc[k]? = some e ∧ prE e = pr i c ∧ Cd m (esc.eraseIdx k) cs

theorem degP_cons_pr (a b : Nat) (G : List Pr) (y : Nat) (hab : a ≠ b) : degP (pr a b :: G) y = degP G y + (if y = a then 1 else 0) + (if y = b then 1 else 0) := by
  rw [degP_cons, has_pr]
  by_cases h1 : y = a
  · subst h1
    rw [if_pos (by simp), if_pos rfl, if_neg hab]
  · by_cases h2 : y = b
    · subst h2
      rw [if_pos (by simp), if_neg h1, if_pos rfl]
    · rw [if_neg (by simp; omega), if_neg h1, if_neg h2]
theorem deg_one_unique {G : List Pr} (hs : Simp G) {i a b : Nat} (h : degP G i = 1) (ha : pr i a ∈ G) (hb : pr i b ∈ G) : a = b := by
  rcases Nat.lt_or_ge 0 (degP (G.erase (pr i a)) i) with h1 | h1
  · have := degP_erase ha i
    rw [has_pr, if_pos (by simp)] at this
    omega
  · apply Classical.byContradiction
    intro hne
    have hm : pr i b ∈ G.erase (pr i a) := hs.mem_erase.2 ⟨fun e => hne (pr_right e).symm, hb⟩
    have := degP_pos hm
    omega
theorem place_unique {m : Nat} {esc : List E3} (hs : SomeE m esc) {k k' : Nat} {e e' : E3} (h : esc[k]? = some e) (h' : esc[k']? = some e') (he : prE e = prE e') : k = k' := by
  obtain ⟨h1, rfl⟩ := List.getElem?_eq_some_iff.1 h
  obtain ⟨h2, rfl⟩ := List.getElem?_eq_some_iff.1 h'
  have hn : (prsE esc).Nodup := hs.simp.once
  unfold prsE at hn
  rw [List.Nodup, List.pairwise_iff_getElem] at hn
  rcases Nat.lt_trichotomy k k' with h | h | h
  · have hh := hn k k' (by simpa using h1) (by simpa using h2) h
    rw [List.getElem_map, List.getElem_map] at hh
    exact absurd he hh
  · exact h
  · have hh := hn k' k (by simpa using h2) (by simpa using h1) h
    rw [List.getElem_map, List.getElem_map] at hh
    exact absurd he.symm hh
theorem mem_prsE {esc : List E3} {k : Nat} {e : E3} (h : esc[k]? = some e) : prE e ∈ prsE esc := List.mem_map_of_mem (List.mem_of_getElem? h)
theorem cd_unique {m : Nat} : ∀ (l l' : List Nat) (esc : List E3), SomeE m esc → Cd m esc l → Cd m esc l' → l.length = l'.length → l = l'
  | [], [], _, _, _, _, _ => rfl
  | [], _ :: _, _, _, _, _, h => by simp at h
  | _ :: _, [], _, _, _, _, h => by simp at h
  | c :: l, c' :: l', esc, hs, h1, h2, hl => by
    obtain ⟨i, k, e, _, hd, hlt, hk, he, hr⟩ := h1
    obtain ⟨i', k', e', _, hd', hlt', hk', he', hr'⟩ := h2
    obtain rfl : i = i' := by
      rcases Nat.lt_trichotomy i i' with h | h | h
      · exact absurd hd (hlt' i h)
      · exact h
      · exact absurd hd' (hlt i' h)
    obtain rfl : c = c' := deg_one_unique hs.simp hd (he ▸ mem_prsE hk) (he' ▸ mem_prsE hk')
    obtain rfl : k = k' := place_unique hs hk hk' (by rw [he, he'])
    rw [cd_unique l l' _ (hs.less k) hr hr' (by simpa using hl)]
theorem cd_lt {m : Nat} : ∀ (l : List Nat) (esc : List E3), SomeE m esc → Cd m esc l → ∀ c ∈ l, c < m
  | [], _, _, _, c, h => by simp at h
  | c :: l, esc, hs, ⟨i, k, e, _, _, _, hk, he, hr⟩, x, hx => by
    rcases List.mem_cons.1 hx with rfl | hx
    · exact (hs.inG i x (he ▸ mem_prsE hk)).2
    · exact cd_lt l _ (hs.less k) hr x hx

/-! A forest with an edge has a node with one. -/
theorem sum_map_add (f g : Nat → Nat) : ∀ l : List Nat, (l.map fun x => f x + g x).sum = (l.map f).sum + (l.map g).sum
  | [] => rfl
  | x :: l => by simp only [List.map_cons, List.sum_cons]; rw [sum_map_add f g l]; omega
theorem sum_map_if (p : Nat → Bool) : ∀ l : List Nat, (l.map fun x => if p x = true then 1 else 0).sum = l.countP p
  | [] => rfl
  | x :: l => by simp only [List.map_cons, List.sum_cons, List.countP_cons]; rw [sum_map_if p l]; omega
theorem sum_deg (m : Nat) : ∀ G : List Pr, Simp G → InG m G → ((List.range m).map (degP G)).sum = 2 * G.length
  | [], _, _ => by
    have : (degP []) = fun _ => 0 := by funext y; simp [degP]
    rw [this]
    induction (List.range m) with
    | nil => rfl
    | cons x l ih => simpa using ih
  | (a, b) :: G, hs, hin => by
    have hs' : Simp G := ⟨fun q hq => hs.lt q (List.mem_cons_of_mem _ hq), (List.nodup_cons.1 hs.once).2⟩
    have ih := sum_deg m G hs' (fun a b h => hin a b (List.mem_cons_of_mem _ h))
    have hlt : a < b := hs.lt (a, b) (List.mem_cons_self ..)
    have hpe : pr a b = (a, b) := pr_self (a, b) hlt
    obtain ⟨hN1, hN2⟩ := hin a b (by rw [hpe]; exact List.mem_cons_self ..)
    have hf : degP ((a, b) :: G) = fun y => degP G y + (if (y == a || y == b) = true then 1 else 0) := by
      funext y
      rw [← hpe, degP_cons, has_pr]
      congr 1
      have : (a == y || b == y) = (y == a || y == b) := by rw [Bool.eq_iff_iff]; simp; omega
      rw [this]
    rw [hf, sum_map_add, ih, sum_map_if, countP_or _ _ _ (fun x _ hx => by have h1 := hx.1; have h2 := hx.2; simp at h1 h2; omega), countP_eq_one a m hN1, countP_eq_one b m hN2, List.length_cons]
    omega
theorem sum_ge (f : Nat → Nat) : ∀ l : List Nat, (∀ x ∈ l, f x ≠ 1) → 2 * l.countP (fun x => !(f x == 0)) ≤ (l.map f).sum
  | [], _ => by simp
  | x :: l, h => by
    have ih := sum_ge f l (fun y hy => h y (List.mem_cons_of_mem _ hy))
    have hx := h x (List.mem_cons_self ..)
    simp only [List.map_cons, List.sum_cons, List.countP_cons]
    by_cases h0 : f x = 0
    · rw [if_neg (by simp [h0])]; omega
    · rw [if_pos (by simpa using h0)]; omega
theorem countP_not (p : Nat → Bool) : ∀ l : List Nat, l.countP p + l.countP (fun x => !p x) = l.length
  | [] => rfl
  | x :: l => by
    have := countP_not p l
    simp only [List.countP_cons, List.length_cons]
    cases h : p x <;> simp <;> omega
theorem rch_isolated {m : Nat} {es : List E3} (hs : SomeE m es) {i j : Nat} (h : Rch es i j) (h0 : degP (prsE es) i = 0) : i = j := by
  obtain ⟨k, hk⟩ := h.symm
  cases k with
  | zero => exact hk.symm
  | succ k =>
    obtain ⟨x, _, ha⟩ := hk
    rw [adjE_pairs hs.inn, adjP_iff] at ha
    have := degP_pos (y := i) (j := x) (by rw [pr_comm]; exact ha)
    omega
theorem leaf_exists {m : Nat} {es : List E3} (hs : SomeE m es) (hf : rootsN m es + es.length = m) (hl : 0 < es.length) : ∃ i, i < m ∧ degP (prsE es) i = 1 := by
  apply Classical.byContradiction
  intro hno
  have hne : ∀ x ∈ List.range m, degP (prsE es) x ≠ 1 := fun x hx h1 => hno ⟨x, List.mem_range.1 hx, h1⟩
  have h1 := sum_ge (degP (prsE es)) (List.range m) hne
  rw [sum_deg m _ hs.simp hs.inG] at h1
  have hlen : (prsE es).length = es.length := by simp [prsE]
  have h2 := countP_not (fun x => degP (prsE es) x == 0) (List.range m)
  rw [List.length_range] at h2
  -- the least node with an edge
  obtain ⟨e, he⟩ : ∃ e, e ∈ prsE es := by
    cases hx : prsE es with
    | nil => rw [hx] at hlen; simp at hlen; omega
    | cons e _ => exact ⟨e, List.mem_cons_self ..⟩
  have hp : pr e.1 e.2 ∈ prsE es := by rw [pr_self e (hs.simp.lt e he)]; exact he
  obtain ⟨i0, _, hi1, hi2⟩ := least_of (p := fun i => 0 < degP (prsE es) i) e.1 (degP_pos hp)
  have hi0m : i0 < m := by
    obtain ⟨j, hj⟩ := deg_on hs.simp.lt hi1
    exact (hs.inG i0 j hj).1
  have h3 : (List.range m).countP (fun x => degP (prsE es) x == 0) < rootsN m es := by
    unfold rootsN
    refine countP_lt (x := i0) (List.mem_range.2 hi0m) (fun i _ hi => ?_) (by simp; omega) ?_
    · have hi : degP (prsE es) i = 0 := by simpa using hi
      simp only [decide_eq_true_eq]
      exact fun j hj hr => by have := rch_isolated hs hr hi; omega
    · simp only [decide_eq_true_eq]
      intro j hj hr
      have := hi2 j hj
      have := rch_isolated hs hr.symm (by omega)
      omega
  omega
theorem forest_less {m : Nat} {es : List E3} (hs : SomeE m es) (hf : rootsN m es + es.length = m) {k : Nat} {e : E3} (hk : es[k]? = some e) : rootsN m (es.eraseIdx k) + (es.eraseIdx k).length = m := by
  obtain ⟨hlt, rfl⟩ := List.getElem?_eq_some_iff.1 hk
  have h1 := rootsN_all (m := m) (hs.less k).inn
  have hl : (es.eraseIdx k).length + 1 = es.length := by rw [List.length_eraseIdx, if_pos hlt]; omega
  obtain ⟨a, b, c, he, _, _⟩ := InE.nats (hs.inn es[k] (List.getElem_mem hlt))
  have h2 := rootsN_add m (es.eraseIdx k) a b c
  have h3 : rootsN m (es.eraseIdx k ++ [((a : Int), (b : Int), c)]) = rootsN m es := rootsN_congr m (fun i j => rch_perm (by
    rw [← he]
    exact (List.perm_append_comm.trans (eraseIdx_perm es k hlt))) i j)
  omega
/-- A tree: from the first node one comes to all. -/
def TreeP (m : Nat) (es : List E3) : Prop := 2 ≤ m ∧ es.length + 1 = m ∧ ∀ i, i < m → Rch es 0 i
theorem TreeP.forest {m : Nat} {es : List E3} (h : TreeP m es) : rootsN m es + es.length = m := by
  have : rootsN m es = 1 := by
    unfold rootsN
    rw [← countP_eq_one 0 m (by have := h.1; omega)]
    apply List.countP_congr
    intro x hx
    have hx := List.mem_range.1 hx
    simp only [decide_eq_true_eq, beq_iff_eq]
    constructor
    · intro hr
      rcases Nat.eq_zero_or_pos x with h0 | h0
      · exact h0
      · exact absurd (h.2.2 x hx).symm (hr 0 h0)
    · rintro rfl j hj; omega
  have := h.2.1
  omega

theorem count_cons' (c : Nat) (l : List Nat) (v : Nat) : (c :: l).count v = l.count v + if v = c then 1 else 0 := by
  rw [List.count_cons]
  by_cases h : v = c
  · subst h; simp
  · rw [if_neg h, if_neg (by simpa using fun e : c = v => h e.symm)]
theorem deg_num (c : Nat) (a b g : Prop) [Decidable a] [Decidable b] [Decidable g] (h1 : a → ¬ b) (h2 : a → ¬ g) : (c + if g ∨ a then 0 else 1) + (if a then 1 else 0) + (if b then 1 else 0) = c + (if b then 1 else 0) + (if g then 0 else 1) := by
  by_cases ha : a
  · simp [ha, h1 ha, h2 ha]
  · by_cases hb : b <;> by_cases hg : g <;> simp [ha, hb, hg]
/-! The tree of a code. -/
theorem decAll_drop {cs : List Nat} {k c : Nat} (hk : cs[k]? = some c) : (decAll cs).drop k = (((nextK cs k : Nat) : Int), ((c : Nat) : Int), (0 : Int)) :: (decAll cs).drop (k + 1) := by
  have hlt : k < cs.length := (List.getElem?_eq_some_iff.1 hk).1
  have hget : ∀ n, k < n → n ≤ cs.length → (decE cs n)[k]? = some (((nextK cs k : Nat) : Int), ((c : Nat) : Int), (0 : Int)) := by
    intro n
    induction n with
    | zero => intro h; omega
    | succ n ih =>
      intro h1 h2
      rw [decE]
      rcases Nat.lt_or_ge k n with h | h
      · rw [List.getElem?_append_left (by rw [decE_length]; exact h)]
        exact ih h (by omega)
      · obtain rfl : k = n := by omega
        rw [List.getElem?_append_right (by rw [decE_length]; exact Nat.le_refl _), decE_length, Nat.sub_self, List.getElem?_cons_zero, List.getD_eq_getElem?_getD, hk]
        rfl
  have hg : (decAll cs)[k]? = some (((nextK cs k : Nat) : Int), ((c : Nat) : Int), (0 : Int)) := by
    rw [decAll, List.getElem?_append_left (by rw [decE_length]; exact hlt)]
    exact hget cs.length hlt (Nat.le_refl _)
  obtain ⟨h1, h2⟩ := List.getElem?_eq_some_iff.1 hg
  rw [List.drop_eq_getElem_cons h1, h2]
theorem decAll_end (cs : List Nat) : (decAll cs).drop cs.length = [(((lastA cs : Nat) : Int), ((lastB cs : Nat) : Int), (0 : Int))] := by
  rw [decAll, List.drop_append_of_le_length (by rw [decE_length]; exact Nat.le_refl _), List.drop_of_length_le (by rw [decE_length]; exact Nat.le_refl _), List.nil_append]
theorem nodup_len : ∀ (m : Nat) (L : List Nat), L.Nodup → (∀ x ∈ L, x < m) → L.length ≤ m
  | 0, L, _, h => by
    cases L with
    | nil => simp
    | cons x L => have := h x (List.mem_cons_self ..); omega
  | m + 1, L, hn, h => by
    have h1 := nodup_len m (L.erase m) (hn.erase m) (fun x hx => by
      obtain ⟨h2, h3⟩ := hn.mem_erase_iff.1 hx
      have := h x h3
      omega)
    by_cases hm : m ∈ L
    · rw [List.length_erase_of_mem hm] at h1; omega
    · rw [List.erase_of_not_mem hm] at h1; omega
theorem full_mem {m : Nat} {L : List Nat} (hn : L.Nodup) (h : ∀ x ∈ L, x < m) (hl : L.length = m) {v : Nat} (hv : v < m) : v ∈ L := by
  apply Classical.byContradiction
  intro hno
  have := nodup_len m (v :: L) (List.nodup_cons.2 ⟨hno, hn⟩) (fun x hx => by
    rcases List.mem_cons.1 hx with rfl | hx
    · exact hv
    · exact h x hx)
  rw [List.length_cons] at this
  omega
theorem goneK_lt {cs : List Nat} : ∀ {k : Nat}, k ≤ cs.length → ∀ x ∈ goneK cs k, x < cs.length + 2
  | 0, _, x, h => by simp [goneK] at h
  | k + 1, hk, x, h => by
    rw [goneK_succ, List.mem_append, List.mem_singleton] at h
    rcases h with h | rfl
    · exact goneK_lt (by omega) x h
    · have := nextK_lt (cs := cs) (k := k) (by omega); omega
theorem lastA_not (cs : List Nat) : lastA cs ∉ goneK cs cs.length := freeN_not _
theorem lastB_not (cs : List Nat) : lastB cs ∉ goneK cs cs.length := fun h => by
  have h2 : lastB cs ∉ goneK cs cs.length ++ [lastA cs] := freeN_not _
  exact h2 (List.mem_append_left _ h)
theorem last_two {cs : List Nat} {v : Nat} (hv : v < cs.length + 2) (h : v ∉ goneK cs cs.length) : v = lastA cs ∨ v = lastB cs := by
  have hab := lastA_lt_lastB cs
  have hm := full_mem (m := cs.length + 2) (L := goneK cs cs.length ++ [lastA cs, lastB cs]) (by
    rw [List.nodup_append]
    refine ⟨goneK_nodup cs _, by simp; omega, fun a ha b hb => ?_⟩
    simp at hb
    intro e
    subst e
    rcases hb with hb | hb
    · exact lastA_not cs (hb ▸ ha)
    · exact lastB_not cs (hb ▸ ha)) (fun x hx => by
    rw [List.mem_append] at hx
    rcases hx with hx | hx
    · exact goneK_lt (Nat.le_refl _) x hx
    · simp at hx
      have := lastA_le cs
      have := lastB_le cs
      omega) (by rw [List.length_append, goneK_length]; rfl) hv
  rw [List.mem_append] at hm
  rcases hm with hm | hm
  · exact absurd hm h
  · simpa using hm
theorem prE_nat (a b : Nat) (c : Int) : prE ((a : Int), (b : Int), c) = pr a b := rfl
/-- How many edges each node has in what is still to be told. -/
theorem decAll_deg {cs : List Nat} (hok : ∀ c ∈ cs, c < cs.length + 2) {v : Nat} (hv : v < cs.length + 2) : ∀ (n k : Nat), k + n = cs.length → degP (prsE ((decAll cs).drop k)) v = (cs.drop k).count v + (if v ∈ goneK cs k then 0 else 1)
  | 0, k, h => by
    obtain rfl : k = cs.length := by omega
    have hab := lastA_lt_lastB cs
    rw [decAll_end, List.drop_length]
    show degP [prE _] v = _
    rw [prE_nat, degP_cons_pr _ _ _ _ (by omega)]
    by_cases hg : v ∈ goneK cs cs.length
    · rw [if_neg (fun e : v = lastA cs => lastA_not cs (e ▸ hg)), if_neg (fun e : v = lastB cs => lastB_not cs (e ▸ hg)), if_pos hg]; simp [degP]
    · rw [if_neg hg]
      rcases last_two hv hg with rfl | rfl
      · rw [if_pos rfl, if_neg (by omega)]; simp [degP]
      · rw [if_neg (by omega), if_pos rfl]; simp [degP]
  | n + 1, k, h => by
    have hk : k < cs.length := by omega
    have hget : cs[k]? = some cs[k] := List.getElem?_eq_getElem hk
    have ih := decAll_deg hok hv n (k + 1) (by omega)
    have hd : cs.drop k = cs[k] :: cs.drop (k + 1) := List.drop_eq_getElem_cons hk
    have hnx : nextK cs k ∉ goneK cs k ++ cs.drop k := freeN_not _
    have hne : nextK cs k ≠ cs[k] := fun e => hnx (List.mem_append_right _ (by rw [hd, e]; exact List.mem_cons_self ..))
    rw [decAll_drop hget]
    show degP (prE _ :: prsE _) v = _
    have hg1 : nextK cs k ∉ goneK cs k := fun h => hnx (List.mem_append_left _ h)
    rw [prE_nat, degP_cons_pr _ _ _ _ hne, ih, goneK_succ, hd, count_cons']
    simp only [List.mem_append, List.mem_singleton]
    exact deg_num _ _ _ _ (fun h1 h2 => hne (h1.symm.trans h2)) (fun h1 h2 => hg1 (h1 ▸ h2))
theorem decAll_code {cs : List Nat} (hok : ∀ c ∈ cs, c < cs.length + 2) : ∀ (n k : Nat), k + n = cs.length → Cd (cs.length + 2) ((decAll cs).drop k) (cs.drop k)
  | 0, k, h => by
    rw [List.drop_of_length_le (by omega : cs.length ≤ k)]
    exact trivial
  | n + 1, k, h => by
    have hk : k < cs.length := by omega
    have hget : cs[k]? = some cs[k] := List.getElem?_eq_getElem hk
    have ih := decAll_code hok n (k + 1) (by omega)
    have hd : cs.drop k = cs[k] :: cs.drop (k + 1) := List.drop_eq_getElem_cons hk
    have hnx : nextK cs k ∉ goneK cs k ++ cs.drop k := freeN_not _
    have hlt : nextK cs k < cs.length + 2 := by have := nextK_lt (cs := cs) (k := k) (by omega); omega
    have hdeg := fun v hv => decAll_deg hok (v := v) hv (n + 1) k (by omega)
    rw [List.mem_append] at hnx
    have hN : Cd (cs.length + 2) ((decAll cs).drop k) (cs[k] :: cs.drop (k + 1)) := by
      refine ⟨nextK cs k, 0, (((nextK cs k : Nat) : Int), ((cs[k] : Nat) : Int), (0 : Int)), hlt, ?_, fun j hj => ?_, ?_, prE_nat _ _ _, ?_⟩
      · rw [hdeg _ hlt, if_neg (fun h => hnx (.inl h)), List.count_eq_zero_of_not_mem (fun h => hnx (.inr h))]
      · rw [hdeg _ (by omega)]
        have hm : j ∈ goneK cs k ++ cs.drop k := freeN_below hj
        rw [List.mem_append] at hm
        by_cases hg : j ∈ goneK cs k
        · rw [if_pos hg, List.count_eq_zero_of_not_mem (goneK_apart cs k j hg)]; omega
        · rw [if_neg hg]
          have := List.count_pos_iff.2 (hm.resolve_left hg)
          omega
      · rw [decAll_drop hget]; rfl
      · rw [decAll_drop hget]
        exact ih
    rw [hd]
    exact hN
theorem decAll_linked {cs : List Nat} (hok : ∀ c ∈ cs, c < cs.length + 2) : ∀ (n k : Nat), k + n = cs.length → ∀ v, v < cs.length + 2 → v ∉ goneK cs k → Rch ((decAll cs).drop k) (lastB cs) v
  | 0, k, h, v, hv, hg => by
    obtain rfl : k = cs.length := by omega
    rw [decAll_end]
    rcases last_two hv hg with rfl | rfl
    · exact (Rch.edge (List.mem_singleton.2 rfl) rfl rfl).symm
    · exact Rch.refl _ _
  | n + 1, k, h, v, hv, hg => by
    have hk : k < cs.length := by omega
    have hget : cs[k]? = some cs[k] := List.getElem?_eq_getElem hk
    have ih := decAll_linked hok n (k + 1) (by omega)
    have hnx : nextK cs k ∉ goneK cs k ++ cs.drop k := freeN_not _
    have hd : cs.drop k = cs[k] :: cs.drop (k + 1) := List.drop_eq_getElem_cons hk
    have hsub : ∀ x y, Rch ((decAll cs).drop (k + 1)) x y → Rch ((decAll cs).drop k) x y := fun x y hr => hr.sub fun e he => by rw [decAll_drop hget]; exact List.mem_cons_of_mem _ he
    by_cases h1 : v = nextK cs k
    · subst h1
      have hc : cs[k] ∉ goneK cs (k + 1) := by
        rw [goneK_succ, List.mem_append, List.mem_singleton]
        rintro (h2 | h2)
        · exact goneK_apart cs k _ h2 (by rw [hd]; exact List.mem_cons_self ..)
        · exact hnx (List.mem_append_right _ (by rw [hd, h2]; exact List.mem_cons_self ..))
      refine (hsub _ _ (ih cs[k] (hok _ (List.getElem_mem hk)) hc)).trans ?_
      exact (Rch.edge (e := (((nextK cs k : Nat) : Int), ((cs[k] : Nat) : Int), (0 : Int))) (by rw [decAll_drop hget]; exact List.mem_cons_self ..) rfl rfl).symm
    · refine hsub _ _ (ih v hv ?_)
      rw [goneK_succ, List.mem_append, List.mem_singleton]
      exact fun h => h.elim hg h1
theorem decAll_tree {cs : List Nat} (hok : ∀ c ∈ cs, c < cs.length + 2) : TreeP (cs.length + 2) (decAll cs) := by
  have h := fun v hv => decAll_linked hok cs.length 0 (by omega) v hv (by simp [goneK])
  simp only [List.drop_zero] at h
  exact ⟨by omega, by rw [decAll_length], fun i hi => (h 0 (by omega)).symm.trans (h i hi)⟩
theorem scan_zero {n : Int} {es : List E3} (h : goodE n es) : ∀ j k, k + j = es.length → scan n (es.take k) (es.drop k) = 0
  | 0, k, hk => scan_end n es k (by omega)
  | j + 1, k, hk => by
    have hlt : k < es.length := by omega
    rw [scan_next n es k _ (List.getElem?_eq_getElem hlt) (h k _ (List.getElem?_eq_getElem hlt))]
    exact scan_zero h j (k + 1) (by omega)
theorem goneK_mono {cs : List Nat} {j k : Nat} (h : j ≤ k) : ∀ x ∈ goneK cs j, x ∈ goneK cs k := by
  induction h with
  | refl => exact fun x hx => hx
  | step _ ih => exact fun x hx => by rw [goneK_succ]; exact List.mem_append_left _ (ih x hx)
theorem decAll_at {cs : List Nat} {k : Nat} {e : E3} (h : (decAll cs)[k]? = some e) : ∃ x y : Nat, e = ((x : Int), (y : Int), (0 : Int)) ∧ x ∉ goneK cs k ∧ y ∉ goneK cs k ∧ x ≠ y ∧ (k < cs.length → x = nextK cs k ∧ cs[k]? = some y) ∧ (k = cs.length → x = lastA cs ∧ y = lastB cs) ∧ k ≤ cs.length := by
  obtain ⟨h1, h2⟩ := List.getElem?_eq_some_iff.1 h
  have hkl : k ≤ cs.length := by rw [decAll_length] at h1; omega
  have hd0 : (decAll cs).drop k = e :: (decAll cs).drop (k + 1) := by rw [List.drop_eq_getElem_cons h1, h2]
  rcases Nat.lt_or_ge k cs.length with hk | hk
  · have hget : cs[k]? = some cs[k] := List.getElem?_eq_getElem hk
    rw [decAll_drop hget] at hd0
    injection hd0 with hd0 _
    have hnx : nextK cs k ∉ goneK cs k ++ cs.drop k := freeN_not _
    have hd : cs.drop k = cs[k] :: cs.drop (k + 1) := List.drop_eq_getElem_cons hk
    refine ⟨nextK cs k, cs[k], hd0.symm, fun h => hnx (List.mem_append_left _ h), fun h => goneK_apart cs k _ h (by rw [hd]; exact List.mem_cons_self ..), fun h => hnx (List.mem_append_right _ (by rw [h, hd]; exact List.mem_cons_self ..)), fun _ => ⟨rfl, hget⟩, fun h => by omega, hkl⟩
  · obtain rfl : k = cs.length := by omega
    rw [decAll_end] at hd0
    injection hd0 with hd0 _
    have := lastA_lt_lastB cs
    exact ⟨lastA cs, lastB cs, hd0.symm, lastA_not cs, lastB_not cs, by omega, fun h => by omega, fun _ => ⟨rfl, rfl⟩, hkl⟩
theorem decAll_good {cs : List Nat} (hl : cs.length ≤ 8) (hok : ∀ c ∈ cs, c < cs.length + 2) : gcheck ((cs.length + 2 : Nat) : Int) (decAll cs) = 0 := by
  have hg : goodE ((cs.length + 2 : Nat) : Int) (decAll cs) := fun k e he => by
    obtain ⟨x, y, rfl, hx, hy, hne, ha, hb, hkl⟩ := decAll_at he
    have hxy : x < cs.length + 2 ∧ y < cs.length + 2 := by
      rcases Nat.lt_or_ge k cs.length with h | h
      · obtain ⟨h1, h2⟩ := ha h
        exact ⟨by have := nextK_lt (cs := cs) (k := k) (by omega); omega, hok _ (List.mem_of_getElem? h2)⟩
      · obtain ⟨h1, h2⟩ := hb (by omega)
        have := lastA_le cs
        have := lastB_le cs
        omega
    refine edgeErr_ok _ _ _ _ _ (by simp [isIn]; omega) (by simp [isIn]; omega) ?_ (by omega) (by omega)
    rw [Bool.or_eq_false_iff]
    refine ⟨by simp; omega, ?_⟩
    unfold metB
    rw [List.any_eq_false]
    intro f hf
    obtain ⟨j, hj⟩ := List.getElem?_of_mem hf
    have hjk : j < k := by have := (List.getElem?_eq_some_iff.1 hj).1; rw [List.length_take] at this; omega
    rw [List.getElem?_take, if_pos hjk] at hj
    obtain ⟨x', y', rfl, _, _, _, ha', _, _⟩ := decAll_at hj
    obtain ⟨h1, _⟩ := ha' (by omega)
    have hg : x' ∈ goneK cs k := goneK_mono (j := j + 1) (by omega) x' (by rw [goneK_succ, h1]; simp)
    have h2 : x' ≠ x := fun e => hx (e ▸ hg)
    have h3 : x' ≠ y := fun e => hy (e ▸ hg)
    unfold sameB
    simp
    omega
  unfold gcheck
  have hL : largeB ((cs.length + 2 : Nat) : Int) (decAll cs).length = false := by
    rw [decAll_length]
    unfold largeB
    simp
    omega
  rw [hL]
  have := scan_zero hg (decAll cs).length 0 (by omega)
  simpa using this

/-! The code of a tree. -/
theorem code_deg {m : Nat} : ∀ (cs : List Nat) (gone : List Nat) (esc : List E3), SomeE m esc → esc.length = cs.length + 1 → gone.Nodup → (∀ x ∈ gone, x < m) → (∀ x ∈ gone, degP (prsE esc) x = 0) → gone.length + cs.length + 2 = m → Cd m esc cs → ∀ v, v < m → degP (prsE esc) v = cs.count v + (if v ∈ gone then 0 else 1)
  | [], gone, esc, hs, hl, hn, hlt, hz, hm, _, v, hv => by
    obtain ⟨e, rfl⟩ : ∃ e, esc = [e] := List.length_eq_one_iff.1 hl
    obtain ⟨a, b, c, rfl, ha, hb⟩ := InE.nats (hs.inn e (List.mem_singleton.2 rfl))
    have hp : pr a b ∈ prsE [((a : Int), (b : Int), c)] := by simp [prsE, prE_nat]
    have hab : a ≠ b := hs.simp.ne hp
    have hdeg : ∀ y, degP (prsE [((a : Int), (b : Int), c)]) y = (if y = a then 1 else 0) + (if y = b then 1 else 0) := fun y => by
      show degP [prE _] y = _
      rw [prE_nat, degP_cons_pr _ _ _ _ hab]; simp [degP]
    have hag : a ∉ gone := fun h => by have := hz a h; rw [hdeg, if_pos rfl] at this; omega
    have hbg : b ∉ gone := fun h => by have := hz b h; rw [hdeg b, if_pos rfl] at this; omega
    by_cases hg : v ∈ gone
    · rw [hz v hg, if_pos hg]; simp
    · have hmem := full_mem (m := m) (L := gone ++ [a, b]) (by
        rw [List.nodup_append]
        refine ⟨hn, by simp; exact hab, fun x hx y hy => ?_⟩
        simp at hy
        rcases hy with rfl | rfl
        · exact fun e => hag (e ▸ hx)
        · exact fun e => hbg (e ▸ hx)) (fun x hx => by
        rw [List.mem_append] at hx
        rcases hx with hx | hx
        · exact hlt x hx
        · simp at hx; omega) (by simp at hm ⊢; omega) hv
      rw [List.mem_append] at hmem
      have h2 : v = a ∨ v = b := by simpa using hmem.resolve_left hg
      rw [hdeg, if_neg hg]
      rcases h2 with rfl | rfl
      · rw [if_pos rfl, if_neg hab]; simp
      · rw [if_neg (Ne.symm hab), if_pos rfl]; simp
  | c :: cs, gone, esc, hs, hl, hn, hlt, hz, hm, ⟨i, k, e, hi, hd, _, hk, he, hr⟩, v, hv => by
    have hp : pr i c ∈ prsE esc := he ▸ mem_prsE hk
    have hic : i ≠ c := hs.simp.ne hp
    have hperm : (prsE esc).Perm (pr i c :: prsE (esc.eraseIdx k)) := by
      have h1 := (erase_perm hk).symm
      rw [he] at h1
      exact (List.perm_cons_erase hp).trans (h1.cons _)
    have hdeg : ∀ y, degP (prsE esc) y = degP (prsE (esc.eraseIdx k)) y + (if y = i then 1 else 0) + (if y = c then 1 else 0) := fun y => by
      rw [degP_perm hperm, degP_cons_pr _ _ _ _ hic]
    have hig : i ∉ gone := fun h => by have := hz i h; omega
    have hkl : k < esc.length := (List.getElem?_eq_some_iff.1 hk).1
    have ih := code_deg cs (gone ++ [i]) (esc.eraseIdx k) (hs.less k) (by rw [List.length_eraseIdx, if_pos hkl]; simp at hl; omega) (by
      rw [List.nodup_append]
      exact ⟨hn, by simp, fun x hx y hy => by rw [List.mem_singleton] at hy; subst hy; exact fun e => hig (e ▸ hx)⟩) (fun x hx => by
      rw [List.mem_append, List.mem_singleton] at hx
      rcases hx with hx | rfl
      · exact hlt x hx
      · exact hi) (fun x hx => by
      rw [List.mem_append, List.mem_singleton] at hx
      have := hdeg x
      rcases hx with hx | rfl
      · have := hz x hx; omega
      · rw [if_pos rfl] at this; omega) (by simp at hm ⊢; omega) hr v hv
    rw [hdeg, ih, count_cons']
    simp only [List.mem_append, List.mem_singleton]
    exact deg_num _ _ _ _ (fun h1 h2 => hic (h1.symm.trans h2)) (fun h1 h2 => hig (h1 ▸ h2))
/-- The tree of the code of a tree has its edges. -/
theorem code_back {m : Nat} (cs : List Nat) (hm : cs.length + 2 = m) : ∀ (n k : Nat) (esc : List E3), k + n = cs.length → SomeE m esc → esc.length = n + 1 → (∀ x ∈ goneK cs k, degP (prsE esc) x = 0) → Cd m esc (cs.drop k) → (prsE esc).Perm (prsE ((decAll cs).drop k))
  | n, k, esc, hk, hs, hl, hz, hc => by
    have hdl : (cs.drop k).length = n := by rw [List.length_drop]; omega
    have hdeg := code_deg (cs.drop k) (goneK cs k) esc hs (by rw [hdl]; exact hl) (goneK_nodup cs k) (fun x hx => by have := goneK_lt (by omega) x hx; omega) hz (by rw [goneK_length, hdl]; omega) hc
    cases n with
    | zero =>
      obtain rfl : k = cs.length := by omega
      obtain ⟨e, rfl⟩ : ∃ e, esc = [e] := List.length_eq_one_iff.1 hl
      obtain ⟨a, b, c, rfl, ha, hb⟩ := InE.nats (hs.inn e (List.mem_singleton.2 rfl))
      have hp : pr a b ∈ prsE [((a : Int), (b : Int), c)] := by simp [prsE, prE_nat]
      have hab : a ≠ b := hs.simp.ne hp
      have hd2 : ∀ y, degP (prsE [((a : Int), (b : Int), c)]) y = (if y = a then 1 else 0) + (if y = b then 1 else 0) := fun y => by
        show degP [prE _] y = _
        rw [prE_nat, degP_cons_pr _ _ _ _ hab]; simp [degP]
      have in2 : ∀ v, v < m → v ∉ goneK cs cs.length → v = a ∨ v = b := fun v hv hg => by
        have := hdeg v hv
        rw [hd2, if_neg hg] at this
        by_cases h1 : v = a
        · exact .inl h1
        · by_cases h2 : v = b
          · exact .inr h2
          · rw [if_neg h1, if_neg h2] at this; omega
      have hla := in2 (lastA cs) (by have := lastA_le cs; omega) (lastA_not cs)
      have hlb := in2 (lastB cs) (by have := lastB_le cs; omega) (lastB_not cs)
      have hlt := lastA_lt_lastB cs
      rw [decAll_end]
      show [prE _].Perm [prE _]
      rw [prE_nat, prE_nat]
      have : pr a b = pr (lastA cs) (lastB cs) := by
        rcases hla with h1 | h1 <;> rcases hlb with h2 | h2
        · omega
        · rw [h1, h2]
        · rw [h1, h2, pr_comm]
        · omega
      rw [this]
    | succ n =>
      have hkl : k < cs.length := by omega
      have hget : cs[k]? = some cs[k] := List.getElem?_eq_getElem hkl
      have hd : cs.drop k = cs[k] :: cs.drop (k + 1) := List.drop_eq_getElem_cons hkl
      rw [hd] at hc
      obtain ⟨i, q, e, hi, hdi, hlt, hq, he, hr⟩ := hc
      have hin : i = nextK cs k := by
        unfold nextK
        refine (freeN_eq ?_ ?_).symm
        · have h1 := hdeg i hi
          rw [hdi] at h1
          rw [List.mem_append]
          rintro (h2 | h2)
          · rw [if_pos h2, List.count_eq_zero_of_not_mem (goneK_apart cs k i h2)] at h1; omega
          · have h3 := List.count_pos_iff.2 h2
            rw [if_neg (fun h4 => goneK_apart cs k i h4 h2)] at h1; omega
        · intro j hj
          have h1 := hdeg j (by omega)
          have h2 := hlt j hj
          rw [List.mem_append]
          apply Classical.byContradiction
          intro hno
          rw [if_neg (fun h => hno (.inl h)), List.count_eq_zero_of_not_mem (fun h => hno (.inr h))] at h1
          omega
      subst hin
      have hp : pr (nextK cs k) cs[k] ∈ prsE esc := he ▸ mem_prsE hq
      have hic : nextK cs k ≠ cs[k] := hs.simp.ne hp
      have hperm : (prsE esc).Perm (pr (nextK cs k) cs[k] :: prsE (esc.eraseIdx q)) := by
        have h1 := (erase_perm hq).symm
        rw [he] at h1
        exact (List.perm_cons_erase hp).trans (h1.cons _)
      have hql : q < esc.length := (List.getElem?_eq_some_iff.1 hq).1
      have ih := code_back cs hm n (k + 1) (esc.eraseIdx q) (by omega) (hs.less q) (by rw [List.length_eraseIdx, if_pos hql]; omega) (fun x hx => by
        have h1 := degP_perm hperm x
        rw [degP_cons_pr _ _ _ _ hic] at h1
        rw [goneK_succ, List.mem_append, List.mem_singleton] at hx
        rcases hx with hx | rfl
        · have := hz x hx; omega
        · rw [if_pos rfl] at h1; omega) hr
      rw [decAll_drop hget]
      exact hperm.trans (ih.cons _)
end Go.Proofs.YthfgbgmkiggjmabDoor
