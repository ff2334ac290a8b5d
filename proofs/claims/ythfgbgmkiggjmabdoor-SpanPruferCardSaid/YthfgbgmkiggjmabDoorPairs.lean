/- A graph's edges as pairs: degrees, words, who is linked. Plain facts. -/
import Derived.Test.YthfgbgmkiggjmabDoorWordsOf
import Derived.Test.YthfgbgmkiggjmabDoorNeigh
import Derived.Test.YthfgbgmkiggjmabDoorRefDist
namespace Go.Proofs.YthfgbgmkiggjmabDoor

def prE (e : E3) : Pr := pr e.1.toNat e.2.1.toNat
def prsE (es : List E3) : List Pr := es.map prE
theorem prE_eq {e : E3} {i j : Nat} (h0 : 0 ≤ e.1) (h1 : 0 ≤ e.2.1) : prE e = pr i j ↔ (e.1 = (i : Int) ∧ e.2.1 = (j : Int)) ∨ (e.1 = (j : Int) ∧ e.2.1 = (i : Int)) := by
  unfold prE
  constructor
  · intro h; rcases pr_eq h with h | h <;> omega
  · rintro (⟨a, b⟩ | ⟨a, b⟩)
    · rw [show e.1.toNat = i by omega, show e.2.1.toNat = j by omega]
    · rw [show e.1.toNat = j by omega, show e.2.1.toNat = i by omega, pr_comm]
theorem adjE_pairs {m : Nat} {es : List E3} (hin : InE m es) (i j : Nat) : adjE es i j = adjP (prsE es) i j := by
  rw [Bool.eq_iff_iff, adjP_iff]
  unfold adjE prsE
  rw [List.any_eq_true, List.mem_map]
  constructor
  · rintro ⟨e, he, h⟩
    obtain ⟨h0, _, h1, _⟩ := hin e he
    refine ⟨e, he, (prE_eq h0 h1).2 ?_⟩
    simpa using h
  · rintro ⟨e, he, h⟩
    obtain ⟨h0, _, h1, _⟩ := hin e he
    refine ⟨e, he, ?_⟩
    have := (prE_eq h0 h1).1 h
    simpa using this
/-- Edges among the nodes, no loops, none twice: what is left of a good graph when edges go. -/
structure SomeE (m : Nat) (es : List E3) : Prop where
  inn : InE m es
  simp : Simp (prsE es)
theorem SomeE.of_good {m : Nat} {es : List E3} (h : goodE m es) : SomeE m es := by
  refine ⟨InE.of_good h, ?_, ?_⟩
  · intro p hp
    obtain ⟨e, he, rfl⟩ := List.mem_map.1 hp
    obtain ⟨k, hk⟩ := List.getElem?_of_mem he
    obtain ⟨p0, p1, p2, p3, p4, _⟩ := edge_ok (h k e hk)
    simp only [prE, pr]
    omega
  · unfold prsE
    rw [List.Nodup, List.pairwise_iff_getElem]
    intro i j hi hj hij he
    simp only [List.length_map] at hi hj
    simp only [List.getElem_map] at he
    obtain ⟨p0, p1, p2, p3, _, _⟩ := edge_ok (h i _ (List.getElem?_eq_getElem (by omega)))
    obtain ⟨q0, q1, q2, q3, _, q5⟩ := edge_ok (h j _ (List.getElem?_eq_getElem hj))
    have hm := metB_mem es i j es[i] es[j] hij (List.getElem?_eq_getElem (by omega)) (by
      unfold sameB
      rcases pr_eq he with ⟨a, b⟩ | ⟨a, b⟩
      · simp; omega
      · simp; omega)
    rw [q5] at hm
    cases hm
theorem SomeE.inG {m : Nat} {es : List E3} (h : SomeE m es) : InG m (prsE es) := fun a b hp => by
  obtain ⟨e, he, h1⟩ := List.mem_map.1 hp
  obtain ⟨h0, h2, h3, h4⟩ := h.inn e he
  have := (prE_eq h0 h3).1 h1
  omega
theorem degE_pairs {m : Nat} {es : List E3} (hin : InE m es) (i : Nat) : degN es (i : Int) = degP (prsE es) i := by
  induction es with
  | nil => simp [degN, degP, prsE]
  | cons e es ih =>
    obtain ⟨h0, _, h1, _⟩ := hin e (List.mem_cons_self ..)
    have ih := ih (fun e he => hin e (List.mem_cons_of_mem _ he))
    have hh : has i (prE e) = (e.1 == (i : Int) || e.2.1 == (i : Int)) := by
      unfold prE
      rw [has_pr, Bool.eq_iff_iff]
      simp
      omega
    show degN (e :: es) i = degP (prE e :: prsE es) i
    rw [degP_cons, ← ih, hh]
    have ht : touchB (i : Int) e = (e.1 == (i : Int) || e.2.1 == (i : Int)) := rfl
    unfold degN
    rw [List.filter_cons, ht]
    split <;> simp
theorem words_good {m : Nat} {es : List E3} (hg : goodE m es) : WordsOf m (nbL m es) (prsE es) :=
  ⟨nbL_length m es, fun i _ => nbL_words hg i, fun i hi j => by rw [nbL_bit hg hi, adjE_pairs (InE.of_good hg), adjP_iff]⟩

theorem countP_eq_one (b : Nat) : ∀ N, b < N → (List.range N).countP (fun j => j == b) = 1
  | 0, h => by omega
  | N + 1, h => by
    rw [List.range_succ, List.countP_append, List.countP_singleton]
    rcases Nat.lt_or_ge b N with h1 | h1
    · rw [countP_eq_one b N h1, if_neg (by simp; omega)]
    · obtain rfl : b = N := by omega
      have : (List.range b).countP (fun j => j == b) = 0 := by
        rw [List.countP_eq_zero]
        intro j hj
        have := List.mem_range.1 hj
        simp; omega
      rw [this]; simp
theorem countP_or (p q : Nat → Bool) : ∀ l : List Nat, (∀ x ∈ l, ¬ (p x = true ∧ q x = true)) → l.countP (fun x => p x || q x) = l.countP p + l.countP q
  | [], _ => by simp
  | a :: l, h => by
    have ih := countP_or p q l (fun x hx => h x (List.mem_cons_of_mem _ hx))
    have ha := h a (List.mem_cons_self ..)
    simp only [List.countP_cons, ih]
    cases hp : p a <;> cases hq : q a <;> simp_all <;> omega
theorem nbs_deg (N i : Nat) : ∀ G : List Pr, Simp G → InG N G → (List.range N).countP (fun j => adjP G i j) = degP G i
  | [], _, _ => by simp [adjP, degP]
  | (a, b) :: G, hs, hin => by
    have hs' : Simp G := ⟨fun q hq => hs.lt q (List.mem_cons_of_mem _ hq), (List.nodup_cons.1 hs.once).2⟩
    have ih := nbs_deg N i G hs' (fun a b h => hin a b (List.mem_cons_of_mem _ h))
    have hlt : a < b := hs.lt (a, b) (List.mem_cons_self ..)
    have hpe : pr a b = (a, b) := pr_self (a, b) hlt
    obtain ⟨hN1, hN2⟩ := hin a b (by rw [hpe]; exact List.mem_cons_self ..)
    have hsplit : (fun j => adjP ((a, b) :: G) i j) = fun j => (pr i j == (a, b)) || adjP G i j := by
      funext j
      unfold adjP
      rw [List.contains_cons]
    rw [hsplit, countP_or _ _ _ (fun x _ hx => by
      have h1 : pr i x = (a, b) := by simpa using hx.1
      have h2 := adjP_iff.1 hx.2
      rw [h1] at h2
      exact (List.nodup_cons.1 hs.once).1 h2), ih, degP_cons]
    have hone : (List.range N).countP (fun j => pr i j == (a, b)) = if has i (a, b) = true then 1 else 0 := by
      by_cases h1 : a = i
      · rw [if_pos (by simp [has, h1]), ← countP_eq_one b N hN2]
        apply List.countP_congr
        intro x _
        simp only [beq_iff_eq]
        rw [← hpe, h1]
        exact ⟨fun h => pr_right h, fun h => by rw [h]⟩
      · by_cases h2 : b = i
        · rw [if_pos (by simp [has, h2]), ← countP_eq_one a N hN1]
          apply List.countP_congr
          intro x _
          simp only [beq_iff_eq]
          rw [← hpe, h2, pr_comm a i]
          exact ⟨fun h => pr_right h, fun h => by rw [h]⟩
        · rw [if_neg (by simp [has, h1, h2]), List.countP_eq_zero]
          intro x _ hx
          have hx : pr i x = (a, b) := by simpa using hx
          rw [← hpe] at hx
          rcases pr_eq hx with h | h <;> omega
    rw [hone]
    omega
theorem ones_deg {m : Nat} {ar : List Nat} {G : List Pr} (hm : m ≤ 10) (h : WordsOf m ar G) (hs : Simp G) (hin : InG m G) {i : Nat} (hi : i < m) : ones (ar.getD i 0) = degP G i := by
  rw [← nbs_deg 10 i G hs (fun a b hp => by have := hin a b hp; omega)]
  unfold ones
  apply List.countP_congr
  intro j _
  rw [h.bit i hi, adjP_iff]
theorem degP_out {m : Nat} {G : List Pr} (hs : Simp G) (hin : InG m G) {y : Nat} (h : m ≤ y) : degP G y = 0 :=
  degP_zero hs.lt (fun j hj => by have := hin y j hj; omega)
/-- No node is odd: who begins somewhere can end there. -/
theorem even_par {m : Nat} {ar : List Nat} {G : List Pr} (hm : m ≤ 10) (h : WordsOf m ar G) (hs : Simp G) (hin : InG m G) (s : Nat) : ar.any (fun x => ones x % 2 == 1) = false ↔ Par G s s := by
  have hget : ∀ i, i < m → ar[i]? = some (ar.getD i 0) := fun i hi => by
    have hl : i < ar.length := by rw [h.len]; exact hi
    rw [List.getD_eq_getElem?_getD, List.getElem?_eq_getElem hl]; rfl
  constructor
  · intro ha y
    rw [if_pos Iff.rfl]
    rcases Nat.lt_or_ge y m with hy | hy
    · rw [← ones_deg hm h hs hin hy]
      have := List.any_eq_false.1 ha _ (List.mem_of_getElem? (hget y hy))
      rw [beq_iff_eq] at this
      omega
    · rw [degP_out hs hin hy]
  · intro hp
    rw [List.any_eq_false]
    intro x hx
    obtain ⟨i, hi, rfl⟩ := List.getElem_of_mem hx
    have him : i < m := by rw [← h.len]; exact hi
    have h1 := hp i
    rw [if_pos Iff.rfl, ← ones_deg hm h hs hin him] at h1
    have : ar.getD i 0 = ar[i] := by rw [List.getD_eq_getElem?_getD, List.getElem?_eq_getElem hi]; rfl
    rw [this] at h1
    simp
    omega
theorem eraseIdx_perm : ∀ (l : List E3) (k : Nat) (h : k < l.length), (l[k] :: l.eraseIdx k).Perm l
  | [], _, h => by simp at h
  | x :: l, 0, _ => by simp
  | x :: l, k + 1, h => by
    have ih := eraseIdx_perm l k (by simpa using h)
    simp only [List.getElem_cons_succ, List.eraseIdx_cons_succ]
    exact (List.Perm.swap _ _ _).trans (ih.cons x)
theorem erase_perm {esc : List E3} {k : Nat} {e : E3} (h : esc[k]? = some e) : (prsE (esc.eraseIdx k)).Perm ((prsE esc).erase (prE e)) := by
  obtain ⟨hk, rfl⟩ := List.getElem?_eq_some_iff.1 h
  have h1 : (esc[k] :: esc.eraseIdx k).Perm esc := eraseIdx_perm esc k hk
  have h2 : (prE esc[k] :: prsE (esc.eraseIdx k)).Perm (prsE esc) := h1.map prE
  have h3 : (prsE esc).Perm (prE esc[k] :: (prsE esc).erase (prE esc[k])) := List.perm_cons_erase (List.mem_map_of_mem (List.getElem_mem hk))
  exact (List.perm_cons _).1 (h2.trans h3)
theorem SomeE.less {m : Nat} {esc : List E3} (h : SomeE m esc) (k : Nat) : SomeE m (esc.eraseIdx k) :=
  ⟨fun e he => h.inn e ((List.eraseIdx_sublist esc k).subset he), h.simp.sub ((List.eraseIdx_sublist esc k).map prE)⟩
end Go.Proofs.YthfgbgmkiggjmabDoor
