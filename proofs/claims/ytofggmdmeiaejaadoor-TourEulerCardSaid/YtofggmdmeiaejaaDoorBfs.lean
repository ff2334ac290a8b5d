/- The layers of a graph are its distances: plain facts. -/
import Derived.Test.YtofggmdmeiaejaaDoorWalks
import Derived.Test.YtofggmdmeiaejaaDoorDistFrom
import Derived.Test.YtofggmdmeiaejaaDoorParts
namespace Go.Proofs.YtofggmdmeiaejaaDoor

/-- Have two nodes an edge? -/
def adjE (es : List E3) (i j : Nat) : Bool := es.any fun e => (e.1 == (i : Int) && e.2.1 == (j : Int)) || (e.1 == (j : Int) && e.2.1 == (i : Int))
theorem adjE_symm (es : List E3) (i j : Nat) : adjE es i j = adjE es j i := by
  unfold adjE
  congr 1
  funext e
  rw [Bool.or_comm]

theorem any_snoc {α : Type} (p : α → Bool) (l : List α) (x : α) : (l ++ [x]).any p = (l.any p || p x) := by simp
theorem nbW_bit {m : Nat} {es : List E3} (hg : goodE m es) (i j : Nat) : ∀ k, (nbW (es.take k) i).testBit j = adjE (es.take k) i j
  | 0 => by simp [nbW, adjE]
  | k + 1 => by
    have ih := nbW_bit hg i j k
    rcases Nat.lt_or_ge k es.length with hk | hk
    · have hx : es[k]? = some es[k] := List.getElem?_eq_getElem hk
      obtain ⟨p0, p1, p2, p3, p4, _⟩ := edge_ok (hg k _ hx)
      rw [nbW_next es k i _ hx, List.take_succ_eq_append_getElem hk]
      generalize es[k] = e at hx p0 p1 p2 p3 p4
      obtain ⟨a, b, c⟩ := e
      simp only at p0 p1 p2 p3 p4
      obtain ⟨a, rfl⟩ := Int.eq_ofNat_of_zero_le p0
      obtain ⟨b, rfl⟩ := Int.eq_ofNat_of_zero_le p2
      unfold adjE at ih ⊢
      rw [any_snoc, ← ih]
      unfold nbStep
      simp only [Int.toNat_natCast]
      by_cases h1 : (a : Int) = (i : Int)
      · rw [if_pos h1, Nat.testBit_or, Nat.testBit_two_pow]
        congr 1
        rw [Bool.eq_iff_iff]
        simp
        omega
      · rw [if_neg h1]
        by_cases h2 : (b : Int) = (i : Int)
        · rw [if_pos h2, Nat.testBit_or, Nat.testBit_two_pow]
          congr 1
          rw [Bool.eq_iff_iff]
          simp
          omega
        · rw [if_neg h2]
          have : (((a : Int) == (i : Int) && (b : Int) == (j : Int)) || ((a : Int) == (j : Int) && (b : Int) == (i : Int))) = false := by simp; omega
          simp only [this, Bool.or_false]
    · rw [List.take_of_length_le (by omega)]
      rw [List.take_of_length_le (by omega)] at ih
      exact ih
theorem nbL_bit {m : Nat} {es : List E3} (hg : goodE m es) {i : Nat} (hi : i < m) (j : Nat) : ((nbL m es).getD i 0).testBit j = adjE es i j := by
  rw [List.getD_eq_getElem?_getD, nbL_get es hi]
  have := nbW_bit hg i j es.length
  rw [List.take_length] at this
  exact this
theorem adjE_lt {m : Nat} {es : List E3} (hg : goodE m es) {i j : Nat} (h : adjE es i j = true) : i < m ∧ j < m ∧ i ≠ j := by
  unfold adjE at h
  rw [List.any_eq_true] at h
  obtain ⟨e, he, h⟩ := h
  obtain ⟨k, hk⟩ := List.getElem?_of_mem he
  obtain ⟨p0, p1, p2, p3, p4, _⟩ := edge_ok (hg k e hk)
  simp only [Bool.or_eq_true, Bool.and_eq_true, beq_iff_eq] at h
  omega
theorem wk_lt {m : Nat} {es : List E3} (hg : goodE m es) {s : Nat} (hs : s < m) : ∀ {k j : Nat}, wk (adjE es) k s j → j < m
  | 0, _, h => by cases h; exact hs
  | _ + 1, _, ⟨_, _, h⟩ => (adjE_lt hg h).2.1

theorem foldl_or_bit {α : Type} (f : α → Nat) (j : Nat) : ∀ (l : List α) (a : Nat), (l.foldl (fun acc x => acc ||| f x) a).testBit j = (a.testBit j || l.any fun x => (f x).testBit j)
  | [], a => by simp
  | x :: l, a => by
    simp only [List.foldl_cons, List.any_cons]
    rw [foldl_or_bit f j l, Nat.testBit_or, Bool.or_assoc]
theorem besideN_bit {m : Nat} {es : List E3} (hg : goodE m es) (r j : Nat) : (besideN m (nbL m es) r).testBit j = true ↔ ∃ x, x < m ∧ r.testBit x = true ∧ adjE es x j = true := by
  unfold besideN orTo
  rw [foldl_or_bit (fun i : Fin m => (nbL m es).getD i.val 0)]
  simp only [Nat.zero_testBit, Bool.false_or, List.any_eq_true, mem_nodes]
  constructor
  · rintro ⟨x, hx, hj⟩
    exact ⟨x.val, x.isLt, hx, by rw [← nbL_bit hg x.isLt]; exact hj⟩
  · rintro ⟨x, hxm, hx, hj⟩
    exact ⟨⟨x, hxm⟩, hx, by rw [nbL_bit hg hxm]; exact hj⟩

/-- The layer and the met nodes at a distance. -/
def LayInv (m : Nat) (es : List E3) (s far layer met : Nat) : Prop :=
  layer < 2 ^ m ∧ met < 2 ^ m ∧ (∀ j, layer.testBit j = true ↔ IsDist (adjE es) s j far) ∧ (∀ j, met.testBit j = true ↔ ∃ k, k ≤ far ∧ wk (adjE es) k s j)
theorem layInv_start {m : Nat} {es : List E3} {s : Nat} (hs : s < m) : LayInv m es s 0 (2 ^ s) (2 ^ s) := by
  have hp : 2 ^ s < 2 ^ m := Nat.pow_lt_pow_right (by decide) hs
  refine ⟨hp, hp, fun j => ?_, fun j => ?_⟩
  · rw [Nat.testBit_two_pow, dist_zero]; simp
  · rw [Nat.testBit_two_pow]
    simp only [decide_eq_true_eq]
    constructor
    · intro h; exact ⟨0, Nat.le_refl _, h⟩
    · rintro ⟨k, hk, hw⟩
      obtain rfl : k = 0 := by omega
      exact hw
theorem layInv_next {m : Nat} {es : List E3} (hm : m ≤ 10) (hg : goodE m es) {s far layer met : Nat} (hs : s < m) (h : LayInv m es s far layer met) :
    LayInv m es s (far + 1) (nextL m (nbL m es) layer met) (met ||| nextL m (nbL m es) layer met) := by
  obtain ⟨h1, h2, h3, h4⟩ := h
  have hw := nbL_words hg
  have hn := nextL_lt hm hw layer met h2
  have hbit : ∀ j, (nextL m (nbL m es) layer met).testBit j = true ↔ IsDist (adjE es) s j (far + 1) := fun j => by
    unfold nextL
    rw [diffW_testBit (besideN m (nbL m es) layer) met j (Nat.lt_of_lt_of_le (pow10 hm (orTo_lt hw _)) (by decide)) (Nat.lt_of_lt_of_le (pow10 hm h2) (by decide))]
    simp only [Bool.and_eq_true, Bool.not_eq_true']
    rw [besideN_bit hg]
    constructor
    · rintro ⟨⟨x, hx, hl, ha⟩, hm'⟩
      have hx' := (h3 x).1 hl
      refine ⟨⟨x, hx'.1, ha⟩, fun k hk hwk => ?_⟩
      have : met.testBit j = true := (h4 j).2 ⟨k, by omega, hwk⟩
      rw [this] at hm'
      cases hm'
    · intro hd
      obtain ⟨x, hx, ha⟩ := dist_pred hd
      refine ⟨⟨x, wk_lt hg hs hx.1, (h3 x).2 hx, ha⟩, ?_⟩
      cases hb : met.testBit j with
      | false => rfl
      | true =>
        obtain ⟨k, hk, hwk⟩ := (h4 j).1 hb
        exact absurd hwk (hd.2 k (by omega))
  refine ⟨hn, Nat.or_lt_two_pow h2 hn, hbit, fun j => ?_⟩
  rw [Nat.testBit_or, Bool.or_eq_true, h4, hbit]
  constructor
  · rintro (⟨k, hk, hwk⟩ | hd)
    · exact ⟨k, by omega, hwk⟩
    · exact ⟨far + 1, Nat.le_refl _, hd.1⟩
  · rintro ⟨k, hk, hwk⟩
    obtain ⟨d, hd, hD⟩ := dist_of_wk hwk
    rcases Nat.lt_or_ge d (far + 1) with hlt | hge
    · exact .inl ⟨d, by omega, hD.1⟩
    · obtain rfl : d = far + 1 := by omega
      exact .inr hD

theorem setAll_get {m : Nat} (far j : Nat) : ∀ (nodes : List (Fin m)) (row : List Int), row.length = m → j < m → (setAll row far nodes)[j]? = if nodes.any (fun i => i.val == j) = true then some (far : Int) else row[j]?
  | [], row, _, _ => by simp [setAll]
  | x :: r, row, hl, hj => by
    show (setAll (row.set x.val far) far r)[j]? = _
    rw [setAll_get far j r _ (by rw [List.length_set]; exact hl) hj]
    simp only [List.any_cons, Bool.or_eq_true, beq_iff_eq]
    by_cases h1 : (r.any fun i => i.val == j) = true
    · rw [if_pos h1, if_pos (.inr h1)]
    · rw [if_neg h1]
      by_cases h2 : x.val = j
      · rw [if_pos (.inl h2), List.getElem?_set, if_pos h2, if_pos (by omega)]
      · rw [if_neg (by simp [h1, h2]), List.getElem?_set, if_neg h2]
theorem nodes_any {m r j : Nat} (hj : j < m) : ((nodesL m r).any fun i => i.val == j) = true ↔ r.testBit j = true := by
  rw [List.any_eq_true]
  constructor
  · rintro ⟨i, hi, he⟩
    rw [beq_iff_eq] at he
    subst he
    exact mem_nodes.1 hi
  · intro h
    exact ⟨⟨j, hj⟩, mem_nodes.2 h, by simp⟩

/-- What is told of a node by the layers from one on. -/
theorem lay_rows {m : Nat} {es : List E3} (hm : m ≤ 10) (hg : goodE m es) {s : Nat} (hs : s < m) {j : Nat} (hj : j < m) : ∀ (f far layer met : Nat) (row : List Int), f + far = 1025 → far + (if layer = 0 then 0 else 1) ≤ met → LayInv m es s far layer met → row.length = m →
    (∃ d : Nat, far ≤ d ∧ IsDist (adjE es) s j d ∧ ((layN m (nbL m es) f far layer met).foldl (fun row x => setAll row x.1 (nodesL m x.2.val)) row)[j]? = some (d : Int)) ∨
    ((∀ d, far ≤ d → ¬ IsDist (adjE es) s j d) ∧ ((layN m (nbL m es) f far layer met).foldl (fun row x => setAll row x.1 (nodesL m x.2.val)) row)[j]? = row[j]?)
  | 0, far, layer, met, row, hf, hle, hI, hl => by
    have := pow10 hm hI.2.1
    split at hle <;> omega
  | f + 1, far, layer, met, row, hf, hle, hI, hl => by
    by_cases h0 : layer = 0
    · subst h0
      right
      refine ⟨fun d hd hD => ?_, by simp [layN]⟩
      obtain ⟨x, hx⟩ := dist_down hD far hd
      have := (hI.2.2.1 x).2 hx
      simp at this
    · have hle' : far + 1 ≤ met := by rw [if_neg h0] at hle; exact hle
      have hI' := layInv_next hm hg hs hI
      have hle2 : far + 1 + (if nextL m (nbL m es) layer met = 0 then 0 else 1) ≤ met ||| nextL m (nbL m es) layer met := by
        have hge : met ≤ met ||| nextL m (nbL m es) layer met := Nat.left_le_or
        by_cases hn0 : nextL m (nbL m es) layer met = 0
        · rw [if_pos hn0]; omega
        · rw [if_neg hn0]
          have := met_grows hm (nbL_words hg) layer met hI.2.1 hn0
          omega
      have hstep : layN m (nbL m es) (f + 1) far layer met = (far, toF m layer) :: layN m (nbL m es) f (far + 1) (nextL m (nbL m es) layer met) (met ||| nextL m (nbL m es) layer met) := by
        conv => lhs; unfold layN
        rw [if_neg h0]
      have hrow : (setAll row far (nodesL m layer)).length = m := by rw [setAll_length]; exact hl
      have hgt := setAll_get far j (nodesL m layer) row hl hj
      rw [hstep]
      simp only [List.foldl_cons, toF_val hI.1]
      rcases lay_rows hm hg hs hj f (far + 1) _ _ (setAll row far (nodesL m layer)) (by omega) hle2 hI' hrow with ⟨d, hd, hD, he⟩ | ⟨hn, he⟩
      · exact .inl ⟨d, by omega, hD, he⟩
      · rw [he, hgt]
        by_cases hb : layer.testBit j = true
        · left
          exact ⟨far, Nat.le_refl _, (hI.2.2.1 j).1 hb, by rw [if_pos ((nodes_any hj).2 hb)]⟩
        · right
          refine ⟨fun d hd hD => ?_, by rw [if_neg (fun h => hb ((nodes_any hj).1 h))]⟩
          rcases Nat.lt_or_ge far d with hlt | hge
          · exact hn d hlt hD
          · obtain rfl : d = far := by omega
            exact hb ((hI.2.2.1 j).2 hD)

theorem distRow_get {m : Nat} {es : List E3} (hm : m ≤ 10) (hg : goodE m es) {s j : Nat} (hs : s < m) (hj : j < m) : (distRow m (nbL m es) s)[j]? = some (distI (adjE es) s j) := by
  have hp := Nat.two_pow_pos s
  rcases lay_rows hm hg hs hj 1025 0 (2 ^ s) (2 ^ s) (List.replicate m (-1)) rfl (by rw [if_neg (by omega)]; omega) (layInv_start hs) (by simp) with ⟨d, _, hD, he⟩ | ⟨hn, he⟩
  · unfold distRow rowTo
    rw [he, distI_eq hD]
  · unfold distRow rowTo
    rw [he, distI_none (fun d => hn d (Nat.zero_le _)), List.getElem?_replicate, if_pos hj]
end Go.Proofs.YtofggmdmeiaejaaDoor
