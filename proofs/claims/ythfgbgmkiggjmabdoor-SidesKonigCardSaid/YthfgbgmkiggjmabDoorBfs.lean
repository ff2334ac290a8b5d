/- The layers of a graph are its distances: plain facts. -/
import Derived.Test.YthfgbgmkiggjmabDoorDistFrom
import Derived.Test.YthfgbgmkiggjmabDoorBfs0
namespace Go.Proofs.YthfgbgmkiggjmabDoor

theorem setAll_get {m : Nat} (far j : Nat) : ∀ (nodes : List (Fin m)) (row : List Int), row.length = m → j < m → (setAll row far nodes)[j]? = if nodes.any (fun i => i.val == j) = true then some (far : Int) else row[j]?
  | [], row, _, _ => by simp [setAll]
  | x :: r, row, hl, hj => by
    show (setAll (row.set x.val far) far r)[j]? = _
    rw [setAll_get far j r _ (by rw [List.length_set]; exact hl) hj]
    simp only [List.any_cons, Bool.or_eq_true, beq_iff_eq]
    by_cases h1 : (r.any fun i => i.val == j) = true
    · rw [if_pos h1, if_pos (.inr h1)]
    · rw [if_neg h1]
      by_cases h2 : x.val = j
      · rw [if_pos (.inl h2), List.getElem?_set, if_pos h2, if_pos (by omega)]
      · rw [if_neg (by simp [h1, h2]), List.getElem?_set, if_neg h2]
theorem nodes_any {m r j : Nat} (hj : j < m) : ((nodesL m r).any fun i => i.val == j) = true ↔ r.testBit j = true := by
  rw [List.any_eq_true]
  constructor
  · rintro ⟨i, hi, he⟩
    rw [beq_iff_eq] at he
    subst he
    exact mem_nodes.1 hi
  · intro h
    exact ⟨⟨j, hj⟩, mem_nodes.2 h, by simp⟩

/-- What is told of a node by the layers from one on. -/
theorem lay_rows {m : Nat} {es : List E3} (hm : m ≤ 10) (hg : goodE m es) {s : Nat} (hs : s < m) {j : Nat} (hj : j < m) : ∀ (f far layer met : Nat) (row : List Int), f + far = 1025 → far + (if layer = 0 then 0 else 1) ≤ met → LayInv m es s far layer met → row.length = m →
    (∃ d : Nat, far ≤ d ∧ IsDist (adjE es) s j d ∧ ((layN m (nbL m es) f far layer met).foldl (fun row x => setAll row x.1 (nodesL m x.2.val)) row)[j]? = some (d : Int)) ∨
    ((∀ d, far ≤ d → ¬ IsDist (adjE es) s j d) ∧ ((layN m (nbL m es) f far layer met).foldl (fun row x => setAll row x.1 (nodesL m x.2.val)) row)[j]? = row[j]?)
  | 0, far, layer, met, row, hf, hle, hI, hl => by
    have := pow10 hm hI.2.1
    split at hle <;> omega
  | f + 1, far, layer, met, row, hf, hle, hI, hl => by
    by_cases h0 : layer = 0
    · subst h0
      right
      refine ⟨fun d hd hD => ?_, by simp [layN]⟩
      obtain ⟨x, hx⟩ := dist_down hD far hd
      have := (hI.2.2.1 x).2 hx
      simp at this
    · have hle' : far + 1 ≤ met := by rw [if_neg h0] at hle; exact hle
      have hI' := layInv_next hm hg hs hI
      have hle2 : far + 1 + (if nextL m (nbL m es) layer met = 0 then 0 else 1) ≤ met ||| nextL m (nbL m es) layer met := by
        have hge : met ≤ met ||| nextL m (nbL m es) layer met := Nat.left_le_or
        by_cases hn0 : nextL m (nbL m es) layer met = 0
        · rw [if_pos hn0]; omega
        · rw [if_neg hn0]
          have := met_grows hm (nbL_words hg) layer met hI.2.1 hn0
          omega
      have hstep : layN m (nbL m es) (f + 1) far layer met = (far, toF m layer) :: layN m (nbL m es) f (far + 1) (nextL m (nbL m es) layer met) (met ||| nextL m (nbL m es) layer met) := by
        conv => lhs; unfold layN
        rw [if_neg h0]
      have hrow : (setAll row far (nodesL m layer)).length = m := by rw [setAll_length]; exact hl
      have hgt := setAll_get far j (nodesL m layer) row hl hj
      rw [hstep]
      simp only [List.foldl_cons, toF_val hI.1]
      rcases lay_rows hm hg hs hj f (far + 1) _ _ (setAll row far (nodesL m layer)) (by omega) hle2 hI' hrow with ⟨d, hd, hD, he⟩ | ⟨hn, he⟩
      · exact .inl ⟨d, by omega, hD, he⟩
      · rw [he, hgt]
        by_cases hb : layer.testBit j = true
        · left
          exact ⟨far, Nat.le_refl _, (hI.2.2.1 j).1 hb, by rw [if_pos ((nodes_any hj).2 hb)]⟩
        · right
          refine ⟨fun d hd hD => ?_, by rw [if_neg (fun h => hb ((nodes_any hj).1 h))]⟩
          rcases Nat.lt_or_ge far d with hlt | hge
          · exact hn d hlt hD
          · obtain rfl : d = far := by omega
            exact hb ((hI.2.2.1 j).2 hD)

theorem distRow_get {m : Nat} {es : List E3} (hm : m ≤ 10) (hg : goodE m es) {s j : Nat} (hs : s < m) (hj : j < m) : (distRow m (nbL m es) s)[j]? = some (distI (adjE es) s j) := by
  have hp := Nat.two_pow_pos s
  rcases lay_rows hm hg hs hj 1025 0 (2 ^ s) (2 ^ s) (List.replicate m (-1)) rfl (by rw [if_neg (by omega)]; omega) (layInv_start hs) (by simp) with ⟨d, _, hD, he⟩ | ⟨hn, he⟩
  · unfold distRow rowTo
    rw [he, distI_eq hD]
  · unfold distRow rowTo
    rw [he, distI_none (fun d => hn d (Nat.zero_le _)), List.getElem?_replicate, if_pos hj]
end Go.Proofs.YthfgbgmkiggjmabDoor
