/- Layers of nodes are what a walk of so many steps comes to. Plain facts. -/
import Derived.Test.YtiaapeidabmgkaaDoorWalks
import Derived.Test.YtiaapeidabmgkaaDoorAdj
import Derived.Test.YtiaapeidabmgkaaDoorParts
namespace Go.Proofs.YtiaapeidabmgkaaDoor

theorem nbW_bit {m : Nat} {es : List E3} (hg : goodE m es) (i j : Nat) : ∀ k, (nbW (es.take k) i).testBit j = adjE (es.take k) i j
  | 0 => by simp [nbW, adjE]
  | k + 1 => by
    have ih := nbW_bit hg i j k
    rcases Nat.lt_or_ge k es.length with hk | hk
    · have hx : es[k]? = some es[k] := List.getElem?_eq_getElem hk
      obtain ⟨p0, p1, p2, p3, p4, _⟩ := edge_ok (hg k _ hx)
      rw [nbW_next es k i _ hx, List.take_succ_eq_append_getElem hk]
      generalize es[k] = e at hx p0 p1 p2 p3 p4
      obtain ⟨a, b, c⟩ := e
      simp only at p0 p1 p2 p3 p4
      obtain ⟨a, rfl⟩ := Int.eq_ofNat_of_zero_le p0
      obtain ⟨b, rfl⟩ := Int.eq_ofNat_of_zero_le p2
      unfold adjE at ih ⊢
      rw [any_snoc, ← ih]
      unfold nbStep
      simp only [Int.toNat_natCast]
      by_cases h1 : (a : Int) = (i : Int)
      · rw [if_pos h1, Nat.testBit_or, Nat.testBit_two_pow]
        congr 1
        rw [Bool.eq_iff_iff]
        simp
        omega
      · rw [if_neg h1]
        by_cases h2 : (b : Int) = (i : Int)
        · rw [if_pos h2, Nat.testBit_or, Nat.testBit_two_pow]
          congr 1
          rw [Bool.eq_iff_iff]
          simp
          omega
        · rw [if_neg h2]
          have : (((a : Int) == (i : Int) && (b : Int) == (j : Int)) || ((a : Int) == (j : Int) && (b : Int) == (i : Int))) = false := by simp; omega
          simp only [this, Bool.or_false]
    · rw [List.take_of_length_le (by omega)]
      rw [List.take_of_length_le (by omega)] at ih
      exact ih
theorem nbL_bit {m : Nat} {es : List E3} (hg : goodE m es) {i : Nat} (hi : i < m) (j : Nat) : ((nbL m es).getD i 0).testBit j = adjE es i j := by
  rw [List.getD_eq_getElem?_getD, nbL_get es hi]
  have := nbW_bit hg i j es.length
  rw [List.take_length] at this
  exact this
theorem foldl_or_bit {α : Type} (f : α → Nat) (j : Nat) : ∀ (l : List α) (a : Nat), (l.foldl (fun acc x => acc ||| f x) a).testBit j = (a.testBit j || l.any fun x => (f x).testBit j)
  | [], a => by simp
  | x :: l, a => by
    simp only [List.foldl_cons, List.any_cons]
    rw [foldl_or_bit f j l, Nat.testBit_or, Bool.or_assoc]
theorem besideN_bit {m : Nat} {es : List E3} (hg : goodE m es) (r j : Nat) : (besideN m (nbL m es) r).testBit j = true ↔ ∃ x, x < m ∧ r.testBit x = true ∧ adjE es x j = true := by
  unfold besideN orTo
  rw [foldl_or_bit (fun i : Fin m => (nbL m es).getD i.val 0)]
  simp only [Nat.zero_testBit, Bool.false_or, List.any_eq_true, mem_nodes]
  constructor
  · rintro ⟨x, hx, hj⟩
    exact ⟨x.val, x.isLt, hx, by rw [← nbL_bit hg x.isLt]; exact hj⟩
  · rintro ⟨x, hxm, hx, hj⟩
    exact ⟨⟨x, hxm⟩, hx, by rw [nbL_bit hg hxm]; exact hj⟩

/-- The layer and the met nodes at a distance. -/
def LayInv (m : Nat) (es : List E3) (s far layer met : Nat) : Prop :=
  layer < 2 ^ m ∧ met < 2 ^ m ∧ (∀ j, layer.testBit j = true ↔ IsDist (adjE es) s j far) ∧ (∀ j, met.testBit j = true ↔ ∃ k, k ≤ far ∧ wk (adjE es) k s j)
theorem layInv_start {m : Nat} {es : List E3} {s : Nat} (hs : s < m) : LayInv m es s 0 (2 ^ s) (2 ^ s) := by
  have hp : 2 ^ s < 2 ^ m := Nat.pow_lt_pow_right (by decide) hs
  refine ⟨hp, hp, fun j => ?_, fun j => ?_⟩
  · rw [Nat.testBit_two_pow, dist_zero]; simp
  · rw [Nat.testBit_two_pow]
    simp only [decide_eq_true_eq]
    constructor
    · intro h; exact ⟨0, Nat.le_refl _, h⟩
    · rintro ⟨k, hk, hw⟩
      obtain rfl : k = 0 := by omega
      exact hw
theorem layInv_next {m : Nat} {es : List E3} (hm : m ≤ 10) (hg : goodE m es) {s far layer met : Nat} (hs : s < m) (h : LayInv m es s far layer met) :
    LayInv m es s (far + 1) (nextL m (nbL m es) layer met) (met ||| nextL m (nbL m es) layer met) := by
  obtain ⟨h1, h2, h3, h4⟩ := h
  have hw := nbL_words hg
  have hn := nextL_lt hm hw layer met h2
  have hbit : ∀ j, (nextL m (nbL m es) layer met).testBit j = true ↔ IsDist (adjE es) s j (far + 1) := fun j => by
    unfold nextL
    rw [diffW_testBit (besideN m (nbL m es) layer) met j (Nat.lt_of_lt_of_le (pow10 hm (orTo_lt hw _)) (by decide)) (Nat.lt_of_lt_of_le (pow10 hm h2) (by decide))]
    simp only [Bool.and_eq_true, Bool.not_eq_true']
    rw [besideN_bit hg]
    constructor
    · rintro ⟨⟨x, hx, hl, ha⟩, hm'⟩
      have hx' := (h3 x).1 hl
      refine ⟨⟨x, hx'.1, ha⟩, fun k hk hwk => ?_⟩
      have : met.testBit j = true := (h4 j).2 ⟨k, by omega, hwk⟩
      rw [this] at hm'
      cases hm'
    · intro hd
      obtain ⟨x, hx, ha⟩ := dist_pred hd
      refine ⟨⟨x, wk_lt hg hs hx.1, (h3 x).2 hx, ha⟩, ?_⟩
      cases hb : met.testBit j with
      | false => rfl
      | true =>
        obtain ⟨k, hk, hwk⟩ := (h4 j).1 hb
        exact absurd hwk (hd.2 k (by omega))
  refine ⟨hn, Nat.or_lt_two_pow h2 hn, hbit, fun j => ?_⟩
  rw [Nat.testBit_or, Bool.or_eq_true, h4, hbit]
  constructor
  · rintro (⟨k, hk, hwk⟩ | hd)
    · exact ⟨k, by omega, hwk⟩
    · exact ⟨far + 1, Nat.le_refl _, hd.1⟩
  · rintro ⟨k, hk, hwk⟩
    obtain ⟨d, hd, hD⟩ := dist_of_wk hwk
    rcases Nat.lt_or_ge d (far + 1) with hlt | hge
    · exact .inl ⟨d, by omega, hD.1⟩
    · obtain rfl : d = far + 1 := by omega
      exact .inr hD
end Go.Proofs.YtiaapeidabmgkaaDoor
