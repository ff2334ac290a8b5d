/- The statement ChordPerfectSaid, out of the law's walk. No conditions. -/
import Derived.Test.YticickicfigpbaaElimP
import Derived.Test.YticickicfigpbaaNatG
import Derived.Test.YticickicfigpbaaAdj
import Derived.Test.YticickicfigpbaaGood
import Derived.Test.YticickicfigpbaaRows2
import Derived.Test.YticickicfigpbaaBox0
import Derived.Test.YticickicfigpbaaPlain
import Derived.Test.YticickicfigpbaaKonigP
import Derived.Test.YticickicfigpbaaCrowdP
import Derived.Test.YticickicfigpbaaTutteP
import Derived.Test.YticickicfigpbaaBrooksP
import Derived.Test.YticickicfigpbaaFlowP
import Derived.Test.YticickicfigpbaaLooseP
import Derived.Test.YticickicfigpbaaGreedL
import Derived.Test.YticickicfigpbaaAllOf
import Derived.Test.YticickicfigpbaaPaintP
import Derived.Test.YticickicfigpbaaRefCheck
import Derived.Test.YticickicfigpbaaBoxB
import Derived.Test.YticickicfigpbaaHas
import Derived.Test.YticickicfigpbaaOwn
import Derived.Test.YticickicfigpbaaCheckGo
import Derived.Test.YticickicfigpbaaWordsAt
import Derived.Test.YticickicfigpbaaLeastC
import Derived.Test.YticickicfigpbaaGreedyC
import Derived.Test.YticickicfigpbaaWords
import Derived.Test.YticickicfigpbaaNextF
import Derived.Test.YticickicfigpbaaMakesU
import Derived.Test.YticickicfigpbaaNeigh
import Derived.Test.YticickicfigpbaaNbP
import Derived.Test.YticickicfigpbaaMem
import Derived.Test.YticickicfigpbaaLeastTop
import Derived.Test.YticickicfigpbaaGreedyTop
import Derived.Deep.AppendLies
import Derived.Laws.OwnMore
import Derived.IntWalk
import Derived.RegionTactic
import Derived.BigRegion
import Derived.Deep.RegionWith
import Derived.Deep.QuietTactic
import Derived.BigQuiet
import Derived.OwnWalk
import Derived.Maps.AppendAt
import Derived.Laws.MakeOwn
import Derived.Deep.LoopGhost
import Derived.Laws.EntriesVeiled
import Derived.WalkSpells
import Derived.WalkLawsBesides
import Derived.Lib.Hide
import Derived.Lib.BitFns
import Derived.ChangeAlike
import Derived.Test.YticickicfigpbaaRows
import Derived.ProofKit
import Derived.Deep.Slices
import Derived.Deep.Strs
import Derived.Lib.SmallJoins
namespace Go.Proofs.Yticickicfigpbaa
open Go.RowKit

def ChordTop (w : World) (n : Int) (es : List E3) (e : Ending) (w' : World) : Prop :=
  (gcheck n es ≠ 0 → e = .returned (.tuple #[.slice none 0 0, .int .i64 (gcheck n es)])) ∧
  (gcheck n es = 0 → elimF (adjE es) n.toNat n.toNat [] = none → e = .returned (.tuple #[.slice none 0 0, .int .i64 5])) ∧
  (gcheck n es = 0 → ∀ l, elimF (adjE es) n.toNat n.toNat [] = some l → ∃ A' c', e = .returned (.tuple #[.slice A' n.toNat c', .int .i64 0]) ∧ IntsAt w' w'.heap.size A' n.toNat (natG l) ∧ n.toNat ≤ c') ∧ Below w.heap.size w w'
/-- A ring of four or more without a short cut, as a list. -/
def HoleL (adj : Nat → Nat → Bool) (n : Nat) (r : List Nat) : Prop := HoleP adj (restB n []) r.length fun i => r.getD i 0
def HoleTop (w : World) (n : Int) (es : List E3) (e : Ending) (w' : World) : Prop :=
  (gcheck n es ≠ 0 → e = .returned (.tuple #[.slice none 0 0, .int .i64 (gcheck n es)])) ∧
  (gcheck n es = 0 → (∀ L q, ¬ HoleP (adjE es) (restB n.toNat []) L q) → e = .returned (.tuple #[.slice none 0 0, .int .i64 5])) ∧
  (gcheck n es = 0 → (∃ L q, HoleP (adjE es) (restB n.toNat []) L q) → ∃ r A' c', HoleL (adjE es) n.toNat r ∧ e = .returned (.tuple #[.slice A' r.length c', .int .i64 0]) ∧ IntsAt w' w'.heap.size A' r.length (natG r) ∧ r.length ≤ c') ∧ Below w.heap.size w w'
end Go.Proofs.Yticickicfigpbaa

namespace Go.Proofs.Yticickicfigpbaa

/-- How many bits are set. -/
def sizeW (s : Nat) : Nat := (List.range 32).countP fun i => s.testBit i
def sizeTo (s k : Nat) : Nat := (List.range k).countP fun i => s.testBit i
theorem sizeTo_succ (s k : Nat) : sizeTo s (k + 1) = sizeTo s k + if s.testBit k = true then 1 else 0 := by
  unfold sizeTo; rw [List.range_succ, List.countP_append]; simp [List.countP_cons]
theorem sizeTo_le (s : Nat) (k : Nat) : sizeTo s k ≤ k := by
  have := List.countP_le_length (p := fun i => s.testBit i) (l := List.range k)
  simpa [sizeTo] using this
end Go.Proofs.Yticickicfigpbaa

namespace Go.Proofs.Yticickicfigpbaa
theorem sizeTo_bits (s : Nat) : ∀ k, sizeTo s k = sizeP (fun i => s.testBit i) k
  | 0 => rfl
  | k + 1 => by rw [sizeTo_succ, sizeTo_bits s k, sizeP_succ]
theorem sizeTo_far {s n : Nat} (h : s < 2 ^ n) : ∀ d, sizeTo s (n + d) = sizeTo s n
  | 0 => rfl
  | d + 1 => by
    have hb : s.testBit (n + d) = false := Nat.testBit_lt_two_pow (Nat.lt_of_lt_of_le h (Nat.pow_le_pow_right (by decide) (by omega)))
    rw [show n + (d + 1) = (n + d) + 1 by omega, sizeTo_succ, sizeTo_far h d, hb]; rfl
theorem sizeW_bits {s n : Nat} (hn : n ≤ 32) (h : s < 2 ^ n) : sizeW s = sizeP (fun i => s.testBit i) n := by
  have h1 : sizeW s = sizeTo s (n + (32 - n)) := by rw [show n + (32 - n) = 32 by omega]; rfl
  rw [h1, sizeTo_far h, sizeTo_bits]
end Go.Proofs.Yticickicfigpbaa

namespace Go.Proofs.Yticickicfigpbaa

/-- Of the words below k: the first of those with the most members. -/
structure MostW (P : Nat → Prop) (f : Nat → Nat) (k b : Nat) : Prop where
  ok : P b
  le : ∀ j, j < k → P j → f j ≤ f b
  first : ∀ j, j < b → P j → f j < f b
  lt : b = 0 ∨ b < k
section
variable {P : Nat → Prop} {f : Nat → Nat} {k b c all : Nat}
theorem MostW.start (h : P 0) : MostW P f 0 0 := ⟨h, fun j hj => absurd hj (Nat.not_lt_zero j), fun j hj => absurd hj (Nat.not_lt_zero j), .inl rfl⟩
theorem MostW.skip (h : MostW P f k b) (hk : ¬ P k) : MostW P f (k + 1) b :=
  ⟨h.ok, fun j hj hp => by
    by_cases e : j = k
    · subst e; exact absurd hp hk
    · exact h.le j (by omega) hp, h.first, h.lt.imp id fun h => by omega⟩
theorem MostW.keep (h : MostW P f k b) (hk : f k ≤ f b) : MostW P f (k + 1) b :=
  ⟨h.ok, fun j hj hp => by
    by_cases e : j = k
    · subst e; exact hk
    · exact h.le j (by omega) hp, h.first, h.lt.imp id fun h => by omega⟩
theorem MostW.take (h : MostW P f k b) (hp : P k) (hk : f b < f k) : MostW P f (k + 1) k :=
  ⟨hp, fun j hj hq => by
    by_cases e : j = k
    · subst e; exact Nat.le_refl _
    · have := h.le j (by omega) hq; omega, fun j hj hq => by have := h.le j hj hq; omega, .inr (by omega)⟩
theorem MostW.below (h : MostW P f k b) (hk : 0 < k) : b < k := by rcases h.lt with e | e <;> omega
theorem MostW.one (hb : MostW P f k b) (hc : MostW P f k c) (hk : 0 < k) : b = c := by
  have b1 := hb.below hk
  have c1 := hc.below hk
  rcases Nat.lt_trichotomy b c with h | h | h
  · have h1 := hc.first b h hb.ok
    have h2 := hb.le c c1 hc.ok
    omega
  · exact h
  · have h1 := hb.first c h hc.ok
    have h2 := hc.le b b1 hb.ok
    omega
/-- Of the words below k, and all: the first of those with the fewest members. -/
structure FewW (P : Nat → Prop) (f : Nat → Nat) (all k b : Nat) : Prop where
  ok : P b
  le : ∀ j, j < k → P j → f b ≤ f j
  first : ∀ j, j < k → j < b → P j → f b < f j
  lt : b = all ∨ b < k
theorem FewW.start (h : P all) : FewW P f all 0 all := ⟨h, fun j hj => absurd hj (Nat.not_lt_zero j), fun j hj => absurd hj (Nat.not_lt_zero j), .inl rfl⟩
theorem FewW.skip (h : FewW P f all k b) (hk : ¬ P k) : FewW P f all (k + 1) b :=
  ⟨h.ok, fun j hj hp => by
    by_cases e : j = k
    · subst e; exact absurd hp hk
    · exact h.le j (by omega) hp, fun j hj hjb hp => by
    by_cases e : j = k
    · subst e; exact absurd hp hk
    · exact h.first j (by omega) hjb hp, h.lt.imp id fun h => by omega⟩
theorem FewW.keep (h : FewW P f all k b) (hall : ∀ j, j < all → f j < f all) (hk : f b ≤ f k) : FewW P f all (k + 1) b :=
  ⟨h.ok, fun j hj hp => by
    by_cases e : j = k
    · subst e; exact hk
    · exact h.le j (by omega) hp, fun j hj hjb hp => by
    by_cases e : j = k
    · subst e
      rcases h.lt with e | e
      · subst e; have := hall j hjb; omega
      · omega
    · exact h.first j (by omega) hjb hp, h.lt.imp id fun h => by omega⟩
theorem FewW.take (h : FewW P f all k b) (hp : P k) (hk : f k < f b) : FewW P f all (k + 1) k :=
  ⟨hp, fun j hj hq => by
    by_cases e : j = k
    · subst e; exact Nat.le_refl _
    · have := h.le j (by omega) hq; omega, fun j _ hj hq => by have := h.le j hj hq; omega, .inr (by omega)⟩
theorem FewW.one (hb : FewW P f all (all + 1) b) (hc : FewW P f all (all + 1) c) : b = c := by
  have b1 : b < all + 1 := by rcases hb.lt with e | e <;> omega
  have c1 : c < all + 1 := by rcases hc.lt with e | e <;> omega
  rcases Nat.lt_trichotomy b c with h | h | h
  · have h1 := hc.first b b1 h hb.ok
    have h2 := hb.le c c1 hc.ok
    omega
  · exact h
  · have h1 := hb.first c c1 h hc.ok
    have h2 := hc.le b b1 hb.ok
    omega
end
theorem few_one {P : Nat → Prop} {f : Nat → Nat} {m b c : Nat} (hb : FewW P f (2 ^ m - 1) (2 ^ m) b) (hc : FewW P f (2 ^ m - 1) (2 ^ m) c) : b = c := by
  have e : 2 ^ m = 2 ^ m - 1 + 1 := by have := Nat.two_pow_pos m; omega
  have h1 : FewW P f (2 ^ m - 1) (2 ^ m - 1 + 1) b := by rw [← e]; exact hb
  have h2 : FewW P f (2 ^ m - 1) (2 ^ m - 1 + 1) c := by rw [← e]; exact hc
  exact h1.one h2
end Go.Proofs.Yticickicfigpbaa

namespace Go.Proofs.Yticickicfigpbaa

/-- Has each two of a word an edge, or (apart) none? -/
def CrowdW (adj : Nat → Nat → Bool) (ap : Bool) (n w : Nat) : Prop := ∀ i j, j < i → i < n → w.testBit i = true → w.testBit j = true → adj i j = !ap
def bitB (w : Nat) : BS := fun i => w.testBit i
section
variable {adj : Nat → Nat → Bool} {n w : Nat} {K : BS}
theorem crowd_zero (adj : Nat → Nat → Bool) (ap : Bool) (n : Nat) : CrowdW adj ap n 0 := fun i j _ _ h => by simp at h
theorem bit_lt {i : Nat} (hw : w < 2 ^ n) (h : w.testBit i = true) : i < n := by
  apply Nat.lt_of_not_le
  intro hn
  rw [Nat.testBit_lt_two_pow (Nat.lt_of_lt_of_le hw (Nat.pow_le_pow_right (by decide) hn))] at h
  cases h
theorem crowd_clq (hs : ∀ i j, adj i j = adj j i) (hw : w < 2 ^ n) : CrowdW adj false n w ↔ ClqB adj (bitB w) := by
  constructor
  · intro h i j hi hj hne
    rcases Nat.lt_or_gt_of_ne hne with h1 | h1
    · rw [hs]; exact h j i h1 (bit_lt hw hj) hj hi
    · exact h i j h1 (bit_lt hw hi) hi hj
  · intro h i j hij _ hi hj
    exact h i j hi hj (by omega)
theorem crowd_lse (hs : ∀ i j, adj i j = adj j i) (hr : ∀ i, adj i i = false) (hw : w < 2 ^ n) : CrowdW adj true n w ↔ LseB adj (bitB w) := by
  constructor
  · intro h i j hi hj
    rcases Nat.lt_trichotomy i j with h1 | h1 | h1
    · rw [hs]; exact h j i h1 (bit_lt hw hj) hj hi
    · subst h1; exact hr i
    · exact h i j h1 (bit_lt hw hi) hi hj
  · intro h i j _ _ hi hj
    exact h i j hi hj
/-- Each set of the first n is some word. -/
theorem word_of (K : BS) (hK : ∀ i, K i = true → i < n) : ∃ w, w < 2 ^ n ∧ bitB w = K := by
  have h : ∀ n, ∃ w, w < 2 ^ n ∧ ∀ i, i < n → w.testBit i = K i := fun n => by
    induction n with
    | zero => exact ⟨0, by decide, fun i h => by omega⟩
    | succ n ih =>
      obtain ⟨w, h1, h2⟩ := ih
      have h3 : w.testBit n = false := Nat.testBit_lt_two_pow h1
      have h4 : 2 ^ n < 2 ^ (n + 1) := Nat.pow_lt_pow_right (by decide) (Nat.lt_succ_self n)
      cases hk : K n with
      | false =>
        refine ⟨w, by omega, fun i hi => ?_⟩
        by_cases e : i = n
        · subst e; rw [h3, hk]
        · exact h2 i (by omega)
      | true =>
        refine ⟨w ||| 2 ^ n, Nat.or_lt_two_pow (by omega) h4, fun i hi => ?_⟩
        rw [Nat.testBit_or, Nat.testBit_two_pow]
        by_cases e : i = n
        · subst e; simp [hk]
        · have : ¬ n = i := fun e2 => e e2.symm
          rw [h2 i (by omega)]; simp [this]
  obtain ⟨w, h1, h2⟩ := h n
  refine ⟨w, h1, funext fun i => ?_⟩
  unfold bitB
  rcases Nat.lt_or_ge i n with hi | hi
  · exact h2 i hi
  · rw [Nat.testBit_lt_two_pow (Nat.lt_of_lt_of_le h1 (Nat.pow_le_pow_right (by decide) hi))]
    cases hk : K i with
    | false => rfl
    | true => have := hK i hk; omega
theorem size_bitB (hn : n ≤ 32) (hw : w < 2 ^ n) : sizeW w = sizeP (bitB w) n := sizeW_bits hn hw
/-- No crowd has more members than the largest one. -/
theorem MostW.clq_le {b : Nat} (h : MostW (CrowdW adj false n) sizeW (2 ^ n) b) (hs : ∀ i j, adj i j = adj j i) (hn : n ≤ 32) (hK : ∀ i, K i = true → i < n) (hc : ClqB adj K) : sizeP K n ≤ sizeW b := by
  obtain ⟨w, h1, h2⟩ := word_of K hK
  rw [← h2, ← size_bitB hn h1]
  exact h.le w h1 ((crowd_clq hs h1).2 (by rw [h2]; exact hc))
theorem MostW.lse_le {b : Nat} (h : MostW (CrowdW adj true n) sizeW (2 ^ n) b) (hs : ∀ i j, adj i j = adj j i) (hr : ∀ i, adj i i = false) (hn : n ≤ 32) (hK : ∀ i, K i = true → i < n) (hc : LseB adj K) : sizeP K n ≤ sizeW b := by
  obtain ⟨w, h1, h2⟩ := word_of K hK
  rw [← h2, ← size_bitB hn h1]
  exact h.le w h1 ((crowd_lse hs hr h1).2 (by rw [h2]; exact hc))
end
end Go.Proofs.Yticickicfigpbaa

namespace Go.Proofs.Yticickicfigpbaa

theorem adj_deg (m : Nat) (i : Nat) : ∀ es : List E3, sizeP (adjE es i) m ≤ degN es i
  | [] => by rw [show sizeP (adjE [] i) m = 0 from sizeP_none fun j _ => rfl]; exact Nat.zero_le _
  | e :: r => by
    have ih := adj_deg m i r
    have hcons : ∀ j, adjE (e :: r) i j = true ↔ ((e.1 = (i : Int) ∧ e.2.1 = (j : Int)) ∨ (e.1 = (j : Int) ∧ e.2.1 = (i : Int))) ∨ adjE r i j = true := fun j => by
      unfold adjE
      rw [List.any_cons, Bool.or_eq_true]
      simp
    have hd : degN (e :: r) i = degN r i + (if touchB i e = true then 1 else 0) := by
      unfold degN
      rw [List.filter_cons]
      split <;> simp
    by_cases ht : touchB i e = true
    · rw [hd, if_pos ht]
      obtain ⟨j0, hj0⟩ : ∃ j0 : Int, ∀ j : Nat, ((e.1 = (i : Int) ∧ e.2.1 = (j : Int)) ∨ (e.1 = (j : Int) ∧ e.2.1 = (i : Int))) → (j : Int) = j0 := by
        by_cases h : e.1 = (i : Int)
        · exact ⟨e.2.1, fun j hj => by omega⟩
        · exact ⟨e.1, fun j hj => by omega⟩
      have h1 : sizeP (adjE (e :: r) i) m ≤ sizeP (fun j => decide ((j : Int) = j0)) m + sizeP (adjE r i) m := by
        have hp := sizeP_part (adjE (e :: r) i) (adjE r i) m
        have ha : sizeP (fun j => adjE (e :: r) i j && adjE r i j) m ≤ sizeP (adjE r i) m := sizeP_sub fun j _ h => by
          rw [Bool.and_eq_true] at h; exact h.2
        have hb : sizeP (fun j => adjE (e :: r) i j && !adjE r i j) m ≤ sizeP (fun j => decide ((j : Int) = j0)) m := sizeP_sub fun j _ h => by
          rw [Bool.and_eq_true, Bool.not_eq_true'] at h
          rcases (hcons j).1 h.1 with h2 | h2
          · exact decide_eq_true (hj0 j h2)
          · rw [h2] at h; cases h.2
        omega
      have h2 : sizeP (fun j => decide ((j : Int) = j0)) m ≤ 1 := by
        have h := sizeP_inj (n := m) (A := fun j => decide ((j : Int) = j0)) (B := fun j => decide (j = 0)) (m := fun _ => 0)
        rcases Nat.lt_or_ge 1 (sizeP (fun j => decide ((j : Int) = j0)) m) with h3 | h3
        · obtain ⟨x, hx, hxj, _⟩ := sizeP_two (t := j0.toNat) (show 2 ≤ sizeP (fun j => decide ((j : Int) = j0)) m by omega)
          have := of_decide_eq_true hxj
          omega
        · exact h3
      omega
    · rw [hd, if_neg ht]
      have h1 : sizeP (adjE (e :: r) i) m ≤ sizeP (adjE r i) m := sizeP_sub fun j _ h => by
        rcases (hcons j).1 h with h2 | h2
        · exfalso
          apply ht
          unfold touchB
          rw [Bool.or_eq_true, beq_iff_eq, beq_iff_eq]
          omega
        · exact h2
      omega
end Go.Proofs.Yticickicfigpbaa

namespace Go.Proofs.Yticickicfigpbaa

section
variable {adj : Nat → Nat → Bool} {n d : Nat} {S : Nat → Bool}
theorem free_low (hdn : d ≤ n) {P : Nat → Bool} {c : Nat → Nat} {x : Nat} (hlt : sizeP (fun u => P u && adj x u) n < d) : ∃ k, k < d ∧ ∀ j, j < n → P j = true → adj x j = true → c j ≠ k := by
  apply Classical.byContradiction
  intro hno
  have hall : ∀ k, ∃ j, k < d → j < n ∧ P j = true ∧ adj x j = true ∧ c j = k := fun k => by
    by_cases hk : k < d
    · apply Classical.byContradiction
      intro h2
      exact hno ⟨k, hk, fun j hj hP ha e => h2 ⟨j, fun _ => ⟨hj, hP, ha, e⟩⟩⟩
    · exact ⟨0, fun h => absurd h hk⟩
  obtain ⟨f, hf⟩ := Classical.axiomOfChoice hall
  have h1 := sizeP_inj (n := n) _ (A := fun k => decide (k < d)) (B := fun u => P u && adj x u) (m := f) rfl (fun k _ hk => by
    obtain ⟨a1, a2, a3, _⟩ := hf k (by simpa using hk)
    exact ⟨a1, by simp [a2, a3]⟩) fun i j _ _ h1 h2 e => by
      have a := (hf i (by simpa using h1)).2.2.2
      have b := (hf j (by simpa using h2)).2.2.2
      rw [← a, ← b, e]
  rw [sizeP_below n hdn] at h1
  omega
theorem col_last (hdn : d ≤ n) (hsym : ∀ a b, adj a b = adj b a) (hirr : ∀ a, adj a a = false) {x : Nat} {c : Nat → Nat} (hc : ColP adj n d (delB S x) c) (hlt : sizeP (fun u => delB S x u && adj x u) n < d) : ∃ c, ColP adj n d S c := by
  obtain ⟨k, g1, g2⟩ := free_low (adj := adj) (x := x) (c := c) hdn hlt
  have h3 := col_add hsym hirr hc g1 g2 (by simp [delB])
  have hS : ∀ i, S i = true → addB (delB S x) x i = true := fun i hi => by
    rw [addB_iff, delB_iff]
    by_cases e : i = x
    · exact .inr e
    · exact .inl ⟨hi, e⟩
  exact ⟨_, ⟨fun i hi h => h3.lt i hi (hS i h), fun i j hi hj p1 p2 => h3.ne i j hi hj (hS i p1) (hS j p2)⟩⟩
theorem nbr_le (x : Nat) : sizeP (fun u => delB S x u && adj x u) n ≤ degS adj n S x := sizeP_sub fun i _ h => by
  simp only [Bool.and_eq_true] at h ⊢
  exact ⟨(delB_iff.1 h.1).1, h.2⟩
/-- One colour more than neighbours is enough. -/
theorem col_more (hdn : d + 1 ≤ n) (hsym : ∀ a b, adj a b = adj b a) (hirr : ∀ a, adj a a = false) : ∀ (m : Nat) (S : Nat → Bool), sizeP S n = m → (∀ x, x < n → S x = true → degS adj n S x ≤ d) → ∃ c, ColP adj n (d + 1) S c
  | 0, S, hm, _ => by
    have hno : ∀ i, i < n → S i = true → False := fun i hi h => by have := sizeP_del h hi; omega
    exact ⟨fun _ => 0, ⟨fun i hi h => (hno i hi h).elim, fun i _ hi _ h => (hno i hi h).elim⟩⟩
  | m + 1, S, hm, hdeg => by
    obtain ⟨x, hx, hSx⟩ := sizeP_pos (show 0 < sizeP S n by omega)
    have hdel := sizeP_del hSx hx
    obtain ⟨c, hc⟩ := col_more hdn hsym hirr m (delB S x) (by omega) fun y hy hS => Nat.le_trans (sizeP_sub fun i _ h => by
      simp only [Bool.and_eq_true] at h ⊢
      exact ⟨(delB_iff.1 h.1).1, h.2⟩) (hdeg y hy (delB_iff.1 hS).1)
    have := hdeg x hx hSx
    have := nbr_le (adj := adj) (n := n) (S := S) x
    exact col_last hdn hsym hirr hc (by omega)
theorem lnk_del {x v : Nat} (hvx : v ≠ x) (hv : v < n) (hSv : S v = true) : ∀ {k u : Nat}, u < n → S u = true → lnkS adj n S k v u → (u ≠ x ∧ lnkS adj n (delB S x) k v u) ∨ ∃ k' y, y < n ∧ S y = true ∧ y ≠ x ∧ lnkS adj n (delB S x) k' v y ∧ adj y x = true
  | 0, u, _, _, h => .inl ⟨fun e => hvx (h.trans e), h⟩
  | k + 1, u, hu, hSu, ⟨t, ht, hSt, h1, h2⟩ => by
    rcases lnk_del hvx hv hSv ht hSt h1 with ⟨h3, h4⟩ | h3
    · by_cases hux : u = x
      · exact .inr ⟨k, t, ht, hSt, h3, h4, by rw [← hux]; exact h2⟩
      · exact .inl ⟨hux, t, ht, delB_iff.2 ⟨hSt, h3⟩, h4, h2⟩
    · exact .inr h3
/-- Where each is linked with one that has fewer neighbours. -/
theorem low_col (hdn : d ≤ n) (hsym : ∀ a b, adj a b = adj b a) (hirr : ∀ a, adj a a = false) : ∀ (m : Nat) (S : Nat → Bool), sizeP S n = m → (∀ x, x < n → S x = true → degS adj n S x ≤ d) → (∀ v, v < n → S v = true → ∃ k u, u < n ∧ S u = true ∧ degS adj n S u < d ∧ lnkS adj n S k v u) → ∃ c, ColP adj n d S c
  | 0, S, hm, _, _ => by
    have hno : ∀ i, i < n → S i = true → False := fun i hi h => by have := sizeP_del h hi; omega
    exact ⟨fun _ => 0, ⟨fun i hi h => (hno i hi h).elim, fun i _ hi _ h => (hno i hi h).elim⟩⟩
  | m + 1, S, hm, hdeg, hlow => by
    obtain ⟨v, hv, hSv⟩ := sizeP_pos (show 0 < sizeP S n by omega)
    obtain ⟨_, x, hx, hSx, hdx, _⟩ := hlow v hv hSv
    have hdel := sizeP_del hSx hx
    have hle : ∀ y, degS adj n (delB S x) y ≤ degS adj n S y := fun y => sizeP_sub fun i _ h => by
      simp only [Bool.and_eq_true] at h ⊢
      exact ⟨(delB_iff.1 h.1).1, h.2⟩
    obtain ⟨c, hc⟩ := low_col hdn hsym hirr m (delB S x) (by omega) (fun y hy hS => Nat.le_trans (hle y) (hdeg y hy (delB_iff.1 hS).1)) fun z hz hSz => by
      obtain ⟨h1, h2⟩ := delB_iff.1 hSz
      obtain ⟨k, u, g1, g2, g3, g4⟩ := hlow z hz h1
      rcases lnk_del h2 hz h1 g1 g2 g4 with ⟨h3, h4⟩ | ⟨k', y, q1, q2, q3, q4, q5⟩
      · exact ⟨k, u, g1, delB_iff.2 ⟨g2, h3⟩, Nat.lt_of_le_of_lt (hle u) g3, h4⟩
      · refine ⟨k', y, q1, delB_iff.2 ⟨q2, q3⟩, ?_, q4⟩
        have h5 := sizeP_del (A := fun u => S u && adj y u) (i := x) (by simp [hSx, q5]) hx
        have h6 : degS adj n (delB S x) y ≤ sizeP (delB (fun u => S u && adj y u) x) n := sizeP_sub fun i _ h => by
          simp only [Bool.and_eq_true] at h
          obtain ⟨h7, h8⟩ := delB_iff.1 h.1
          exact delB_iff.2 ⟨by simp [h7, h.2], h8⟩
        have := hdeg y q1 q2
        unfold degS at *
        omega
    have := nbr_le (adj := adj) (n := n) (S := S) x
    exact col_last hdn hsym hirr hc (by omega)
/-- All of all. -/
def allB : Nat → Bool := fun _ => true
/-- What is shut under edges has all, where all are linked. -/
theorem shut_all (hcon : ∀ a b, a < n → b < n → ∃ k, lnkS adj n allB k a b) {T : Nat → Bool} {x : Nat} (hx : x < n) (hTx : T x = true) (hsh : ∀ a b, a < n → b < n → T a = true → adj a b = true → T b = true) : ∀ b, b < n → T b = true := fun b hb => by
  obtain ⟨k, hk⟩ := hcon x b hx hb
  have : ∀ k b, b < n → lnkS adj n allB k x b → T b = true := fun k => by
    induction k with
    | zero => exact fun b _ h => h ▸ hTx
    | succ k ih =>
      rintro b hb ⟨t, h1, _, h2, h3⟩
      exact hsh t b h1 hb (ih t h1 h2) h3
  exact this k b hb hk
theorem sizeP_ltN {A B : Nat → Bool} (h : ∀ i, i < n → A i = true → B i = true) {u : Nat} (hu : u < n) (h1 : A u = false) (h2 : B u = true) : sizeP A n < sizeP B n := by
  have e := sizeP_del h2 hu
  have : sizeP A n ≤ sizeP (delB B u) n := sizeP_sub fun i hi hA => delB_iff.2 ⟨h i hi hA, fun e => by rw [e, h1] at hA; cases hA⟩
  omega
theorem deg_three {x a b c : Nat} (ha : a < n) (hb : b < n) (hc : c < n) (xa : adj x a = true) (xb : adj x b = true) (xc : adj x c = true) (hab : a ≠ b) (hac : a ≠ c) (hbc : b ≠ c) : 3 ≤ degS adj n allB x := by
  have e1 := sizeP_del (A := fun u => allB u && adj x u) (i := a) (by simp [allB, xa]) ha
  have e2 := sizeP_del (A := delB (fun u => allB u && adj x u) a) (i := b) (delB_iff.2 ⟨by simp [allB, xb], Ne.symm hab⟩) hb
  have e3 := sizeP_del (A := delB (delB (fun u => allB u && adj x u) a) b) (i := c) (delB_iff.2 ⟨delB_iff.2 ⟨by simp [allB, xc], Ne.symm hac⟩, Ne.symm hbc⟩) hc
  unfold degS
  omega
/-- BROOKS. -/
theorem brooks_all (hsym : ∀ a b, adj a b = adj b a) (hirr : ∀ a, adj a a = false) (_hn : 0 < n) (hcon : ∀ a b, a < n → b < n → ∃ k, lnkS adj n allB k a b) (hdeg : ∀ x, x < n → degS adj n allB x ≤ d) (hmax : ∃ x, x < n ∧ degS adj n allB x = d)
    (hnc : ∃ a b, a < n ∧ b < n ∧ a ≠ b ∧ adj a b = false) (hnr : ¬ ((∀ x, x < n → degS adj n allB x = 2) ∧ n % 2 = 1)) : ∃ c, ColP adj n d allB c := by
  have hdn : d ≤ n := by
    obtain ⟨x, _, h⟩ := hmax
    rw [← h]; exact sizeP_le _ n
  by_cases hlow : ∃ u, u < n ∧ degS adj n allB u < d
  · obtain ⟨u, hu, hdu⟩ := hlow
    exact low_col hdn hsym hirr _ allB rfl (fun x hx _ => hdeg x hx) fun v hv _ => by
      obtain ⟨k, hk⟩ := hcon v u hv hu
      exact ⟨k, u, hu, rfl, hdu, hk⟩
  have hreg : ∀ x, x < n → degS adj n allB x = d := fun x hx => by
    have h1 := hdeg x hx
    have h2 : ¬ degS adj n allB x < d := fun h => hlow ⟨x, hx, h⟩
    omega
  obtain ⟨a0, b0, ha0, hb0, hab0, hna0⟩ := hnc
  -- where so many nodes have all edges, they are all
  have hclique : ∀ K : Nat → Bool, (∀ i j, i < n → j < n → K i = true → K j = true → i ≠ j → adj i j = true) → sizeP K n ≠ d + 1 := fun K hK hs => by
    obtain ⟨x, hx, hKx⟩ := sizeP_pos (show 0 < sizeP K n by omega)
    have hsh := shut_all hcon hx hKx fun a b ha hb hKa hab => by
      cases hKb : K b with
      | true => rfl
      | false =>
        exfalso
        have h1 := sizeP_del hKa ha
        have h2 : sizeP (delB K a) n < degS adj n allB a := sizeP_ltN (u := b) (fun i hin hi => by
          obtain ⟨h3, h4⟩ := delB_iff.1 hi
          simp [allB, hK a i ha hin hKa h3 (Ne.symm h4)]) hb (by simp [delB, hKb]) (by simp [allB, hab])
        have := hreg a ha
        omega
    rw [hK a0 b0 ha0 hb0 (hsh a0 ha0) (hsh b0 hb0) hab0] at hna0
    cases hna0
  rcases Nat.lt_or_ge 2 d with hd3 | hd3
  · exact brooks hdn hd3 hsym hirr _ allB rfl (fun x hx _ => hdeg x hx) fun K _ h2 => hclique K h2
  have hno : ∀ x y, x < n → y < n → adj x y = true → 0 < d := fun x y hx hy h => by
    have := sizeP_del (A := fun u => allB u && adj x u) (i := y) (by simp [allB, h]) hy
    have h2 := hreg x hx
    unfold degS at h2
    omega
  rcases (show d = 0 ∨ d = 1 ∨ d = 2 by omega) with h0 | h1 | h2
  · exfalso
    have := shut_all hcon (T := fun i => decide (i = a0)) ha0 (by simp) (fun a b ha hb _ h => by have := hno a b ha hb h; omega) b0 hb0
    simp at this
    exact hab0 this.symm
  · exfalso
    have hone : ∀ x y z, x < n → y < n → z < n → adj x y = true → adj x z = true → y = z := fun x y z hx hy hz h3 h4 => by
      apply Classical.byContradiction
      intro hne
      have e1 := sizeP_del (A := fun u => allB u && adj x u) (i := y) (by simp [allB, h3]) hy
      have e2 := sizeP_del (A := delB (fun u => allB u && adj x u) y) (i := z) (delB_iff.2 ⟨by simp [allB, h4], Ne.symm hne⟩) hz
      have h5 := hreg x hx
      unfold degS at h5
      omega
    obtain ⟨y, hy, hyb⟩ := sizeP_pos (show 0 < sizeP (fun u => allB u && adj a0 u) n by have := hreg a0 ha0; unfold degS at this; omega)
    have hya : adj a0 y = true := by simp only [Bool.and_eq_true] at hyb; exact hyb.2
    have := shut_all hcon (T := fun i => decide (i = a0) || decide (i = y)) ha0 (by simp) (fun a b ha hb hT h => by
      simp only [Bool.or_eq_true, decide_eq_true_eq] at hT ⊢
      rcases hT with hT | hT
      · rw [hT] at h; exact .inr (hone a0 b y ha0 hb hy h hya)
      · rw [hT] at h; exact .inl (hone y b a0 hy hb ha0 h (by rw [hsym]; exact hya))) b0 hb0
    simp only [Bool.or_eq_true, decide_eq_true_eq] at this
    rcases this with h | h
    · exact hab0 h.symm
    · rw [h, hya] at hna0; cases hna0
  · subst h2
    -- a ring
    have hn2 : n % 2 = 0 := by
      have : ¬ n % 2 = 1 := fun h => hnr ⟨hreg, h⟩
      omega
    have hthree : ∀ x a b c, x < n → a < n → b < n → c < n → adj x a = true → adj x b = true → adj x c = true → a ≠ b → a ≠ c → b ≠ c → False := fun x a b c hx ha hb hc xa xb xc h1 h2 h3 => by
      have := deg_three ha hb hc xa xb xc h1 h2 h3
      have := hreg x hx
      omega
    have H1 : RowP adj n allB 1 (fun _ => a0) := ⟨fun _ _ => ⟨ha0, rfl⟩, fun t ht => by omega, fun a b ha hb _ => by omega⟩
    obtain ⟨r, p, hr1, HR, _, hmax⟩ := row_max n 1 _ (by omega) (by omega) H1
    have hpn : ∀ t, t < r → p t < n := fun t ht => (HR.in_ t ht).1
    have hpne : ∀ a b, a < r → b < r → a ≠ b → p a ≠ p b := fun a b ha hb hab e => hab (HR.one a b ha hb e)
    -- the last one's neighbours
    have hlastdeg := hreg (p (r - 1)) (hpn _ (by omega))
    obtain ⟨j, hj, hja⟩ : ∃ j, j + 2 < r ∧ adj (p (r - 1)) (p j) = true := by
      obtain ⟨z, hz, hzb, hzne⟩ := sizeP_two (A := fun u => allB u && adj (p (r - 1)) u) (n := n) (t := p (r - 2)) (by unfold degS at hlastdeg; omega)
      have hza : adj (p (r - 1)) z = true := by simp only [Bool.and_eq_true] at hzb; exact hzb.2
      obtain ⟨t, ht, e⟩ := hmax z hz rfl hza
      refine ⟨t, ?_, by rw [e]; exact hza⟩
      apply Nat.lt_of_not_le
      intro hge
      rcases (show t = r - 1 ∨ t = r - 2 by omega) with h | h
      · rw [← e, h, hirr] at hza; cases hza
      · exact hzne (by rw [← e, h])
    have hj0 : j = 0 := by
      apply Classical.byContradiction
      intro hne
      have e1 := HR.adj_ (j - 1) (by omega)
      rw [show j - 1 + 1 = j by omega, hsym] at e1
      exact hthree (p j) (p (j - 1)) (p (j + 1)) (p (r - 1)) (hpn _ (by omega)) (hpn _ (by omega)) (hpn _ (by omega)) (hpn _ (by omega)) e1 (HR.adj_ j (by omega)) (by rw [hsym]; exact hja) (hpne _ _ (by omega) (by omega) (by omega)) (hpne _ _ (by omega) (by omega) (by omega)) (hpne _ _ (by omega) (by omega) (by omega))
    subst hj0
    -- the one ahead and the one behind
    have hprev : ∀ t, t < r → adj (p t) (p (if t = 0 then r - 1 else t - 1)) = true := fun t ht => by
      by_cases h : t = 0
      · rw [if_pos h, h, hsym]; exact hja
      · rw [if_neg h, hsym]
        have := HR.adj_ (t - 1) (by omega)
        rwa [show t - 1 + 1 = t by omega] at this
    have hnext : ∀ t, t < r → adj (p t) (p (if t = r - 1 then 0 else t + 1)) = true := fun t ht => by
      by_cases h : t = r - 1
      · rw [if_pos h, h]; exact hja
      · rw [if_neg h]; exact HR.adj_ t (by omega)
    have honly : ∀ t z, t < r → z < n → adj (p t) z = true → z = p (if t = 0 then r - 1 else t - 1) ∨ z = p (if t = r - 1 then 0 else t + 1) := fun t z ht hz ha => by
      apply Classical.byContradiction
      intro hne
      have i1 : (if t = 0 then r - 1 else t - 1) < r := by split <;> omega
      have i2 : (if t = r - 1 then 0 else t + 1) < r := by split <;> omega
      exact hthree (p t) _ _ z (hpn _ ht) (hpn _ i1) (hpn _ i2) hz (hprev t ht) (hnext t ht) ha (hpne _ _ i1 i2 (by split <;> split <;> omega)) (fun e => hne (.inl e.symm)) fun e => hne (.inr e.symm)
    have hshut := shut_all hcon (T := fun i => (List.range r).any fun t => decide (i = p t)) (hpn 0 (by omega)) (List.any_eq_true.2 ⟨0, List.mem_range.2 (by omega), by simp⟩) fun a b ha hb hT hab => by
      rw [List.any_eq_true] at hT ⊢
      obtain ⟨t, ht, e⟩ := hT
      have ht := List.mem_range.1 ht
      have e : a = p t := by simpa using e
      rw [e] at hab
      rcases honly t b ht hb hab with h | h
      · have i1 : (if t = 0 then r - 1 else t - 1) < r := by split <;> omega
        exact ⟨_, List.mem_range.2 i1, by simpa using h⟩
      · have i2 : (if t = r - 1 then 0 else t + 1) < r := by split <;> omega
        exact ⟨_, List.mem_range.2 i2, by simpa using h⟩
    have hidx : ∀ i, ∃ t, i < n → t < r ∧ i = p t := fun i => by
      by_cases hi : i < n
      · obtain ⟨t, ht, e⟩ := List.any_eq_true.1 (hshut i hi)
        exact ⟨t, fun _ => ⟨List.mem_range.1 ht, by simpa using e⟩⟩
      · exact ⟨0, fun h => absurd h hi⟩
    obtain ⟨ix, hix⟩ := Classical.axiomOfChoice hidx
    have hrn : r = n := by
      have h1 := HR.le
      have h2 := sizeP_inj (n := n) _ (A := allB) (B := fun t => decide (t < r)) (m := ix) rfl (fun i hi _ => ⟨by have := (hix i hi).1; omega, by simpa using (hix i hi).1⟩) fun i k hi hk _ _ e => by rw [(hix i hi).2, (hix k hk).2, e]
      rw [sizeP_below n h1] at h2
      have h3 : sizeP (fun _ : Nat => false) n + sizeP (fun _ : Nat => true) n = n := sizeP_not (fun _ : Nat => true) n
      have h4 : sizeP (fun _ : Nat => false) n = 0 := sizeP_none fun _ _ => rfl
      have h5 : sizeP allB n = sizeP (fun _ : Nat => true) n := rfl
      omega
    refine ⟨fun i => ix i % 2, ⟨fun i _ _ => Nat.mod_lt _ (by omega), fun i k hi hk _ _ ha => ?_⟩⟩
    obtain ⟨a1, a2⟩ := hix i hi
    obtain ⟨b1, b2⟩ := hix k hk
    rw [a2] at ha
    have := honly (ix i) k a1 hk ha
    rw [b2] at this
    rcases this with h | h
    · have := HR.one _ _ b1 (by split <;> omega) h
      show ix i % 2 ≠ ix k % 2
      split at this <;> omega
    · have := HR.one _ _ b1 (by split <;> omega) h
      show ix i % 2 ≠ ix k % 2
      split at this <;> omega
/-- Where each two have an edge as many colours are wanted as there are nodes. -/
theorem clique_col (hall : ∀ a b, a < n → b < n → a ≠ b → adj a b = true) {c : Nat → Nat} (H : ColP adj n d allB c) : n ≤ d := by
  rcases Nat.lt_or_ge d n with h | h
  · have h1 := sizeP_inj (n := n) _ (A := allB) (B := fun t => decide (t < d)) (m := c) rfl (fun i hi _ => ⟨by have := H.lt i hi rfl; omega, by simpa using H.lt i hi rfl⟩) fun i j hi hj _ _ e => Classical.byContradiction fun hne => H.ne i j hi hj rfl rfl (hall i j hi hj hne) e
    rw [sizeP_below n (by omega)] at h1
    have h3 : sizeP (fun _ : Nat => false) n + sizeP (fun _ : Nat => true) n = n := sizeP_not (fun _ : Nat => true) n
    have h4 : sizeP (fun _ : Nat => false) n = 0 := sizeP_none fun _ _ => rfl
    have h5 : sizeP allB n = sizeP (fun _ : Nat => true) n := rfl
    omega
  · exact h
/-- Where each has two neighbours, and they are odd in number, two colours are not enough. -/
theorem odd_ring (hsym : ∀ a b, adj a b = adj b a) (hreg : ∀ x, x < n → degS adj n allB x = 2) (hodd : n % 2 = 1) {c : Nat → Nat} (H : ColP adj n 2 allB c) : False := by
  have hdeg : ∀ x, x < n → sizeP (fun u => adj x u) n = 2 := fun x hx => by
    have h1 : degS adj n allB x = sizeP (fun u => adj x u) n := sizeP_congr n fun i _ => by simp [allB]
    have := hreg x hx
    omega
  -- the edges, counted from either colour
  have hcnt : ∀ k, k < 2 → sumTo (fun x => if c x = k then sizeP (fun u => adj x u) n else 0) n = 2 * sizeP (fun x => decide (c x = k)) n := fun k _ => by
    have : ∀ m, m ≤ n → sumTo (fun x => if c x = k then sizeP (fun u => adj x u) n else 0) m = 2 * sizeP (fun x => decide (c x = k)) m := fun m => by
      induction m with
      | zero => intro _; rfl
      | succ m ih =>
        intro hm
        simp only [sumTo]
        rw [ih (by omega), sizeP_succ]
        by_cases h : c m = k
        · rw [if_pos h, if_pos (by simpa using h), hdeg m (by omega)]; omega
        · rw [if_neg h, if_neg (by simpa using h)]; omega
    exact this n (Nat.le_refl n)
  have hswap : ∀ (F : Nat → Nat → Nat) (a b : Nat), sumTo (fun x => sumTo (fun y => F x y) b) a = sumTo (fun y => sumTo (fun x => F x y) a) b := fun F a b => by
    induction a with
    | zero => exact (sumTo_zero b fun _ _ => rfl).symm
    | succ a ih =>
      simp only [sumTo]
      rw [ih, ← sumTo_add]
  have e0 : sumTo (fun x => if c x = 0 then sizeP (fun u => adj x u) n else 0) n = sumTo (fun x => sumTo (fun y => if c x = 0 ∧ adj x y = true then 1 else 0) n) n := sumTo_congr n fun x _ => by
    by_cases h : c x = 0
    · rw [if_pos h]
      exact sumTo_congr n fun y _ => by simp [h]
    · rw [if_neg h]
      exact (sumTo_zero n fun y _ => if_neg fun h2 => h h2.1).symm
  have e1 : sumTo (fun x => if c x = 1 then sizeP (fun u => adj x u) n else 0) n = sumTo (fun x => sumTo (fun y => if c x = 1 ∧ adj x y = true then 1 else 0) n) n := sumTo_congr n fun x _ => by
    by_cases h : c x = 1
    · rw [if_pos h]
      exact sumTo_congr n fun y _ => by simp [h]
    · rw [if_neg h]
      exact (sumTo_zero n fun y _ => if_neg fun h2 => h h2.1).symm
  have e2 : sumTo (fun x => sumTo (fun y => if c x = 0 ∧ adj x y = true then 1 else 0) n) n = sumTo (fun x => sumTo (fun y => if c x = 1 ∧ adj x y = true then 1 else 0) n) n := by
    rw [hswap (fun x y => if c x = 0 ∧ adj x y = true then 1 else 0) n n]
    refine sumTo_congr n fun y hy => sumTo_congr n fun x hx => ?_
    by_cases ha : adj x y = true
    · have hne := H.ne x y hx hy rfl rfl ha
      have h1 := H.lt x hx rfl
      have h2 := H.lt y hy rfl
      have ha' : adj y x = true := by rw [hsym]; exact ha
      by_cases h3 : c x = 0
      · rw [if_pos ⟨h3, ha⟩, if_pos ⟨by omega, ha'⟩]
      · rw [if_neg (fun h => h3 h.1), if_neg (fun h => by omega)]
    · rw [if_neg (fun h => ha h.2), if_neg (fun h => ha (by rw [hsym]; exact h.2))]
  have h0 := hcnt 0 (by omega)
  have h1 := hcnt 1 (by omega)
  have hp : sizeP (fun t => !decide (c t = 0)) n + sizeP (fun x => decide (c x = 0)) n = n := sizeP_not (fun x => decide (c x = 0)) n
  have e3 : sizeP (fun t => !decide (c t = 0)) n = sizeP (fun x => decide (c x = 1)) n := sizeP_congr n fun x hx => by
    have := H.lt x hx rfl
    show (!decide (c x = 0)) = decide (c x = 1)
    rcases (show c x = 0 ∨ c x = 1 by omega) with h | h <;> simp [h]
  omega
end
end Go.Proofs.Yticickicfigpbaa

namespace Go.Proofs.Yticickicfigpbaa

section
variable {m : Nat} {es : List E3}
theorem take_good {n : Int} (hg : goodE n es) (k : Nat) : goodE n (es.take k) := fun t e he => by
  rw [List.getElem?_take] at he
  split at he
  · rename_i h
    have := hg t e he
    rwa [List.take_take, Nat.min_eq_left (by omega)]
  · cases he
theorem adj_next {k : Nat} {e : E3} (he : es[k]? = some e) (i j : Nat) : adjE (es.take (k + 1)) i j = (adjE (es.take k) i j || ((e.1 == (i : Int) && e.2.1 == (j : Int)) || (e.1 == (j : Int) && e.2.1 == (i : Int)))) := by
  obtain ⟨hk, rfl⟩ := List.getElem?_eq_some_iff.1 he
  unfold adjE
  rw [← List.take_append_getElem hk, List.any_append]
  simp
theorem deg_adj (hg : goodE m es) {i : Nat} : ∀ k, k ≤ es.length → degN (es.take k) i ≤ sizeP (adjE (es.take k) i) m
  | 0, _ => by rw [List.take_zero]; exact Nat.zero_le _
  | k + 1, hk => by
    have ih := deg_adj hg (i := i) k (by omega)
    have he : es[k]? = some es[k] := List.getElem?_eq_getElem (by omega)
    generalize es[k] = e at he
    obtain ⟨p0, p1, p2, p3, p4, p5⟩ := edge_ok (hg k e he)
    rw [degN_next es k e i he]
    have hup : ∀ j, adjE (es.take k) i j = true → adjE (es.take (k + 1)) i j = true := fun j h => by rw [adj_next he, h]; rfl
    by_cases ht : touchB i e = true
    · rw [if_pos ht]
      obtain ⟨x, hx⟩ := Int.eq_ofNat_of_zero_le p0
      obtain ⟨y, hy⟩ := Int.eq_ofNat_of_zero_le p2
      obtain ⟨a, b, c⟩ := e
      simp only at hx hy p1 p3 p4
      subst hx hy
      have hno : ∀ u v : Nat, ((x = u ∧ y = v) ∨ (x = v ∧ y = u)) → adjE (es.take k) u v = false := fun u v h => by
        rw [← Bool.not_eq_true]
        intro hh
        unfold adjE at hh
        obtain ⟨f, hf, hq⟩ := List.any_eq_true.1 hh
        have hm : metB (es.take k) ((x : Int), (y : Int), c) = true := by
          unfold metB
          rw [List.any_eq_true]
          refine ⟨f, hf, ?_⟩
          unfold sameB
          simp only [Bool.or_eq_true, Bool.and_eq_true, beq_iff_eq] at hq ⊢
          omega
        rw [hm] at p5; cases p5
      have hyes : ∀ u v : Nat, ((x = u ∧ y = v) ∨ (x = v ∧ y = u)) → adjE (es.take (k + 1)) u v = true := fun u v h => by
        rw [adj_next he, Bool.or_eq_true]
        refine .inr ?_
        simp only [Bool.or_eq_true, Bool.and_eq_true, beq_iff_eq]
        omega
      unfold touchB at ht
      simp only [Bool.or_eq_true, beq_iff_eq] at ht
      have hlt : sizeP (adjE (es.take k) i) m < sizeP (adjE (es.take (k + 1)) i) m := by
        rcases ht with h | h
        · exact sizeP_lt hup (u := y) (by omega) (hno i y (.inl ⟨by omega, rfl⟩)) (hyes i y (.inl ⟨by omega, rfl⟩))
        · exact sizeP_lt hup (u := x) (by omega) (hno i x (.inr ⟨rfl, by omega⟩)) (hyes i x (.inr ⟨rfl, by omega⟩))
      omega
    · rw [if_neg ht]
      have := sizeP_sub (n := m) fun j _ h => hup j h
      omega
theorem deg_eq (hg : goodE m es) (i : Nat) : sizeP (adjE es i) m = degN es i := by
  apply Nat.le_antisymm (adj_deg m i es)
  have h := deg_adj hg (i := i) es.length (Nat.le_refl _)
  rwa [List.take_length] at h
theorem degs_eq (hg : goodE m es) (i : Nat) : degS (adjE es) m allB i = degN es i := by
  rw [← deg_eq hg]
  exact sizeP_congr m fun j _ => by simp [allB]
theorem sum_degN (hg : goodE m es) : ∀ k, k ≤ es.length → sumTo (fun i => degN (es.take k) i) m = 2 * k
  | 0, _ => sumTo_zero m fun i _ => by rw [List.take_zero]; rfl
  | k + 1, hk => by
    have ih := sum_degN hg k (by omega)
    have he : es[k]? = some es[k] := List.getElem?_eq_getElem (by omega)
    generalize es[k] = e at he
    obtain ⟨p0, p1, p2, p3, p4, p5⟩ := edge_ok (hg k e he)
    rw [sumTo_congr (g := fun i => degN (es.take k) i + (if touchB i e = true then 1 else 0)) m (fun i _ => degN_next es k e i he), sumTo_add, ih]
    have h2 : sizeP (fun i : Nat => touchB i e) m = 2 := by
      obtain ⟨x, hx⟩ := Int.eq_ofNat_of_zero_le p0
      obtain ⟨y, hy⟩ := Int.eq_ofNat_of_zero_le p2
      rw [sizeP_del (i := x) (by simp [touchB, hx]) (by omega), sizeP_del (i := y) (delB_iff.2 ⟨by simp [touchB, hy], by omega⟩) (by omega), sizeP_none]
      intro i _
      rw [← Bool.not_eq_true]
      intro hh
      obtain ⟨h1, h3⟩ := delB_iff.1 hh
      obtain ⟨h1, h4⟩ := delB_iff.1 h1
      unfold touchB at h1
      simp only [Bool.or_eq_true, beq_iff_eq] at h1
      omega
    have h3 : sumTo (fun i : Nat => if touchB i e = true then 1 else 0) m = 2 := h2
    omega
theorem deg_less (hg : goodE m es) {i : Nat} (hi : i < m) : degN es i ≤ m - 1 := by
  rw [← deg_eq hg]
  have h := sizeP_lt (A := adjE es i) (B := fun _ => true) (n := m) (fun _ _ => rfl) hi (by
    cases h : adjE es i i with
    | false => rfl
    | true => exact absurd rfl (adjE_lt hg h).2.2) rfl
  have := sizeP_le (fun _ => true) m
  omega
theorem sum_const (c : Nat) : ∀ n, sumTo (fun _ => c) n = n * c
  | 0 => by simp [sumTo]
  | n + 1 => by rw [sumTo, sum_const c n, Nat.succ_mul]
theorem half_all (m : Nat) : 2 * (m * (m - 1) / 2) = m * (m - 1) := by
  rcases Nat.mod_two_eq_zero_or_one m with h | h
  · obtain ⟨q, rfl⟩ : ∃ q, m = 2 * q := ⟨m / 2, by omega⟩
    rw [Nat.mul_assoc, Nat.mul_div_cancel_left _ (by omega)]
  · obtain ⟨q, rfl⟩ : ∃ q, m = 2 * q + 1 := ⟨m / 2, by omega⟩
    rw [show 2 * q + 1 - 1 = q * 2 by omega, ← Nat.mul_assoc, Nat.mul_div_cancel _ (by omega)]
    rw [Nat.mul_comm]
/-- Each two have an edge just if there are that many. -/
theorem full_iff (hg : goodE m es) : es.length = m * (m - 1) / 2 ↔ ∀ a b, a < m → b < m → a ≠ b → adjE es a b = true := by
  have hs := sum_degN hg es.length (Nat.le_refl _)
  rw [List.take_length] at hs
  have hh := half_all m
  constructor
  · intro h a b ha hb hab
    apply Classical.byContradiction
    intro hno
    have h1 : sizeP (delB (adjE es a) b) m < m - 1 := by
      have e1 := sizeP_del (A := fun _ => true) (i := a) (n := m) rfl ha
      have e2 := sizeP_del (A := delB (fun _ => true) a) (i := b) (n := m) (delB_iff.2 ⟨rfl, Ne.symm hab⟩) hb
      have e3 := sizeP_le (fun _ => true) m
      have e4 : sizeP (delB (adjE es a) b) m ≤ sizeP (delB (delB (fun _ => true) a) b) m := sizeP_sub fun j _ hj => by
        obtain ⟨q1, q2⟩ := delB_iff.1 hj
        exact delB_iff.2 ⟨delB_iff.2 ⟨rfl, fun e => (adjE_lt hg q1).2.2 e.symm⟩, q2⟩
      omega
    have h2 : degN es a < m - 1 := by
      rw [← deg_eq hg]
      refine Nat.lt_of_le_of_lt (sizeP_sub fun j _ hj => ?_) h1
      exact delB_iff.2 ⟨hj, fun e => hno (e ▸ hj)⟩
    have h3 := sumTo_one (f := fun i => if i < m then degN es i else 0) (g := fun _ => m - 1) (i := a) (fun j _ => by
      show (if j < m then degN es j else 0) ≤ m - 1
      split
      · rename_i h; exact deg_less hg h
      · exact Nat.zero_le _) (by rw [if_pos ha]; exact h2) m ha
    rw [sum_const, sumTo_congr (g := fun i => degN es i) m (fun j hj => if_pos hj), hs] at h3
    omega
  · intro h
    have h1 : sumTo (fun i => degN es i) m = sumTo (fun _ => m - 1) m := sumTo_congr m fun i hi => by
      rw [← deg_eq hg]
      have e1 := sizeP_del (A := fun _ => true) (i := i) (n := m) rfl hi
      have e2 : sizeP (fun _ => true) m = m := by have := sizeP_not (fun _ => false) m; have e := sizeP_none (A := fun _ => false) (n := m) fun _ _ => rfl; simp at this; omega
      have e3 : sizeP (adjE es i) m = sizeP (delB (fun _ => true) i) m := sizeP_congr m fun j hj => by
        by_cases hji : j = i
        · subst hji
          rw [show delB (fun _ => true) j j = false by simp [delB]]
          cases hq : adjE es j j with
          | false => rfl
          | true => exact absurd rfl (adjE_lt hg hq).2.2
        · rw [h i j hi hj (Ne.symm hji), delB_iff.2 ⟨rfl, hji⟩]
      omega
    rw [sum_const, hs] at h1
    omega
end
end Go.Proofs.Yticickicfigpbaa

namespace Go.Proofs.Yticickicfigpbaa

/-- A walk of k steps: where it is, and what each step costs. -/
def WalkC (A : Nat → Nat → Int → Prop) (k : Nat) (p : Nat → Nat) (c : Nat → Int) : Prop := ∀ t, t < k → A (p t) (p (t + 1)) (c t)
/-- No closed walk costs less than nothing. -/
def NoNeg (A : Nat → Nat → Int → Prop) : Prop := ∀ k p c, WalkC A k p c → p 0 = p k → 0 ≤ sumI c k
section
variable {A : Nat → Nat → Int → Prop} {n : Nat}
/-- Of more places than there are nodes two are at one. -/
theorem pigeon {k : Nat} {p : Nat → Nat} (hp : ∀ t, t ≤ k → p t < n) (hk : n ≤ k) : ∃ a b, a < b ∧ b ≤ k ∧ p a = p b := by
  apply Classical.byContradiction
  intro hno
  have hinj : ∀ i j, i ≤ k → j ≤ k → p i = p j → i = j := fun i j hi hj e => by
    rcases Nat.lt_trichotomy i j with h | h | h
    · exact absurd ⟨i, j, h, hj, e⟩ hno
    · exact h
    · exact absurd ⟨j, i, h, hi, e.symm⟩ hno
  have h1 := sizeP_inj (n := n + 1) _ (A := fun _ => true) (B := fun x => decide (x < n)) (m := p) rfl (fun i hi _ => ⟨by have := hp i (by omega); omega, by simpa using hp i (by omega)⟩) fun i j hi hj _ _ e => hinj i j (by omega) (by omega) e
  have h2 : sizeP (fun _ : Nat => true) (n + 1) = n + 1 := by
    have h : sizeP (fun _ : Nat => false) (n + 1) + sizeP (fun _ : Nat => true) (n + 1) = n + 1 := sizeP_not (fun _ : Nat => true) (n + 1)
    have e : sizeP (fun _ : Nat => false) (n + 1) = 0 := sizeP_none fun _ _ => rfl
    omega
  have h3 : sizeP (fun x => decide (x < n)) (n + 1) ≤ n := by
    rw [sizeP_succ, if_neg (by simp)]
    exact sizeP_le _ n
  omega
theorem sumI_shift (c : Nat → Int) (a : Nat) : ∀ b, sumI c (a + b) = sumI c a + sumI (fun t => c (a + t)) b
  | 0 => by simp [sumI]
  | b + 1 => by
    have := sumI_shift c a b
    show sumI c (a + b) + c (a + b) = _ + (sumI (fun t => c (a + t)) b + c (a + b))
    omega
theorem WalkC.part {k a b : Nat} {p : Nat → Nat} {c : Nat → Int} (h : WalkC A k p c) (hab : a + b ≤ k) : WalkC A b (fun t => p (a + t)) (fun t => c (a + t)) := fun t ht => by
  have := h (a + t) (by omega)
  exact this
/-- Without what comes round. -/
theorem WalkC.cut {k a d : Nat} {p : Nat → Nat} {c : Nat → Int} (h : WalkC A k p c) (hd : a + d ≤ k) (he : p a = p (a + d)) :
    WalkC A (k - d) (fun t => if t ≤ a then p t else p (t + d)) (fun t => if t < a then c t else c (t + d)) ∧ sumI c k = sumI (fun t => if t < a then c t else c (t + d)) (k - d) + sumI (fun t => c (a + t)) d := by
  refine ⟨fun t ht => ?_, ?_⟩
  · rcases Nat.lt_trichotomy t a with h1 | h1 | h1
    · simp only [if_pos (show t ≤ a by omega), if_pos (show t + 1 ≤ a by omega), if_pos h1]
      exact h t (by omega)
    · subst h1
      simp only [if_pos (Nat.le_refl t), if_neg (show ¬ t + 1 ≤ t by omega), if_neg (Nat.lt_irrefl t)]
      rw [he, show t + 1 + d = t + d + 1 by omega]
      exact h (t + d) (by omega)
    · simp only [if_neg (show ¬ t ≤ a by omega), if_neg (show ¬ t + 1 ≤ a by omega), if_neg (show ¬ t < a by omega)]
      rw [show t + 1 + d = t + d + 1 by omega]
      exact h (t + d) (by omega)
  · obtain ⟨r, hr⟩ : ∃ r, k = a + d + r := ⟨k - (a + d), by omega⟩
    subst hr
    rw [show a + d + r - d = a + r by omega, sumI_shift c (a + d) r, sumI_shift c a d, sumI_shift (fun t => if t < a then c t else c (t + d)) a r]
    have e1 : sumI (fun t => if t < a then c t else c (t + d)) a = sumI c a := sumI_congr a fun t ht => if_pos ht
    have e2 : sumI (fun t => if a + t < a then c (a + t) else c (a + t + d)) r = sumI (fun t => c (a + d + t)) r := sumI_congr r fun t _ => by
      rw [if_neg (show ¬ a + t < a by omega), show a + t + d = a + d + t by omega]
    omega
/-- Where nothing costs less than nothing when it comes round, short walks are no dearer than long ones. -/
theorem short_walk (hA : ∀ i j c, A i j c → i < n ∧ j < n) (hN : NoNeg A) : ∀ (k : Nat) (p : Nat → Nat) (c : Nat → Int), WalkC A k p c → 1 ≤ n → ∃ k' p' c', k' < n ∧ WalkC A k' p' c' ∧ p' 0 = p 0 ∧ p' k' = p k ∧ sumI c' k' ≤ sumI c k
  | k, p, c, h, hn => by
    rcases Nat.lt_or_ge k n with hk | hk
    · exact ⟨k, p, c, hk, h, rfl, rfl, Int.le_refl _⟩
    · have hp : ∀ t, t ≤ k → p t < n := fun t ht => by
        rcases Nat.lt_or_ge t k with h1 | h1
        · exact (hA _ _ _ (h t h1)).1
        · obtain rfl : t = k := by omega
          have := (hA _ _ _ (h (t - 1) (by omega))).2
          rwa [show t - 1 + 1 = t by omega] at this
      obtain ⟨a, b, hab, hbk, he⟩ := pigeon hp hk
      obtain ⟨d, rfl⟩ : ∃ d, b = a + d := ⟨b - a, by omega⟩
      obtain ⟨h1, h2⟩ := h.cut hbk he
      have h3 := hN d _ _ (h.part (a := a) (b := d) (by omega)) (by simpa using he)
      obtain ⟨k', p', c', g1, g2, g3, g4, g5⟩ := short_walk hA hN (k - d) _ _ h1 hn
      refine ⟨k', p', c', g1, g2, ?_, ?_, by omega⟩
      · rw [g3]; simp
      · rw [g4]
        show (if k - d ≤ a then p (k - d) else p (k - d + d)) = p k
        rcases Nat.lt_or_ge a (k - d) with h4 | h4
        · rw [if_neg (by omega), show k - d + d = k by omega]
        · have e1 : k - d = a := by omega
          have e2 : a + d = k := by omega
          rw [if_pos (by omega), e1, he, e2]
  termination_by k => k
  decreasing_by omega
theorem int_least {P : Int → Prop} {B : Int} (hb : ∀ z, P z → B ≤ z) {z : Int} (hz : P z) : ∃ m, P m ∧ ∀ z, P z → m ≤ z := by
  have : ∀ (c : Nat) (z : Int), P z → z ≤ B + c → ∃ m, P m ∧ ∀ z, P z → m ≤ z := fun c => by
    induction c with
    | zero => exact fun z hz h => ⟨z, hz, fun y hy => by have := hb y hy; omega⟩
    | succ c ih =>
      intro z hz h
      by_cases h2 : ∃ y, P y ∧ y ≤ B + c
      · obtain ⟨y, h3, h4⟩ := h2
        exact ih y h3 h4
      · exact ⟨z, hz, fun y hy => by
          have : ¬ y ≤ B + c := fun h5 => h2 ⟨y, hy, h5⟩
          omega⟩
  exact this (z - B).toNat z hz (by have := hb z hz; omega)
/-- BELLMAN: there are heights. -/
theorem heights (hA : ∀ i j c, A i j c → i < n ∧ j < n) {M : Int} (hM : ∀ i j c, A i j c → -M ≤ c) (hM0 : 0 ≤ M) (hN : NoNeg A) : ∃ π : Nat → Int, ∀ i j c, A i j c → π j ≤ π i + c := by
  rcases Nat.eq_zero_or_pos n with h0 | h0
  · exact ⟨fun _ => 0, fun i j c h => by have := hA i j c h; omega⟩
  -- what walks cost that end at a node
  have hlow : ∀ (k : Nat) (c : Nat → Int), (∀ t, t < k → -M ≤ c t) → -(M * k) ≤ sumI c k := fun k c h => by
    induction k with
    | zero => simp [sumI]
    | succ k ih =>
      have h1 := ih fun t ht => h t (by omega)
      have h2 := h k (by omega)
      have : M * ((k + 1 : Nat) : Int) = M * (k : Int) + M := by rw [Int.natCast_succ, Int.mul_add, Int.mul_one]
      show _ ≤ sumI c k + c k
      omega
  have hbd : ∀ j z, (∃ k p c, WalkC A k p c ∧ p k = j ∧ sumI c k = z) → -(M * n) ≤ z := fun j z ⟨k, p, c, h1, h2, h3⟩ => by
    obtain ⟨k', p', c', g1, g2, _, _, g5⟩ := short_walk hA hN k p c h1 h0
    have h4 := hlow k' c' fun t ht => hM _ _ _ (g2 t ht)
    have h5 : M * (k' : Int) ≤ M * (n : Int) := Int.mul_le_mul_of_nonneg_left (by omega) hM0
    omega
  have hex : ∀ j, ∃ m, (∃ k p c, WalkC A k p c ∧ p k = j ∧ sumI c k = m) ∧ ∀ z, (∃ k p c, WalkC A k p c ∧ p k = j ∧ sumI c k = z) → m ≤ z := fun j =>
    int_least (B := -(M * n)) (hbd j) (z := 0) ⟨0, fun _ => j, fun _ => 0, fun t ht => by omega, rfl, rfl⟩
  obtain ⟨π, hπ⟩ := Classical.axiomOfChoice hex
  refine ⟨π, fun i j c h => ?_⟩
  obtain ⟨k, p, cs, h1, h2, h3⟩ := (hπ i).1
  refine (hπ j).2 _ ⟨k + 1, fun t => if t ≤ k then p t else j, fun t => if t < k then cs t else c, fun t ht => ?_, if_neg (by omega), ?_⟩
  · rcases Nat.lt_or_ge t k with h4 | h4
    · simp only [if_pos (show t ≤ k by omega), if_pos (show t + 1 ≤ k by omega), if_pos h4]
      exact h1 t h4
    · obtain rfl : t = k := by omega
      simp only [if_pos (Nat.le_refl t), if_neg (show ¬ t + 1 ≤ t by omega), if_neg (Nat.lt_irrefl t)]
      rw [h2]; exact h
  · show sumI (fun t => if t < k then cs t else c) k + (if k < k then cs k else c) = _
    rw [if_neg (Nat.lt_irrefl k), sumI_congr k (g := cs) fun t ht => if_pos ht, h3]
/-- And where there are heights nothing costs less than nothing when it comes round. -/
theorem noNeg_of {π : Nat → Int} (h : ∀ i j c, A i j c → π j ≤ π i + c) : NoNeg A := fun k p c hw he => by
  have : ∀ t, t ≤ k → π (p t) ≤ π (p 0) + sumI c t := fun t ht => by
    induction t with
    | zero => simp [sumI]
    | succ t ih =>
      have h1 := ih (by omega)
      have h2 := h _ _ _ (hw t (by omega))
      show _ ≤ _ + (sumI c t + c t)
      omega
  have h1 := this k (Nat.le_refl _)
  rw [← he] at h1
  omega
end

/-! ### What goes, and what it costs -/
def costP (N : NetP) (fee f : Nat → Int) : Int := sumI (fun k => f k * fee k) N.K
/-- A step, and what it costs: along an arc that has room, or back along one on which some goes. -/
def StepC (N : NetP) (fee f : Nat → Int) (i j : Nat) (c : Int) : Prop := ∃ k, k < N.K ∧ ((N.fr k = i ∧ N.to k = j ∧ f k < N.mo k ∧ c = fee k) ∨ (N.to k = i ∧ N.fr k = j ∧ 0 < f k ∧ c = -fee k))
/-- Heights that fit. -/
def PotP (N : NetP) (fee f : Nat → Int) (π : Nat → Int) : Prop := ∀ k, k < N.K → (f k < N.mo k → π (N.to k) ≤ π (N.fr k) + fee k) ∧ (0 < f k → π (N.fr k) + fee k ≤ π (N.to k))
section
variable {N : NetP} {fee f g : Nat → Int} {π : Nat → Int}
theorem pot_ex (hN : N.ok) {M : Int} (hM : ∀ k, k < N.K → -M ≤ fee k ∧ fee k ≤ M) (hM0 : 0 ≤ M) (h : NoNeg (StepC N fee f)) : ∃ π, PotP N fee f π := by
  obtain ⟨π, hπ⟩ := heights (n := N.n) (M := M) (fun i j c ⟨k, hk, hh⟩ => by
    obtain ⟨a1, a2, _⟩ := hN k hk
    omega) (fun i j c ⟨k, hk, hh⟩ => by
    have := hM k hk
    omega) hM0 h
  refine ⟨π, fun k hk => ⟨fun h1 => hπ _ _ _ ⟨k, hk, .inl ⟨rfl, rfl, h1, rfl⟩⟩, fun h1 => ?_⟩⟩
  have := hπ _ _ _ ⟨k, hk, .inr ⟨rfl, rfl, h1, rfl⟩⟩
  omega
/-- What goes through each node, by heights. -/
theorem sum_heights (hN : N.ok) (f π : Nat → Int) : sumI (fun k => f k * (π (N.fr k) - π (N.to k))) N.K = sumI (fun i => π i * outP N f i) N.n := by
  have h1 : sumI (fun i => π i * outP N f i) N.n = sumI (fun i => sumI (fun k => π i * ((if N.fr k = i then f k else 0) - (if N.to k = i then f k else 0))) N.K) N.n := sumI_congr _ fun i _ => by
    have : ∀ (c : Int) (F : Nat → Int) m, c * sumI F m = sumI (fun k => c * F k) m := fun c F m => by
      induction m with
      | zero => simp [sumI]
      | succ m ih => simp only [sumI]; rw [Int.mul_add, ih]
    exact this _ _ _
  rw [h1, sumI_comm]
  refine sumI_congr _ fun k hk => ?_
  obtain ⟨a1, a2, a3, _⟩ := hN k hk
  have e : sumI (fun i => π i * ((if N.fr k = i then f k else 0) - (if N.to k = i then f k else 0))) N.n = sumI (fun i => if N.fr k = i then π i * f k else 0) N.n - sumI (fun i => if N.to k = i then π i * f k else 0) N.n := by
    rw [← sumI_sub]
    refine sumI_congr _ fun i _ => ?_
    by_cases h1 : N.fr k = i <;> by_cases h2 : N.to k = i
    · omega
    · rw [if_pos h1, if_neg h2, if_pos h1, if_neg h2, Int.sub_zero, Int.sub_zero]
    · rw [if_neg h1, if_pos h2, if_neg h1, if_pos h2, Int.zero_sub, Int.zero_sub, Int.mul_neg]
    · rw [if_neg h1, if_neg h2, if_neg h1, if_neg h2, Int.sub_zero, Int.mul_zero]
  rw [e, sumI_one (i := N.fr k) N.n a1 (fun i _ hi => if_neg fun e => hi e.symm), sumI_one (i := N.to k) N.n a2 (fun i _ hi => if_neg fun e => hi e.symm), if_pos rfl, if_pos rfl, Int.mul_sub, Int.mul_comm (f k), Int.mul_comm (f k)]
/-- What heights make of what goes: no less than what fits them. -/
theorem pot_le (hP : PotP N fee f π) (hf : MayP N f) (hg : MayP N g) : sumI (fun k => f k * (fee k + π (N.fr k) - π (N.to k))) N.K ≤ sumI (fun k => g k * (fee k + π (N.fr k) - π (N.to k))) N.K := by
  refine sumI_le' fun k hk => ?_
  obtain ⟨h1, h2⟩ := hP k hk
  obtain ⟨a1, a2⟩ := hf k hk
  obtain ⟨b1, b2⟩ := hg k hk
  have key : 0 ≤ (g k - f k) * (fee k + π (N.fr k) - π (N.to k)) := by
    rcases Int.lt_trichotomy (f k) (g k) with h | h | h
    · exact Int.mul_nonneg (by omega) (by have := h1 (by omega); omega)
    · rw [show g k - f k = 0 by omega, Int.zero_mul]; exact Int.le_refl _
    · have h3 := h2 (by omega)
      have : 0 ≤ (f k - g k) * -(fee k + π (N.fr k) - π (N.to k)) := Int.mul_nonneg (by omega) (by omega)
      rw [Int.mul_neg, ← Int.neg_mul, show -(f k - g k) = g k - f k by omega] at this
      exact this
  rw [Int.sub_mul] at key
  omega
where
  sumI_le' {f g : Nat → Int} {n : Nat} (h : ∀ j, j < n → f j ≤ g j) : sumI f n ≤ sumI g n := sumI_le n h
theorem cost_split (hN : N.ok) (fee g π : Nat → Int) : costP N fee g = sumI (fun k => g k * (fee k + π (N.fr k) - π (N.to k))) N.K - sumI (fun i => π i * outP N g i) N.n := by
  rw [← sum_heights hN, ← sumI_sub]
  refine sumI_congr _ fun k _ => ?_
  rw [← Int.mul_sub]
  congr 1
  omega
/-- What goes through the nodes of a flow, by heights. -/
theorem flow_heights {s t : Nat} {v : Int} (hN : N.ok) (hs : s < N.n) (ht : t < N.n) (hst : s ≠ t) (F : FlowP N s t g v) (π : Nat → Int) : sumI (fun i => π i * outP N g i) N.n = (π s - π t) * v := by
  -- what comes in at t
  have hall : sumI (fun i => outP N g i) N.n = 0 := by
    have h := out_set hN g fun _ => true
    rw [sumI_congr N.n (g := fun i => outP N g i) fun i _ => if_pos rfl] at h
    rw [h]
    exact sumI_zero _ fun k _ => by simp
  have two : ∀ (H : Nat → Int), (∀ i, i < N.n → i ≠ s → i ≠ t → H i = 0) → sumI H N.n = H s + H t := fun H hH => by
    have e : sumI H N.n = sumI (fun i => if i = s then H i else 0) N.n + sumI (fun i => if i = t then H i else 0) N.n := by
      rw [← sumI_add]
      refine sumI_congr _ fun i hi => ?_
      by_cases h1 : i = s
      · rw [if_pos h1, if_neg (fun e => hst (h1.symm.trans e))]; omega
      · by_cases h2 : i = t
        · rw [if_neg h1, if_pos h2]; omega
        · rw [if_neg h1, if_neg h2, hH i hi h1 h2]; rfl
    rw [e, sumI_one (i := s) N.n hs (fun i _ hi => if_neg hi), sumI_one (i := t) N.n ht (fun i _ hi => if_neg hi), if_pos rfl, if_pos rfl]
  rw [two _ fun i hi h1 h2 => F.bal i hi h1 h2] at hall
  rw [two _ fun i hi h1 h2 => by rw [F.bal i hi h1 h2, Int.mul_zero], F.val, show outP N g t = -v by have := F.val; omega, Int.sub_mul, Int.mul_neg]
  omega
/-- KLEIN: by heights that fit no flow of the same value is cheaper. -/
theorem klein {s t : Nat} {v : Int} (hN : N.ok) (hs : s < N.n) (ht : t < N.n) (hst : s ≠ t) (hP : PotP N fee f π) (F : FlowP N s t f v) (G : FlowP N s t g v) : costP N fee f ≤ costP N fee g := by
  rw [cost_split hN fee f π, cost_split hN fee g π, flow_heights hN hs ht hst F, flow_heights hN hs ht hst G]
  have := pot_le hP F.may G.may
  omega
/-- Any flow, by the heights that fit another one. -/
theorem klein_any {s t : Nat} {u v : Int} (hN : N.ok) (hs : s < N.n) (ht : t < N.n) (hst : s ≠ t) (hP : PotP N fee f π) (F : FlowP N s t f v) (G : FlowP N s t g u) : costP N fee f + (π t - π s) * (u - v) ≤ costP N fee g := by
  rw [cost_split hN fee f π, cost_split hN fee g π, flow_heights hN hs ht hst F, flow_heights hN hs ht hst G]
  have h1 := pot_le hP F.may G.may
  have e : (π t - π s) * (u - v) = (π s - π t) * v - (π s - π t) * u := by
    rw [← Int.mul_sub, show u - v = -(v - u) by omega, Int.mul_neg, ← Int.neg_mul, show -(π t - π s) = π s - π t by omega]
  omega
/-- Each one more costs no less than the one ahead. -/
theorem rises {s t : Nat} {v : Int} {a b : Nat → Int} (hN : N.ok) (hs : s < N.n) (ht : t < N.n) (hst : s ≠ t) (hP : PotP N fee f π) (F : FlowP N s t f (v + 1)) (Ga : FlowP N s t a v) (Gb : FlowP N s t b (v + 2)) : costP N fee f - costP N fee a ≤ costP N fee b - costP N fee f := by
  have h1 := klein_any hN hs ht hst hP F Ga
  have h2 := klein_any hN hs ht hst hP F Gb
  rw [show v - (v + 1) = -1 by omega, Int.mul_neg, Int.mul_one] at h1
  rw [show v + 2 - (v + 1) = 1 by omega, Int.mul_one] at h2
  omega
theorem flow_none (hN : N.ok) (s t : Nat) : FlowP N s t (fun _ => 0) 0 := by
  have h : ∀ i, outP N (fun _ => 0) i = 0 := fun i => sumI_zero _ fun k _ => by simp
  exact ⟨fun k hk => ⟨Int.le_refl _, (hN k hk).2.2.2⟩, fun i _ _ _ => h i, h s⟩
theorem cost_nonneg (hf : MayP N f) (hfee : ∀ k, k < N.K → 0 ≤ fee k) : 0 ≤ costP N fee f := by
  rw [← sumI_zero (f := fun _ => 0) N.K fun _ _ => rfl]
  exact sumI_le _ fun k hk => Int.mul_nonneg (hf k hk).1 (hfee k hk)
/-- And more costs no less. -/
theorem rises_one {s t : Nat} {v : Int} (hN : N.ok) (hs : s < N.n) (ht : t < N.n) (hst : s ≠ t) (hv : 0 ≤ v) (hfee : ∀ k, k < N.K → 0 ≤ fee k) (hP : PotP N fee f π) (F : FlowP N s t f v) (G : FlowP N s t g (v + 1)) : costP N fee f ≤ costP N fee g := by
  have h1 := klein_any hN hs ht hst hP F (flow_none hN s t)
  have h2 := klein_any hN hs ht hst hP F G
  have h0 : costP N fee (fun _ => 0) = 0 := sumI_zero _ fun k _ => Int.zero_mul _
  rw [h0, show 0 - v = -v by omega, Int.mul_neg] at h1
  rw [show v + 1 - v = 1 by omega, Int.mul_one] at h2
  have h3 := cost_nonneg F.may hfee
  -- (t - s) * v >= cost f >= 0
  rcases Int.lt_or_le (π t - π s) 0 with h4 | h4
  · have h5 : (π t - π s) * v ≤ 0 := by
      have := Int.mul_nonneg (show 0 ≤ -(π t - π s) by omega) hv
      rw [Int.neg_mul] at this
      omega
    have h6 := cost_nonneg G.may hfee
    omega
  · omega
end
end Go.Proofs.Yticickicfigpbaa

namespace Go.Proofs.Yticickicfigpbaa

open Classical in
/-- How many classes there are: of each its least one counts. -/
noncomputable def clsP (R : Nat → Nat → Prop) (D : BS) (N : Nat) : Nat := sizeP (fun x => D x && decide (∀ y, y < x → D y = true → ¬ R y x)) N
structure EqvP (D : BS) (R : Nat → Nat → Prop) : Prop where
  refl : ∀ x, D x = true → R x x
  symm : ∀ x y, D x = true → D y = true → R x y → R y x
  trans : ∀ x y z, D x = true → D y = true → D z = true → R x y → R y z → R x z
section
variable {N : Nat} {D : BS} {R R' : Nat → Nat → Prop} {f : Nat → Nat}
open Classical in
theorem cls_lt (E : EqvP D R) (hD : ∀ x, D x = true → x < N) {a b : Nat} (ha : D a = true) (hb : D b = true) (_hab : ¬ R a b)
    (h : ∀ x y, D x = true → D y = true → (R' x y ↔ R x y ∨ (R x a ∧ R b y) ∨ (R x b ∧ R a y)))
    {la lb : Nat} (hla : D la = true) (hra : R la a) (hma : ∀ x, D x = true → R x a → la ≤ x) (hlb : D lb = true) (hrb : R lb b) (hmb : ∀ x, D x = true → R x b → lb ≤ x) (hlt : la < lb) :
    clsP R D N = clsP R' D N + 1 := by
  have hL : (fun x => D x && decide (∀ y, y < x → D y = true → ¬ R y x)) lb = true := by
    simp only [Bool.and_eq_true, decide_eq_true_eq]
    refine ⟨hlb, fun y hy hdy hr => ?_⟩
    have := hmb y hdy (E.trans y lb b hdy hlb hb hr hrb)
    omega
  unfold clsP
  rw [sizeP_del hL (hD lb hlb)]
  congr 1
  refine sizeP_congr N fun x hx => ?_
  rw [Bool.eq_iff_iff, delB_iff]
  simp only [Bool.and_eq_true, decide_eq_true_eq]
  constructor
  · rintro ⟨⟨hdx, h1⟩, hne⟩
    refine ⟨hdx, fun y hy hdy hr => ?_⟩
    rcases (h y x hdy hdx).1 hr with hr | ⟨r1, r2⟩ | ⟨r1, r2⟩
    · exact h1 y hy hdy hr
    · -- x is of b's
      have h2 := hmb x hdx (E.symm b x hb hdx r2)
      have : lb < x := by omega
      exact h1 lb this hlb (E.trans lb b x hlb hb hdx hrb r2)
    · have h2 := hma x hdx (E.symm a x ha hdx r2)
      have h3 := hmb y hdy r1
      have : la < x := by omega
      exact h1 la this hla (E.trans la a x hla ha hdx hra r2)
  · rintro ⟨hdx, h1⟩
    refine ⟨⟨hdx, fun y hy hdy hr => h1 y hy hdy ((h y x hdy hdx).2 (.inl hr))⟩, fun e => ?_⟩
    subst e
    exact h1 la hlt hla ((h la x hla hdx).2 (.inr (.inl ⟨hra, E.symm x b hdx hb hrb⟩)))
theorem cls_merge (E : EqvP D R) (hD : ∀ x, D x = true → x < N) {a b : Nat} (ha : D a = true) (hb : D b = true) (hab : ¬ R a b)
    (h : ∀ x y, D x = true → D y = true → (R' x y ↔ R x y ∨ (R x a ∧ R b y) ∨ (R x b ∧ R a y))) : clsP R D N = clsP R' D N + 1 := by
  obtain ⟨la, ⟨hla, hra⟩, hma⟩ := arg_min (P := fun x => D x = true ∧ R x a) (fun x => x) _ a (Nat.le_refl _) ⟨ha, E.refl a ha⟩
  obtain ⟨lb, ⟨hlb, hrb⟩, hmb⟩ := arg_min (P := fun x => D x = true ∧ R x b) (fun x => x) _ b (Nat.le_refl _) ⟨hb, E.refl b hb⟩
  rcases Nat.lt_trichotomy la lb with hlt | e | hlt
  · exact cls_lt E hD ha hb hab h hla hra (fun x h1 h2 => hma x ⟨h1, h2⟩) hlb hrb (fun x h1 h2 => hmb x ⟨h1, h2⟩) hlt
  · subst e
    exact absurd (E.trans a la b ha hla hb (E.symm la a hla ha hra) hrb) hab
  · refine cls_lt E hD hb ha (fun h' => hab (E.symm b a hb ha h')) (fun x y hx hy => ?_) hlb hrb (fun x h1 h2 => hmb x ⟨h1, h2⟩) hla hra (fun x h1 h2 => hma x ⟨h1, h2⟩) hlt
    rw [h x y hx hy]
    exact ⟨fun h => h.elim .inl fun h => .inr h.symm, fun h => h.elim .inl fun h => .inr h.symm⟩
def itF (f : Nat → Nat) : Nat → Nat → Nat
  | 0, x => x
  | k + 1, x => itF f k (f x)
def OrbP (f : Nat → Nat) (x y : Nat) : Prop := ∃ k, itF f k x = y
structure PermB (N : Nat) (D : BS) (f : Nat → Nat) : Prop where
  lt : ∀ x, D x = true → x < N
  map : ∀ x, D x = true → D (f x) = true
  inj : ∀ x y, D x = true → D y = true → f x = f y → x = y
theorem itF_add (j : Nat) : ∀ k x, itF f (j + k) x = itF f j (itF f k x)
  | 0, _ => rfl
  | k + 1, x => itF_add j k (f x)
theorem itF_succ (k x : Nat) : itF f (k + 1) x = f (itF f k x) := by
  rw [Nat.add_comm, itF_add 1 k x]; rfl
theorem itF_map (P : PermB N D f) : ∀ k x, D x = true → D (itF f k x) = true
  | 0, _, h => h
  | k + 1, x, h => itF_map P k (f x) (P.map x h)
theorem itF_inj (P : PermB N D f) : ∀ k x y, D x = true → D y = true → itF f k x = itF f k y → x = y
  | 0, _, _, _, _, h => h
  | k + 1, x, y, hx, hy, h => P.inj x y hx hy (itF_inj P k (f x) (f y) (P.map x hx) (P.map y hy) h)
theorem itF_back (P : PermB N D f) {x : Nat} (hx : D x = true) : ∃ m, 0 < m ∧ itF f m x = x := by
  obtain ⟨a, b, hab, _, he⟩ := pigeon (n := N) (k := N) (p := fun t => itF f t x) (fun t _ => P.lt _ (itF_map P t x hx)) (Nat.le_refl N)
  refine ⟨b - a, by omega, ?_⟩
  have h : itF f a x = itF f a (itF f (b - a) x) := by
    rw [← itF_add, show a + (b - a) = b by omega]; exact he
  exact (itF_inj P a _ _ hx (itF_map P _ x hx) h).symm
theorem itF_mul {m x : Nat} (h : itF f m x = x) : ∀ j, itF f (m * j) x = x
  | 0 => rfl
  | j + 1 => by rw [Nat.mul_succ, itF_add, h, itF_mul h j]
theorem orb_eqv (P : PermB N D f) : EqvP D (OrbP f) := by
  refine ⟨fun x _ => ⟨0, rfl⟩, fun x y hx _ ⟨k, hk⟩ => ?_, fun x y z _ _ _ ⟨k, hk⟩ ⟨j, hj⟩ => ⟨j + k, by rw [itF_add, hk, hj]⟩⟩
  obtain ⟨m, hm, he⟩ := itF_back P hx
  have h1 : k ≤ m * k := Nat.le_mul_of_pos_left k hm
  refine ⟨m * k - k, ?_⟩
  rw [← hk, ← itF_add, show m * k - k + k = m * k by omega]
  exact itF_mul he k
/-- Two ends change places. -/
def swF (f : Nat → Nat) (p q : Nat) : Nat → Nat := fun x => if x = p then f q else if x = q then f p else f x
theorem swF_p (p q : Nat) : swF f p q p = f q := if_pos rfl
theorem swF_q (p q : Nat) : swF f p q q = f p := by
  unfold swF
  by_cases h : q = p
  · rw [if_pos h, h]
  · rw [if_neg h, if_pos rfl]
theorem swF_else {p q x : Nat} (h1 : x ≠ p) (h2 : x ≠ q) : swF f p q x = f x := by unfold swF; rw [if_neg h1, if_neg h2]
theorem swF_perm (P : PermB N D f) {p q : Nat} (hp : D p = true) (hq : D q = true) : PermB N D (swF f p q) := by
  have hval : ∀ x, D x = true → ∃ x', D x' = true ∧ swF f p q x = f x' ∧ x' = (if x = p then q else if x = q then p else x) := fun x hx => by
    by_cases h1 : x = p
    · exact ⟨q, hq, by rw [h1, swF_p], by rw [if_pos h1]⟩
    · by_cases h2 : x = q
      · exact ⟨p, hp, by rw [h2, swF_q], by rw [if_neg h1, if_pos h2]⟩
      · exact ⟨x, hx, swF_else h1 h2, by rw [if_neg h1, if_neg h2]⟩
  refine ⟨P.lt, fun x hx => ?_, fun x y hx hy h => ?_⟩
  · obtain ⟨x', h1, h2, _⟩ := hval x hx
    rw [h2]; exact P.map x' h1
  · obtain ⟨x', h1, h2, h3⟩ := hval x hx
    obtain ⟨y', g1, g2, g3⟩ := hval y hy
    have e := P.inj x' y' h1 g1 (by rw [← h2, ← g2, h])
    rw [h3, g3] at e
    by_cases a1 : x = p <;> by_cases a2 : y = p
    · omega
    · rw [if_pos a1, if_neg a2] at e; split at e <;> omega
    · rw [if_neg a1, if_pos a2] at e; split at e <;> omega
    · rw [if_neg a1, if_neg a2] at e
      split at e <;> split at e <;> omega
theorem itF_same {p q : Nat} : ∀ k x, (∀ j, j < k → itF f j x ≠ p ∧ itF f j x ≠ q) → itF (swF f p q) k x = itF f k x
  | 0, _, _ => rfl
  | k + 1, x, h => by
    have h0 := h 0 (by omega)
    show itF (swF f p q) k (swF f p q x) = itF f k (f x)
    rw [swF_else (x := x) h0.1 h0.2]
    exact itF_same k (f x) fun j hj => h (j + 1) (by omega)
theorem orb_to {p q x : Nat} (h1 : OrbP f x p) (h2 : ¬ OrbP f x q) : OrbP (swF f p q) x p := by
  obtain ⟨k0, hk0⟩ := h1
  obtain ⟨k, hk, hmin⟩ := arg_min (P := fun k => itF f k x = p) (fun k => k) k0 k0 (Nat.le_refl _) hk0
  refine ⟨k, ?_⟩
  rw [itF_same k x fun j hj => ⟨fun e => by have := hmin j e; omega, fun e => h2 ⟨j, e⟩⟩]
  exact hk
theorem swF_comm (p q : Nat) : swF f p q = swF f q p := by
  funext x
  unfold swF
  by_cases h1 : x = p <;> by_cases h2 : x = q
  · subst h1; subst h2; rfl
  · rw [if_pos h1, if_neg h2, if_pos h1]
  · rw [if_neg h1, if_pos h2, if_pos h2]
  · rw [if_neg h1, if_neg h2, if_neg h2, if_neg h1]
/-- Two rings become one. -/
theorem orb_merge (P : PermB N D f) {p q : Nat} (hp : D p = true) (hq : D q = true) (hno : ¬ OrbP f p q) (x y : Nat) (hx : D x = true) (hy : D y = true) :
    OrbP (swF f p q) x y ↔ OrbP f x y ∨ (OrbP f x p ∧ OrbP f q y) ∨ (OrbP f x q ∧ OrbP f p y) := by
  have E := orb_eqv P
  have E' := orb_eqv (swF_perm P hp hq)
  have hno' : ¬ OrbP f q p := fun h => hno (E.symm q p hq hp h)
  have kp : ∀ x, D x = true → OrbP f x p → OrbP (swF f p q) x p := fun x hx h => orb_to h fun h' => hno (E.trans p x q hp hx hq (E.symm x p hx hp h) h')
  have kq : ∀ x, D x = true → OrbP f x q → OrbP (swF f p q) x q := fun x hx h => by
    rw [swF_comm]; exact orb_to h fun h' => hno (E.trans p x q hp hx hq (E.symm x p hx hp h') h)
  have hfq := P.map q hq
  have hpq : OrbP (swF f p q) p q := by
    have h1 : OrbP (swF f p q) (f q) q := kq (f q) hfq (E.symm q (f q) hq hfq ⟨1, rfl⟩)
    obtain ⟨k, hk⟩ := h1
    exact ⟨k + 1, by show itF _ k (swF f p q p) = q; rw [swF_p]; exact hk⟩
  constructor
  · rintro ⟨k, hk⟩
    subst hk
    clear hy
    induction k with
    | zero => exact .inl ⟨0, rfl⟩
    | succ k ih =>
      rw [itF_succ]
      have hz := itF_map (swF_perm P hp hq) k x hx
      generalize itF (swF f p q) k x = z at *
      have hfz := P.map z hz
      have hfp := P.map p hp
      by_cases e1 : z = p
      · subst e1
        rw [swF_p]
        rcases ih with h | ⟨h1, h2⟩ | ⟨h1, _⟩
        · exact .inr (.inl ⟨h, ⟨1, rfl⟩⟩)
        · exact absurd h2 hno'
        · exact .inl (E.trans x q (f q) hx hq hfq h1 ⟨1, rfl⟩)
      · by_cases e2 : z = q
        · subst e2
          rw [swF_q]
          rcases ih with h | ⟨h1, _⟩ | ⟨h1, h2⟩
          · exact .inr (.inr ⟨h, ⟨1, rfl⟩⟩)
          · exact .inl (E.trans x p (f p) hx hp hfp h1 ⟨1, rfl⟩)
          · exact absurd h2 hno
        · rw [swF_else e1 e2]
          rcases ih with h | ⟨h1, h2⟩ | ⟨h1, h2⟩
          · exact .inl (E.trans x z (f z) hx hz hfz h ⟨1, rfl⟩)
          · exact .inr (.inl ⟨h1, E.trans q z (f z) hq hz hfz h2 ⟨1, rfl⟩⟩)
          · exact .inr (.inr ⟨h1, E.trans p z (f z) hp hz hfz h2 ⟨1, rfl⟩⟩)
  · rintro (h | ⟨h1, h2⟩ | ⟨h1, h2⟩)
    · by_cases g1 : OrbP f x p
      · have g2 : OrbP f y p := E.trans y x p hy hx hp (E.symm x y hx hy h) g1
        exact E'.trans x p y hx hp hy (kp x hx g1) (E'.symm y p hy hp (kp y hy g2))
      · by_cases g3 : OrbP f x q
        · have g2 : OrbP f y q := E.trans y x q hy hx hq (E.symm x y hx hy h) g3
          exact E'.trans x q y hx hq hy (kq x hx g3) (E'.symm y q hy hq (kq y hy g2))
        · obtain ⟨k, hk⟩ := h
          exact ⟨k, by rw [itF_same k x fun j _ => ⟨fun e => g1 ⟨j, e⟩, fun e => g3 ⟨j, e⟩⟩]; exact hk⟩
    · have h3 := kq y hy (E.symm q y hq hy h2)
      exact E'.trans x p y hx hp hy (kp x hx h1) (E'.trans p q y hp hq hy hpq (E'.symm y q hy hq h3))
    · have h3 := kp y hy (E.symm p y hp hy h2)
      exact E'.trans x q y hx hq hy (kq x hx h1) (E'.trans q p y hq hp hy (E'.symm p q hp hq hpq) (E'.symm y p hy hp h3))
theorem rings_merge (P : PermB N D f) {p q : Nat} (hp : D p = true) (hq : D q = true) (hno : ¬ OrbP f p q) : clsP (OrbP f) D N = clsP (OrbP (swF f p q)) D N + 1 :=
  cls_merge (orb_eqv P) P.lt hp hq hno fun x y hx hy => orb_merge P hp hq hno x y hx hy
/-- One ring becomes two. -/
theorem rings_split (P : PermB N D f) {p q : Nat} (hp : D p = true) (hq : D q = true) (hpq : p ≠ q) (h : OrbP f p q) : clsP (OrbP (swF f p q)) D N = clsP (OrbP f) D N + 1 := by
  have E := orb_eqv P
  have hno : ¬ OrbP (swF f p q) p q := by
    obtain ⟨l0, hl0⟩ := E.symm p q hp hq h
    obtain ⟨l, hl, hmin⟩ := arg_min (P := fun l => itF f l q = p) (fun l => l) l0 l0 (Nat.le_refl _) hl0
    have hl1 : 0 < l := by
      rcases Nat.eq_zero_or_pos l with rfl | h
      · exact absurd hl.symm hpq
      · exact h
    have hq' : ∀ j, 0 < j → j ≤ l → itF f j q ≠ q := fun j h1 h2 e => by
      by_cases e2 : j = l
      · subst e2; rw [hl] at e; exact hpq e
      · have h3 : itF f (l - j) q = p := by
          have h4 : itF f l q = itF f (l - j) (itF f j q) := by rw [← itF_add, show l - j + j = l by omega]
          rw [e] at h4
          rw [← h4]; exact hl
        have := hmin _ h3
        omega
    have hin : ∀ k, ∃ j, 0 < j ∧ j ≤ l ∧ itF (swF f p q) k p = itF f j q := fun k => by
      induction k with
      | zero => exact ⟨l, hl1, Nat.le_refl _, hl.symm⟩
      | succ k ih =>
        obtain ⟨j, h1, h2, h3⟩ := ih
        rw [itF_succ, h3]
        by_cases e : j = l
        · subst e; rw [hl, swF_p]; exact ⟨1, by omega, by omega, rfl⟩
        · rw [swF_else (fun e' => by have := hmin j e'; omega) (hq' j h1 h2), ← itF_succ (f := f)]
          exact ⟨j + 1, by omega, by omega, rfl⟩
    rintro ⟨k, hk⟩
    obtain ⟨j, h1, h2, h3⟩ := hin k
    exact hq' j h1 h2 (h3.symm.trans hk)
  have e : swF (swF f p q) p q = f := by
    funext x
    by_cases h1 : x = p
    · subst h1; rw [swF_p, swF_q]
    · by_cases h2 : x = q
      · subst h2; rw [swF_q, swF_p]
      · rw [swF_else h1 h2, swF_else h1 h2]
  have := rings_merge (swF_perm P hp hq) hp hq hno
  rw [e] at this
  exact this
end
end Go.Proofs.Yticickicfigpbaa

namespace Go.Proofs.Yticickicfigpbaa

/-- The faces' turning, when these edges have been put in. -/
def phiF (s : Nat → Nat) : List (Nat × Nat) → Nat → Nat
  | [] => s
  | e :: L => swF (phiF s L) e.1 e.2
/-- Two classes in one. -/
def mgR (R : Nat → Nat → Prop) (a b : Nat) : Nat → Nat → Prop := fun x y => R x y ∨ (R x a ∧ R b y) ∨ (R x b ∧ R a y)
/-- Who is linked, when these edges have been put in. -/
def relF (s : Nat → Nat) : List (Nat × Nat) → Nat → Nat → Prop
  | [] => OrbP s
  | e :: L => mgR (relF s L) e.1 e.2
def DartsP (D : BS) (L : List (Nat × Nat)) : Prop := ∀ e, e ∈ L → D e.1 = true ∧ D e.2 = true ∧ e.1 ≠ e.2
section
variable {N : Nat} {D : BS} {R R' : Nat → Nat → Prop} {s : Nat → Nat}
theorem mg_eqv (E : EqvP D R) {a b : Nat} (ha : D a = true) (hb : D b = true) : EqvP D (mgR R a b) := by
  refine ⟨fun x hx => .inl (E.refl x hx), fun x y hx hy h => ?_, fun x y z hx hy hz h1 h2 => ?_⟩
  · rcases h with h | ⟨h1, h2⟩ | ⟨h1, h2⟩
    · exact .inl (E.symm x y hx hy h)
    · exact .inr (.inr ⟨E.symm b y hb hy h2, E.symm x a hx ha h1⟩)
    · exact .inr (.inl ⟨E.symm a y ha hy h2, E.symm x b hx hb h1⟩)
  · rcases h1 with h1 | ⟨h1, h3⟩ | ⟨h1, h3⟩ <;> rcases h2 with h2 | ⟨h2, h4⟩ | ⟨h2, h4⟩
    · exact .inl (E.trans x y z hx hy hz h1 h2)
    · exact .inr (.inl ⟨E.trans x y a hx hy ha h1 h2, h4⟩)
    · exact .inr (.inr ⟨E.trans x y b hx hy hb h1 h2, h4⟩)
    · exact .inr (.inl ⟨h1, E.trans b y z hb hy hz h3 h2⟩)
    · have h5 := E.trans b y a hb hy ha h3 h2
      exact .inl (E.trans x a z hx ha hz h1 (E.trans a b z ha hb hz (E.symm b a hb ha h5) h4))
    · exact .inl (E.trans x a z hx ha hz h1 h4)
    · exact .inr (.inr ⟨h1, E.trans a y z ha hy hz h3 h2⟩)
    · exact .inl (E.trans x b z hx hb hz h1 h4)
    · have h5 := E.trans a y b ha hy hb h3 h2
      exact .inl (E.trans x b z hx hb hz h1 (E.trans b a z hb ha hz (E.symm a b ha hb h5) h4))
theorem cls_congr (h : ∀ x y, D x = true → D y = true → (R x y ↔ R' x y)) : clsP R D N = clsP R' D N := by
  classical
  unfold clsP
  refine sizeP_congr N fun x _ => ?_
  rw [Bool.eq_iff_iff]
  simp only [Bool.and_eq_true, decide_eq_true_eq]
  exact ⟨fun ⟨h1, h2⟩ => ⟨h1, fun y hy hdy hr => h2 y hy hdy ((h y x hdy h1).2 hr)⟩, fun ⟨h1, h2⟩ => ⟨h1, fun y hy hdy hr => h2 y hy hdy ((h y x hdy h1).1 hr)⟩⟩
/-- Finer classes are no fewer. -/
theorem cls_finer (h : ∀ x y, D x = true → D y = true → R x y → R' x y) : clsP R' D N ≤ clsP R D N := by
  classical
  unfold clsP
  refine sizeP_sub fun x _ h1 => ?_
  simp only [Bool.and_eq_true, decide_eq_true_eq] at h1 ⊢
  exact ⟨h1.1, fun y hy hdy hr => h1.2 y hy hdy (h y x hdy h1.1 hr)⟩
theorem phi_perm (P : PermB N D s) : ∀ L, DartsP D L → PermB N D (phiF s L)
  | [], _ => P
  | e :: L, h => by
    have h1 := h e (List.mem_cons_self ..)
    exact swF_perm (phi_perm P L fun x hx => h x (List.mem_cons_of_mem _ hx)) h1.1 h1.2.1
theorem rel_eqv (P : PermB N D s) : ∀ L, DartsP D L → EqvP D (relF s L)
  | [], _ => orb_eqv P
  | e :: L, h => by
    have h1 := h e (List.mem_cons_self ..)
    exact mg_eqv (rel_eqv P L fun x hx => h x (List.mem_cons_of_mem _ hx)) h1.1 h1.2.1
/-- A face is of one part. -/
theorem face_part (P : PermB N D s) : ∀ L, DartsP D L → ∀ x y, D x = true → D y = true → OrbP (phiF s L) x y → relF s L x y
  | [], _, _, _, _, _, h => h
  | e :: L, hL, x, y, hx, _, ⟨k, hk⟩ => by
    have h1 := hL e (List.mem_cons_self ..)
    have hL' : DartsP D L := fun x hx => hL x (List.mem_cons_of_mem _ hx)
    have Q := phi_perm P L hL'
    have Q' := phi_perm P (e :: L) hL
    have E := rel_eqv P L hL'
    have E' := rel_eqv P (e :: L) hL
    have hstep : ∀ z, D z = true → relF s (e :: L) z (phiF s (e :: L) z) := fun z hz => by
      show mgR (relF s L) e.1 e.2 z (swF (phiF s L) e.1 e.2 z)
      by_cases e1 : z = e.1
      · rw [e1, swF_p]
        exact .inr (.inl ⟨E.refl _ h1.1, face_part P L hL' _ _ h1.2.1 (Q.map _ h1.2.1) ⟨1, rfl⟩⟩)
      · by_cases e2 : z = e.2
        · rw [e2, swF_q]
          exact .inr (.inr ⟨E.refl _ h1.2.1, face_part P L hL' _ _ h1.1 (Q.map _ h1.1) ⟨1, rfl⟩⟩)
        · rw [swF_else e1 e2]
          exact .inl (face_part P L hL' _ _ hz (Q.map z hz) ⟨1, rfl⟩)
    subst hk
    induction k with
    | zero => exact E'.refl x hx
    | succ k ih =>
      rw [itF_succ]
      have hz := itF_map Q' k x hx
      exact E'.trans x _ _ hx hz (Q'.map _ hz) (ih hz) (hstep _ hz)
/-- EULER, POINCARE. -/
theorem euler (P : PermB N D s) : ∀ L, DartsP D L → ∃ h, clsP (OrbP s) D N + clsP (OrbP (phiF s L)) D N + 2 * h = 2 * clsP (relF s L) D N + L.length
  | [], _ => ⟨0, by show clsP (OrbP s) D N + clsP (OrbP s) D N + 2 * 0 = 2 * clsP (OrbP s) D N + 0; omega⟩
  | e :: L, hL => by
    have h1 := hL e (List.mem_cons_self ..)
    have hL' : DartsP D L := fun x hx => hL x (List.mem_cons_of_mem _ hx)
    have Q := phi_perm P L hL'
    have E := rel_eqv P L hL'
    obtain ⟨h, ih⟩ := euler P L hL'
    show ∃ h, clsP (OrbP s) D N + clsP (OrbP (swF (phiF s L) e.1 e.2)) D N + 2 * h = 2 * clsP (mgR (relF s L) e.1 e.2) D N + (L.length + 1)
    by_cases hr : relF s L e.1 e.2
    · have e1 : clsP (mgR (relF s L) e.1 e.2) D N = clsP (relF s L) D N := cls_congr fun x y hx hy => by
        constructor
        · rintro (h | ⟨g1, g2⟩ | ⟨g1, g2⟩)
          · exact h
          · exact E.trans x e.1 y hx h1.1 hy g1 (E.trans e.1 e.2 y h1.1 h1.2.1 hy hr g2)
          · exact E.trans x e.2 y hx h1.2.1 hy g1 (E.trans e.2 e.1 y h1.2.1 h1.1 hy (E.symm e.1 e.2 h1.1 h1.2.1 hr) g2)
        · exact .inl
      by_cases ho : OrbP (phiF s L) e.1 e.2
      · have e2 := rings_split Q h1.1 h1.2.1 h1.2.2 ho
        exact ⟨h, by omega⟩
      · have e2 := rings_merge Q h1.1 h1.2.1 ho
        exact ⟨h + 1, by omega⟩
    · have ho : ¬ OrbP (phiF s L) e.1 e.2 := fun ho => hr (face_part P L hL' _ _ h1.1 h1.2.1 ho)
      have e2 := rings_merge Q h1.1 h1.2.1 ho
      have e3 := cls_merge (R' := mgR (relF s L) e.1 e.2) E P.lt h1.1 h1.2.1 hr fun x y _ _ => Iff.rfl
      exact ⟨h, by omega⟩
theorem faces_parts (P : PermB N D s) (L : List (Nat × Nat)) (hL : DartsP D L) : clsP (relF s L) D N ≤ clsP (OrbP (phiF s L)) D N := cls_finer fun x y hx hy h => face_part P L hL x y hx hy h
/-- The faces' turning goes over the edge first, then round the node. -/
theorem phi_eq {al : Nat → Nat} : ∀ L : List (Nat × Nat), (L.map (·.1) ++ L.map (·.2)).Nodup → (∀ e, e ∈ L → al e.1 = e.2 ∧ al e.2 = e.1) → (∀ x, (∀ e, e ∈ L → x ≠ e.1 ∧ x ≠ e.2) → phiF s L x = s x) ∧ ∀ e, e ∈ L → phiF s L e.1 = s e.2 ∧ phiF s L e.2 = s e.1
  | [], _, _ => ⟨fun _ _ => rfl, fun e he => by cases he⟩
  | e :: L, hn, ha => by
    have hn' : (e.1 :: (L.map (·.1) ++ e.2 :: L.map (·.2))).Nodup := by simpa using hn
    obtain ⟨n1, n2⟩ := List.nodup_cons.1 hn'
    have hp : (e.2 :: (L.map (·.1) ++ L.map (·.2))).Nodup := (List.perm_middle.nodup_iff).1 n2
    obtain ⟨n3, n4⟩ := List.nodup_cons.1 hp
    obtain ⟨ih1, ih2⟩ := phi_eq (al := al) L n4 fun x hx => ha x (List.mem_cons_of_mem _ hx)
    have hfar : ∀ e', e' ∈ L → (e.1 ≠ e'.1 ∧ e.1 ≠ e'.2) ∧ e.2 ≠ e'.1 ∧ e.2 ≠ e'.2 := fun e' he' => by
      have m1 : e'.1 ∈ L.map (·.1) := List.mem_map.2 ⟨e', he', rfl⟩
      have m2 : e'.2 ∈ L.map (·.2) := List.mem_map.2 ⟨e', he', rfl⟩
      refine ⟨⟨fun h => n1 ?_, fun h => n1 ?_⟩, fun h => n3 ?_, fun h => n3 ?_⟩
      · rw [h]; exact List.mem_append.2 (.inl m1)
      · rw [h]; exact List.mem_append.2 (.inr (List.mem_cons_of_mem _ m2))
      · rw [h]; exact List.mem_append.2 (.inl m1)
      · rw [h]; exact List.mem_append.2 (.inr m2)
    have v1 := ih1 e.1 fun e' he' => (hfar e' he').1
    have v2 := ih1 e.2 fun e' he' => (hfar e' he').2
    refine ⟨fun x hx => ?_, fun e' he' => ?_⟩
    · obtain ⟨g1, g2⟩ := hx e (List.mem_cons_self ..)
      show swF (phiF s L) e.1 e.2 x = s x
      rw [swF_else g1 g2]
      exact ih1 x fun e' he' => hx e' (List.mem_cons_of_mem _ he')
    · rcases List.mem_cons.1 he' with rfl | he'
      · show swF (phiF s L) e'.1 e'.2 e'.1 = _ ∧ swF (phiF s L) e'.1 e'.2 e'.2 = _
        rw [swF_p, swF_q]; exact ⟨v2, v1⟩
      · obtain ⟨⟨g1, g2⟩, g3, g4⟩ := hfar e' he'
        show swF (phiF s L) e.1 e.2 e'.1 = _ ∧ swF (phiF s L) e.1 e.2 e'.2 = _
        rw [swF_else (Ne.symm g1) (Ne.symm g3), swF_else (Ne.symm g2) (Ne.symm g4)]
        exact ih2 e' he'
end
end Go.Proofs.Yticickicfigpbaa

namespace Go.Proofs.Yticickicfigpbaa
section
variable {N : Nat} {D : BS} {R R' : Nat → Nat → Prop} {f g : Nat → Nat}
theorem inj_size : ∀ (m : Nat) (p : Nat → Nat) (A : BS), (∀ i, i < m → p i < N ∧ A (p i) = true) → (∀ i j, i < j → j < m → p i ≠ p j) → m ≤ sizeP A N
  | 0, _, _, _, _ => Nat.zero_le _
  | m + 1, p, A, h, hi => by
    have h1 := h m (by omega)
    have ih := inj_size m p (delB A (p m)) (fun i hm => ⟨(h i (by omega)).1, delB_iff.2 ⟨(h i (by omega)).2, hi i m hm (by omega)⟩⟩) fun i j hij hj => hi i j hij (by omega)
    have := sizeP_del h1.2 h1.1
    omega
/-- The least one of its class. -/
theorem class_least (E : EqvP D R) {x : Nat} (hx : D x = true) : ∃ l, D l = true ∧ R l x ∧ ∀ y, D y = true → R y x → l ≤ y := by
  obtain ⟨l, ⟨h1, h2⟩, h3⟩ := arg_min (P := fun y => D y = true ∧ R y x) (fun y => y) _ x (Nat.le_refl _) ⟨hx, E.refl x hx⟩
  exact ⟨l, h1, h2, fun y hy hr => h3 y ⟨hy, hr⟩⟩
open Classical in
noncomputable def leadB (R : Nat → Nat → Prop) (D : BS) : BS := fun x => D x && decide (∀ y, y < x → D y = true → ¬ R y x)
theorem leadB_iff {x : Nat} : leadB R D x = true ↔ D x = true ∧ ∀ y, y < x → D y = true → ¬ R y x := by
  unfold leadB; simp only [Bool.and_eq_true, decide_eq_true_eq]
theorem cls_lead : clsP R D N = sizeP (leadB R D) N := rfl
theorem lead_least {l : Nat} (h : leadB R D l = true) (_E : EqvP D R) {y : Nat} (hy : D y = true) (hr : R y l) : l ≤ y := by
  obtain ⟨_, h2⟩ := leadB_iff.1 h
  exact Nat.le_of_not_lt fun hlt => h2 y hlt hy hr
open Classical in
/-- Classes of m members at least are so many times fewer. -/
theorem cls_size (E : EqvP D R) (hD : ∀ x, D x = true → x < N) {m : Nat} (h : ∀ x, D x = true → m ≤ sizeP (fun y => D y && decide (R x y)) N) : clsP R D N * m ≤ sizeP D N := by
  have hch : ∃ lab : Nat → Nat, ∀ x, D x = true → D (lab x) = true ∧ R (lab x) x ∧ ∀ y, D y = true → R y x → lab x ≤ y := by
    refine ⟨fun x => if hx : D x = true then Classical.choose (class_least E hx) else 0, fun x hx => ?_⟩
    simp only [dif_pos hx]
    exact Classical.choose_spec (class_least E hx)
  obtain ⟨lab, hlab⟩ := hch
  rw [← sizeP_parts (N := N) (lab := lab) N fun j _ hj => hD _ (hlab j hj).1, cls_lead, ← sumA_const]
  refine sumTo_le N fun i _ => ?_
  by_cases hi : leadB R D i = true
  · rw [if_pos hi]
    obtain ⟨hdi, _⟩ := leadB_iff.1 hi
    refine Nat.le_trans (h i hdi) (sizeP_sub fun y _ hy => ?_)
    simp only [Bool.and_eq_true, decide_eq_true_eq] at hy ⊢
    refine ⟨hy.1, ?_⟩
    obtain ⟨g1, g2, g3⟩ := hlab y hy.1
    have h1 := g3 i hdi hy.2
    have h2 := lead_least hi E g1 (E.trans (lab y) y i g1 hy.1 hdi g2 (E.symm i y hdi hy.1 hy.2))
    omega
  · rw [if_neg hi]; exact Nat.zero_le _
open Classical in
/-- A ring that does not come back within m steps has m members. -/
theorem ring_size (P : PermB N D f) {m : Nat} {x : Nat} (hx : D x = true) (h : ∀ j, 0 < j → j < m → itF f j x ≠ x) : m ≤ sizeP (fun y => D y && decide (OrbP f x y)) N := by
  refine inj_size m (fun j => itF f j x) _ (fun i _ => ?_) fun i j hij hj e => ?_
  · have := itF_map P i x hx
    refine ⟨P.lt _ this, ?_⟩
    simp only [Bool.and_eq_true, decide_eq_true_eq]
    exact ⟨this, i, rfl⟩
  · have h1 : itF f i x = itF f i (itF f (j - i) x) := by rw [← itF_add, show i + (j - i) = j by omega]; exact e
    exact h (j - i) (by omega) (by omega) (itF_inj P i _ _ hx (itF_map P _ x hx) h1).symm
/-- By other names as many classes. -/
theorem cls_le (E : EqvP D R) (E' : EqvP D R') (hD : ∀ x, D x = true → x < N) (hg : ∀ x, D x = true → D (g x) = true) (h : ∀ x y, D x = true → D y = true → R' (g x) (g y) → R x y) : clsP R D N ≤ clsP R' D N := by
  classical
  have hch : ∃ lab : Nat → Nat, ∀ x, D x = true → D (lab x) = true ∧ R' (lab x) (g x) ∧ ∀ y, D y = true → R' y (g x) → lab x ≤ y := by
    refine ⟨fun x => if hx : D x = true then Classical.choose (class_least E' (hg x hx)) else 0, fun x hx => ?_⟩
    simp only [dif_pos hx]
    exact Classical.choose_spec (class_least E' (hg x hx))
  obtain ⟨lab, hlab⟩ := hch
  rw [cls_lead, cls_lead]
  refine sizeP_inj _ (m := lab) rfl (fun x _ hx => ?_) fun x y _ _ hx hy e => ?_
  · obtain ⟨hdx, _⟩ := leadB_iff.1 hx
    obtain ⟨g1, g2, g3⟩ := hlab x hdx
    refine ⟨hD _ g1, leadB_iff.2 ⟨g1, fun y hy hdy hr => ?_⟩⟩
    have := g3 y hdy (E'.trans y (lab x) (g x) hdy g1 (hg x hdx) hr g2)
    omega
  · obtain ⟨hdx, _⟩ := leadB_iff.1 hx
    obtain ⟨hdy, _⟩ := leadB_iff.1 hy
    obtain ⟨g1, g2, _⟩ := hlab x hdx
    obtain ⟨k1, k2, _⟩ := hlab y hdy
    rw [← e] at k2
    have hr : R x y := h x y hdx hdy (E'.trans (g x) (lab x) (g y) (hg x hdx) g1 (hg y hdy) (E'.symm _ _ g1 (hg x hdx) g2) k2)
    have h1 := lead_least hx E hdy (E.symm x y hdx hdy hr)
    have h2 := lead_least hy E hdx hr
    omega
/-- The other way round as many rings. -/
theorem orb_inv (P : PermB N D f) (Q : PermB N D g) (hfg : ∀ x, D x = true → g (f x) = x) {x y : Nat} (hx : D x = true) (h : OrbP f x y) : OrbP g x y := by
  have E := orb_eqv Q
  obtain ⟨k, hk⟩ := h
  subst hk
  induction k with
  | zero => exact E.refl x hx
  | succ k ih =>
    rw [itF_succ]
    have hz := itF_map P k x hx
    have hfz := P.map _ hz
    exact E.trans x _ _ hx hz hfz ih (E.symm _ _ hfz hz ⟨1, hfg _ hz⟩)
/-- al after g, or g after al: as many rings. -/
theorem orb_conj {al t : Nat → Nat} (hal : ∀ x, D x = true → D (al x) = true) (ht : ∀ x, D x = true → D (t x) = true) {x y : Nat} (hx : D x = true) (h : OrbP (fun x => al (t x)) x y) : OrbP (fun x => t (al x)) (t x) (t y) := by
  obtain ⟨k, hk⟩ := h
  subst hk
  refine ⟨k, ?_⟩
  induction k generalizing x with
  | zero => rfl
  | succ k ih =>
    show itF _ k (t (al (t x))) = t (itF _ k (al (t x)))
    exact ih (hal _ (ht x hx))
end
end Go.Proofs.Yticickicfigpbaa

namespace Go.Proofs.Yticickicfigpbaa
section
variable {n k : Nat} {adj : Nat → Nat → Bool} {col pos : Nat → Nat} {A K : BS}
/-- Who has the least number that none of some has has none greater than how many these are. -/
theorem mex_le : ∀ (c : Nat) (A : BS), (∀ x, x < c → ∃ j, j < n ∧ A j = true ∧ col j = x) → c ≤ sizeP A n
  | 0, _, _ => Nat.zero_le _
  | c + 1, A, h => by
    obtain ⟨j, hj, ha, hc⟩ := h c (by omega)
    have ih := mex_le c (delB A j) fun x hx => by
      obtain ⟨i, hi, g1, g2⟩ := h x (by omega)
      exact ⟨i, hi, delB_iff.2 ⟨g1, fun e => by rw [e, hc] at g2; omega⟩, g2⟩
    have := sizeP_del ha hj
    omega
/-- A crowd needs as many colours as it has members. -/
theorem clq_col (hK : ClqB adj K) (hlt : ∀ i, i < n → K i = true → col i < k) (hne : ∀ i j, i < n → j < n → K i = true → K j = true → adj i j = true → col i ≠ col j) : sizeP K n ≤ k := by
  have h := sizeP_inj (n := max n k) (sizeP (fun i => K i && decide (i < n)) (max n k)) (A := fun i => K i && decide (i < n)) (B := fun x => decide (x < k)) (m := col) rfl (fun i _ h => by
    simp only [Bool.and_eq_true, decide_eq_true_eq] at h
    have := hlt i h.2 h.1
    exact ⟨by omega, decide_eq_true this⟩) fun i j _ _ h1 h2 e => by
      simp only [Bool.and_eq_true, decide_eq_true_eq] at h1 h2
      apply Classical.byContradiction
      intro hij
      exact hne i j h1.2 h2.2 h1.1 h2.1 (hK i j h1.1 h2.1 hij) e
  rw [sizeP_below _ (by omega)] at h
  have e2 : sizeP K n = sizeP (fun i => K i && decide (i < n)) n := sizeP_congr n fun i hi => by rw [decide_eq_true hi, Bool.and_true]
  have e3 : ∀ d, sizeP (fun i => K i && decide (i < n)) n ≤ sizeP (fun i => K i && decide (i < n)) (n + d) := fun d => by
    induction d with
    | zero => exact Nat.le_refl _
    | succ d ih => rw [← Nat.add_assoc, sizeP_succ]; omega
  have := e3 (max n k - n)
  rw [show n + (max n k - n) = max n k by omega] at this
  omega
/-- Each colour has no more nodes than the largest set without an edge. -/
theorem col_part {al : Nat} (hlt : ∀ i, i < n → col i < k) (hne : ∀ i j, i < n → j < n → adj i j = true → col i ≠ col j) (hal : ∀ S : BS, (∀ i, S i = true → i < n) → LseB adj S → sizeP S n ≤ al) : n ≤ k * al := by
  have h1 := sizeP_parts (N := k) (lab := col) (A := fun _ => true) n fun j hj _ => hlt j hj
  have e : sizeP (fun _ => true) n = n := by
    have := sizeP_below n (d := n) (Nat.le_refl n)
    rw [← sizeP_congr (S := fun x => decide (x < n)) (T := fun _ => true) n fun i hi => decide_eq_true hi]; exact this
  rw [e] at h1
  have h2 : ∀ N, sumTo (fun i => sizeP (fun j => true && decide (col j = i)) n) N ≤ N * al := fun N => by
    induction N with
    | zero => exact Nat.zero_le _
    | succ N ih =>
      simp only [sumTo]
      have h3 := hal (fun j => decide (j < n) && decide (col j = N)) (fun i hi => by simp at hi; exact hi.1) fun i j hi hj => by
        simp only [Bool.and_eq_true, decide_eq_true_eq] at hi hj
        cases g : adj i j with
        | false => rfl
        | true => exact absurd (hi.2.trans hj.2.symm) (hne i j hi.1 hj.1 g)
      have h4 : sizeP (fun j => true && decide (col j = N)) n = sizeP (fun j => decide (j < n) && decide (col j = N)) n := sizeP_congr n fun j hj => by rw [decide_eq_true hj]
      rw [Nat.add_mul, Nat.one_mul]
      omega
  have := h2 k
  omega
/-- Node by node the least number that none ahead has with which it has an edge. -/
structure GreedyC (n : Nat) (adj : Nat → Nat → Bool) (pos col : Nat → Nat) : Prop where
  ne : ∀ i j, i < n → j < n → pos j < pos i → adj i j = true → col i ≠ col j
  least : ∀ i x, i < n → x < col i → ∃ j, j < n ∧ pos j < pos i ∧ adj i j = true ∧ col j = x
/-- WELSH, POWELL. -/
theorem welsh (H : GreedyC n adj pos col) {i : Nat} (hi : i < n) : col i ≤ sizeP (adj i) n ∧ col i ≤ sizeP (fun j => decide (pos j < pos i)) n := by
  constructor
  · refine mex_le (col := col) (col i) (adj i) fun x hx => ?_
    obtain ⟨j, h1, _, h3, h4⟩ := H.least i x hi hx
    exact ⟨j, h1, h3, h4⟩
  · refine mex_le (col := col) (col i) _ fun x hx => ?_
    obtain ⟨j, h1, h2, _, h4⟩ := H.least i x hi hx
    exact ⟨j, h1, decide_eq_true h2, h4⟩
/-- HAJNAL, SURANYI; BERGE: where whoever is ahead of one with an edge to it have all edges, it needs no more colours than the largest crowd has members. -/
theorem perfect (H : GreedyC n adj pos col) (hsym : ∀ i j, adj i j = adj j i) (_hirr : ∀ i, adj i i = false) {om i : Nat} (hi : i < n) (hom : ∀ S : BS, (∀ i, S i = true → i < n) → ClqB adj S → sizeP S n ≤ om)
    (hs : ∀ j l, j < n → l < n → pos j < pos i → pos l < pos i → adj i j = true → adj i l = true → j ≠ l → adj j l = true) : col i < om := by
  let S : BS := fun j => decide (j < n) && (decide (pos j < pos i) && adj i j)
  have hS : ∀ j, S j = true ↔ j < n ∧ pos j < pos i ∧ adj i j = true := fun j => by
    show (decide (j < n) && (decide (pos j < pos i) && adj i j)) = true ↔ _
    simp
  have h1 : col i ≤ sizeP S n := mex_le (col := col) (col i) S fun x hx => by
    obtain ⟨j, h1, h2, h3, h4⟩ := H.least i x hi hx
    exact ⟨j, h1, (hS j).2 ⟨h1, h2, h3⟩, h4⟩
  have hSi : S i = false := by
    cases g : S i with
    | false => rfl
    | true => have := ((hS i).1 g).2.1; omega
  have h2 := hom (insB S i) (fun j hj => by
    rcases insB_iff.1 hj with h | rfl
    · exact ((hS j).1 h).1
    · exact hi) fun j l hj hl hjl => by
      rcases insB_iff.1 hj with h | rfl <;> rcases insB_iff.1 hl with h' | rfl
      · obtain ⟨a1, a2, a3⟩ := (hS j).1 h
        obtain ⟨b1, b2, b3⟩ := (hS l).1 h'
        exact hs j l a1 b1 a2 b2 a3 b3 hjl
      · rw [hsym]; exact ((hS j).1 h).2.2
      · exact ((hS l).1 h').2.2
      · exact absurd rfl hjl
  rw [sizeP_ins hi hSi] at h2
  omega
/-- In the order of a colouring, colour by colour, nobody gets a greater one. -/
theorem order_col {c : Nat → Nat} (H : GreedyC n adj pos col) (hc : ∀ i j, i < n → j < n → adj i j = true → c i ≠ c j) (ho : ∀ i j, i < n → j < n → pos j < pos i → c j ≤ c i) : ∀ (m i : Nat), pos i < m → i < n → col i ≤ c i
  | 0, _, h, _ => absurd h (Nat.not_lt_zero _)
  | m + 1, i, hm, hi => by
    apply Classical.byContradiction
    intro hlt
    obtain ⟨j, h1, h2, h3, h4⟩ := H.least i (c i) hi (by omega)
    have h5 := order_col H hc ho m j (by omega) h1
    have h6 := ho i j hi h1 h2
    exact hc i j hi h1 h3 (by omega)
/-- The longest row along edges that ends in each: each has more than those ahead with which it has an edge. -/
structure RowsC (n : Nat) (adj : Nat → Nat → Bool) (pos b : Nat → Nat) : Prop where
  more : ∀ i j, i < n → j < n → pos j < pos i → adj i j = true → b j < b i
  least : ∀ i, i < n → b i = 1 ∨ ∃ j, j < n ∧ pos j < pos i ∧ adj i j = true ∧ b i = b j + 1
/-- GALLAI, ROY, VITAVER: the rows' lengths are a colouring; and in the order of a colouring no row is longer than it has colours. -/
theorem roy_col {b : Nat → Nat} (H : RowsC n adj pos b) (hsym : ∀ i j, adj i j = adj j i) (hp : ∀ i j, i < n → j < n → pos i = pos j → i = j) (hirr : ∀ i, adj i i = false) (i j : Nat) (hi : i < n) (hj : j < n) (h : adj i j = true) : b i ≠ b j := by
  rcases Nat.lt_trichotomy (pos i) (pos j) with g | g | g
  · have := H.more j i hj hi g (by rw [hsym]; exact h); omega
  · have := hp i j hi hj g; subst this; rw [hirr] at h; cases h
  · have := H.more i j hi hj g h; omega
theorem roy_row {b c : Nat → Nat} (H : RowsC n adj pos b) (hc : ∀ i j, i < n → j < n → adj i j = true → c i ≠ c j) (ho : ∀ i j, i < n → j < n → pos j < pos i → c j ≤ c i) : ∀ (m i : Nat), pos i < m → i < n → b i ≤ c i + 1
  | 0, _, h, _ => absurd h (Nat.not_lt_zero _)
  | m + 1, i, hm, hi => by
    rcases H.least i hi with h | ⟨j, h1, h2, h3, h4⟩
    · omega
    · have h5 := roy_row H hc ho m j (by omega) h1
      have h6 := ho i j hi h1 h2
      have h7 := hc i j hi h1 h3
      omega
end
end Go.Proofs.Yticickicfigpbaa

namespace Go.Proofs.Yticickicfigpbaa

section
variable {m b a c k : Nat} {es : List E3}
theorem adj_irr (hg : goodE m es) (i : Nat) : adjE es i i = false := by
  cases ha : adjE es i i with
  | false => rfl
  | true => exact absurd rfl (adjE_lt hg ha).2.2
def belowB (m : Nat) : BS := fun i => decide (i < m)
theorem below_size (m : Nat) : sizeP (belowB m) m = m := by
  rw [sizeP_congr (T := fun i => !((fun _ => false) i)) m fun i hi => by simp [belowB, hi]]
  have h := sizeP_not (fun _ => false) m
  rw [show sizeP (fun _ => false) m = 0 from sizeP_none fun i _ => rfl, Nat.add_zero] at h
  exact h
theorem deg_below (hg : goodE m es) (v : Nat) : degS (adjE es) m (belowB m) v = degN es v := by
  rw [← deg_eq hg]
  exact sizeP_congr m fun j hj => by simp [belowB, hj]
/-- A set of one. -/
theorem one_size {i : Nat} (hi : i < m) : 1 ≤ sizeP (fun j => decide (j = i)) m := by
  have h := sizeP_del (A := fun j => decide (j = i)) (i := i) (by simp) hi
  omega
theorem most_one (hm : 0 < m) (hm10 : m ≤ 32) (hg : goodE m es) (ap : Bool) (h : MostW (CrowdW (adjE es) ap m) sizeW (2 ^ m) b) : 1 ≤ sizeW b := by
  have h0 := one_size hm
  cases ap with
  | false => exact Nat.le_trans h0 (h.clq_le (K := fun j => decide (j = 0)) (adjE_symm es) hm10 (fun i hi => by have := of_decide_eq_true hi; omega) fun i j hi hj hne => by
      have := of_decide_eq_true hi
      have := of_decide_eq_true hj
      omega)
  | true => exact Nat.le_trans h0 (h.lse_le (K := fun j => decide (j = 0)) (adjE_symm es) (adj_irr hg) hm10 (fun i hi => by have := of_decide_eq_true hi; omega) fun i j hi hj => by
      have e1 := of_decide_eq_true hi
      have e2 := of_decide_eq_true hj
      rw [e1, e2]
      exact adj_irr hg 0)
theorem turan_w (hm10 : m ≤ 32) (hg : goodE m es) (h : MostW (CrowdW (adjE es) false m) sizeW (2 ^ m) b) : 2 * es.length * sizeW b ≤ (sizeW b - 1) * m * m := by
  have h1 := turan (n := m) (adjE_symm es) (adj_irr hg) (sizeW b) (belowB m) (fun i hi => of_decide_eq_true hi) fun K hK hc => h.clq_le (adjE_symm es) hm10 (fun i hi => of_decide_eq_true (hK i hi)) hc
  rw [below_size] at h1
  have h2 : sumA (belowB m) (degS (adjE es) m (belowB m)) m = 2 * es.length := by
    have h3 := sum_degN hg es.length (Nat.le_refl _)
    rw [List.take_length] at h3
    rw [← h3]
    exact sumTo_congr m fun i hi => by
      rw [if_pos (show belowB m i = true from decide_eq_true hi), deg_below hg]
  rw [h2] at h1
  rw [Nat.mul_assoc (sizeW b - 1)]
  exact h1
theorem wei_w (hm10 : m ≤ 32) (hg : goodE m es) (h : MostW (CrowdW (adjE es) true m) sizeW (2 ^ m) b) : sumTo (fun i => 2520 / (degN es i + 1)) m ≤ 2520 * sizeW b := by
  obtain ⟨I, h1, h2, h3⟩ := wei (n := m) (adjE_symm es) (adj_irr hg) 2520 m (belowB m) (by rw [below_size]; exact Nat.le_refl _) fun i hi => of_decide_eq_true hi
  have h4 := h.lse_le (K := I) (adjE_symm es) (adj_irr hg) hm10 (fun i hi => of_decide_eq_true (h1 i hi)) h2
  have h5 : sumA (belowB m) (fun i => 2520 / (degS (adjE es) m (belowB m) i + 1)) m = sumTo (fun i => 2520 / (degN es i + 1)) m := sumTo_congr m fun i hi => by
    rw [if_pos (show belowB m i = true from decide_eq_true hi)]
    show 2520 / (degS (adjE es) m (belowB m) i + 1) = _
    rw [deg_below hg]
  rw [h5] at h3
  exact Nat.le_trans h3 (Nat.mul_le_mul_left _ h4)
def farB (es : List E3) (i j : Nat) : Bool := !adjE es i j && !decide (i = j)
theorem far_or (es : List E3) (i j : Nat) (h : i ≠ j) : adjE es i j = true ∨ farB es i j = true := by
  unfold farB
  cases adjE es i j <;> simp [h]
theorem far_symm (es : List E3) (i j : Nat) : farB es i j = farB es j i := by
  unfold farB
  rw [adjE_symm es i j]
  congr 2
  exact decide_eq_decide.2 ⟨fun h => h.symm, fun h => h.symm⟩
theorem far_lse (hg : goodE m es) {T : BS} (h : ClqB (farB es) T) : LseB (adjE es) T := fun i j hi hj => by
  by_cases e : i = j
  · subst e; exact adj_irr hg i
  · have h1 := h i j hi hj e
    unfold farB at h1
    rw [Bool.and_eq_true, Bool.not_eq_true'] at h1
    exact h1.1
theorem ramsey_w (hm10 : m ≤ 32) (hg : goodE m es) (hc : MostW (CrowdW (adjE es) false m) sizeW (2 ^ m) c) (ha : MostW (CrowdW (adjE es) true m) sizeW (2 ^ m) a) :
    (m < 6 ∨ 3 ≤ sizeW c ∨ 3 ≤ sizeW a) ∧ (m < 9 ∨ 3 ≤ sizeW c ∨ 4 ≤ sizeW a) ∧ (m < 9 ∨ 4 ≤ sizeW c ∨ 3 ≤ sizeW a) := by
  have one : ∀ r, Has (adjE es) m (belowB m) r → r ≤ sizeW c := fun r ⟨T, h1, h2, h3⟩ => Nat.le_trans h3 (hc.clq_le (adjE_symm es) hm10 (fun i hi => of_decide_eq_true (h1 i hi)) h2)
  have two : ∀ r, Has (farB es) m (belowB m) r → r ≤ sizeW a := fun r ⟨T, h1, h2, h3⟩ => Nat.le_trans h3 (ha.lse_le (adjE_symm es) (adj_irr hg) hm10 (fun i hi => of_decide_eq_true (h1 i hi)) (far_lse hg h2))
  have hA : ∀ i, belowB m i = true → i < m := fun i hi => of_decide_eq_true hi
  refine ⟨?_, ?_, ?_⟩
  · rcases Nat.lt_or_ge m 6 with h | h
    · exact .inl h
    · exact .inr ((ramsey33 (far_or es) (adjE_symm es) (far_symm es) hA (by rw [below_size]; exact h)).imp (one 3) (two 3))
  · rcases Nat.lt_or_ge m 9 with h | h
    · exact .inl h
    · exact .inr ((ramsey34 (far_or es) (adjE_symm es) (far_symm es) (adj_irr hg) hA (by rw [below_size]; exact h)).imp (one 3) (two 4))
  · rcases Nat.lt_or_ge m 9 with h | h
    · exact .inl h
    · exact .inr ((ramsey34 (R := farB es) (Q := adjE es) (fun i j hne => (far_or es i j hne).symm) (far_symm es) (adjE_symm es) (fun i => by unfold farB; simp) hA (by rw [below_size]; exact h)).elim (fun h => .inr (two 3 h)) fun h => .inl (one 4 h))
/-- The word of those that are not in it. -/
def restW (m w : Nat) : Nat := (2 ^ m - 1) ^^^ w
theorem rest_bit {w : Nat} (hw : w < 2 ^ m) (i : Nat) : (restW m w).testBit i = (decide (i < m) && !w.testBit i) := by
  unfold restW
  rw [Nat.testBit_xor, Nat.testBit_two_pow_sub_one]
  rcases Nat.lt_or_ge i m with h | h
  · simp [h]
  · rw [Nat.testBit_lt_two_pow (Nat.lt_of_lt_of_le hw (Nat.pow_le_pow_right (by decide) h))]
    have : ¬ i < m := by omega
    simp [this]
theorem rest_lt {w : Nat} (hw : w < 2 ^ m) : restW m w < 2 ^ m := Nat.xor_lt_two_pow (by have := Nat.two_pow_pos m; omega) hw
theorem rest_rest (m w : Nat) : restW m (restW m w) = w := by
  unfold restW
  rw [← Nat.xor_assoc, Nat.xor_self, Nat.zero_xor]
theorem rest_size (hm10 : m ≤ 32) {w : Nat} (hw : w < 2 ^ m) : sizeW (restW m w) + sizeW w = m := by
  rw [size_bitB hm10 (rest_lt hw), size_bitB hm10 hw]
  have h := sizeP_not (bitB w) m
  rw [← sizeP_congr (S := bitB (restW m w)) m fun i hi => by
    show (restW m w).testBit i = !w.testBit i
    rw [rest_bit hw]; simp [hi]] at h
  exact h
/-- A set with a node of each edge. -/
def GuardW (es : List E3) (m w : Nat) : Prop := looseE es (restW m w) = true
theorem loose_crowd (hg : goodE m es) {w : Nat} (hw : w < 2 ^ m) : looseE es w = true ↔ CrowdW (adjE es) true m w := by
  rw [loose_adj hg, crowd_lse (adjE_symm es) (adj_irr hg) hw]
  exact Iff.rfl
theorem guard_all (es : List E3) (m : Nat) : GuardW es m (2 ^ m - 1) := by
  unfold GuardW restW
  rw [Nat.xor_self]
  exact looseE_zero es
theorem all_most (hm10 : m ≤ 32) : ∀ j, j < 2 ^ m - 1 → sizeW j < sizeW (2 ^ m - 1) := fun j hj => by
  have h1 := rest_size hm10 (m := m) (w := j) (by omega)
  have h2 := rest_size hm10 (m := m) (w := 2 ^ m - 1) (by have := Nat.two_pow_pos m; omega)
  have h3 : sizeW (restW m (2 ^ m - 1)) = 0 := by
    unfold restW
    rw [Nat.xor_self]
    have := size_bitB (n := 0) (w := 0) (by decide) (by decide)
    rw [this]; rfl
  have h4 : 0 < sizeW (restW m j) := by
    have hr : restW m j < 2 ^ m := rest_lt (by omega)
    rw [size_bitB hm10 hr]
    apply Nat.pos_of_ne_zero
    intro e
    have hz : restW m j = 0 := by
      apply Nat.eq_of_testBit_eq
      intro i
      rw [Nat.zero_testBit]
      cases hb : (restW m j).testBit i with
      | false => rfl
      | true =>
        have hi := bit_lt hr hb
        have h5 := sizeP_del (A := bitB (restW m j)) (i := i) hb hi
        omega
    have e2 := rest_rest m j
    rw [hz] at e2
    unfold restW at e2
    rw [Nat.xor_zero] at e2
    omega
  omega
theorem gallai_w (hm10 : m ≤ 32) (hg : goodE m es) (ha : MostW (CrowdW (adjE es) true m) sizeW (2 ^ m) a) (hc : FewW (GuardW es m) sizeW (2 ^ m - 1) (2 ^ m) c) : sizeW a + sizeW c = m := by
  have hpos := Nat.two_pow_pos m
  have hal := ha.below hpos
  have hcl : c < 2 ^ m := by rcases hc.lt with e | e <;> omega
  have h1 := rest_size hm10 hal
  have h2 := rest_size hm10 hcl
  have h3 := hc.le (restW m a) (rest_lt hal) (by unfold GuardW; rw [rest_rest]; exact (loose_crowd hg hal).2 ha.ok)
  have h4 := ha.le (restW m c) (rest_lt hcl) ((loose_crowd hg (rest_lt hcl)).1 hc.ok)
  omega
theorem colours_w (hm10 : m ≤ 32) (hg : goodE m es) {col : Nat → Nat} (hlt : ∀ i, i < m → col i < k) (hne : ∀ i j, i < m → j < i → adjE es j i = true → col j ≠ col i)
    (hc : MostW (CrowdW (adjE es) false m) sizeW (2 ^ m) c) (ha : MostW (CrowdW (adjE es) true m) sizeW (2 ^ m) a) : sizeW c ≤ k ∧ m ≤ k * sizeW a := by
  have hn2 : ∀ i j, i < m → j < m → adjE es i j = true → col i ≠ col j := fun i j hi hj h => by
    rcases Nat.lt_trichotomy i j with h1 | h1 | h1
    · exact hne j i hj h1 h
    · subst h1; rw [adj_irr hg] at h; cases h
    · exact (hne i j hi h1 (by rw [adjE_symm]; exact h)).symm
  have hcl := hc.below (Nat.two_pow_pos m)
  constructor
  · rw [size_bitB hm10 hcl]
    exact clq_col (n := m) (K := bitB c) (adj := adjE es) ((crowd_clq (adjE_symm es) hcl).1 hc.ok) (fun i hi _ => hlt i hi) fun i j hi hj _ _ h => hn2 i j hi hj h
  · exact col_part hlt hn2 fun S hS hl => ha.lse_le (adjE_symm es) (adj_irr hg) hm10 hS hl
end
end Go.Proofs.Yticickicfigpbaa

namespace Go.Proofs.Yticickicfigpbaa
open Go.RowKit

def CrowdTop (ap : Bool) (w : World) (n : Int) (es : List E3) (e : Ending) (w' : World) : Prop :=
  (gcheck n es ≠ 0 → e = .returned (.tuple #[.int .u32 0, .int .i64 (gcheck n es)])) ∧
  (gcheck n es = 0 → ∃ b : Nat, MostW (CrowdW (adjE es) ap n.toNat) sizeW (2 ^ n.toNat) b ∧ e = .returned (.tuple #[.int .u32 (b : Int), .int .i64 0])) ∧ Below w.heap.size w w'
def CoverTop (w : World) (n : Int) (es : List E3) (e : Ending) (w' : World) : Prop :=
  (gcheck n es ≠ 0 → e = .returned (.tuple #[.int .u32 0, .int .i64 (gcheck n es)])) ∧
  (gcheck n es = 0 → ∃ b : Nat, FewW (GuardW es n.toNat) sizeW (2 ^ n.toNat - 1) (2 ^ n.toNat) b ∧ e = .returned (.tuple #[.int .u32 (b : Int), .int .i64 0])) ∧ Below w.heap.size w w'
end Go.Proofs.Yticickicfigpbaa

namespace Go.Proofs.Yticickicfigpbaa

section
variable {adj : Nat → Nat → Bool} {o : List Nat} {col : Nat → Nat} {n i j t : Nat}
theorem used_ex {l : List Nat} {c : Nat} (h : usedB adj l col i c = true) : ∃ j, j ∈ l ∧ adj i j = true ∧ col j = c := by
  unfold usedB at h
  rw [List.any_eq_true] at h
  obtain ⟨j, h1, h2⟩ := h
  rw [Bool.and_eq_true, beq_iff_eq] at h2
  exact ⟨j, h1, h2.1, h2.2⟩
/-- The node's colour is no greater than the number of its neighbours. -/
theorem GreedL.deg (h : GreedL adj o n col) (hlt : ∀ i ∈ o, i < n) (ht : t < n) (hi : o[t]? = some i) : col i ≤ sizeP (adj i) n :=
  mex_le (n := n) (col := col) (col i) (adj i) fun x hx => by
    obtain ⟨j, h1, h2, h3⟩ := used_ex ((h.mex t i ht hi).1 x hx)
    exact ⟨j, hlt j (List.mem_of_mem_take h1), h2, h3⟩
theorem place_ex (hnd : o.Nodup) (hlt : ∀ i ∈ o, i < n) (hl : o.length = n) (hi : i < n) : ∃ t, t < n ∧ o[t]? = some i := by
  obtain ⟨t, ht⟩ := List.getElem?_of_mem (all_of_nodup n o hnd hlt (by omega) i hi)
  exact ⟨t, by have := (List.getElem?_eq_some_iff.1 ht).1; omega, ht⟩
/-- No edge has two nodes of one colour. -/
theorem GreedL.ne (h : GreedL adj o n col) (hsym : ∀ i j, adj i j = adj j i) (hirr : ∀ i, adj i i = false) (hnd : o.Nodup) (hlt : ∀ i ∈ o, i < n) (hl : o.length = n) (hi : i < n) (hj : j < n) (ha : adj i j = true) : col i ≠ col j := by
  obtain ⟨t, ht, hti⟩ := place_ex hnd hlt hl hi
  obtain ⟨s, hs, hsj⟩ := place_ex hnd hlt hl hj
  have key : ∀ {i j t s : Nat}, t < n → o[t]? = some i → o[s]? = some j → adj i j = true → s < t → col i ≠ col j := fun {i j t s} ht hti hsj ha hst e => by
    have h2 := (h.mex t i ht hti).2
    have hm : j ∈ o.take t := List.mem_of_getElem? (i := s) (by rw [List.getElem?_take, if_pos hst]; exact hsj)
    unfold usedB at h2
    rw [List.any_eq_false] at h2
    exact h2 j hm (by rw [Bool.and_eq_true, beq_iff_eq]; exact ⟨ha, e.symm⟩)
  rcases Nat.lt_trichotomy t s with h1 | h1 | h1
  · exact (key hs hsj hti (by rw [hsym]; exact ha) h1).symm
  · subst h1
    rw [hti] at hsj
    injection hsj with hsj
    rw [hsj, hirr] at ha; cases ha
  · exact key ht hti hsj ha h1
theorem GreedL.small (h : GreedL adj o n col) (hnd : o.Nodup) (hlt : ∀ i ∈ o, i < n) (hl : o.length = n) (hi : i < n) : col i < n := by
  obtain ⟨t, ht, hti⟩ := place_ex hnd hlt hl hi
  have := h.lt ht hti
  omega
end
end Go.Proofs.Yticickicfigpbaa

namespace Go.Proofs.Yticickicfigpbaa

/-- All nodes of the first c colours, and of the next one those among the first i nodes. -/
def ordTo (l : List Nat) (n : Nat) : Nat → Nat → List Nat
  | 0, i => (List.range i).filter fun x => l.getD x 0 == 0
  | c + 1, i => ordTo l n c n ++ (List.range i).filter fun x => l.getD x 0 == c + 1
section
variable {l : List Nat} {n c i : Nat}
theorem ordTo_step (l : List Nat) (n c i : Nat) : ordTo l n c (i + 1) = if l.getD i 0 = c then ordTo l n c i ++ [i] else ordTo l n c i := by
  have hf : ∀ c, (List.range (i + 1)).filter (fun x => l.getD x 0 == c) = if l.getD i 0 = c then (List.range i).filter (fun x => l.getD x 0 == c) ++ [i] else (List.range i).filter (fun x => l.getD x 0 == c) := fun c => by
    rw [List.range_succ, List.filter_append]
    by_cases h : l.getD i 0 = c
    · rw [if_pos h, List.filter_cons, if_pos (by simpa using h)]; rfl
    · rw [if_neg h, List.filter_cons, if_neg (by simpa using h)]; simp
  cases c with
  | zero => exact hf 0
  | succ c =>
    show ordTo l n c n ++ _ = _
    rw [hf (c + 1)]
    by_cases h : l.getD i 0 = c + 1
    · rw [if_pos h, if_pos h, ← List.append_assoc]; rfl
    · rw [if_neg h, if_neg h]; rfl
theorem ordTo_next (l : List Nat) (n c : Nat) : ordTo l n (c + 1) 0 = ordTo l n c n := by
  show ordTo l n c n ++ _ = _
  simp
theorem ordTo_zero (l : List Nat) (n : Nat) : ordTo l n 0 0 = [] := rfl
theorem ordTo_mem : ∀ c i, i ≤ n → ∀ x, x ∈ ordTo l n c i ↔ (x < n ∧ l.getD x 0 < c) ∨ (x < i ∧ l.getD x 0 = c)
  | 0, i, _, x => by
    show x ∈ (List.range i).filter _ ↔ _
    rw [List.mem_filter, List.mem_range, beq_iff_eq]
    omega
  | c + 1, i, hi, x => by
    show x ∈ ordTo l n c n ++ _ ↔ _
    rw [List.mem_append, ordTo_mem c n (Nat.le_refl _) x, List.mem_filter, List.mem_range, beq_iff_eq]
    omega
theorem ordTo_pair : ∀ c i, i ≤ n → (ordTo l n c i).Pairwise fun a b => a ≠ b ∧ l.getD a 0 ≤ l.getD b 0
  | 0, 0, _ => List.Pairwise.nil
  | c + 1, 0, _ => by rw [ordTo_next]; exact ordTo_pair c n (Nat.le_refl _)
  | c, i + 1, hi => by
    have ih := ordTo_pair c i (by omega)
    rw [ordTo_step]
    split
    · rename_i hc
      rw [List.pairwise_append]
      refine ⟨ih, by simp, fun a ha b hb => ?_⟩
      rw [List.mem_singleton.1 hb]
      rcases (ordTo_mem c i (by omega) a).1 ha with h | h
      · exact ⟨fun e => by rw [e, hc] at h; omega, by omega⟩
      · exact ⟨by omega, by omega⟩
    · exact ih
termination_by c i => (c, i)
theorem ordTo_lt (hi : i ≤ n) : ∀ x ∈ ordTo l n c i, x < n := fun x hx => by
  rcases (ordTo_mem c i hi x).1 hx with h | h <;> omega
theorem nodup_le {o : List Nat} (hnd : o.Nodup) (hlt : ∀ i ∈ o, i < n) : o.length ≤ n := by
  apply Nat.le_of_not_lt
  intro h
  have := all_of_nodup (n + 1) o hnd (fun i hi => Nat.lt_succ_of_lt (hlt i hi)) (by omega) n (Nat.lt_succ_self n)
  exact absurd (hlt n this) (Nat.lt_irrefl n)
/-- The order of a colouring. -/
structure OwnO (l : List Nat) (n : Nat) (o : List Nat) : Prop where
  nd : o.Nodup
  lt : ∀ i ∈ o, i < n
  len : o.length = n
  up : o.Pairwise fun a b => l.getD a 0 ≤ l.getD b 0
theorem own_ok {k : Nat} (h : ∀ i, i < n → l.getD i 0 < k) : OwnO l n (ordTo l n k 0) := by
  have hp := ordTo_pair (l := l) (n := n) k 0 (Nat.zero_le _)
  have hnd : (ordTo l n k 0).Nodup := hp.imp fun h => h.1
  have hlt := ordTo_lt (l := l) (n := n) (c := k) (i := 0) (Nat.zero_le _)
  refine ⟨hnd, hlt, ?_, hp.imp fun h => h.2⟩
  have h1 := nodup_le hnd hlt
  apply Nat.le_antisymm h1
  apply Nat.le_of_not_lt
  intro h2
  obtain ⟨i, hi, hm⟩ := left_some n _ h2
  exact hm ((ordTo_mem k 0 (Nat.zero_le _) i).2 (.inl ⟨hi, h i hi⟩))
end
/-- Where each node stands in an order. -/
structure PlaceP (o : List Nat) (n : Nat) (pos : Nat → Nat) : Prop where
  at_ : ∀ i, i < n → o[pos i]? = some i
  lt : ∀ i, i < n → pos i < n
  take : ∀ t j, j ∈ o.take t → pos j < t
  inj : ∀ i j, i < n → j < n → pos i = pos j → i = j
section
variable {o : List Nat} {n : Nat} {adj : Nat → Nat → Bool} {col pos : Nat → Nat}
theorem place_of (hnd : o.Nodup) (hlt : ∀ i ∈ o, i < n) (hl : o.length = n) : ∃ pos, PlaceP o n pos := by
  have h : ∀ i, ∃ t, i < n → (t < n ∧ o[t]? = some i) := fun i => by
    by_cases hi : i < n
    · obtain ⟨t, h⟩ := place_ex hnd hlt hl hi
      exact ⟨t, fun _ => h⟩
    · exact ⟨0, fun h => absurd h hi⟩
  obtain ⟨pos, hp⟩ := Classical.axiomOfChoice h
  refine ⟨pos, fun i hi => (hp i hi).2, fun i hi => (hp i hi).1, fun t j hj => ?_, fun i j hi hj e => ?_⟩
  · obtain ⟨s, hs⟩ := List.getElem?_of_mem hj
    have hst : s < t := by
      have := (List.getElem?_eq_some_iff.1 hs).1
      rw [List.length_take] at this
      omega
    rw [List.getElem?_take, if_pos hst] at hs
    have hjn := hlt j (List.mem_of_getElem? hs)
    have e : s = pos j := (List.getElem?_inj (List.getElem?_eq_some_iff.1 hs).1 hnd).1 (hs.trans (hp j hjn).2.symm)
    omega
  · have h1 := (hp i hi).2
    rw [e, (hp j hj).2] at h1
    injection h1 with h1
    exact h1.symm
theorem greed_c (P : PlaceP o n pos) (hlt : ∀ i ∈ o, i < n) (h : GreedL adj o n col) : GreedyC n adj pos col := by
  refine ⟨fun i j hi hj hp ha e => ?_, fun i x hi hx => ?_⟩
  · have h2 := (h.mex (pos i) i (P.lt i hi) (P.at_ i hi)).2
    have hm : j ∈ o.take (pos i) := List.mem_of_getElem? (i := pos j) (by rw [List.getElem?_take, if_pos hp]; exact P.at_ j hj)
    unfold usedB at h2
    rw [List.any_eq_false] at h2
    exact h2 j hm (by rw [Bool.and_eq_true, beq_iff_eq]; exact ⟨ha, e.symm⟩)
  · obtain ⟨j, h1, h2, h3⟩ := used_ex ((h.mex (pos i) i (P.lt i hi) (P.at_ i hi)).1 x hx)
    exact ⟨j, hlt j (List.mem_of_mem_take h1), P.take _ _ h1, h2, h3⟩
theorem own_up {l : List Nat} (O : OwnO l n o) (P : PlaceP o n pos) {i j : Nat} (hi : i < n) (hj : j < n) (hp : pos j < pos i) : l.getD j 0 ≤ l.getD i 0 := by
  obtain ⟨a1, a2⟩ := List.getElem?_eq_some_iff.1 (P.at_ i hi)
  obtain ⟨b1, b2⟩ := List.getElem?_eq_some_iff.1 (P.at_ j hj)
  have h := List.pairwise_iff_getElem.1 O.up (pos j) (pos i) b1 a1 hp
  rw [a2, b2] at h
  exact h
theorem part_ne {k : Nat} {l : List Nat} (hp : PartL adj k l) (hl : l.length = n) (hsym : ∀ i j, adj i j = adj j i) (hirr : ∀ i, adj i i = false) {i j : Nat} (hi : i < n) (hj : j < n) (ha : adj i j = true) : l.getD i 0 ≠ l.getD j 0 := by
  rcases Nat.lt_trichotomy i j with h | h | h
  · exact hp.ne j i (by omega) h ha
  · subst h; rw [hirr] at ha; cases ha
  · exact (hp.ne i j (by omega) h (by rw [hsym]; exact ha)).symm
/-- In the order of a colouring nobody gets a greater one. -/
theorem own_greed {k : Nat} {l : List Nat} (hp : PartL adj k l) (hl : l.length = n) (hsym : ∀ i j, adj i j = adj j i) (hirr : ∀ i, adj i i = false) (O : OwnO l n o) (h : GreedL adj o n col) {i : Nat} (hi : i < n) : col i < k := by
  obtain ⟨pos, P⟩ := place_of O.nd O.lt O.len
  have h1 := order_col (greed_c P O.lt h) (c := fun i => l.getD i 0) (fun i j hi hj ha => part_ne hp hl hsym hirr hi hj ha) (fun i j hi hj hp => own_up O P hi hj hp) (pos i + 1) i (by omega) hi
  have h2 := hp.lt i (by omega)
  have h3 : col i ≤ l.getD i 0 := h1
  omega
end
end Go.Proofs.Yticickicfigpbaa

namespace Go.Proofs.Yticickicfigpbaa

theorem perfect_w {adj : Nat → Nat → Bool} {n k c : Nat} {l ll : List Nat} {col : Nat → Nat} (hs : ∀ i j, adj i j = adj j i) (hr : ∀ i, adj i i = false) (hn : n ≤ 32) (hE : ElimP adj n l) (hlen : l.length = n) (hG : GreedL adj l.reverse n col) (hL : LeastC adj n k ll) (hc : MostW (CrowdW adj false n) sizeW (2 ^ n) c) :
    (∀ i, i < n → col i < k) ∧ k = sizeW c := by
  have hnd : l.reverse.Nodup := by
    rw [List.Nodup, List.pairwise_reverse]
    exact hE.nd.imp fun h => Ne.symm h
  have hlt : ∀ i ∈ l.reverse, i < n := fun i hi => hE.lt i (List.mem_reverse.1 hi)
  have hrl : l.reverse.length = n := by rw [List.length_reverse]; exact hlen
  obtain ⟨pos, P⟩ := place_of hnd hlt hrl
  have hat : ∀ i, i < n → l[n - 1 - pos i]? = some i := fun i hi => by
    have h := P.at_ i hi
    have hp := P.lt i hi
    rw [List.getElem?_reverse (by omega), hlen] at h
    exact h
  have hlate : ∀ i j, i < n → j < n → pos j < pos i → restB n (l.take (n - 1 - pos i)) j = true := fun i j hi hj hp => by
    refine restB_iff.2 ⟨hj, fun hm => ?_⟩
    obtain ⟨s, hsm⟩ := List.getElem?_of_mem hm
    have hst : s < n - 1 - pos i := by
      have := (List.getElem?_eq_some_iff.1 hsm).1
      rw [List.length_take] at this
      omega
    rw [List.getElem?_take, if_pos hst] at hsm
    have e : s = n - 1 - pos j := (List.getElem?_inj (List.getElem?_eq_some_iff.1 hsm).1 hE.nd).1 (hsm.trans (hat j hj).symm)
    have := P.lt i hi
    omega
  have HC := greed_c P hlt hG
  have hcol : ∀ i, i < n → col i < sizeW c := fun i hi => perfect HC hs hr hi (fun S hS hq => hc.clq_le hs hn hS hq) fun j q hj hq h1 h2 h3 h4 hne =>
    hE.simp (n - 1 - pos i) i (hat i hi) j q (hlate i j hi hj h1) (hlate i q hi hq h2) h3 h4 hne
  have hne : ∀ i j, i < n → j < i → adj j i = true → col j ≠ col i := fun i j hi hji ha => by
    rcases Nat.lt_trichotomy (pos i) (pos j) with h | h | h
    · exact HC.ne j i (by omega) hi h ha
    · have := P.inj i j hi (by omega) h
      omega
    · exact (HC.ne i j hi (by omega) h (by rw [hs]; exact ha)).symm
  have h1 : k ≤ sizeW c := hL.le hcol hne
  have h2 : sizeW c ≤ k := by
    obtain ⟨hp, hl⟩ := hL.part
    have hcl := hc.below (Nat.two_pow_pos n)
    rw [size_bitB hn hcl]
    refine clq_col (n := n) (K := bitB c) (adj := adj) (col := fun i => ll.getD i 0) ((crowd_clq hs hcl).1 hc.ok) (fun i hi _ => hp.lt i (by omega)) fun i j hi hj _ _ ha => ?_
    rcases Nat.lt_trichotomy i j with h | h | h
    · exact hp.ne j i (by omega) h ha
    · subst h; rw [hr] at ha; cases ha
    · exact (hp.ne i j (by omega) h (by rw [hs]; exact ha)).symm
  have e : k = sizeW c := by omega
  exact ⟨fun i hi => by rw [e]; exact hcol i hi, e⟩
end Go.Proofs.Yticickicfigpbaa

namespace Go.Proofs.Yticickicfigpbaa
open Go.RowKit

def nearB (a b : Int) (e : E3) : Bool := (e.1 == a && e.2.1 == b) || (e.1 == b && e.2.1 == a)
def nearI (es : List E3) (a b : Int) : Bool := es.any (nearB a b)
theorem nearI_nat (es : List E3) (a b : Nat) : nearI es (a : Int) (b : Int) = adjE es a b := rfl

set_option maxRecDepth 100000 in
set_option maxHeartbeats 400000 in
theorem near_any (n a b : Int) (A : Option Addr) (len cap : Nat) (es : List E3) (w : World) (hE : EdgesAt w w.heap.size A len es) (hl : len ≤ 45) :
    Calls Try.prog 30 #[.agg #[.int .i64 n, .slice A len cap], .int .i64 a, .int .i64 b] w fun e w' => e = .returned (.bool (nearI es a b)) ∧ Below w.heap.size w w' := by
  go_enter Try.func30, Try.ntmps30
  go_wp2
  go_loopw [12] (fun j wr => ∃ k : Nat, k ≤ len ∧ j = .int .i64 k ∧ Hid (nearI (es.take k) a b = false) ∧ Below w.heap.size w wr) (fun j _ => len - (intOf j).toNat)
  case atStart => exact ⟨0, Nat.zero_le _, rfl, Lib.hid rfl, (Below.refl _ _).alloc (Nat.le_refl _) _⟩
  case round =>
    obtain ⟨k, hk, rfl, HN, hB⟩ := hrel
    by_cases hlt : k < len
    · obtain ⟨b', off, ⟨a0, a1, a2⟩, rfl, hb, hx, hc0, hc1, hc2⟩ := (hE.below hB).at_ hlt
      by_cases hs : nearB a b (a0, a1, a2) = true
      · have HR : Hid (nearI es a b = true) := Lib.hid (by unfold nearI; rw [List.any_eq_true]; exact ⟨_, List.mem_of_getElem? hx, hs⟩)
        have hw : ((a0 == a) = true ∧ (a1 == b) = true) ∨ ((a0 == a) = false ∧ (a0 == b) = true ∧ (a1 == a) = true) ∨ ((a0 == a) = true ∧ (a1 == b) = false ∧ (a0 == b) = true ∧ (a1 == a) = true) := by
          simp [nearB] at hs; simp; omega
        clear hs hx
        rcases hw with ⟨h1, h2⟩ | ⟨h1, h2, h3⟩ | ⟨h1, h2, h3, h4⟩
        all_goals
          go_wp2
          go_ret
          exact ⟨ret_bool HR.out.symm, hB.alloc hB.size _⟩
      · have HN2 : Hid (nearI (es.take (k + 1)) a b = false) := Lib.hid (by
          obtain ⟨hkl, hxe⟩ := List.getElem?_eq_some_iff.1 hx
          have := HN.out
          unfold nearI at this ⊢
          rw [List.take_succ_eq_append_getElem hkl, hxe, any_snoc, this]
          simpa using hs)
        have hw : ((a0 == a) = true ∧ (a1 == b) = false ∧ (a0 == b) = false) ∨ ((a0 == a) = true ∧ (a1 == b) = false ∧ (a0 == b) = true ∧ (a1 == a) = false) ∨ ((a0 == a) = false ∧ (a0 == b) = true ∧ (a1 == a) = false) ∨ ((a0 == a) = false ∧ (a0 == b) = false) := by
          simp [nearB] at hs; simp; omega
        clear hs hx
        rcases hw with ⟨h1, h2, h3⟩ | ⟨h1, h2, h3, h4⟩ | ⟨h1, h2, h3⟩ | ⟨h1, h2⟩
        all_goals
          go_wp2
          go_roundw
          case rel => exact ⟨k + 1, by omega, by go_num, HN2, hB.alloc hB.size _⟩
          case measure => simp [intOf]; omega
    · have HR : Hid (nearI es a b = false) := Lib.hid (by
        have := HN.out
        rwa [List.take_of_length_le (by have := hE.1; omega)] at this)
      go_wp2
      go_ret
      exact ⟨ret_bool HR.out.symm, hB⟩
set_option maxRecDepth 100000 in
theorem near_v (n a b : Int) (A : Option Addr) (len cap : Nat) (es : List E3) (v : Bool) (w : World) (hE : EdgesAt w w.heap.size A len es) (hl : len ≤ 45) (hv : nearI es a b = v) :
    Calls Try.prog 30 #[.agg #[.int .i64 n, .slice A len cap], .int .i64 a, .int .i64 b] w fun e w' => e = .returned (.bool v) ∧ Below w.heap.size w w' := by
  subst hv; exact near_any n a b A len cap es w hE hl
end Go.Proofs.Yticickicfigpbaa

namespace Go.Proofs.Yticickicfigpbaa
open Go.RowKit

/-- Two neighbours that are left, without an edge. -/
def badB (adj : Nat → Nat → Bool) (l : List Nat) (i a b : Nat) : Bool := adj i a && adj i b && !decide (a ∈ l) && !decide (b ∈ l) && !adj a b
def BadTo (adj : Nat → Nat → Bool) (l : List Nat) (i a b : Nat) : Prop := ∀ b', b' < b → badB adj l i a b' = false
theorem hasI_natG {l : List Nat} {k : Nat} : hasI (natG l) (k : Int) = decide (k ∈ l) := by
  rw [Bool.eq_iff_iff, hasI_iff, decide_eq_true_iff]
  unfold natG
  rw [List.mem_map]
  constructor
  · rintro ⟨x, hx, e⟩
    have : x = k := by omega
    rw [← this]; exact hx
  · exact fun h => ⟨k, h, rfl⟩
theorem BadTo.next {adj : Nat → Nat → Bool} {l : List Nat} {i a b : Nat} (h : BadTo adj l i a b) (hb : badB adj l i a b = false) : BadTo adj l i a (b + 1) := fun b' hb' => by
  by_cases e : b' = b
  · subst e; exact hb
  · exact h b' (by omega)
set_option maxRecDepth 100000 in
set_option maxHeartbeats 8000000 in
theorem refSimple_any (n i : Nat) (A : Option Addr) (len cap : Nat) (es : List E3) (Ag : Option Addr) (lg cg : Nat) (gone : List Nat) (r : Bool) (w : World) (hE : EdgesAt w w.heap.size A len es) (hI : IntsAt w w.heap.size Ag lg (natG gone)) (hn : n ≤ 10) (hl : len ≤ 45) (hg : lg ≤ 1000)
    (hr : r = true ↔ ∀ a b, b < a → a < n → badB (adjE es) gone i a b = false) :
    Calls Try.prog 16 #[.agg #[.int .i64 (n : Int), .slice A len cap], .int .i64 (i : Int), .slice Ag lg cg] w fun e w' => e = .returned (.bool r) ∧ Below w.heap.size w w' := by
  have HX := Lib.hid (BoxG.start (n := (n : Int)) (cap := cap) hE)
  have HRR : Hid (r = true ↔ ∀ a b, b < a → a < n → badB (adjE es) gone i a b = false) := Lib.hid hr
  have HII := Lib.hid hI
  have HNR := Lib.hid (fun (x y : Nat) (b : Bool) (h : adjE es x y = b) W (hW : EdgesAt W W.heap.size A len es) => near_v (n : Int) (x : Int) (y : Int) A len cap es b W hW hl h)
  have HHS := Lib.hid (fun (x : Nat) (b : Bool) (h : decide (x ∈ gone) = b) W (hW : Below w.heap.size w W) => has_v lg cg (x : Int) b Ag (natG gone) W ((hI.below hW).more hW.size) (by omega) (by rw [hasI_natG]; exact h))
  clear hE hr hI
  go_enter Try.func16, Try.ntmps16
  go_wp2_with fail
  go_loopw [7] (fun y wr => ∃ a : Nat, a ≤ n ∧ y = .int .i64 a ∧ Hid (∀ a' b', b' < a' → a' < a → badB (adjE es) gone i a' b' = false) ∧ Hid (BoxG w (n : Int) A len cap es wr)) (fun y _ => n - (intOf y).toNat)
  case atStart => exact ⟨0, Nat.zero_le _, rfl, Lib.hid (fun a' _ _ h => absurd h (Nat.not_lt_zero a')), HX⟩
  case round =>
    clear HX
    obtain ⟨a, ha, rfl, HC, HXr⟩ := hrel
    have k0 := HXr.out.c0
    by_cases han : a < n
    · have han' : (a : Int) < (n : Int) := by omega
      obtain ⟨wo, hwo⟩ : ∃ wo : World, wo = wr := ⟨_, rfl⟩
      rw [← hwo] at HXr k0 ⊢
      clear hwo
      go_wp2_with fail
      go_loopw [8] (fun y wr => ∃ b : Nat, b ≤ a ∧ y = .int .i64 b ∧ Hid (BadTo (adjE es) gone i a b) ∧ Hid (BoxG w (n : Int) A len cap es wr)) (fun y _ => a - (intOf y).toNat)
      case atStart => exact ⟨0, Nat.zero_le _, rfl, Lib.hid (fun b' h => absurd h (Nat.not_lt_zero b')), HXr⟩
      case round =>
        clear HXr k0
        obtain ⟨b, hb, rfl, HJ, HXq⟩ := hrel
        have q0 := HXq.out.c0
        have q1 := HXq.out.c1
        by_cases hba : b < a
        · have hba' : (b : Int) < (a : Int) := by omega
          have HSK := Lib.hid (fun (h : badB (adjE es) gone i a b = false) => HJ.out.next h)
          have HBD : Hid (badB (adjE es) gone i a b = (adjE es i a && adjE es i b && !decide (a ∈ gone) && !decide (b ∈ gone) && !adjE es a b)) := Lib.hid rfl
          have HFL : Hid (badB (adjE es) gone i a b = true → r = false) := Lib.hid fun h => by
            cases hrv : r with
            | false => rfl
            | true => rw [HRR.out.1 hrv a b hba han] at h; cases h
          obtain ⟨v1, hv1⟩ : ∃ v, adjE es i a = v := ⟨_, rfl⟩
          obtain ⟨v2, hv2⟩ : ∃ v, adjE es i b = v := ⟨_, rfl⟩
          obtain ⟨v3, hv3⟩ : ∃ v, decide (a ∈ gone) = v := ⟨_, rfl⟩
          obtain ⟨v4, hv4⟩ : ∃ v, decide (b ∈ gone) = v := ⟨_, rfl⟩
          obtain ⟨v5, hv5⟩ : ∃ v, adjE es a b = v := ⟨_, rfl⟩
          have H1 := Lib.hid (HNR.out i a v1 hv1)
          have H2 := Lib.hid (HNR.out i b v2 hv2)
          have H3 := Lib.hid (HHS.out a v3 hv3)
          have H4 := Lib.hid (HHS.out b v4 hv4)
          have H5 := Lib.hid (HNR.out a b v5 hv5)
          rw [hv1, hv2, hv3, hv4, hv5] at HBD
          clear hv1 hv2 hv3 hv4 hv5 HJ
          go_wp2_with fail
          refine (H1.out _ HXq.out.edges).mono ?_
          rintro e w1 ⟨rfl, hB⟩
          have HX1 := Lib.hid (HXq.out.next hB)
          clear hB q0 q1
          have q0 := HX1.out.c0
          have q1 := HX1.out.c1
          cases v1 with
          | false =>
            have HN := Lib.hid (HSK.out (by rw [HBD.out]; rfl))
            go_wp2_with fail
            go_roundw
            case rel => exact ⟨b + 1, by omega, by go_num, HN, HX1⟩
            case measure => simp [intOf]; omega
          | true =>
            go_wp2_with fail
            refine (H2.out _ HX1.out.edges).mono ?_
            rintro e w2 ⟨rfl, hB⟩
            have HX2 := Lib.hid (HX1.out.next hB)
            clear hB q0 q1
            have q0 := HX2.out.c0
            have q1 := HX2.out.c1
            cases v2 with
            | false =>
              have HN := Lib.hid (HSK.out (by rw [HBD.out]; rfl))
              go_wp2_with fail
              go_roundw
              case rel => exact ⟨b + 1, by omega, by go_num, HN, HX2⟩
              case measure => simp [intOf]; omega
            | true =>
              go_wp2_with fail
              refine (H3.out _ HX2.out.below).mono ?_
              rintro e w3 ⟨rfl, rfl⟩
              cases v3 with
              | true =>
                have HN := Lib.hid (HSK.out (by rw [HBD.out]; rfl))
                go_wp2_with fail
                go_roundw
                case rel => exact ⟨b + 1, by omega, by go_num, HN, HX2⟩
                case measure => simp [intOf]; omega
              | false =>
                go_wp2_with fail
                refine (H4.out _ HX2.out.below).mono ?_
                rintro e w4 ⟨rfl, rfl⟩
                cases v4 with
                | true =>
                  have HN := Lib.hid (HSK.out (by rw [HBD.out]; rfl))
                  go_wp2_with fail
                  go_roundw
                  case rel => exact ⟨b + 1, by omega, by go_num, HN, HX2⟩
                  case measure => simp [intOf]; omega
                | false =>
                  go_wp2_with fail
                  refine (H5.out _ HX2.out.edges).mono ?_
                  rintro e w5 ⟨rfl, hB⟩
                  have HX5 := Lib.hid (HX2.out.next hB)
                  clear hB q0 q1
                  cases v5 with
                  | true =>
                    have HN := Lib.hid (HSK.out (by rw [HBD.out]; rfl))
                    go_wp2_with fail
                    go_roundw
                    case rel => exact ⟨b + 1, by omega, by go_num, HN, HX5⟩
                    case measure => simp [intOf]; omega
                  | false =>
                    have HF := Lib.hid (HFL.out (by rw [HBD.out]; rfl))
                    go_wp2_with fail
                    go_ret
                    exact ⟨ret_bool HF.out.symm, HX5.out.below⟩
        · obtain rfl : b = a := by omega
          have HN : Hid (∀ a' b', b' < a' → a' < b + 1 → badB (adjE es) gone i a' b' = false) := Lib.hid (fun a' b' h1 h2 => by
            by_cases e : a' = b
            · subst e; exact HJ.out b' h1
            · exact HC.out a' b' h1 (by omega))
          clear HJ HC q0 q1
          go_wp2_with fail
          go_roundw
          case rel => exact ⟨b + 1, by omega, by go_num, HN, HXq⟩
          case measure => simp [intOf]; omega
    · obtain rfl : a = n := by omega
      have HT : Hid (r = true) := Lib.hid (HRR.out.2 fun x y h1 h2 => HC.out x y h1 h2)
      go_wp2_with fail
      go_ret
      exact ⟨ret_bool HT.out.symm, HXr.out.below⟩
end Go.Proofs.Yticickicfigpbaa

namespace Go.Proofs.Yticickicfigpbaa
open Go.RowKit

def prevZ : Nat → Int
  | 0 => -1
  | i + 1 => (i : Int)
def lenZ : Value → Nat
  | .slice _ k _ => k
  | _ => 0
def nxZ : Option Nat → Int
  | none => -1
  | some k => (k : Int)
theorem prevZ_sub (i : Nat) : (i : Int) - 1 = prevZ i := by
  cases i with
  | zero => rfl
  | succ i => show ((i + 1 : Nat) : Int) - 1 = (i : Int); omega
theorem own_roomC {w : World} {base n c : Nat} {t : TypeId} {A : Option Addr} {xs : List Value} (h : w.ownsRow base t 1 (.slice A n c) n xs) : n ≤ c := by
  rcases h.2 with ⟨hv, h0⟩ | ⟨g, cap, cur, hv, _, _, hle, _⟩
  · omega
  · injection hv with _ _ hc; omega
theorem own_keepC {w w' : World} {base n : Nat} {t : TypeId} {v : Value} {xs : List Value} (h : w.ownsRow base t 1 v n xs) (hb : Below w.heap.size w w') : w'.ownsRow base t 1 v n xs := by
  refine ⟨h.1, ?_⟩
  rcases h.2 with h0 | ⟨g, cap, cur, hv, hg, hr, hrest⟩
  · exact .inl h0
  · exact .inr ⟨g, cap, cur, hv, hg, (hb.block g (Array.getElem?_eq_some_iff.1 hr).1).trans hr, hrest⟩
/-- What Chords tells. -/
def ChoOut (w : World) (n : Nat) (v : Option (List Nat)) (e : Ending) (w' : World) : Prop :=
  (v = none → e = .returned (.tuple #[.slice none 0 0, .bool false])) ∧ (∀ l, v = some l → ∃ A' c', e = .returned (.tuple #[.slice A' n c', .bool true]) ∧ IntsAt w' w'.heap.size A' n (natG l) ∧ n ≤ c') ∧ Below w.heap.size w w'
theorem natG_add (l : List Nat) (i : Nat) : (natG (l ++ [i])).map (Value.int .i64) = (natG l).map (Value.int .i64) ++ [.int .i64 (i : Int)] := by simp [natG]
theorem simpB_bad {adj : Nat → Nat → Bool} {n i : Nat} {l : List Nat} (r : Bool) (hr : r = true ↔ ∀ a b, b < a → a < n → badB adj l i a b = false) : simpB adj n l i = (!decide (i ∈ l) && r) := by
  unfold simpB
  congr 1
  rw [Bool.eq_iff_iff, hr, List.all_eq_true]
  constructor
  · intro h a b hba han
    have h1 := h a (List.mem_range.2 han)
    rw [List.all_eq_true] at h1
    have h2 := h1 b (List.mem_range.2 hba)
    rw [Bool.not_eq_true'] at h2
    exact h2
  · intro h a ha
    rw [List.all_eq_true]
    intro b hb
    have h1 := h a b (List.mem_range.1 hb) (List.mem_range.1 ha)
    unfold badB at h1
    rw [h1]; rfl
set_option maxRecDepth 100000 in
set_option maxHeartbeats 8000000 in
theorem refChords_any (n : Nat) (A : Option Addr) (len cap : Nat) (es : List E3) (v : Option (List Nat)) (w : World) (hE : EdgesAt w w.heap.size A len es) (hn10 : n ≤ 10) (hl : len ≤ 45) (hv : elimF (adjE es) n n [] = v) :
    Calls Try.prog 9 #[.agg #[.int .i64 (n : Int), .slice A len cap]] w (ChoOut w n v) := by
  have HST := Lib.hid (BoxG.start (n := (n : Int)) (cap := cap) hE)
  have HV := Lib.hid hv
  obtain ⟨i0, hi, hz0, hz1, hz2⟩ := info_parts infoInt
  have HI := Lib.hid hi
  have HI0 := Lib.hid hz0
  have HI1 := Lib.hid hz1
  have HI2 := Lib.hid hz2
  have HSI := Lib.hid (fun (i : Nat) (A1 : Option Addr) (k c1 : Nat) (l : List Nat) (r : Bool) (hk : k ≤ 1000) (hr : r = true ↔ ∀ a b, b < a → a < n → badB (adjE es) l i a b = false) W (hW : EdgesAt W W.heap.size A len es) (hI : IntsAt W W.heap.size A1 k (natG l)) => refSimple_any n i A len cap es A1 k c1 l r W hW hI hn10 hl hk hr)
  have HBS : Hid ((bx w (n : Int) A len cap).heap.size = w.heap.size + 1) := Lib.hid (by simp [bx])
  clear hi hz0 hz1 hz2 hv hE
  have hw0 : IntKind.i64.wrap ((n : Int) - 1) = (n : Int) - 1 := IntWalk.i64_in _ (by omega)
  go_enter Try.func9, Try.ntmps9
  go_wp2_with fail
  go_loopw [4, 5, 6] (fun a _ _ wr => ∃ (k c1 : Nat) (A1 : Option Addr) (l : List Nat), a = .slice A1 k c1 ∧ k ≤ n ∧ Hid (wr.ownsRow (w.heap.size + 1) 3 1 (.slice A1 k c1) k ((natG l).map (Value.int .i64))) ∧ Hid (elimF (adjE es) n (n - k) l = v) ∧ Hid (Below (w.heap.size + 1) (bx w (n : Int) A len cap) wr)) (fun a _ _ _ => n - lenZ a)
  case atStart => exact ⟨0, 0, none, [], rfl, Nat.zero_le _, Lib.hid (World.ownsRow_nil ..), HV, Lib.hid (Below.refl _ _)⟩
  case round =>
    obtain ⟨k, c1, A1, l, rfl, hk, HO, HD, HB⟩ := hrel
    have HXr := Lib.hid (HST.out.next (by rw [HBS.out]; exact HB.out))
    have k0 := HXr.out.c0
    by_cases hkn : k < n
    · have HLI : Hid (IntsAt wr wr.heap.size A1 k (natG l)) := Lib.hid (IntsAt.of_own HO.out (Nat.le_refl _))
      have hki : (k : Int) < (n : Int) := by omega
      obtain ⟨wo, hwo⟩ : ∃ wo : World, wo = wr := ⟨_, rfl⟩
      rw [← hwo] at HO HB HXr k0 HLI ⊢
      clear hwo
      go_wp2_with fail
      go_loopw [5, 6] (fun y z wr => ∃ i : Nat, i ≤ n ∧ y = .int .i64 (nxZ (nextF (simpB (adjE es) n l) n i)) ∧ z = .int .i64 (prevZ i) ∧ Hid (Below wo.heap.size wo wr)) (fun _ z _ => (intOf z + 1).toNat)
      case atStart => exact ⟨n, Nat.le_refl _, by rw [nextF_end]; rfl, by rw [← prevZ_sub], Lib.hid (Below.refl _ _)⟩
      case round =>
        obtain ⟨i, hi, rfl, rfl, HBq⟩ := hrel
        have HBQ : Hid (Below (w.heap.size + 1) (bx w (n : Int) A len cap) wr) := Lib.hid (HB.out.trans (HBq.out.mono (by have := HB.out.size; have := HBS.out; omega)))
        have HXq := Lib.hid (HST.out.next (by rw [HBS.out]; exact HBQ.out))
        have HOq := Lib.hid (own_keepC HO.out HBq.out)
        have HLq := Lib.hid (HLI.out.go_ HBq.out)
        cases i with
        | zero =>
          rw [show prevZ 0 = -1 from rfl]
          cases hq : nextF (simpB (adjE es) n l) n 0 with
          | none =>
            rw [show nxZ none = -1 from rfl]
            have HVN : Hid (v = none) := Lib.hid (by
              rw [← HD.out, show n - k = (n - k - 1) + 1 by omega]
              exact elim_stuck hq)
            have HR : Hid (∀ e, e = Ending.returned (.tuple #[.slice none 0 0, .bool false]) → ChoOut w n v e wr) := Lib.hid fun e he => by
              rw [HVN.out]
              exact ⟨fun _ => he, (fun l h => by cases h), HXq.out.below⟩
            clear hq
            go_wp2_with fail
            go_ret2
            exact HR.out _ rfl
          | some x =>
            rw [show nxZ (some x) = (x : Int) from rfl]
            obtain ⟨_, hxn, _⟩ := nextF_some hq
            have HD2 : Hid (elimF (adjE es) n (n - (k + 1)) (l ++ [x]) = v) := Lib.hid (by
              rw [← HD.out, show n - k = (n - (k + 1)) + 1 by omega]
              exact (elim_step hq).symm)
            have HSN := Lib.hid (natG_add l x)
            have hx0 : (0 : Int) ≤ (x : Int) := by omega
            clear hq
            go_wp2_with (at_builtin; refine wpList_append_own _ rfl _ _ 25 rfl (w.heap.size + 1) 3 i0 (.int .i64 0) 1 8 Try.underlying25 HI.out HI0.out HI1.out HI2.out rfl (by decide) _ _ _ rfl (HOq.out.alloc _) ⟨wr.heap.size, 0, none⟩ 1 1 [.int .i64 (x : Int)] rfl rfl ?c1 ?c2 ?c3 ?c4 ?c5 ?_)
            try (case c1 => exact cell_one_new _ _ _)
            case c2 => simp [Value.oneCell']
            case c3 => unfold maxLen; omega
            case c4 => omega
            case c5 => have := HBQ.out.size; have := HBS.out; simp; omega
            intro v' w3 hown' hgrow _
            obtain ⟨A3, c3, rfl⟩ := own_form hown'
            have HO' : Hid (w3.ownsRow (w.heap.size + 1) 3 1 (.slice A3 (k + 1) c3) (k + 1) ((natG (l ++ [x])).map (Value.int .i64))) := Lib.hid (by rw [HSN.out]; exact hown')
            have HB3 : Hid (Below (w.heap.size + 1) (bx w (n : Int) A len cap) w3) := Lib.hid ((HBQ.out.alloc (by have := HBQ.out.size; have := HBS.out; omega) _).grown hgrow (by have := HBQ.out.size; have := HBS.out; simp; omega) (own_base HOq.out))
            clear hown' hgrow
            go_wp2
            go_roundw
            case rel => exact ⟨k + 1, c3, A3, l ++ [x], rfl, by omega, HO', HD2, HB3⟩
            case measure => show n - (k + 1) < n - k; omega
        | succ i =>
          rw [show prevZ (i + 1) = (i : Int) from rfl]
          have hiw : IntKind.i64.wrap ((i : Int) - 1) = (i : Int) - 1 := IntWalk.i64_in _ (by omega)
          have ii0 : (0 : Int) ≤ (i : Int) := by omega
          have ii1 : (i : Int) < (n : Int) := by omega
          have HNS := Lib.hid (nextF_step (f := simpB (adjE es) n l) (n := n) (i := i) (by omega))
          obtain ⟨r, hr⟩ : ∃ r : Bool, r = true ↔ ∀ a b, b < a → a < n → badB (adjE es) l i a b = false := by
            by_cases h : ∀ a b, b < a → a < n → badB (adjE es) l i a b = false
            · exact ⟨true, fun _ => h, fun _ => rfl⟩
            · exact ⟨false, fun h2 => (by cases h2), fun h2 => absurd h2 h⟩
          have HSB := Lib.hid (simpB_bad r hr)
          have HSM := Lib.hid (HSI.out i A1 k c1 l r (by omega) hr)
          have q0 := HXq.out.c0
          have q1 := HXq.out.c1
          clear hr
          cases hq : decide (i ∈ l) with
          | true =>
            have HH := Lib.hid (has_v k c1 (i : Int) true A1 (natG l) wr HLq.out (by omega) (by rw [hasI_natG]; exact hq))
            have HN : Hid (nextF (simpB (adjE es) n l) n i = nextF (simpB (adjE es) n l) n (i + 1)) := Lib.hid (by rw [HNS.out, HSB.out, hq]; rfl)
            clear hq
            go_wp2_with fail
            refine HH.out.mono ?_
            rintro e w2 ⟨rfl, rfl⟩
            go_wp2_with fail
            go_roundw
            case rel => exact ⟨i, by omega, by rw [HN.out], by rw [← prevZ_sub], HBq⟩
            case measure => simp [intOf]
          | false =>
            have HH := Lib.hid (has_v k c1 (i : Int) false A1 (natG l) wr HLq.out (by omega) (by rw [hasI_natG]; exact hq))
            have HSR : Hid (simpB (adjE es) n l i = r) := Lib.hid (by rw [HSB.out, hq]; rfl)
            clear hq
            go_wp2_with fail
            refine HH.out.mono ?_
            rintro e w2 ⟨rfl, rfl⟩
            go_wp2_with fail
            refine (HSM.out _ HXq.out.edges HLq.out).mono ?_
            rintro e w4 ⟨rfl, hB4⟩
            have HB4 : Hid (Below wo.heap.size wo w4) := Lib.hid (HBq.out.trans (hB4.mono HBq.out.size))
            clear hB4 q0 q1
            cases r with
            | true =>
              have HN : Hid (nextF (simpB (adjE es) n l) n i = some i) := Lib.hid (by rw [HNS.out, HSR.out]; rfl)
              go_wp2_with fail
              go_roundw
              case rel => exact ⟨i, by omega, by rw [HN.out]; rfl, by rw [← prevZ_sub], HB4⟩
              case measure => simp [intOf]
            | false =>
              have HN : Hid (nextF (simpB (adjE es) n l) n i = nextF (simpB (adjE es) n l) n (i + 1)) := Lib.hid (by rw [HNS.out, HSR.out]; rfl)
              go_wp2_with fail
              go_roundw
              case rel => exact ⟨i, by omega, by rw [HN.out], by rw [← prevZ_sub], HB4⟩
              case measure => simp [intOf]
    · obtain rfl : k = n := by omega
      have HR : Hid (∀ e, e = Ending.returned (.tuple #[.slice A1 k c1, .bool true]) → ChoOut w k v e wr) := Lib.hid fun e he => by
        have h := HD.out
        rw [Nat.sub_self] at h
        rw [← h]
        refine ⟨(fun h => by cases h), fun l' h => ⟨A1, c1, he, ?_⟩, HXr.out.below⟩
        injection h with h
        subst h
        exact ⟨IntsAt.of_own HO.out (Nat.le_refl _), own_roomC HO.out⟩
      go_wp2_with fail
      go_ret2
      exact HR.out _ rfl
end Go.Proofs.Yticickicfigpbaa

namespace Go.Proofs.Yticickicfigpbaa
open Go.RowKit

set_option maxRecDepth 100000 in
set_option maxHeartbeats 400000 in
theorem good_any (n : Int) (A : Option Addr) (len cap : Nat) (es : List E3) (w : World) (hE : EdgesAt w w.heap.size A len es) (hcap : len ≤ cap) :
    Calls Try.prog 13 #[.agg #[.int .i64 n, .slice A len cap]] w fun e w' => e = .returned (.bool (gcheck n es == 0)) ∧ Below w.heap.size w w' := by
  have HE := Lib.hid (show EdgesAt (bx w n A len cap) (bx w n A len cap).heap.size A len es from (hE.alloc (Nat.le_refl _) _).more (by simp [bx]))
  clear hE
  go_enter Try.func13, Try.ntmps13
  go_wp2_with (go_at_call 8; refine (graphCheck_any n A len cap es _ (by exact HE.out) hcap).mono ?_; rintro e w2 ⟨rfl, hb2⟩)
  go_ret
  exact ⟨rfl, ((Below.refl _ _).alloc (Nat.le_refl _) _).trans (hb2.mono (by simp))⟩
set_option maxRecDepth 100000 in
theorem good_v (n : Int) (A : Option Addr) (len cap : Nat) (es : List E3) (v : Bool) (w : World) (hE : EdgesAt w w.heap.size A len es) (hcap : len ≤ cap) (hv : (gcheck n es == 0) = v) :
    Calls Try.prog 13 #[.agg #[.int .i64 n, .slice A len cap]] w fun e w' => e = .returned (.bool v) ∧ Below w.heap.size w w' := by
  subst hv; exact good_any n A len cap es w hE hcap

end Go.Proofs.Yticickicfigpbaa

namespace Go.Proofs.Yticickicfigpbaa
open Go.RowKit

set_option maxRecDepth 100000 in
set_option maxHeartbeats 400000 in
theorem inside_v (n : Int) (A : Option Addr) (k c : Nat) (xs : List Int) (v : Bool) (w : World) (h1 : IntsAt w w.heap.size A k xs) (hn : k ≤ 9223372036854775807) (hv : xs.all (isIn n) = v) :
    Calls Try.prog 20 #[.int .i64 n, .slice A k c] w fun e w' => e = .returned (.bool v) ∧ w = w' := by
  have H1 := Lib.hid h1
  have HV := Lib.hid hv
  clear h1 hv
  go_enter Try.func20, Try.ntmps20
  go_wp2
  go_loop [9] (fun j => ∃ i : Nat, i ≤ k ∧ j = .int .i64 i ∧ Hid ((xs.take i).all (isIn n) = true)) (fun j => k - (intOf j).toNat)
  case atStart => exact ⟨0, Nat.zero_le _, rfl, Lib.hid rfl⟩
  case round =>
    obtain ⟨i, hi, rfl, HN⟩ := hrel
    by_cases hlt : i < k
    · obtain ⟨b, off, y, rfl, _, hy, hc⟩ := H1.out.at_ hlt
      by_cases he : isIn n y = true
      · have HN2 : Hid ((xs.take (i + 1)).all (isIn n) = true) := Lib.hid (by
          obtain ⟨hkl, hye⟩ := List.getElem?_eq_some_iff.1 hy
          rw [List.take_succ_eq_append_getElem hkl, hye, List.all_append, HN.out]
          simp [he])
        have hy0 : 0 ≤ y ∧ y < n := by simpa [isIn] using he
        obtain ⟨hy1, hy2⟩ := hy0
        clear hy he
        go_wp2
        go_round
        case rel => exact ⟨i + 1, by omega, by go_num, HN2⟩
        case measure => simp [intOf]; omega
      · have HR : Hid (v = false) := Lib.hid (by
          rw [← HV.out]
          cases hall : xs.all (isIn n) with
          | false => rfl
          | true => exact absurd (List.all_eq_true.1 hall y (List.mem_of_getElem? hy)) he)
        have hw : y < 0 ∨ (0 ≤ y ∧ n ≤ y) := by simp [isIn] at he; omega
        clear hy he
        rcases hw with h | ⟨h1, h2⟩
        all_goals
          go_wp2
          go_ret
          exact ⟨ret_bool HR.out.symm, rfl⟩
    · have HR : Hid (v = true) := Lib.hid (by
        rw [← HV.out]
        have := HN.out
        rwa [List.take_of_length_le (by have := H1.out.1; omega)] at this)
      go_wp2
      go_ret
      exact ⟨ret_bool HR.out.symm, rfl⟩
end Go.Proofs.Yticickicfigpbaa

namespace Go.Proofs.Yticickicfigpbaa
open Go.RowKit

def bitC (u z : Int) : Bool := bits BinOp.and IntKind.u32 u ((2 ^ z.toNat : Nat) : Int) != 0
set_option maxRecDepth 100000 in
set_option maxHeartbeats 4000000 in
theorem bit_any (u z : Int) (h0 : 0 ≤ z) (h1 : z < 32) (W : World) : Calls Try.prog 38 #[.int .u32 u, .int .i64 z] W fun e w' => e = .returned (.bool (bitC u z)) ∧ w' = W := by
  rcases (show z = 0 ∨ z = 1 ∨ z = 2 ∨ z = 3 ∨ z = 4 ∨ z = 5 ∨ z = 6 ∨ z = 7 ∨ z = 8 ∨ z = 9 ∨ z = 10 ∨ z = 11 ∨ z = 12 ∨ z = 13 ∨ z = 14 ∨ z = 15 ∨ z = 16 ∨ z = 17 ∨ z = 18 ∨ z = 19 ∨ z = 20 ∨ z = 21 ∨ z = 22 ∨ z = 23 ∨ z = 24 ∨ z = 25 ∨ z = 26 ∨ z = 27 ∨ z = 28 ∨ z = 29 ∨ z = 30 ∨ z = 31 by omega) with rfl | rfl | rfl | rfl | rfl | rfl | rfl | rfl | rfl | rfl | rfl | rfl | rfl | rfl | rfl | rfl | rfl | rfl | rfl | rfl | rfl | rfl | rfl | rfl | rfl | rfl | rfl | rfl | rfl | rfl | rfl | rfl
  all_goals
    clear h0 h1
    go_enter Try.func38, Try.ntmps38
    go_wp2
    go_ret
    exact ⟨rfl, rfl⟩
theorem bitC_nat {s i : Nat} (hs : s < 4294967296) (hi : i < 32) : bitC (s : Int) (i : Int) = s.testBit i := by
  unfold bitC
  have hp : 2 ^ i < 4294967296 := by show 2 ^ i < 2 ^ 32; exact Nat.pow_lt_pow_right (by decide) hi
  rw [Int.toNat_natCast, and_u32 s (2 ^ i) hs hp]
  cases hb : s.testBit i with
  | false =>
    have h0 : s &&& 2 ^ i = 0 := by
      apply Nat.eq_of_testBit_eq
      intro j
      rw [Nat.testBit_and, Nat.testBit_two_pow, Nat.zero_testBit]
      by_cases hj : i = j
      · subst hj; rw [hb]; rfl
      · simp [hj]
    rw [h0]; rfl
  | true =>
    have h1 : (s &&& 2 ^ i).testBit i = true := by
      rw [Nat.testBit_and, Nat.testBit_two_pow, hb]; simp
    have h0 : s &&& 2 ^ i ≠ 0 := fun h => by rw [h, Nat.zero_testBit] at h1; cases h1
    have h2 : ((s &&& 2 ^ i : Nat) : Int) ≠ 0 := by omega
    simpa using h0
set_option maxRecDepth 100000 in
theorem bit_nat (s i : Nat) (b : Bool) (hs : s < 4294967296) (hi : i < 32) (hb : s.testBit i = b) (W : World) : Calls Try.prog 38 #[.int .u32 s, .int .i64 i] W fun e w' => e = .returned (.bool b) ∧ w' = W := by
  rw [← hb, ← bitC_nat hs hi]
  exact bit_any s i (by omega) (by omega) W
/-- What is no place of a bit is none. -/
def bitZ (s : Nat) (z : Int) : Bool := decide (0 ≤ z) && s.testBit z.toNat
set_option maxRecDepth 100000 in
set_option maxHeartbeats 4000000 in
theorem bit_out (u z : Int) (h : z < 0 ∨ 32 ≤ z) (W : World) : Calls Try.prog 38 #[.int .u32 u, .int .i64 z] W fun e w' => e = .returned (.bool false) ∧ w' = W := by
  rcases h with h | h
  · go_enter Try.func38, Try.ntmps38
    go_wp2
    go_ret
    exact ⟨rfl, rfl⟩
  · have h0 : 0 ≤ z := by omega
    have h1 : ¬ z < 32 := by omega
    go_enter Try.func38, Try.ntmps38
    go_wp2
    go_ret
    exact ⟨rfl, rfl⟩
set_option maxRecDepth 100000 in
theorem bit_z (s : Nat) (z : Int) (b : Bool) (hs : s < 4294967296) (hb : bitZ s z = b) (W : World) : Calls Try.prog 38 #[.int .u32 s, .int .i64 z] W fun e w' => e = .returned (.bool b) ∧ w' = W := by
  subst hb
  by_cases h : z < 0 ∨ 32 ≤ z
  · have e : bitZ s z = false := by
      unfold bitZ
      rcases h with h | h
      · rw [decide_eq_false (by omega)]; rfl
      · rw [Nat.testBit_lt_two_pow (Nat.lt_of_lt_of_le hs (by rw [show 4294967296 = 2 ^ 32 from rfl]; exact Nat.pow_le_pow_right (by decide) (by omega)))]; simp
    rw [e]
    exact bit_out s z h W
  · obtain ⟨i, rfl⟩ := Int.eq_ofNat_of_zero_le (show 0 ≤ z by omega)
    have e : bitZ s (i : Int) = s.testBit i := by unfold bitZ; simp
    rw [e]
    exact bit_nat s i _ hs (by omega) rfl W
end Go.Proofs.Yticickicfigpbaa

namespace Go.Proofs.Yticickicfigpbaa
open Go.RowKit

set_option maxRecDepth 100000 in
set_option maxHeartbeats 1000000 in
theorem size_any (s : Nat) (hs : s < 4294967296) (W : World) : Calls Try.prog 21 #[.int .u32 s] W fun e w' => e = .returned (.int .i64 (sizeW s : Nat)) ∧ w' = W := by
  go_enter Try.func21, Try.ntmps21
  go_wp2
  go_loop [3, 4] (fun n j => ∃ k : Nat, k ≤ 32 ∧ j = .int .i64 k ∧ n = .int .i64 (sizeTo s k : Nat)) (fun _ j => 32 - (intOf j).toNat)
  case atStart => exact ⟨0, Nat.zero_le _, rfl, rfl⟩
  case round =>
    obtain ⟨k, hk, rfl, rfl⟩ := hrel
    have hle := sizeTo_le s k
    by_cases hlt : k < 32
    · have HN := Lib.hid (sizeTo_succ s k)
      cases hb : s.testBit k
      · have HB := Lib.hid hb
        have HN2 : Hid (sizeTo s (k + 1) = sizeTo s k) := Lib.hid (by rw [HN.out, hb]; rfl)
        clear hb HN
        generalize sizeTo s k = n at *
        go_wp2_with (go_at_call 38; refine (bit_nat s k false hs hlt HB.out _).mono ?_; rintro e w1 ⟨rfl, rfl⟩)
        go_round
        case rel => exact ⟨k + 1, by omega, by go_num, by rw [HN2.out]⟩
        case measure => simp [intOf]; omega
      · have HB := Lib.hid hb
        have HN2 : Hid (sizeTo s (k + 1) = sizeTo s k + 1) := Lib.hid (by rw [HN.out, hb]; rfl)
        clear hb HN
        generalize sizeTo s k = n at *
        go_wp2_with (go_at_call 38; refine (bit_nat s k true hs hlt HB.out _).mono ?_; rintro e w1 ⟨rfl, rfl⟩)
        go_round
        case rel => exact ⟨k + 1, by omega, by go_num, by rw [HN2.out]; go_num⟩
        case measure => simp [intOf]; omega
    · obtain rfl : k = 32 := by omega
      go_wp2
      go_ret
      exact ⟨rfl, rfl⟩

set_option maxRecDepth 100000 in
theorem size_v (s : Nat) (z : Int) (hs : s < 4294967296) (hz : (sizeW s : Int) = z) (W : World) : Calls Try.prog 21 #[.int .u32 s] W fun e w' => e = .returned (.int .i64 z) ∧ w' = W := by
  subst hz; exact size_any s hs W
end Go.Proofs.Yticickicfigpbaa

namespace Go.Proofs.Yticickicfigpbaa
open Go.RowKit

theorem nodup_leP : ∀ (n : Nat) (l : List Nat), l.Nodup → (∀ x ∈ l, x < n) → l.length ≤ n := fun n => by
  induction n with
  | zero =>
    intro l _ h
    cases l with
    | nil => exact Nat.le_refl _
    | cons x l => exact absurd (h x (List.mem_cons_self ..)) (by omega)
  | succ n ih =>
    intro l hn h
    by_cases hm : n ∈ l
    · have h1 := ih (l.erase n) (hn.erase _) fun x hx => by
        have hx1 := h x (List.mem_of_mem_erase hx)
        have hx2 : x ≠ n := fun e => by
          subst e
          exact (List.Nodup.not_mem_erase hn) hx
        omega
      have h2 := List.length_erase_of_mem hm
      have h3 := List.length_pos_of_mem hm
      omega
    · have h1 := ih l hn fun x hx => by
        have hx1 := h x hx
        have hx2 : x ≠ n := fun e => by subst e; exact hm hx
        omega
      omega
theorem hole_need {m k : Nat} {es : List E3} {ll : List Nat} (hs : ∀ i j, adjE es i j = adjE es j i) (hL : LeastC (adjE es) m k ll) {L : Nat} {q : Nat → Nat} (h : HoleP (adjE es) (restB m []) L q) : 4 ≤ m ∧ 2 ≤ k := by
  have h4 := h.four
  have hlt : ∀ i, i < L → q i < m := fun i hi => (restB_iff.1 (h.mem i hi)).1
  constructor
  · have key : ∀ n, ((List.range n).map q).length ≤ m ∨ L < n := fun n => by
      rcases Nat.lt_or_ge L n with h1 | h1
      · exact .inr h1
      · refine .inl (nodup_leP m _ ?_ fun x hx => ?_)
        · rw [List.Nodup, List.pairwise_map]
          exact List.Pairwise.imp_of_mem (fun {a b} ha hb hne e => hne (h.inj a b (by have := List.mem_range.1 ha; omega) (by have := List.mem_range.1 hb; omega) e)) List.nodup_range
        · obtain ⟨i, hi, rfl⟩ := List.mem_map.1 hx
          exact hlt i (by have := List.mem_range.1 hi; omega)
    rcases key 4 with h1 | h1
    · simpa using h1
    · omega
  · obtain ⟨hp, hll⟩ := hL.part
    have ha := (h.edge 0 1 (by omega) (by omega)).2 (.inl rfl)
    have h0 := hlt 0 (by omega)
    have h1 := hlt 1 (by omega)
    have hne : q 0 ≠ q 1 := fun e => by have := h.inj 0 1 (by omega) (by omega) e; omega
    have c0 := hp.lt (q 0) (by omega)
    have c1 := hp.lt (q 1) (by omega)
    have hc : ll.getD (q 0) 0 ≠ ll.getD (q 1) 0 := by
      rcases Nat.lt_or_gt_of_ne hne with h2 | h2
      · exact hp.ne (q 1) (q 0) (by omega) h2 ha
      · exact (hp.ne (q 0) (q 1) (by omega) h2 (by rw [hs]; exact ha)).symm
    omega
theorem rev_next {l : List Nat} {t q : Nat} (h : l.length - t = q + 1) (ht : t < l.length) {i : Nat} (hi : l[q]? = some i) : l.reverse.take (t + 1) = l.reverse.take t ++ [i] := by
  have h1 : l.reverse[t]? = some i := by
    rw [List.getElem?_reverse ht, show l.length - 1 - t = q by omega]; exact hi
  obtain ⟨h2, h3⟩ := List.getElem?_eq_some_iff.1 h1
  rw [List.take_succ_eq_append_getElem h2, h3]
set_option maxRecDepth 100000 in
set_option maxHeartbeats 8000000 in
theorem chordPerfect_of (n : Int) (A : Option Addr) (len cap : Nat) (es : List E3) (w : World) (hE : EdgesAt w w.heap.size A len es) (hcap : len ≤ cap)
    (HO : ∀ W, Below w.heap.size w W → EdgesAt W W.heap.size A len es → Calls Try.prog 7 #[.agg #[.int .i64 n, .slice A len cap]] W (ChordTop W n es))
    (HP : ∀ W, Below w.heap.size w W → EdgesAt W W.heap.size A len es → Calls Try.prog 17 #[.agg #[.int .i64 n, .slice A len cap]] W (CrowdTop false W n es))
    (HQ : ∀ W, Below w.heap.size w W → EdgesAt W W.heap.size A len es → Calls Try.prog 18 #[.agg #[.int .i64 n, .slice A len cap]] W (LeastTop W n es))
    (HR : ∀ A2 len2 cap2 xs W, len2 ≤ cap2 → Below w.heap.size w W → EdgesAt W W.heap.size A len es → IntsAt W W.heap.size A2 len2 xs → Calls Try.prog 19 #[.agg #[.int .i64 n, .slice A len cap], .slice A2 len2 cap2] W (GreedyTop W n es xs)) :
    Calls Try.prog 6 #[.agg #[.int .i64 n, .slice A len cap]] w fun e w' => e = .returned (.bool true) ∧ Below w.heap.size w w' := by
  have HX0 := Lib.hid (BoxG.start (n := n) (cap := cap) hE)
  have HHO := Lib.hid HO
  have HHP := Lib.hid HP
  have HHQ := Lib.hid HQ
  have HHR := Lib.hid HR
  obtain ⟨x, hx⟩ : ∃ x, gcheck n es = x := ⟨_, rfl⟩
  have HCX := Lib.hid hx
  have k0 := HX0.out.c0
  have k1 := HX0.out.c1
  clear hE HO HP HQ HR
  by_cases h0 : x = 0
  · subst h0
    obtain ⟨hn0, hn1, hl, hg⟩ := good_of_gcheck hx
    obtain ⟨m, rfl⟩ := Int.eq_ofNat_of_zero_le hn0
    have hm10 : m ≤ 10 := by omega
    have HCK := Lib.hid (fun W hW => good_v (m : Int) A len cap es true W hW hcap (by rw [hx]; rfl))
    have HG := Lib.hid hg
    obtain ⟨i0, hi, hz0, hz1, hz2⟩ := info_parts infoInt
    have HI := Lib.hid hi
    have HI0 := Lib.hid hz0
    have HI1 := Lib.hid hz1
    have HI2 := Lib.hid hz2
    clear hi hz0 hz1 hz2
    obtain ⟨v, hv⟩ : ∃ v, elimF (adjE es) m m [] = v := ⟨_, rfl⟩
    have HV : Hid (elimF (adjE es) ((m : Int)).toNat ((m : Int)).toNat [] = v) := Lib.hid hv
    cases v with
    | none =>
      have HEX : Hid (∃ L q, HoleP (adjE es) (restB m []) L q) := Lib.hid (by
        apply Classical.byContradiction
        intro hc
        obtain ⟨l', h⟩ := elim_some (adj := adjE es) (n := m) (adjE_symm es) (adj_irr hg) (fun L q hq => hc ⟨L, q, hq⟩) m [] (by simp)
        rw [hv] at h
        cases h)
      clear hx hg hl hv
      go_enter Try.func6, Try.ntmps6
      go_wp2_with fail
      refine (HHO.out _ HX0.out.below HX0.out.edges).mono ?_
      rintro e w1 ⟨_, h2, _, hB⟩
      obtain rfl := h2 HCX.out HV.out
      have HX1 := Lib.hid (HX0.out.next hB)
      clear h2 hB k0 k1
      have k0 := HX1.out.c0
      have k1 := HX1.out.c1
      go_wp2_with fail
      refine (HHP.out _ HX1.out.below HX1.out.edges).mono ?_
      rintro e w2 ⟨_, h2, hB⟩
      obtain ⟨c, hb, rfl⟩ := h2 HCX.out
      have HX2 := Lib.hid (HX1.out.next hB)
      clear h2 hB hb k0 k1
      have k0 := HX2.out.c0
      have k1 := HX2.out.c1
      go_wp2_with fail
      refine (HHQ.out _ HX2.out.below HX2.out.edges).mono ?_
      rintro e w3 ⟨_, h2, hB⟩
      obtain ⟨kk, ll, A3, c3, hL, rfl, _, _⟩ := h2 HCX.out
      have hnd : (4 : Int) ≤ (m : Int) ∧ (2 : Int) ≤ (kk : Int) := by
        obtain ⟨L, q, hq⟩ := HEX.out
        have := hole_need (adjE_symm es) (show LeastC (adjE es) m kk ll from hL) hq
        omega
      have g1 := hnd.1
      have g2 := hnd.2
      have HX3 := Lib.hid (HX2.out.next hB)
      clear h2 hB hL k0 k1 hnd
      have k0 := HX3.out.c0
      have k1 := HX3.out.c1
      go_wp2_with fail
      refine (HCK.out _ HX3.out.edges).mono ?_
      rintro e w4 ⟨rfl, hB⟩
      have HXg := Lib.hid (HX3.out.next hB)
      clear hB k0 k1
      have k0 := HXg.out.c0
      have k1 := HXg.out.c1
      go_wp2_with fail
      go_ret
      exact ⟨rfl, HXg.out.below⟩
    | some l =>
      obtain ⟨hE1, hE2⟩ := elim_ok (adj := adjE es) (n := m) (adjE_symm es) m [] l ElimP.nil hv
      have HEL := Lib.hid hE1
      have HLL : Hid (l.length = m) := Lib.hid (by simpa using hE2)
      have HEP : Hid (EachP m (natG l.reverse)) := Lib.hid ⟨by rw [← HLL.out]; simp [natG], by
        unfold natG
        rw [List.Nodup, List.pairwise_map, List.pairwise_reverse]
        exact hE1.nd.imp fun h e => h (by omega), fun y hy => by
        unfold natG at hy
        obtain ⟨i, hi, rfl⟩ := List.mem_map.1 hy
        have := hE1.lt i (List.mem_reverse.1 hi)
        omega⟩
      have hw0 : IntKind.i64.wrap ((m : Int) - 1) = (m : Int) - 1 := IntWalk.i64_in _ (by omega)
      clear hx hg hl hv hE1 hE2
      go_enter Try.func6, Try.ntmps6
      go_wp2_with fail
      refine (HHO.out _ HX0.out.below HX0.out.edges).mono ?_
      rintro e w1 ⟨_, _, h3, hB⟩
      obtain ⟨A1, c1, rfl, hi, hc1⟩ := h3 HCX.out l HV.out
      have e0 : ((m : Int)).toNat = m := rfl
      rw [e0] at hi hc1
      rw [e0]
      have HX1 := Lib.hid (HX0.out.next hB)
      have HJ1 := Lib.hid hi
      clear h3 hB hi k0 k1 e0
      have k0 := HX1.out.c0
      have k1 := HX1.out.c1
      go_wp2_with fail
      refine (HHP.out _ HX1.out.below HX1.out.edges).mono ?_
      rintro e w2 ⟨_, h2, hB⟩
      obtain ⟨c, hb, rfl⟩ := h2 HCX.out
      have HMc := Lib.hid (show MostW (CrowdW (adjE es) false m) sizeW (2 ^ m) c from hb)
      have HX2 := Lib.hid (HX1.out.next hB)
      have HJ2 := Lib.hid (HJ1.out.go_ hB)
      clear h2 hB hb k0 k1
      have k0 := HX2.out.c0
      have k1 := HX2.out.c1
      go_wp2_with fail
      refine (HHQ.out _ HX2.out.below HX2.out.edges).mono ?_
      rintro e w3 ⟨_, h2, hB⟩
      obtain ⟨kk, ll, A3, c3, hL, rfl, _, _⟩ := h2 HCX.out
      have HLC := Lib.hid (show LeastC (adjE es) m kk ll from hL)
      have HX3 := Lib.hid (HX2.out.next hB)
      have HJ3 := Lib.hid (HJ2.out.go_ hB)
      clear h2 hB hL k0 k1
      have k0 := HX3.out.c0
      have k1 := HX3.out.c1
      go_wp2_with fail
      refine (HCK.out _ HX3.out.edges).mono ?_
      rintro e wb ⟨rfl, hB⟩
      have HXg := Lib.hid (HX3.out.next hB)
      have HJg := Lib.hid (HJ3.out.go_ hB)
      clear hB k0 k1
      have k0 := HXg.out.c0
      have k1 := HXg.out.c1
      go_wp2_with fail
      clear k0 k1
      go_loopw [10, 11] (fun a y wr => ∃ (t c2 : Nat) (A2 : Option Addr), t ≤ m ∧ a = .slice A2 t c2 ∧ y = .int .i64 (prevZ (m - t)) ∧ Hid (wr.ownsRow wb.heap.size 3 1 (.slice A2 t c2) t ((natG (l.reverse.take t)).map (Value.int .i64))) ∧ Hid (Below wb.heap.size wb wr)) (fun a _ _ => m - lenZ a)
      case atStart => exact ⟨0, 0, none, Nat.zero_le _, rfl, by rw [Nat.sub_zero, ← prevZ_sub], Lib.hid (World.ownsRow_nil ..), Lib.hid (Below.refl _ _)⟩
      case round =>
        obtain ⟨t, c2, A2, ht, rfl, rfl, HOw, HB⟩ := hrel
        have HXr := Lib.hid (HXg.out.next HB.out)
        have HJr := Lib.hid (HJg.out.go_ HB.out)
        cases hq : m - t with
        | zero =>
          rw [show prevZ 0 = -1 from rfl]
          have htm : t = m := by omega
          subst htm
          have HIL : Hid (IntsAt wr wr.heap.size A2 t (natG l.reverse)) := Lib.hid (by
            have h := IntsAt.of_own HOw.out (Nat.le_refl _)
            rw [List.take_of_length_le (by rw [List.length_reverse, HLL.out]; exact Nat.le_refl _)] at h
            exact h)
          have hcc := own_roomC HOw.out
          have k0 := HXr.out.c0
          have k1 := HXr.out.c1
          obtain ⟨z, hz⟩ : ∃ z : Nat, sizeW c = z := ⟨_, rfl⟩
          have hcl : c < 1024 := pow10 hm10 (HMc.out.below (Nat.two_pow_pos t))
          have HS := Lib.hid (fun W => size_v c (z : Int) (by omega) (by rw [hz]) W)
          have HZ := Lib.hid hz
          have HGR := Lib.hid (HHR.out A2 t c2 (natG l.reverse) wr hcc HXr.out.below HXr.out.edges HIL.out)
          have hmm : ((t : Int) == (t : Int)) = true := by simp
          clear hq hz hcc
          go_wp2_with fail
          refine HGR.out.mono ?_
          rintro e w6 ⟨_, _, h3, hB⟩
          obtain ⟨col, A5, c5, hG, rfl, hi, _⟩ := h3 HCX.out l.reverse rfl HEP.out
          have hpf := perfect_w (adjE_symm es) (adj_irr HG.out) (by omega) HEL.out HLL.out (show GreedL (adjE es) l.reverse t col from hG) HLC.out HMc.out
          have HX6 := Lib.hid (HXr.out.next hB)
          have HI6 : Hid (IntsAt w6 w6.heap.size A5 t (colR t col)) := Lib.hid hi
          have HIN : Hid ((colR t col).all (isIn (kk : Int)) = true) := Lib.hid (by
            rw [List.all_eq_true]
            intro y hy
            unfold colR at hy
            obtain ⟨i, hi2, rfl⟩ := List.mem_map.1 hy
            have := hpf.1 i (List.mem_range.1 hi2)
            simp [isIn]
            omega)
          have hkz : (kk : Int) = (z : Int) := by have h1 := hpf.2; have h2 := HZ.out; omega
          have hkz2 : ((kk : Int) == (z : Int)) = true := by simpa using hkz
          have HND := Lib.hid (inside_v (kk : Int) A5 t c5 (colR t col) true w6 HI6.out (by omega) HIN.out)
          clear h3 hB hG hi hpf hkz k0 k1
          have k0 := HX6.out.c0
          have e0 : ((t : Int)).toNat = t := rfl
          rw [e0]
          clear e0
          go_wp2_with fail
          refine HND.out.mono ?_
          rintro e w7 ⟨rfl, rfl⟩
          go_wp2_with fail
          refine (HS.out _).mono ?_
          rintro e w8 ⟨rfl, rfl⟩
          go_wp2_with fail
          go_ret
          exact ⟨rfl, HX6.out.below⟩
        | succ q =>
          rw [show prevZ (q + 1) = (q : Int) from rfl]
          have hqm : q < m := by omega
          obtain ⟨b2, o2, x, rfl, hb2, hx, hcx⟩ := HJr.out.at_ hqm
          obtain ⟨i, hi, rfl⟩ := natG_get hx
          have HNX : Hid (natG (l.reverse.take (t + 1)) = natG (l.reverse.take t) ++ [(i : Int)]) := Lib.hid (by
            rw [rev_next (by rw [HLL.out]; exact hq) (by rw [HLL.out]; omega) hi]
            simp [natG])
          have hq0 : (0 : Int) ≤ (q : Int) := by omega
          have hq1 : (q : Int) < (m : Int) := by omega
          have hqw : IntKind.i64.wrap ((q : Int) - 1) = (q : Int) - 1 := IntWalk.i64_in _ (by omega)
          have HQ : Hid (m - (t + 1) = q) := Lib.hid (by omega)
          have htm : t < m := by omega
          clear hx hi hq
          go_wp2_with (at_builtin; refine wpList_append_own _ rfl _ _ 25 rfl wb.heap.size 3 i0 (.int .i64 0) 1 8 Try.underlying25 HI.out HI0.out HI1.out HI2.out rfl (by decide) _ _ _ rfl (HOw.out.alloc _) ⟨wr.heap.size, 0, none⟩ 1 1 [.int .i64 (i : Int)] rfl rfl ?c1 ?c2 ?c3 ?c4 ?c5 ?_)
          try (case c1 => exact cell_one_new _ _ _)
          case c2 => simp [Value.oneCell']
          case c3 => unfold maxLen; omega
          case c4 => omega
          case c5 => have := HB.out.size; simp; omega
          intro v' w3 hown' hgrow _
          obtain ⟨A6, c6, rfl⟩ := own_form hown'
          have HO' : Hid (w3.ownsRow wb.heap.size 3 1 (.slice A6 (t + 1) c6) (t + 1) ((natG (l.reverse.take (t + 1))).map (Value.int .i64))) := Lib.hid (by rw [HNX.out, List.map_append]; exact hown')
          have HB3 : Hid (Below wb.heap.size wb w3) := Lib.hid ((HB.out.alloc HB.out.size _).grown hgrow (by have := HB.out.size; simp; omega) (own_base HOw.out))
          clear hown' hgrow hcx
          go_wp2
          go_roundw
          case rel => exact ⟨t + 1, c6, A6, by omega, rfl, by rw [HQ.out, ← prevZ_sub], HO', HB3⟩
          case measure => show m - (t + 1) < m - t; omega
  · have HH0 := Lib.hid h0
    have hx0 : (x != 0) = true := by simpa using h0
    have HCK := Lib.hid (fun W hW => good_v n A len cap es false W hW hcap (by rw [hx]; simpa using h0))
    clear hx h0
    go_enter Try.func6, Try.ntmps6
    go_wp2_with fail
    refine (HHO.out _ HX0.out.below HX0.out.edges).mono ?_
    rintro e w1 ⟨h1, _, _, hB⟩
    obtain rfl := h1 (by rw [HCX.out]; exact HH0.out)
    rw [HCX.out]
    have HX1 := Lib.hid (HX0.out.next hB)
    clear h1 hB k0 k1
    have k0 := HX1.out.c0
    have k1 := HX1.out.c1
    go_wp2_with fail
    refine (HHP.out _ HX1.out.below HX1.out.edges).mono ?_
    rintro e w2 ⟨h1, _, hB⟩
    obtain rfl := h1 (by rw [HCX.out]; exact HH0.out)
    rw [HCX.out]
    have HX2 := Lib.hid (HX1.out.next hB)
    clear h1 hB k0 k1
    have k0 := HX2.out.c0
    have k1 := HX2.out.c1
    go_wp2_with fail
    refine (HHQ.out _ HX2.out.below HX2.out.edges).mono ?_
    rintro e w3 ⟨h1, _, hB⟩
    obtain rfl := h1 (by rw [HCX.out]; exact HH0.out)
    rw [HCX.out]
    have HX3 := Lib.hid (HX2.out.next hB)
    clear h1 hB k0 k1
    have k0 := HX3.out.c0
    have k1 := HX3.out.c1
    go_wp2_with fail
    refine (HCK.out _ HX3.out.edges).mono ?_
    rintro e w4 ⟨rfl, hB⟩
    have HXg := Lib.hid (HX3.out.next hB)
    clear hB k0 k1
    go_wp2_with fail
    go_ret
    exact ⟨rfl, HXg.out.below⟩
end Go.Proofs.Yticickicfigpbaa

namespace Go.Proofs.Yticickicfigpbaa

/-- Of a word each member lacks, of the word, only itself. -/
def CrowdL (xs : List Nat) (n s : Nat) : Prop := ∀ i, i < n → s.testBit i = true → diffW s (xs.getD i 0) = 2 ^ i
theorem diffW_ten {a b : Nat} (ha : a < 1024) (hb : b < 4294967296) : diffW a b < 1024 := by
  rw [show 1024 = 2 ^ 10 from rfl]
  apply Nat.lt_pow_two_of_testBit
  intro j hj
  rw [diffW_testBit _ _ j (by omega) hb, Nat.testBit_lt_two_pow (Nat.lt_of_lt_of_le (show a < 2 ^ 10 from ha) (Nat.pow_le_pow_right (by decide) hj))]
  rfl
section
variable {adj : Nat → Nat → Bool} {m i G : Nat} {l xs : List Nat}
theorem crowd_simp (hr : ∀ i, adj i i = false) (hlt : ∀ i j, adj i j = true → j < m) (hb : ∀ i j, i < m → (xs.getD i 0).testBit j = adj i j) (hx : ∀ i, xs.getD i 0 < 1024) (hG : ∀ j, G.testBit j = decide (j ∈ l)) (hGl : G < 1024) (hi : i < m) :
    CrowdL xs m (diffW (xs.getD i 0) G) ↔ SimpP adj (restB m l) i := by
  have hdl : diffW (xs.getD i 0) G < 1024 := diffW_ten (hx i) (by omega)
  have hbit : ∀ j, (diffW (xs.getD i 0) G).testBit j = (adj i j && !decide (j ∈ l)) := fun j => by
    rw [diffW_testBit _ _ j (by have := hx i; omega) (by omega), hb i j hi, hG]
  have key : ∀ a, a < m → adj i a = true → a ∉ l → ((∀ j, (diffW (diffW (xs.getD i 0) G) (xs.getD a 0)).testBit j = decide (a = j)) ↔ ∀ j, adj i j = true → j ∉ l → a ≠ j → adj a j = true) := fun a ha h1 h2 => by
    have hb2 : ∀ j, (diffW (diffW (xs.getD i 0) G) (xs.getD a 0)).testBit j = ((adj i j && !decide (j ∈ l)) && !adj a j) := fun j => by
      rw [diffW_testBit _ _ j (by omega) (by have := hx a; omega), hbit, hb a j ha]
    constructor
    · intro h j h3 h4 h5
      have h6 := h j
      rw [hb2, h3, decide_eq_false h4, decide_eq_false h5] at h6
      cases hq : adj a j with
      | true => rfl
      | false => rw [hq] at h6; cases h6
    · intro h j
      rw [hb2]
      by_cases h5 : a = j
      · subst h5; rw [h1, decide_eq_false h2, hr]; simp
      · rw [decide_eq_false h5]
        cases h3 : adj i j with
        | false => rfl
        | true =>
          by_cases h4 : j ∈ l
          · rw [decide_eq_true h4]; rfl
          · rw [h j h3 h4 h5, decide_eq_false h4]; rfl
  have hpow : ∀ a, (diffW (diffW (xs.getD i 0) G) (xs.getD a 0) = 2 ^ a ↔ ∀ j, (diffW (diffW (xs.getD i 0) G) (xs.getD a 0)).testBit j = decide (a = j)) := fun a => by
    constructor
    · intro h j; rw [h, Nat.testBit_two_pow]
    · intro h; apply Nat.eq_of_testBit_eq; intro j; rw [h, Nat.testBit_two_pow]
  constructor
  · intro h a b ha hb' g1 g2 hne
    have q := h a (restB_iff.1 ha).1 (by rw [hbit, g1, decide_eq_false (restB_iff.1 ha).2]; rfl)
    exact (key a (restB_iff.1 ha).1 g1 (restB_iff.1 ha).2).1 ((hpow a).1 q) b g2 (restB_iff.1 hb').2 hne
  · intro h a ha hbt
    rw [hbit, Bool.and_eq_true, Bool.not_eq_true', decide_eq_false_iff_not] at hbt
    exact (hpow a).2 ((key a ha hbt.1 hbt.2).2 fun j h3 h4 h5 => h a j (restB_iff.2 ⟨ha, hbt.2⟩) (restB_iff.2 ⟨hlt i j h3, h4⟩) hbt.1 h3 h5)
/-- The word of those that are gone, and one more. -/
theorem gone_more (hG : ∀ j, G.testBit j = decide (j ∈ l)) (j : Nat) : (G ||| 2 ^ i).testBit j = decide (j ∈ l ++ [i]) := by
  rw [Nat.testBit_or, Nat.testBit_two_pow, hG, Bool.eq_iff_iff, Bool.or_eq_true, decide_eq_true_iff, decide_eq_true_iff, decide_eq_true_iff, List.mem_append, List.mem_singleton]
  exact ⟨fun h => h.imp id Eq.symm, fun h => h.imp id Eq.symm⟩
theorem gone_lt {m : Nat} (hG : ∀ j, G.testBit j = decide (j ∈ l)) (hl : ∀ x ∈ l, x < m) : G < 2 ^ m := by
  apply Nat.lt_pow_two_of_testBit
  intro j hj
  rw [hG]
  exact decide_eq_false fun h => by have := hl j h; omega
/-- May i go? -/
theorem can_iff (hs : ∀ i j, adj i j = adj j i) (hr : ∀ i, adj i i = false) (hlt : ∀ i j, adj i j = true → j < m) (hb : ∀ i j, i < m → (xs.getD i 0).testBit j = adj i j) (hx : ∀ i, xs.getD i 0 < 1024) (hG : ∀ j, G.testBit j = decide (j ∈ l)) (hGl : G < 1024) (hi : i < m) :
    simpB adj m l i = true ↔ G.testBit i = false ∧ CrowdL xs m (diffW (xs.getD i 0) G) := by
  rw [simpB_iff hs, crowd_simp hr hlt hb hx hG hGl hi, hG, decide_eq_false_iff_not]
end
end Go.Proofs.Yticickicfigpbaa

namespace Go.Proofs.Yticickicfigpbaa
open Go.RowKit

set_option maxRecDepth 100000 in
set_option maxHeartbeats 1000000 in
theorem isCrowd_any (n cap s : Nat) (A : Option Addr) (xs : List Nat) (r : Bool) (w : World) (hA : WordsAt w w.heap.size A n xs) (hn : n ≤ 10) (hs : s < 1024) (hxs : ∀ i, xs.getD i 0 < 1024) (hr : r = true ↔ CrowdL xs n s) :
    Calls Try.prog 24 #[.slice A n cap, .int .u32 (s : Int)] w fun e w' => e = .returned (.bool r) ∧ w' = w := by
  have HW := Lib.hid hA
  have HR := Lib.hid hr
  have HS := Lib.hid hxs
  clear hA hr hxs
  go_enter Try.func24, Try.ntmps24
  go_wp2
  go_loop [5, 6, 9] (fun _ _ j => ∃ k : Nat, k ≤ n ∧ j = .int .i64 k ∧ Hid (∀ i, i < k → s.testBit i = true → diffW s (xs.getD i 0) = 2 ^ i)) (fun _ _ j => n - (intOf j).toNat)
  case atStart => exact ⟨0, Nat.zero_le _, rfl, Lib.hid fun i hi => absurd hi (Nat.not_lt_zero i)⟩
  case round =>
    obtain ⟨k, hk, rfl, HK⟩ := hrel
    by_cases hkn : k < n
    · have hkn' : (k : Int) < (n : Int) := by omega
      have hk0 : (0 : Int) ≤ (k : Int) := by omega
      have hk32 : (k : Int) ≤ 32 := by omega
      obtain ⟨b, off, rfl, hb, hc⟩ := HW.out.at_ hkn
      have hx := HS.out k
      obtain ⟨x, hxe⟩ : ∃ x, xs.getD k 0 = x := ⟨_, rfl⟩
      have HX := Lib.hid hxe
      rw [hxe] at hc hx
      have hbit := shr_bit s k (by omega)
      have hand := andNot_u32 s x (by omega) (by omega)
      clear hxe
      cases hbk : s.testBit k with
      | false =>
        rw [hbk] at hbit
        have HN : Hid (∀ i, i < k + 1 → s.testBit i = true → diffW s (xs.getD i 0) = 2 ^ i) := Lib.hid (fun i hi h => by
          by_cases e : i = k
          · subst e; rw [hbk] at h; cases h
          · exact HK.out i (by omega) h)
        clear hbk HK hand
        go_wp2
        go_round
        case rel => exact ⟨k + 1, by omega, by go_num, HN⟩
        case measure => simp [intOf]; omega
      | true =>
        rw [hbk] at hbit
        have hpl : 2 ^ k < 1024 := pow10 hn (Nat.pow_lt_pow_right (by decide) hkn)
        have hsm : (2 : Int) ^ k % 4294967296 = ((2 ^ k : Nat) : Int) := pow_mod k (by omega)
        have htm : IntKind.u32.wrap ((2 : Int) ^ k) = ((2 ^ k : Nat) : Int) := by rw [wrap_u32n]; exact hsm
        by_cases hz : diffW s x = 2 ^ k
        · have HN : Hid (∀ i, i < k + 1 → s.testBit i = true → diffW s (xs.getD i 0) = 2 ^ i) := Lib.hid (fun i hi h => by
            by_cases e : i = k
            · subst e; rw [HX.out]; exact hz
            · exact HK.out i (by omega) h)
          rw [hz] at hand
          clear hbk HK hz hpl
          generalize 2 ^ k = pk at hsm htm hand
          have hne : ((pk : Int) != (pk : Int)) = false := by simp
          go_wp2
          go_round
          case rel => exact ⟨k + 1, by omega, by go_num, HN⟩
          case measure => simp [intOf]; omega
        · have HF : Hid (r = false) := Lib.hid (by
            cases hrv : r with
            | false => rfl
            | true => exact absurd (by have := HR.out.1 hrv k hkn hbk; rw [HX.out] at this; exact this) hz)
          have hne : (((diffW s x : Nat) : Int) != ((2 ^ k : Nat) : Int)) = true := by
            rw [bne_iff_ne]; intro h; exact hz (Int.ofNat_inj.1 h)
          clear hbk HK hz hpl
          generalize diffW s x = z at hand hne
          generalize 2 ^ k = pk at hsm htm hne
          go_wp2
          go_ret
          exact ⟨ret_bool HF.out.symm, rfl⟩
    · obtain rfl : k = n := by omega
      have HT : Hid (r = true) := Lib.hid (HR.out.2 HK.out)
      clear HK
      go_wp2
      go_ret
      exact ⟨ret_bool HT.out.symm, rfl⟩
set_option maxRecDepth 100000 in
set_option maxHeartbeats 2000000 in
/-- May this one go? -/
theorem canGo_any (m i G gG gA g cA : Nat) (xs : List Nat) (v : Bool) (w : World) (hm : m ≤ 10) (hi : i < m) (hG : G < 1024) (hxs : ∀ i, xs.getD i 0 < 1024)
    (kG : w.cell? ⟨gG, 0, none⟩ = some (.int .u32 (G : Int))) (kA : w.cell? ⟨gA, 0, none⟩ = some (.slice (some ⟨g, 0, none⟩) m cA)) (hW : WordsAt w w.heap.size (some ⟨g, 0, none⟩) m xs)
    (hv : v = true ↔ G.testBit i = false ∧ CrowdL xs m (diffW (xs.getD i 0) G)) :
    Calls Try.prog 23 #[.int .i64 (i : Int), .pointer (some ⟨gG, 0, none⟩), .pointer (some ⟨gA, 0, none⟩)] w fun e w' => e = .returned (.bool v) ∧ ∃ q, w' = w.drewN q := by
  have HW := Lib.hid hW
  have hi0 : (0 : Int) ≤ (i : Int) := by omega
  have hi1 : (i : Int) < (m : Int) := by omega
  have hi32 : (i : Int) ≤ 32 := by omega
  obtain ⟨b, off, e0, _, hc⟩ := hW.at_ hi
  injection e0 with e0
  injection e0 with e1 e2
  subst e1 e2
  rw [Nat.zero_add] at hc
  have hxl := hxs i
  obtain ⟨x, hxe⟩ : ∃ x, xs.getD i 0 = x := ⟨_, rfl⟩
  rw [hxe] at hc hxl hv
  have hbit := shr_and_one G i (by omega)
  have hdi : ((G : Int) / 2 ^ i) = ((G / 2 ^ i : Nat) : Int) := by simp
  rw [← hdi] at hbit
  have hdn := andNot_u32 x G (by omega) (by omega)
  have hdl : diffW x G < 1024 := diffW_ten hxl (by omega)
  have HXS := Lib.hid hxs
  clear hxs hxe hW hdi
  cases hb : G.testBit i with
  | true =>
    rw [hb, if_pos rfl] at hbit
    obtain rfl : v = false := by
      cases v with
      | false => rfl
      | true => have := (hv.1 rfl).1; rw [hb] at this; cases this
    have hz : ((1 : Int) == 0) = false := rfl
    clear hv hb hdn hdl
    go_enter Try.func23, Try.ntmps23
    go_wp2
    go_quiet (fail)
    go_wp2_with fail
    go_ret
    exact ⟨rfl, _, rfl⟩
  | false =>
    rw [hb] at hbit
    have hbit' : bits .and .u32 ((G : Int) / 2 ^ i) 1 = 0 := hbit
    have hz : ((0 : Int) == 0) = true := rfl
    have hv2 : v = true ↔ CrowdL xs m (diffW x G) := by rw [hv, hb]; simp
    have HC := Lib.hid (fun W (h : WordsAt W W.heap.size (some ⟨g, 0, none⟩) m xs) => isCrowd_any m cA (diffW x G) (some ⟨g, 0, none⟩) xs v W h hm hdl HXS.out hv2)
    clear hv hb hv2 hbit hdl
    generalize diffW x G = z at hdn HC
    go_enter Try.func23, Try.ntmps23
    go_wp2
    go_quiet ((go_at_call 24; exact Calls.quiet_of_same (HC.out _ (HW.out.drewN _))))
    go_wp2_with fail
    go_ret
    exact ⟨rfl, _, rfl⟩
set_option maxRecDepth 100000 in
set_option maxHeartbeats 2000000 in
/-- Who goes next. -/
theorem idxCan_any (m G gG gA g gN cA cN : Nat) (xs : List Nat) (f : Nat → Bool) (w : World) (hm : m ≤ 10) (hG : G < 1024) (hxs : ∀ i, xs.getD i 0 < 1024)
    (kG : w.cell? ⟨gG, 0, none⟩ = some (.int .u32 (G : Int))) (kA : w.cell? ⟨gA, 0, none⟩ = some (.slice (some ⟨g, 0, none⟩) m cA)) (hW : WordsAt w w.heap.size (some ⟨g, 0, none⟩) m xs) (hR : RowOf w gN 3 ((natG (List.range m)).map (Value.int .i64)))
    (hf : ∀ i, i < m → (f i = true ↔ G.testBit i = false ∧ CrowdL xs m (diffW (xs.getD i 0) G))) :
    Calls Try.prog 26 #[.slice (some ⟨gN, 0, none⟩) m cN, .func (.func 23) #[] #[.pointer (some ⟨gG, 0, none⟩), .pointer (some ⟨gA, 0, none⟩)]] w fun e w' =>
      (∀ i, nextF f m 0 = some i → e = .returned (.int .i64 (i : Int))) ∧ (nextF f m 0 = none → e = .returned (.int .i64 (-1))) ∧ ∃ q, w' = w.drewN q := by
  have HK := Lib.hid (And.intro kG (And.intro kA hW))
  have HR := Lib.hid hR
  have HF := Lib.hid hf
  have HXS := Lib.hid hxs
  clear kG kA hW hR hf hxs
  go_enter Try.func26, Try.ntmps26
  go_wp2
  go_loopw [5, 8] (fun _ j wr => ∃ k : Nat, k ≤ m ∧ j = .int .i64 k ∧ Hid (nextF f m 0 = nextF f m k ∧ ∃ q, wr = w.drewN q)) (fun _ j _ => m - (intOf j).toNat)
  case atStart => exact ⟨0, Nat.zero_le _, rfl, Lib.hid ⟨rfl, 0, rfl⟩⟩
  case round =>
    obtain ⟨k, hk, rfl, HC⟩ := hrel
    obtain ⟨q, HQ⟩ : ∃ q, Hid (nextF f m 0 = nextF f m k ∧ wr = w.drewN q) := by
      obtain ⟨h1, q, h2⟩ := HC.out
      exact ⟨q, Lib.hid ⟨h1, h2⟩⟩
    clear HC
    have hcw : ∀ p, wr.cell? p = w.cell? p := fun p => by rw [HQ.out.2]; rfl
    by_cases hkm : k < m
    · have ik0 : (0 : Int) ≤ (k : Int) := by omega
      have ik1 : (k : Int) < (m : Int) := by omega
      have cN' : wr.cell? ⟨gN, k, none⟩ = some (.int .i64 (k : Int)) := by
        rw [hcw]; exact HR.out.cell (by simp [natG, hkm])
      have HFN := Lib.hid (canGo_any m k G gG gA g cA xs (f k) wr hm hkm hG HXS.out ((hcw _).trans HK.out.1) ((hcw _).trans HK.out.2.1) (by rw [HQ.out.2]; exact HK.out.2.2.drewN q) (HF.out k hkm))
      clear hcw
      have HST := Lib.hid (nextF_step (f := f) hkm)
      cases hfk : f k with
      | true =>
        rw [hfk] at HFN HST
        have HE : Hid (nextF f m 0 = some k) := Lib.hid (by rw [HQ.out.1, HST.out, if_pos rfl])
        clear hfk
        go_wp2_with fail
        refine HFN.out.mono ?_
        rintro e w1 ⟨rfl, q2, hq2⟩
        have HW1 : Hid (∃ q, w1 = w.drewN q) := Lib.hid ⟨q + q2, by rw [hq2, HQ.out.2]; exact World.drewN_drewN _ _ _⟩
        clear hq2
        go_wp2_with fail
        go_ret
        exact ⟨fun i h => (by rw [HE.out] at h; injection h with h; subst h; rfl), fun h => (by rw [HE.out] at h; cases h), HW1.out⟩
      | false =>
        rw [hfk] at HFN HST
        have HE : Hid (nextF f m 0 = nextF f m (k + 1)) := Lib.hid (by rw [HQ.out.1, HST.out, if_neg (by simp)])
        clear hfk
        go_wp2_with fail
        refine HFN.out.mono ?_
        rintro e w1 ⟨rfl, q2, hq2⟩
        have HW1 : Hid (∃ q, w1 = w.drewN q) := Lib.hid ⟨q + q2, by rw [hq2, HQ.out.2]; exact World.drewN_drewN _ _ _⟩
        clear hq2
        go_wp2_with fail
        go_roundw
        case rel => exact ⟨k + 1, by omega, by go_num, Lib.hid ⟨HE.out, HW1.out⟩⟩
        case measure => simp [intOf]; omega
    · obtain rfl : k = m := by omega
      have HE : Hid (nextF f k 0 = none) := Lib.hid (by rw [HQ.out.1]; exact nextF_end)
      clear hcw
      go_wp2_with fail
      go_ret
      exact ⟨fun i h => (by rw [HE.out] at h; cases h), fun _ => rfl, q, HQ.out.2⟩
end Go.Proofs.Yticickicfigpbaa

namespace Go.Proofs.Yticickicfigpbaa
open Go.RowKit

def upR (k n : Nat) : List Int := (List.range n).map fun i => if i < k then (i : Int) else 0
theorem upR_set {k n : Nat} : (upR k n).set k (k : Int) = upR (k + 1) n := by
  unfold upR
  apply List.ext_getElem
  · simp
  · intro j h1 h2
    rw [List.getElem_set]
    simp only [List.getElem_map, List.getElem_range]
    by_cases h : k = j
    · subst h; rw [if_pos rfl, if_pos (Nat.lt_succ_self k)]
    · rw [if_neg h]
      by_cases h3 : j < k
      · rw [if_pos h3, if_pos (by omega)]
      · rw [if_neg h3, if_neg (by omega)]
theorem upR_zero {n : Nat} : (upR 0 n).map (Value.int .i64) = List.replicate n (.int .i64 0) := by simp [upR, List.map_const']
theorem upR_all {n : Nat} : upR n n = natG (List.range n) := by
  unfold upR natG
  exact List.map_congr_left fun i hi => if_pos (List.mem_range.1 hi)
set_option maxRecDepth 100000 in
set_option maxHeartbeats 1000000 in
theorem upTo_any (n : Nat) (w : World) (hn : n ≤ 10) :
    Calls Try.prog 25 #[.int .i64 (n : Int)] w fun e w' => e = .returned (.slice (some ⟨w.heap.size, 0, none⟩) n n) ∧ RowOf w' w.heap.size 3 ((natG (List.range n)).map (Value.int .i64)) ∧ w'.heap.size = w.heap.size + 1 ∧ Below w.heap.size w w' := by
  have hmk := fun W => mkI_run n (by omega) W
  go_enter Try.func25, Try.ntmps25
  go_wp2
  have HR : Hid (RowOf (mkI n w) w.heap.size 3 ((upR 0 n).map (Value.int .i64)) ∧ (mkI n w).heap.size = w.heap.size + 1 ∧ Below w.heap.size w (mkI n w)) := Lib.hid ⟨by rw [upR_zero]; exact mkI_row n w, mkI_size n w, mkI_below n w⟩
  generalize mkI n w = W2 at HR ⊢
  go_loopw [4, 9] (fun x5 x9 wr => ∃ k : Nat, k ≤ n ∧ x9 = .int .i64 k ∧ Hid (RowOf wr w.heap.size 3 ((upR k n).map (Value.int .i64)) ∧ wr.heap.size = w.heap.size + 1 ∧ Below w.heap.size w wr)) (fun _ j _ => n - (intOf j).toNat)
  case atStart => exact ⟨0, Nat.zero_le _, rfl, HR⟩
  case round =>
    clear HR
    obtain ⟨k, hk, rfl, HC⟩ := hrel
    by_cases hkn : k < n
    · have ik0 : (0 : Int) ≤ (k : Int) := by omega
      have ik1 : (k : Int) < (n : Int) := by omega
      have cK : wr.cell? ⟨w.heap.size, k, none⟩ = some (.int .i64 0) := HC.out.1.cell (by simp [upR, hkn])
      have fK := HC.out.1.frozen k
      have HN : Hid (RowOf (wr.setCell ⟨w.heap.size, k, none⟩ (.int .i64 (k : Int))) w.heap.size 3 ((upR (k + 1) n).map (Value.int .i64)) ∧ (wr.setCell ⟨w.heap.size, k, none⟩ (.int .i64 (k : Int))).heap.size = w.heap.size + 1 ∧ Below w.heap.size w (wr.setCell ⟨w.heap.size, k, none⟩ (.int .i64 (k : Int)))) := Lib.hid (by
        refine ⟨?_, by rw [World.size_setCell]; exact HC.out.2.1, HC.out.2.2.setCell (p := ⟨w.heap.size, k, none⟩) (Nat.le_refl _) _⟩
        have h := HC.out.1.set_ k (.int .i64 (k : Int))
        rw [← List.map_set, upR_set] at h
        exact h)
      go_wp2
      go_roundw
      case rel => exact ⟨k + 1, by omega, by go_num, HN⟩
      case measure => simp [intOf]; omega
    · obtain rfl : k = n := by omega
      have HE : Hid (RowOf wr w.heap.size 3 ((natG (List.range k)).map (Value.int .i64))) := Lib.hid (by rw [← upR_all]; exact HC.out.1)
      go_wp2
      go_ret
      exact ⟨rfl, HE.out, HC.out.2.1, HC.out.2.2⟩
end Go.Proofs.Yticickicfigpbaa

namespace Go.Proofs.Yticickicfigpbaa
open Go.RowKit

theorem RowOf.grownR {w w' : World} {g : Nat} {t : TypeId} {vs : List Value} {row : Option Nat} (h : RowOf w g t vs) (hg : w.grownBy w' row) (hr : some g ≠ row) : RowOf w' g t vs := (hg.block g h.lt hr).trans h
theorem own_cap {w : World} {base : Nat} {t : TypeId} {A : Option Addr} {n cap : Nat} {xs : List Value} (h : w.ownsRow base t 1 (.slice A n cap) n xs) : n ≤ cap := by
  rcases h.2 with ⟨h1, h2⟩ | ⟨g, cap', cur, hv, _, _, hc, _⟩
  · omega
  · injection hv with _ _ e
    omega
/-- What Order's loop holds: the neighbours, the nodes, the word of those that are gone, and the row of those that went. -/
structure OrdW (w : World) (gA g gN gG m : Nat) (es : List E3) (lg l : List Nat) (v : Value) (wr : World) : Prop where
  below : Below w.heap.size w wr
  rA : RowOf wr gA 46 [.slice (some ⟨g, 0, none⟩) m m]
  rW : RowOf wr g 38 ((nbL m es).map u32V)
  rN : RowOf wr gN 3 ((natG (List.range m)).map (Value.int .i64))
  gone : ∃ G : Nat, RowOf wr gG 38 [.int .u32 (G : Int)] ∧ ∀ j, G.testBit j = decide (j ∈ lg)
  own : wr.ownsRow w.heap.size 3 1 v l.length ((natG l).map (Value.int .i64))
  ne : ∀ k, v.ownBlock = some k → k ≠ gA ∧ k ≠ g ∧ k ≠ gN ∧ k ≠ gG
section
variable {w wr w1 w2 : World} {gA g gN gG m x : Nat} {es : List E3} {lg l : List Nat} {v v' : Value}
theorem OrdW.drewN (H : OrdW w gA g gN gG m es lg l v wr) (q : Nat) : OrdW w gA g gN gG m es lg l v (wr.drewN q) := by
  obtain ⟨G, h1, h2⟩ := H.gone
  exact ⟨below_drewN H.below q, H.rA, H.rW, H.rN, ⟨G, h1, h2⟩, H.own, H.ne⟩
theorem OrdW.grow (H : OrdW w gA g gN gG m es lg l v wr) (o : Obj) (hg : (wr.alloc o).grownBy w2 v.ownBlock) (ho : w2.ownsRow w.heap.size 3 1 v' (l.length + 1) ((natG l).map (Value.int .i64) ++ [.int .i64 (x : Int)])) (hat : v'.ownBlock = v.ownBlock ∨ v'.ownBlock = some (wr.alloc o).heap.size) :
    OrdW w gA g gN gG m es lg (l ++ [x]) v' w2 := by
  obtain ⟨G, h1, h2⟩ := H.gone
  have hn : ∀ k, v.ownBlock = some k → w.heap.size ≤ k := own_base H.own
  have hsz := H.below.size
  have e : (natG (l ++ [x])).map (Value.int .i64) = (natG l).map (Value.int .i64) ++ [.int .i64 (x : Int)] := by simp [natG]
  refine ⟨(H.below.alloc hsz o).grown hg (by simp; omega) hn, (H.rA.alloc o).grownR hg fun e => ?_, (H.rW.alloc o).grownR hg fun e => ?_, (H.rN.alloc o).grownR hg fun e => ?_, ⟨G, (h1.alloc o).grownR hg fun e => ?_, h2⟩, by rw [List.length_append, List.length_singleton, e]; exact ho, fun k hk => ?_⟩
  · exact (H.ne _ e.symm).1 rfl
  · exact (H.ne _ e.symm).2.1 rfl
  · exact (H.ne _ e.symm).2.2.1 rfl
  · exact (H.ne _ e.symm).2.2.2 rfl
  · rw [hk] at hat
    rcases hat with h | h
    · exact H.ne k h.symm
    · injection h with h
      have q1 := H.rA.lt
      have q2 := H.rW.lt
      have q3 := H.rN.lt
      have q4 := h1.lt
      have q5 : (wr.alloc o).heap.size = wr.heap.size + 1 := by simp
      omega
theorem OrdW.put (H : OrdW w gA g gN gG m es lg l v wr) (h1 : gG ≠ gA) (h2 : gG ≠ g) (h3 : gG ≠ gN) (hlo : w.heap.size ≤ gG) {G : Nat} (hG : ∀ j, G.testBit j = decide (j ∈ l)) : OrdW w gA g gN gG m es l l v (wr.setCell ⟨gG, 0, none⟩ (.int .u32 (G : Int))) := by
  obtain ⟨G0, h4, _⟩ := H.gone
  have hset := h4.set_ 0 (.int .u32 (G : Int))
  have hg : wr.grownBy (wr.setCell ⟨gG, 0, none⟩ (.int .u32 (G : Int))) (some gG) := ⟨rfl, rfl, rfl, by simp, fun b _ hb => Below.heap_setCell _ _ _ b (fun e => hb (by rw [e]))⟩
  refine ⟨H.below.setCell (p := ⟨gG, 0, none⟩) hlo _, H.rA.far (p := ⟨gG, 0, none⟩) (Ne.symm h1) _, H.rW.far (p := ⟨gG, 0, none⟩) (Ne.symm h2) _, H.rN.far (p := ⟨gG, 0, none⟩) (Ne.symm h3) _, ⟨G, hset, hG⟩, H.own.kept hg (Classical.or_iff_not_imp_left.2 fun _ e => (H.ne _ e).2.2.2 rfl), H.ne⟩
end
/-- The boxes that Order lays. -/
structure OrdBox (w w1 : World) (g m : Nat) (es : List E3) (W2 : World) : Prop where
  below : Below w.heap.size w W2
  rA : RowOf W2 w1.heap.size 46 [.slice (some ⟨g, 0, none⟩) m m]
  rW : RowOf W2 g 38 ((nbL m es).map u32V)
  rG : RowOf W2 (w1.heap.size + 1) 38 [.int .u32 0]
  g1 : g < w1.heap.size
  lo : w.heap.size ≤ w1.heap.size
  sz : W2.heap.size = w1.heap.size + 2
theorem ord_box {w w1 : World} {g m : Nat} {es : List E3} (h : Below w.heap.size w w1) (hr : RowOf w1 g 38 ((nbL m es).map u32V)) : OrdBox w w1 g m es ((w1.alloc (.cells #[.slice (some ⟨g, 0, none⟩) m m] 46)).alloc (.cells #[.int .u32 0] 38)) :=
  ⟨(h.alloc h.size _).alloc (by have := h.size; simp; omega) _, (box_new w1 _ _).alloc _, (hr.alloc _).alloc _, box_next w1 _ _ _, hr.lt, h.size, by simp⟩
set_option maxRecDepth 100000 in
/-- A row of no integers with room for n. -/
theorem mkC_run (n : Nat) (hn : n ≤ 32) (W : World) : (Instr.makeSlice 25 (.int .i64 0) (.int .i64 (n : Int))).run Try.prog W = .ok (.slice (some ⟨W.heap.size, 0, none⟩) 0 n) (mkI n W) := by
  obtain ⟨i0, hi, hz0, hz1, hz2⟩ := info_parts infoInt
  have h := run_make (P := Try.prog) W 25 3 i0 _ Try.underlying25 hi hz0 .i64 .i64 0 n (Int.le_refl _) (by omega) (by rw [hz2]; omega) (by omega)
  rw [hz1, Nat.mul_one] at h
  exact h
theorem mkI_own (n : Nat) (hn : n ≤ 32) (W : World) {base : Nat} (hb : base ≤ W.heap.size) : (mkI n W).ownsRow base 3 1 (.slice (some ⟨W.heap.size, 0, none⟩) 0 n) 0 [] :=
  World.ownsRow_made W _ n hb (by unfold maxLen; omega) (by rw [size_madeCells, Nat.mul_one])
/-- The two rows that Order makes, in either order. -/
structure OrdMade (W2 : World) (gN gO m : Nat) (W : World) : Prop where
  rN : RowOf W gN 3 ((natG (List.range m)).map (Value.int .i64))
  own : W.ownsRow W2.heap.size 3 1 (.slice (some ⟨gO, 0, none⟩) 0 m) 0 []
  below : Below W2.heap.size W2 W
  ne : gO ≠ gN
  loN : W2.heap.size ≤ gN
  loO : W2.heap.size ≤ gO
theorem ord_made1 {W2 w5 : World} {m : Nat} (hm : m ≤ 10) (hup : RowOf w5 W2.drew.heap.size 3 ((natG (List.range m)).map (Value.int .i64))) (hus : w5.heap.size = W2.drew.heap.size + 1) (hub : Below W2.drew.heap.size W2.drew w5) : OrdMade W2 W2.heap.size (W2.heap.size + 1) m (mkI m w5) := by
  have h : (mkI m w5).ownsRow W2.heap.size 3 1 (.slice (some ⟨w5.heap.size, 0, none⟩) 0 m) 0 [] := mkI_own m (by omega) w5 (by rw [hus]; exact Nat.le_succ _)
  rw [hus] at h
  exact ⟨hup.keep (mkI_below m w5), h, ((Below.refl _ W2).drew.trans hub).trans ((mkI_below m w5).mono (by rw [hus]; exact Nat.le_succ _)), by omega, Nat.le_refl _, Nat.le_succ _⟩
theorem ord_made2 {W2 w5 : World} {m : Nat} (hm : m ≤ 10) (hup : RowOf w5 (mkI m W2.drew).heap.size 3 ((natG (List.range m)).map (Value.int .i64))) (hub : Below (mkI m W2.drew).heap.size (mkI m W2.drew) w5) : OrdMade W2 (W2.heap.size + 1) W2.heap.size m w5 := by
  rw [mkI_size] at hup hub
  have h : (mkI m W2.drew).ownsRow W2.heap.size 3 1 (.slice (some ⟨W2.heap.size, 0, none⟩) 0 m) 0 [] := mkI_own m (by omega) W2.drew (Nat.le_refl _)
  have hb : Below (W2.heap.size + 1) (mkI m W2.drew) w5 := hub
  have hb' : Below (mkI m W2.drew).heap.size (mkI m W2.drew) w5 := by rw [mkI_size]; exact hub
  exact ⟨hup, h.kept (grown_of_below hb' none) (.inr (by simp [Value.ownBlock])), ((Below.refl _ W2).drew.trans (mkI_below m W2.drew)).trans (hb.mono (Nat.le_succ _)), by omega, Nat.le_succ _, Nat.le_refl _⟩
set_option maxRecDepth 100000 in
set_option maxHeartbeats 4000000 in
theorem orderTop_good (m : Nat) (A : Option Addr) (len cap : Nat) (es : List E3) (w : World) (hE : EdgesAt w w.heap.size A len es) (hx : gcheck m es = 0) :
    Calls Try.prog 7 #[.agg #[.int .i64 (m : Int), .slice A len cap]] w fun e w' =>
      (elimF (adjE es) m m [] = none → e = .returned (.tuple #[.slice none 0 0, .int .i64 5])) ∧ (∀ l, elimF (adjE es) m m [] = some l → ∃ A' c', e = .returned (.tuple #[.slice A' m c', .int .i64 0]) ∧ IntsAt w' w'.heap.size A' m (natG l) ∧ m ≤ c') ∧ Below w.heap.size w w' := by
  have HX := Lib.hid (BoxG.start (n := (m : Int)) (cap := cap) hE)
  have k0 := HX.out.c0
  have k1 := HX.out.c1
  obtain ⟨hn0, hn1, hl, hg⟩ := good_of_gcheck hx
  have hm10 : m ≤ 10 := by omega
  have HNB := Lib.hid (fun W hW => neighbours_any m A len cap es W hW hx)
  have HUP := Lib.hid (fun W => upTo_any m W hm10)
  have HIN := Lib.hid (info_parts infoInt)
  have hmk := fun W => mkC_run m (by omega) W
  have hsz := fun W => mkI_size m W
  have HGE := Lib.hid hg
  obtain ⟨wb, hwb⟩ : ∃ wb, bx w (m : Int) A len cap = wb := ⟨_, rfl⟩
  have HB0 : Hid (∀ W, Below wb.heap.size wb W → W.cell? ⟨w.heap.size, 0, none⟩ = some (.int .i64 (m : Int)) ∧ Below w.heap.size w W) := Lib.hid (fun W h => by
    rw [← hwb] at h
    exact ⟨(BoxG.of hE h).c0, (BoxG.of hE h).below⟩)
  have HWB := Lib.hid hwb
  clear hE hx hn0 hn1 hl hg hwb
  go_enter Try.func7, Try.ntmps7
  go_wp2_with fail
  refine (HNB.out _ HX.out.edges).mono ?_
  rintro e w1 ⟨g, rfl, hrow, hg0, hB⟩
  have HX1 := Lib.hid (HX.out.next hB)
  have HR := Lib.hid hrow
  have l0 := HX1.out.c0
  have l1 := HX1.out.c1
  clear hB k0 k1 HNB hrow
  go_wp2_with fail
  have HBA : Hid (OrdBox wb w1 g m es ((w1.alloc (.cells #[.slice (some ⟨g, 0, none⟩) m m] 46)).alloc (.cells #[.int .u32 0] 38))) := Lib.hid (ord_box (by rw [← HWB.out]; exact HX1.out.box) HR.out)
  have q0 := (HX1.out.next (((Below.refl _ w1).alloc (Nat.le_refl _) (.cells #[.slice (some ⟨g, 0, none⟩) m m] 46)).alloc (by simp) (.cells #[.int .u32 0] 38))).c0
  generalize (w1.alloc (.cells #[.slice (some ⟨g, 0, none⟩) m m] 46)).alloc (.cells #[.int .u32 0] 38) = W2 at HBA q0 ⊢
  have hlt : w.heap.size < W2.heap.size := block_lt_of_cell q0
  have q1 : (mkI m W2.drew).cell? ⟨w.heap.size, 0, none⟩ = some (.int .i64 (m : Int)) := ((mkI_below m W2.drew).cell (p := ⟨w.heap.size, 0, none⟩) hlt).trans q0
  have hlt1 : w.heap.size < (mkI m W2.drew).heap.size := by rw [hsz]; exact Nat.lt_succ_of_lt hlt
  clear l0 l1
  rename_i K hK
  have TAIL : Hid (∀ (gN gO : Nat) (W : World), OrdMade W2 gN gO m W → K { tmps := #[.agg #[.int .i64 (m : Int), .slice A len cap], .pointer (some ⟨w.heap.size, 0, none⟩), .slice none 0 0, .int .i64 0, .pointer (some ⟨w1.heap.size, 0, none⟩), .int .i64 0, .pointer (some ⟨w1.heap.size + 1, 0, none⟩), .func (.func 23) #[] #[.pointer (some ⟨w1.heap.size + 1, 0, none⟩), .pointer (some ⟨w1.heap.size, 0, none⟩)], .slice (some ⟨gN, 0, none⟩) m m, .slice (some ⟨gO, 0, none⟩) 0 m, undef, .tuple #[.slice (some ⟨g, 0, none⟩) m m, .int .i64 0], .agg #[.int .i64 (m : Int), .slice A len cap], .tuple #[.slice (some ⟨g, 0, none⟩) m m, .int .i64 0], .slice (some ⟨g, 0, none⟩) m m, .int .i64 0, .int .i64 0, .bool false, undef, .func (.func 23) #[] #[.pointer (some ⟨w1.heap.size + 1, 0, none⟩), .pointer (some ⟨w1.heap.size, 0, none⟩)], .pointer (some ⟨w.heap.size, 0, none⟩), .int .i64 (m : Int), .slice (some ⟨gN, 0, none⟩) m m, .pointer (some ⟨w.heap.size, 0, none⟩), .int .i64 (m : Int), .slice (some ⟨gO, 0, none⟩) 0 m, undef, undef, undef, undef, undef, undef, undef, undef, undef, undef, undef, undef, undef, undef, undef, undef, undef, undef, undef], defers := [] } W) := by
    refine Lib.hid fun gN gO W HM => hK _ _ ?_
    have HMM := Lib.hid HM
    clear hK HM q0 q1 hlt hlt1 hmk hsz HUP
    obtain ⟨gG, hgG⟩ : ∃ gG, w1.heap.size + 1 = gG := ⟨_, rfl⟩
    obtain ⟨gA, hgA⟩ : ∃ gA, w1.heap.size = gA := ⟨_, rfl⟩
    have HO0 : Hid (OrdW wb gA g gN gG m es [] [] (.slice (some ⟨gO, 0, none⟩) 0 m) W) := Lib.hid (by
      have h := HBA.out
      have hM := HMM.out
      have hb := h.below
      have hs := h.sz
      have hs1 := h.g1
      have hs2 := hM.loN
      have hs3 := hM.loO
      subst hgA hgG
      refine ⟨hb.trans (hM.below.mono hb.size), h.rA.below hM.below (by omega), h.rW.below hM.below (by omega), hM.rN, ⟨0, h.rG.below hM.below (by omega), fun j => by simp⟩, own_low hM.own hb.size, fun k hk => ?_⟩
      simp only [Value.ownBlock, Option.some.injEq] at hk
      have := hM.ne
      omega)
    have HNE : Hid (gG ≠ gA ∧ gG ≠ g ∧ gG ≠ gN ∧ wb.heap.size ≤ gG) := Lib.hid (by
      have h := HBA.out
      have hM := HMM.out
      have hs := h.sz
      have hs1 := h.g1
      have hs2 := hM.loN
      have hs4 := h.lo
      omega)
    rw [hgG, hgA]
    clear hgG hgA HMM HBA
    go_wp2_with fail
    go_loopg [9, 10] m (fun c v y wr => ∃ (k cp : Nat) (Ao : Option Addr) (l : List Nat), v = .slice Ao k cp ∧ k + c = m ∧ Hid (l.length = k ∧ OrdW wb gA g gN gG m es l l v wr ∧ (∀ x ∈ l, x < m) ∧ elimF (adjE es) m (m - k) l = elimF (adjE es) m m []))
    case atStart => exact ⟨0, m, _, [], rfl, by omega, Lib.hid ⟨rfl, HO0.out, fun x h => (by simp at h), rfl⟩⟩
    case round =>
      clear HO0
      obtain ⟨k, cp, Ao, l, rfl, hkc, HC⟩ := hrel
      have HLN : Hid (l.length = k) := Lib.hid HC.out.1
      have HW : Hid (OrdW wb gA g gN gG m es l l (.slice Ao k cp) wr) := Lib.hid HC.out.2.1
      have HLT : Hid (∀ x ∈ l, x < m) := Lib.hid HC.out.2.2.1
      have HEL : Hid (elimF (adjE es) m (m - k) l = elimF (adjE es) m m []) := Lib.hid HC.out.2.2.2
      clear HC
      have cM : wr.cell? ⟨w.heap.size, 0, none⟩ = some (.int .i64 (m : Int)) := (HB0.out wr HW.out.below).1
      by_cases hkm : k = m
      · subst hkm
        have HIN : Hid (IntsAt wr wr.heap.size Ao k (natG l)) := Lib.hid (IntsAt.of_own (by have h := HW.out.own; rw [HLN.out] at h; exact h) (Nat.le_refl _))
        have HCP : Hid (k ≤ cp) := Lib.hid (by have h := HW.out.own; rw [HLN.out] at h; exact own_cap h)
        have HSM : Hid (elimF (adjE es) k k [] = some l) := Lib.hid (by rw [← HEL.out, Nat.sub_self]; rfl)
        go_wp2_with fail
        go_ret2
        exact ⟨fun h => (by rw [HSM.out] at h; cases h), fun l' h => (by rw [HSM.out] at h; injection h with h; subst h; exact ⟨_, _, rfl, HIN.out, HCP.out⟩), (HB0.out wr HW.out.below).2⟩
      · have hks : m - k = (m - (k + 1)) + 1 := by omega
        have ik1 : (k : Int) < (m : Int) := by omega
        obtain ⟨G, hG1, hG2⟩ := HW.out.gone
        have HG := Lib.hid hG2
        have hGl : G < 1024 := pow10 hm10 (gone_lt hG2 HLT.out)
        have cG := hG1.cell (i := 0) rfl
        have cA := HW.out.rA.cell (i := 0) rfl
        have HIX := Lib.hid (idxCan_any m G gG gA g gN m m (nbL m es) (simpB (adjE es) m l) wr hm10 hGl (fun i => pow10 hm10 (nbL_words HGE.out i)) cG cA (by
          have h := WordsAt.of_row (B := wr.heap.size) HW.out.rW HW.out.rW.lt
          rw [nbL_length] at h
          exact h) HW.out.rN (fun i hi => can_iff (adjE_symm es) (fun i => (by
            cases h : adjE es i i with
            | false => rfl
            | true => exact absurd rfl (adjE_lt HGE.out h).2.2)) (fun i j h => (adjE_lt HGE.out h).2.1) (fun i j hi => nb_bit HGE.out hi j) (fun i => pow10 hm10 (nbL_words HGE.out i)) hG2 hGl hi))
        clear hG1 hG2 cA cG
        have HKC := Lib.hid hkc
        have HKM : Hid (k + 1 + (m - (k + 1)) = m) := Lib.hid (by omega)
        cases hnx : nextF (simpB (adjE es) m l) m 0 with
        | none =>
          have HNO : Hid (elimF (adjE es) m m [] = none) := Lib.hid (by rw [← HEL.out, hks]; exact elim_stuck hnx)
          have HNX := Lib.hid hnx
          clear hnx hks hkc hkm
          go_wp2_with fail
          refine HIX.out.mono ?_
          rintro e w3 ⟨_, h2, q, hq⟩
          obtain rfl := h2 HNX.out
          have HB3 : Hid (Below w.heap.size w w3) := Lib.hid (by rw [hq]; exact below_drewN (HB0.out wr HW.out.below).2 q)
          clear h2 hq
          go_wp2_with fail
          go_ret2
          exact ⟨fun _ => rfl, fun l' h => (by rw [HNO.out] at h; cases h), HB3.out⟩
        | some i =>
          obtain ⟨_, him, _⟩ := nextF_some hnx
          have HEL2 : Hid (elimF (adjE es) m (m - (k + 1)) (l ++ [i]) = elimF (adjE es) m m []) := Lib.hid (by rw [← HEL.out, hks]; exact (elim_step hnx).symm)
          have HNX := Lib.hid hnx
          have ii0 : (0 : Int) ≤ (i : Int) := by omega
          have ii1 : ¬ (i : Int) < 0 := by omega
          have hi32 : (i : Int) ≤ 32 := by omega
          clear hnx hks hkc hkm
          obtain ⟨i0, hi, hz0, hz1, hz2⟩ := HIN.out
          have HI := Lib.hid hi
          have HI0 := Lib.hid hz0
          have HI1 := Lib.hid hz1
          have HI2 := Lib.hid hz2
          clear hi hz0 hz1 hz2
          go_wp2_with fail
          refine HIX.out.mono ?_
          rintro e w3 ⟨h1, _, q, hq⟩
          obtain rfl := h1 i HNX.out
          have HW3 : Hid (OrdW wb gA g gN gG m es l l (.slice Ao k cp) w3) := Lib.hid (by rw [hq]; exact HW.out.drewN q)
          have HO3 : Hid (w3.ownsRow wb.heap.size 3 1 (.slice Ao k cp) k ((natG l).map (Value.int .i64))) := Lib.hid (by have h := HW3.out.own; rw [HLN.out] at h; exact h)
          clear h1 hq HIX HW
          go_wp2_with (at_builtin; refine wpList_append_own_at _ rfl _ _ 25 rfl wb.heap.size 3 i0 (.int .i64 0) 1 8 Try.underlying25 HI.out HI0.out HI1.out HI2.out rfl (by decide) _ _ _ rfl (HO3.out.alloc _) ⟨w3.heap.size, 0, none⟩ 1 1 [.int .i64 (i : Int)] rfl rfl ?c1 ?c2 ?c3 ?c4 ?c5 ?_)
          try (case c1 => exact cell_one_new _ _ _)
          case c2 => simp [Value.oneCell']
          case c3 => unfold maxLen; omega
          case c4 => omega
          case c5 => have := HW3.out.below.size; simp; omega
          intro v' w4 hown' hgrow _ hat
          obtain ⟨A3, c3, rfl⟩ := own_form hown'
          have HW4 : Hid (OrdW wb gA g gN gG m es l (l ++ [i]) (.slice A3 (k + 1) c3) w4) := Lib.hid (HW3.out.grow _ hgrow (by rw [HLN.out]; exact hown') (by rw [World.size_alloc]; exact hat))
          clear hown' hgrow hat
          obtain ⟨G', hG1, hG2⟩ := HW4.out.gone
          obtain rfl : G' = G := by
            apply Nat.eq_of_testBit_eq
            intro j
            rw [hG2, HG.out]
          have cG := hG1.cell (i := 0) rfl
          have fG := hG1.frozen 0
          have hp : 2 ^ i < 1024 := pow10 hm10 (Nat.pow_lt_pow_right (by decide) him)
          have hsm : (2 : Int) ^ i % 4294967296 = ((2 ^ i : Nat) : Int) := pow_mod i (by omega)
          have htm : IntKind.u32.wrap ((2 : Int) ^ i) = ((2 ^ i : Nat) : Int) := by rw [wrap_u32n]; exact hsm
          have hor := or_u32 G' (2 ^ i) (by omega) (by omega)
          have HNX2 : Hid (OrdW wb gA g gN gG m es (l ++ [i]) (l ++ [i]) (.slice A3 (k + 1) c3) (w4.setCell ⟨gG, 0, none⟩ (.int .u32 ((G' ||| 2 ^ i : Nat) : Int))).drew) := Lib.hid ((HW4.out.put HNE.out.1 HNE.out.2.1 HNE.out.2.2.1 HNE.out.2.2.2 (gone_more hG2)).drewN 1)
          have HLT2 : Hid (∀ x ∈ l ++ [i], x < m) := Lib.hid (by
            intro x hx
            rcases List.mem_append.1 hx with h | h
            · exact HLT.out x h
            · rw [List.mem_singleton.1 h]; exact him)
          have HLN2 : Hid ((l ++ [i]).length = k + 1) := Lib.hid (by rw [List.length_append, List.length_singleton, HLN.out])
          clear hG1 hG2
          generalize G' ||| 2 ^ i = so at *
          generalize 2 ^ i = pi at *
          go_wp2_with fail
          go_region
          go_wp2_with fail
          go_roundg (m - (k + 1))
          case rel => exact ⟨k + 1, c3, A3, l ++ [i], rfl, HKM.out, Lib.hid ⟨HLN2.out, HNX2.out, HLT2.out, HEL2.out⟩⟩
          case measure => have := HKC.out; omega
  clear hK
  go_region_with (first
    | (go_at_call 25; refine (HUP.out _).mono ?_; rintro e w5 ⟨rfl, hup, hus, hub⟩; have q5 : w5.cell? ⟨w.heap.size, 0, none⟩ = some (.int .i64 (m : Int)) := by first | exact (hub.cell (p := ⟨w.heap.size, 0, none⟩) hlt).trans q0 | exact (hub.cell (p := ⟨w.heap.size, 0, none⟩) hlt1).trans q1))
  all_goals first
    | exact TAIL.out _ _ _ (ord_made1 hm10 hup hus hub)
    | exact TAIL.out _ _ _ (ord_made2 hm10 hup hub)
set_option maxRecDepth 100000 in
set_option maxHeartbeats 1000000 in
theorem orderTop_any (n : Int) (A : Option Addr) (len cap : Nat) (es : List E3) (w : World) (hE : EdgesAt w w.heap.size A len es) :
    Calls Try.prog 7 #[.agg #[.int .i64 n, .slice A len cap]] w (ChordTop w n es) := by
  obtain ⟨x, hx⟩ : ∃ x, gcheck n es = x := ⟨_, rfl⟩
  by_cases h0 : x = 0
  · subst h0
    obtain ⟨hn0, hn1, hl, hg⟩ := good_of_gcheck hx
    obtain ⟨m, rfl⟩ := Int.eq_ofNat_of_zero_le hn0
    refine (orderTop_good m A len cap es w hE hx).mono ?_
    rintro e w' ⟨h1, h2, h3⟩
    exact ⟨fun h => absurd hx h, fun _ h => h1 h, fun _ l h => h2 l h, h3⟩
  · have HX := Lib.hid (BoxG.start (n := n) (cap := cap) hE)
    have k0 := HX.out.c0
    have k1 := HX.out.c1
    have hx1 : (x != 0) = true := by simpa using h0
    have HNB := Lib.hid (fun W hW => neighbours_bad n A len cap es x W hW hx h0)
    have HXX := Lib.hid (show gcheck n es ≠ 0 by rw [hx]; exact h0)
    have HXE := Lib.hid hx
    clear hE hx h0
    go_enter Try.func7, Try.ntmps7
    go_wp2_with fail
    refine (HNB.out _ HX.out.edges).mono ?_
    rintro e w1 ⟨rfl, hB⟩
    have HX1 := Lib.hid (HX.out.next hB)
    have HX2 := Lib.hid (HX1.out.next ((Below.refl _ w1).alloc (Nat.le_refl _) (.cells #[.slice none 0 0] 46)))
    clear hB k0 k1 HNB
    go_wp2_with fail
    go_ret2
    exact ⟨fun _ => (by rw [HXE.out]; rfl), fun h => absurd h HXX.out, fun h => absurd h HXX.out, HX2.out.below⟩
end Go.Proofs.Yticickicfigpbaa

namespace Go.Proofs.Yticickicfigpbaa

theorem diff_rest {m w : Nat} (hm : m ≤ 10) (hw : w < 2 ^ m) : diffW (2 ^ m - 1) w = restW m w := by
  have h1 : 2 ^ m ≤ 1024 := by rw [show 1024 = 2 ^ 10 from rfl]; exact Nat.pow_le_pow_right (by decide) hm
  apply Nat.eq_of_testBit_eq
  intro i
  rw [diffW_testBit _ _ i (by omega) (by omega), rest_bit hw, Nat.testBit_two_pow_sub_one]
theorem diff_none {m w : Nat} (hm : m ≤ 10) (hw : w < 2 ^ m) : diffW w (2 ^ m - 1) = 0 := by
  have h1 : 2 ^ m ≤ 1024 := by rw [show 1024 = 2 ^ 10 from rfl]; exact Nat.pow_le_pow_right (by decide) hm
  apply Nat.eq_of_testBit_eq
  intro i
  rw [diffW_testBit _ _ i (by omega) (by omega), Nat.testBit_two_pow_sub_one, Nat.zero_testBit]
  cases hb : w.testBit i with
  | false => rfl
  | true => rw [decide_eq_true (bit_lt hw hb)]; rfl
end Go.Proofs.Yticickicfigpbaa

namespace Go.Proofs.Yticickicfigpbaa

/-- Of no member of a set is a neighbour in it. -/
def ApartL (xs : List Nat) (n s : Nat) : Prop := ∀ i, i < n → s.testBit i = true → s &&& xs.getD i 0 = 0
theorem and_none {s x : Nat} : s &&& x = 0 ↔ ∀ j, s.testBit j = true → x.testBit j = false := by
  constructor
  · intro h j hj
    have h1 : (s &&& x).testBit j = false := by rw [h, Nat.zero_testBit]
    rw [Nat.testBit_and, hj, Bool.true_and] at h1
    exact h1
  · intro h
    apply Nat.eq_of_testBit_eq
    intro j
    rw [Nat.testBit_and, Nat.zero_testBit]
    cases hj : s.testBit j with
    | false => rfl
    | true => rw [h j hj]; rfl
/-- Those that a node has no edge with, in a word of 32. -/
def strW (es : List E3) (i : Nat) : Nat := diffW (4294967295 - nbW es i) (2 ^ i)
def strL (m : Nat) (es : List E3) : List Nat := (List.range m).map (strW es)
theorem strL_length (m : Nat) (es : List E3) : (strL m es).length = m := by simp [strL]
theorem strL_get {m : Nat} (es : List E3) {i : Nat} (h : i < m) : (strL m es)[i]? = some (strW es i) := by simp [strL, h]
theorem nbW_all {m : Nat} {es : List E3} (hg : goodE m es) (i : Nat) : nbW es i < 2 ^ m := by
  have := nbW_lt hg i es.length
  rw [List.take_length] at this
  exact this
theorem strW_bit {m : Nat} {es : List E3} (hm : m ≤ 10) (hg : goodE m es) {i j : Nat} (hi : i < m) (hj : j < m) : (strW es i).testBit j = (!adjE es i j && !decide (i = j)) := by
  have h1 : nbW es i < 2 ^ 32 := Nat.lt_of_lt_of_le (nbW_all hg i) (Nat.pow_le_pow_right (by decide) (by omega))
  have h2 : 2 ^ i < 4294967296 := Nat.lt_of_lt_of_le (Nat.pow_lt_pow_right (by decide) hi) (by rw [show (4294967296 : Nat) = 2 ^ 32 from rfl]; exact Nat.pow_le_pow_right (by decide) (by omega))
  unfold strW
  rw [diffW_testBit _ _ _ (by omega) h2, show 4294967295 - nbW es i = 2 ^ 32 - (nbW es i + 1) by omega, Nat.testBit_two_pow_sub_succ h1, Nat.testBit_two_pow, decide_eq_true (show j < 32 by omega), Bool.true_and]
  have h3 := nbW_bit hg i j es.length
  rw [List.take_length] at h3
  rw [h3]
section
variable {m s : Nat} {es : List E3}
theorem apart_nb (hg : goodE m es) (hs : s < 2 ^ m) : ApartL (nbL m es) m s ↔ CrowdW (adjE es) true m s := by
  rw [crowd_lse (adjE_symm es) (adj_irr hg) hs]
  constructor
  · intro h i j hi hj
    have him := bit_lt hs hi
    have h1 := and_none.1 (h i him hi) j hj
    rw [nbL_bit hg him] at h1
    exact h1
  · intro h i him hi
    refine and_none.2 fun j hj => ?_
    rw [nbL_bit hg him]
    exact h i j hi hj
theorem apart_str (hm : m ≤ 10) (hg : goodE m es) (hs : s < 2 ^ m) : ApartL (strL m es) m s ↔ CrowdW (adjE es) false m s := by
  rw [crowd_clq (adjE_symm es) hs]
  have hget : ∀ i, i < m → (strL m es).getD i 0 = strW es i := fun i hi => by rw [List.getD_eq_getElem?_getD, strL_get es hi]; rfl
  constructor
  · intro h i j hi hj hne
    have him := bit_lt hs hi
    have h1 := and_none.1 (h i him hi) j hj
    rw [hget i him, strW_bit hm hg him (bit_lt hs hj), decide_eq_false hne] at h1
    cases ha : adjE es i j with
    | true => rfl
    | false => rw [ha] at h1; cases h1
  · intro h i him hi
    refine and_none.2 fun j hj => ?_
    rw [hget i him, strW_bit hm hg him (bit_lt hs hj)]
    by_cases e : i = j
    · simp [e]
    · rw [h i j hi hj e]; rfl
theorem ones_sizeP (s : Nat) (hs : s < 1024) : ones s = sizeW s := by
  rw [sizeW_bits (n := 10) (by decide) hs, ← sizeTo_bits]
  rfl
end
/-- The strangers' words, of the first k nodes. -/
def strG (xs : List Nat) (n k : Nat) : List Nat := (List.range n).map fun i => if i < k then diffW (4294967295 - xs.getD i 0) (2 ^ i) else 0
theorem strG_length (xs : List Nat) (n k : Nat) : (strG xs n k).length = n := by simp [strG]
theorem strG_zero (xs : List Nat) (n : Nat) : strG xs n 0 = List.replicate n 0 := by
  apply List.ext_getElem
  · simp [strG]
  · intro i h1 h2
    simp [strG]
theorem strG_next (xs : List Nat) (n k : Nat) : (strG xs n k).set k (diffW (4294967295 - xs.getD k 0) (2 ^ k)) = strG xs n (k + 1) := by
  apply List.ext_getElem
  · simp [strG]
  · intro i h1 h2
    rw [List.getElem_set]
    simp only [strG, List.getElem_map, List.getElem_range]
    by_cases e : k = i
    · subst e; rw [if_pos rfl, if_pos (Nat.lt_succ_self k)]
    · rw [if_neg e]
      by_cases h : i < k
      · rw [if_pos h, if_pos (by omega)]
      · rw [if_neg h, if_neg (by omega)]
theorem strG_all (m : Nat) (es : List E3) : strG (nbL m es) m m = strL m es := by
  unfold strG strL strW
  apply List.map_congr_left
  intro i hi
  have him := List.mem_range.1 hi
  rw [if_pos him, List.getD_eq_getElem?_getD, nbL_get es him]
  rfl
theorem strL_lt (m : Nat) (es : List E3) (i : Nat) : (strL m es).getD i 0 < 4294967296 := by
  rw [List.getD_eq_getElem?_getD]
  rcases Nat.lt_or_ge i m with h | h
  · rw [strL_get es h]; exact diffW_lt _ _
  · rw [List.getElem?_eq_none (by rw [strL_length]; exact h)]; decide
theorem xor_all (x : Nat) (hx : x < 4294967296) : 4294967295 ^^^ x = 4294967295 - x := by
  have h : (2 ^ 32 - 1) ^^^ x = 2 ^ 32 - (x + 1) := by
    apply Nat.eq_of_testBit_eq
    intro i
    rw [Nat.testBit_xor, Nat.testBit_two_pow_sub_one, Nat.testBit_two_pow_sub_succ (show x < 2 ^ 32 from hx)]
    by_cases h : i < 32
    · simp [h]
    · rw [Nat.testBit_lt_two_pow (Nat.lt_of_lt_of_le (show x < 2 ^ 32 from hx) (Nat.pow_le_pow_right (by decide) (by omega)))]
      simp [h]
  exact (show 4294967295 ^^^ x = 2 ^ 32 - (x + 1) from h).trans (by omega)
/-- One measure for another one. -/
theorem MostW.congr {P Q : Nat → Prop} {f g : Nat → Nat} {k b : Nat} (h : MostW P f k b) (hk : 0 < k) (hP : ∀ j, j < k → (P j ↔ Q j)) (hf : ∀ j, j < k → f j = g j) : MostW Q g k b := by
  have hb := h.below hk
  exact ⟨(hP b hb).1 h.ok, fun j hj hq => by rw [← hf j hj, ← hf b hb]; exact h.le j hj ((hP j hj).2 hq), fun j hj hq => by rw [← hf j (by omega), ← hf b hb]; exact h.first j hj ((hP j (by omega)).2 hq), h.lt⟩
/-- Left open the last one. -/
theorem FewW.last {P : Nat → Prop} {f : Nat → Nat} {all b : Nat} (h : FewW P f all all b) (hp : P all) (hall : ∀ j, j < all → f j < f all) : FewW P f all (all + 1) b := by
  have hb : f b ≤ f all := by
    rcases h.lt with e | e
    · subst e; exact Nat.le_refl _
    · exact Nat.le_of_lt (hall b e)
  exact h.keep hall hb
/-- What a cover leaves is apart. -/
theorem guard_apart {m k : Nat} {es : List E3} (hg : goodE m es) (hk : k < 2 ^ m) : GuardW es m k ↔ ApartL (nbL m es) m (restW m k) := by
  rw [apart_nb hg (rest_lt hk)]
  exact loose_crowd hg (rest_lt hk)
end Go.Proofs.Yticickicfigpbaa

namespace Go.Proofs.Yticickicfigpbaa
open Go.RowKit

theorem ones_dec : ∀ x, x < 1024 → Lib.pop8 ((x / 256 : Nat) : Int) = (ones (x / 256) : Int) ∧ Lib.pop8 ((x % 256 : Nat) : Int) = (ones (x % 256) : Int) ∧ ones x = ones (x / 256) + ones (x % 256) := by decide +kernel
theorem and255 (r : Nat) (h : r < 4294967296) : bits .and .u32 (r : Int) 255 = ((r % 256 : Nat) : Int) := by
  have := and_u32 r 255 h (by omega)
  rw [show ((255 : Nat) : Int) = 255 from rfl] at this
  rw [this, show (255 : Nat) = 2 ^ 8 - 1 from rfl, Nat.and_two_pow_sub_one_eq_mod]

set_option maxRecDepth 100000 in
set_option maxHeartbeats 1000000 in
theorem ones_core (x q r a b c : Nat) (w : World) (h0 : (x : Int) / 16777216 = 0) (h1 : (x : Int) / 65536 = 0) (h2 : (x : Int) / 256 = (q : Int)) (h3 : bits .and .u32 0 255 = 0) (h4 : bits .and .u32 (q : Int) 255 = (q : Int)) (h5 : bits .and .u32 (x : Int) 255 = (r : Int))
    (hq : q ≤ 255) (hr : r ≤ 255) (hp0 : Lib.pop8 0 = 0) (hpq : Lib.pop8 (q : Int) = (a : Int)) (hpr : Lib.pop8 (r : Int) = (b : Int)) (ha : a ≤ 10) (hb : b ≤ 10) (hc : Hid (c = a + b)) :
    Calls Try.prog 46 #[.int .u32 x] w fun e w' => e = .returned (.int .i64 c) ∧ ∃ k, w' = w.drewN k := by
  go_enter Try.func46, Try.ntmps46
  conv in (occs := *) (ByteArray.mk _) => all_goals change Lib.pop8tab
  have q0 : (0 : Int) ≤ (q : Int) := by omega
  have q1 : (q : Int) ≤ 255 := by omega
  have r0 : (0 : Int) ≤ (r : Int) := by omega
  have r1 : (r : Int) ≤ 255 := by omega
  go_wp2
  go_quiet (fail)
  go_wp2
  go_ret
  exact ⟨by rw [hc.out]; go_num, _, rfl⟩
set_option maxRecDepth 100000 in
theorem ones_any (x : Nat) (w : World) (hx : x < 1024) :
    Calls Try.prog 46 #[.int .u32 x] w fun e w' => e = .returned (.int .i64 (ones x)) ∧ ∃ k, w' = w.drewN k := by
  obtain ⟨h1, h2, h3⟩ := ones_dec x hx
  exact ones_core x (x / 256) (x % 256) (ones (x / 256)) (ones (x % 256)) (ones x) w (by omega) (by omega) (by omega) (by decide +kernel) (by rw [and255 _ (by omega)]; omega) (and255 x (by omega)) (by omega) (by omega) (by decide +kernel) h1 h2 (ones_le _) (ones_le _) (Lib.hid h3)
end Go.Proofs.Yticickicfigpbaa

namespace Go.Proofs.Yticickicfigpbaa
open Go.RowKit

set_option maxRecDepth 100000 in
theorem allOf_any (n cap : Nat) (A : Option Addr) (w : World) (hn : n ≤ 10) :
    Calls Try.prog 45 #[.slice A n cap] w fun e w' => e = .returned (.int .u32 ((2 ^ n - 1 : Nat) : Int)) ∧ w' = w := by
  have hp1 : 1 ≤ 2 ^ n := Nat.two_pow_pos n
  have hp2 : 2 ^ n ≤ 1024 := by rw [show 1024 = 2 ^ 10 from rfl]; exact Nat.pow_le_pow_right (by decide) hn
  have hsi : (2 : Int) ^ n % 4294967296 = ((2 ^ n : Nat) : Int) := pow_mod n (by omega)
  have hti : IntKind.u32.wrap ((2 : Int) ^ n) = ((2 ^ n : Nat) : Int) := by rw [wrap_u32n]; exact hsi
  have hn32 : (n : Int) ≤ 32 := by omega
  generalize 2 ^ n = p at hp1 hp2 hsi hti ⊢
  have HP : Hid (((p : Int) - 1) = ((p - 1 : Nat) : Int)) := Lib.hid (by omega)
  have hw : IntKind.u32.wrap ((p : Int) - 1) = (p : Int) - 1 := by rw [wrap_u32n]; omega
  go_enter Try.func45, Try.ntmps45
  go_wp2
  go_ret
  exact ⟨by rw [HP.out]; rfl, rfl⟩
set_option maxRecDepth 100000 in
set_option maxHeartbeats 1000000 in
theorem apartGo_any (n cap s : Nat) (A : Option Addr) (xs : List Nat) (r : Bool) (w : World) (hA : WordsAt w w.heap.size A n xs) (hn : n ≤ 10) (hs : s < 1024) (hxs : ∀ i, xs.getD i 0 < 4294967296) (hr : r = true ↔ ApartL xs n s) :
    Calls Try.prog 47 #[.slice A n cap, .int .u32 (s : Int)] w fun e w' => e = .returned (.bool r) ∧ w' = w := by
  have HW := Lib.hid hA
  have HR := Lib.hid hr
  have HS := Lib.hid hxs
  clear hA hr hxs
  go_enter Try.func47, Try.ntmps47
  go_wp2
  go_loop [9] (fun j => ∃ k : Nat, k ≤ n ∧ j = .int .i64 k ∧ Hid (∀ i, i < k → s.testBit i = true → s &&& xs.getD i 0 = 0)) (fun j => n - (intOf j).toNat)
  case atStart => exact ⟨0, Nat.zero_le _, rfl, Lib.hid fun i hi => absurd hi (Nat.not_lt_zero i)⟩
  case round =>
    obtain ⟨k, hk, rfl, HK⟩ := hrel
    by_cases hkn : k < n
    · have hkn' : (k : Int) < (n : Int) := by omega
      have hk32 : (k : Int) ≤ 32 := by omega
      obtain ⟨b, off, rfl, hb, hc⟩ := HW.out.at_ hkn
      have hx := HS.out k
      obtain ⟨x, hxe⟩ : ∃ x, xs.getD k 0 = x := ⟨_, rfl⟩
      have HX := Lib.hid hxe
      rw [hxe] at hc hx
      have hbit := shr_bit s k (by omega)
      have hand := and_u32 s x (by omega) hx
      clear hxe
      cases hbk : s.testBit k with
      | false =>
        rw [hbk] at hbit
        have HN : Hid (∀ i, i < k + 1 → s.testBit i = true → s &&& xs.getD i 0 = 0) := Lib.hid (fun i hi h => by
          by_cases e : i = k
          · subst e; rw [hbk] at h; cases h
          · exact HK.out i (by omega) h)
        clear hbk HK hand
        go_wp2
        go_round
        case rel => exact ⟨k + 1, by omega, by go_num, HN⟩
        case measure => simp [intOf]; omega
      | true =>
        rw [hbk] at hbit
        by_cases hz : s &&& x = 0
        · have HN : Hid (∀ i, i < k + 1 → s.testBit i = true → s &&& xs.getD i 0 = 0) := Lib.hid (fun i hi h => by
            by_cases e : i = k
            · subst e; rw [HX.out]; exact hz
            · exact HK.out i (by omega) h)
          rw [hz] at hand
          clear hbk HK hz
          go_wp2
          go_round
          case rel => exact ⟨k + 1, by omega, by go_num, HN⟩
          case measure => simp [intOf]; omega
        · have HF : Hid (r = false) := Lib.hid (by
            cases hrv : r with
            | false => rfl
            | true => exact absurd (by have := HR.out.1 hrv k hkn hbk; rw [HX.out] at this; exact this) hz)
          have hne : (((s &&& x : Nat) : Int) != 0) = true := by simpa using hz
          clear hbk HK hz
          generalize s &&& x = z at hand hne
          go_wp2
          go_ret
          exact ⟨ret_bool HF.out.symm, rfl⟩
    · obtain rfl : k = n := by omega
      have HT : Hid (r = true) := Lib.hid (HR.out.2 HK.out)
      clear HK
      go_wp2
      go_ret
      exact ⟨ret_bool HT.out.symm, rfl⟩
end Go.Proofs.Yticickicfigpbaa

namespace Go.Proofs.Yticickicfigpbaa
open Go.RowKit

set_option maxRecDepth 100000 in
set_option maxHeartbeats 2000000 in
theorem mostApart_any (n cap : Nat) (A : Option Addr) (xs : List Nat) (w : World) (hA : WordsAt w w.heap.size A n xs) (hn : n ≤ 10) (hxs : ∀ i, xs.getD i 0 < 4294967296) :
    Calls Try.prog 31 #[.slice A n cap] w fun e w' => (∃ b : Nat, MostW (ApartL xs n) ones (2 ^ n) b ∧ e = .returned (.int .u32 (b : Int))) ∧ Below w.heap.size w w' := by
  have HW := Lib.hid hA
  have HS := Lib.hid hxs
  have hn10 := hn
  have HA := Lib.hid (fun W => allOf_any n cap A W hn10)
  have h1 : 1 ≤ 2 ^ n := Nat.two_pow_pos n
  have h2 : 2 ^ n ≤ 1024 := by rw [show 1024 = 2 ^ 10 from rfl]; exact Nat.pow_le_pow_right (by decide) hn
  obtain ⟨M, hM⟩ : ∃ M, 2 ^ n = M + 1 := ⟨2 ^ n - 1, by omega⟩
  rw [hM] at HA h1 h2 ⊢
  rw [Nat.add_sub_cancel] at HA
  have hw : IntKind.u32.wrap ((M : Int) + 1) = (M : Int) + 1 := by rw [wrap_u32n]; omega
  have HON := Lib.hid (fun (x : Nat) (hx : x < 1024) W => ones_any x W hx)
  have HZ : Hid (MostW (ApartL xs n) ones 0 0) := Lib.hid (MostW.start fun i _ h => by simp at h)
  clear hA hxs hM
  go_enter Try.func31, Try.ntmps31
  go_wp2_with fail
  refine (HA.out _).mono ?_
  rintro e w1 ⟨rfl, rfl⟩
  go_wp2_with fail
  go_loopw [3, 8] (fun y j wr => ∃ k c : Nat, k ≤ M + 1 ∧ c < 1024 ∧ y = .int .u32 c ∧ j = .int .u32 k ∧ Hid (MostW (ApartL xs n) ones k c) ∧ Hid (Below w1.heap.size w1 wr)) (fun _ j _ => M + 1 - (intOf j).toNat)
  case atStart => exact ⟨0, 0, Nat.zero_le _, by omega, rfl, rfl, HZ, Lib.hid (Below.refl _ _)⟩
  case round =>
    obtain ⟨k, c, hk, hc, rfl, rfl, HM, HB⟩ := hrel
    by_cases hkn : k < M + 1
    · have hkn' : (k : Int) < (M : Int) + 1 := by omega
      have hk1 : k < 1024 := by omega
      have H1 := Lib.hid (HON.out k hk1)
      have H2 := Lib.hid (HON.out c hc)
      have hwk : IntKind.u32.wrap ((k : Int) + 1) = (k : Int) + 1 := by rw [wrap_u32n]; omega
      by_cases hlt : ones c < ones k
      · have hlt' : ((ones c : Nat) : Int) < ((ones k : Nat) : Int) := by omega
        by_cases hap : ApartL xs n k
        · have H3 := Lib.hid (fun W hW => apartGo_any n cap k A xs true W hW hn10 hk1 HS.out ⟨fun _ => hap, fun _ => rfl⟩)
          have HN := Lib.hid (HM.out.take hap hlt)
          clear hap HM hlt
          generalize ones k = ok at H1 hlt'
          generalize ones c = oc at H2 hlt'
          go_wp2_with fail
          refine (H1.out _).mono ?_
          rintro e w2 ⟨rfl, q1, hq1⟩
          have HB2 := Lib.hid (show Below w1.heap.size w1 w2 by rw [hq1]; exact below_drewN HB.out q1)
          clear hq1
          go_wp2_with fail
          refine (H2.out _).mono ?_
          rintro e w3 ⟨rfl, q2, hq2⟩
          have HB3 := Lib.hid (show Below w1.heap.size w1 w3 by rw [hq2]; exact below_drewN HB2.out q2)
          clear hq2
          go_wp2_with fail
          refine (H3.out _ (HW.out.go_ HB3.out)).mono ?_
          rintro e w4 ⟨rfl, rfl⟩
          go_wp2_with fail
          go_roundw
          case rel => exact ⟨k + 1, k, by omega, hk1, rfl, by go_num, HN, HB3⟩
          case measure => simp [intOf]; omega
        · have H3 := Lib.hid (fun W hW => apartGo_any n cap k A xs false W hW hn10 hk1 HS.out ⟨(fun h => by cases h), fun h => absurd h hap⟩)
          have HN := Lib.hid (HM.out.skip hap)
          clear hap HM hlt
          generalize ones k = ok at H1 hlt'
          generalize ones c = oc at H2 hlt'
          go_wp2_with fail
          refine (H1.out _).mono ?_
          rintro e w2 ⟨rfl, q1, hq1⟩
          have HB2 := Lib.hid (show Below w1.heap.size w1 w2 by rw [hq1]; exact below_drewN HB.out q1)
          clear hq1
          go_wp2_with fail
          refine (H2.out _).mono ?_
          rintro e w3 ⟨rfl, q2, hq2⟩
          have HB3 := Lib.hid (show Below w1.heap.size w1 w3 by rw [hq2]; exact below_drewN HB2.out q2)
          clear hq2
          go_wp2_with fail
          refine (H3.out _ (HW.out.go_ HB3.out)).mono ?_
          rintro e w4 ⟨rfl, rfl⟩
          go_wp2_with fail
          go_roundw
          case rel => exact ⟨k + 1, c, by omega, hc, rfl, by go_num, HN, HB3⟩
          case measure => simp [intOf]; omega
      · have hlt' : ¬ ((ones c : Nat) : Int) < ((ones k : Nat) : Int) := by omega
        have HN := Lib.hid (HM.out.keep (by omega))
        clear HM hlt
        generalize ones k = ok at H1 hlt'
        generalize ones c = oc at H2 hlt'
        go_wp2_with fail
        refine (H1.out _).mono ?_
        rintro e w2 ⟨rfl, q1, hq1⟩
        have HB2 := Lib.hid (show Below w1.heap.size w1 w2 by rw [hq1]; exact below_drewN HB.out q1)
        clear hq1
        go_wp2_with fail
        refine (H2.out _).mono ?_
        rintro e w3 ⟨rfl, q2, hq2⟩
        have HB3 := Lib.hid (show Below w1.heap.size w1 w3 by rw [hq2]; exact below_drewN HB2.out q2)
        clear hq2
        go_wp2_with fail
        go_roundw
        case rel => exact ⟨k + 1, c, by omega, hc, rfl, by go_num, HN, HB3⟩
        case measure => simp [intOf]; omega
    · obtain rfl : k = M + 1 := by omega
      go_wp2_with fail
      go_ret
      exact ⟨⟨c, HM.out, rfl⟩, HB.out⟩
end Go.Proofs.Yticickicfigpbaa

namespace Go.Proofs.Yticickicfigpbaa
open Go.RowKit

theorem xor_u32 (x : Nat) (hx : x < 4294967296) : bits .xor .u32 4294967295 (x : Int) = ((4294967295 - x : Nat) : Int) := by
  show IntKind.u32.wrap ((BitVec.ofInt 32 ((4294967295 : Nat) : Int) ^^^ BitVec.ofInt 32 (x : Int)).toNat : Int) = _
  rw [BitVec.toNat_xor, ofInt_u32 _ (by omega), ofInt_u32 _ hx, wrap_u32n, xor_all x hx]
  omega
set_option maxRecDepth 100000 in
set_option maxHeartbeats 1000000 in
theorem strangers_any (n cap : Nat) (A : Option Addr) (xs : List Nat) (w : World) (hA : WordsAt w w.heap.size A n xs) (hn : n ≤ 10) (hxs : ∀ i, xs.getD i 0 < 4294967296) :
    Calls Try.prog 32 #[.slice A n cap] w fun e w' => ∃ g, e = .returned (.slice (some ⟨g, 0, none⟩) n n) ∧ RowOf w' g 38 ((strG xs n n).map u32V) ∧ w.heap.size ≤ g ∧ Below w.heap.size w w' := by
  have HW := Lib.hid hA
  have HS := Lib.hid hxs
  clear hA hxs
  have hmk := fun W => run_make_row' (P := Try.prog) 46 38 (.int .u32 0) 4 Try.underlying46 (by kernel_rfl) rfl .i64 .i64 n (by omega) (by omega) W
  go_enter Try.func32, Try.ntmps32
  go_wp2
  clear hmk
  go_loopw [11] (fun j wr => ∃ k : Nat, k ≤ n ∧ j = .int .i64 k ∧ Hid (RowOf wr w.heap.size 38 ((strG xs n k).map u32V)) ∧ Below w.heap.size w wr) (fun j _ => n - (intOf j).toNat)
  case atStart =>
    refine ⟨0, Nat.zero_le _, rfl, Lib.hid ?_, (Below.refl _ _).alloc (Nat.le_refl _) _⟩
    rw [strG_zero, List.map_replicate]
    exact RowOf.made w (.int .u32 0) n 38
  case round =>
    obtain ⟨k, hk, rfl, HR, hB⟩ := hrel
    by_cases hkn : k < n
    · have hkn' : (k : Int) < (n : Int) := by omega
      have hk0 : (0 : Int) ≤ (k : Int) := by omega
      have hk32 : (k : Int) ≤ 32 := by omega
      obtain ⟨b, off, rfl, hb, hc⟩ := (HW.out.below hB).at_ hkn
      have hfk := HR.out.frozen k
      have hx := HS.out k
      have hpk : 2 ^ k < 1024 := Nat.lt_of_lt_of_le (Nat.pow_lt_pow_right (by decide) hkn) (by rw [show 1024 = 2 ^ 10 from rfl]; exact Nat.pow_le_pow_right (by decide) hn)
      have hsi : (2 : Int) ^ k % 4294967296 = ((2 ^ k : Nat) : Int) := pow_mod k (by omega)
      have hti : IntKind.u32.wrap ((2 : Int) ^ k) = ((2 ^ k : Nat) : Int) := by rw [wrap_u32n]; exact hsi
      have HN := Lib.hid (strG_next xs n k)
      have hxor : bits .xor .u32 (if IntKind.u32.signed = true then -1 else IntKind.u32.max) ((xs.getD k 0 : Nat) : Int) = ((4294967295 - xs.getD k 0 : Nat) : Int) := xor_u32 (xs.getD k 0) hx
      have hand := andNot_u32 (4294967295 - xs.getD k 0) (2 ^ k) (by omega) (by omega)
      have hold : wr.cell? ⟨w.heap.size, k, none⟩ = some (.int .u32 ((strG xs n k)[k]'(by rw [strG_length]; exact hkn) : Nat)) := HR.out.cell (by rw [List.getElem?_map, List.getElem?_eq_getElem (by rw [strG_length]; exact hkn)]; rfl)
      generalize (strG xs n k)[k]'(by rw [strG_length]; exact hkn) = old at hold
      have hdl := diffW_lt (4294967295 - xs.getD k 0) (2 ^ k)
      generalize diffW (4294967295 - xs.getD k 0) (2 ^ k) = d at hand HN hdl
      generalize 4294967295 - xs.getD k 0 = y at hxor hand
      generalize xs.getD k 0 = x at hx hxor hc
      generalize 2 ^ k = p at hpk hsi hti hand
      have hbr : b < wr.heap.size := by have := HR.out.lt; omega
      go_wp2
      go_roundw
      case rel =>
        refine ⟨k + 1, by omega, by go_num, Lib.hid ?_, (hB.setCell (p := ⟨w.heap.size, k, none⟩) (Nat.le_refl _) _)⟩
        rw [← HN.out, List.map_set]
        exact (HR.out.set_ k _)
      case measure => simp [intOf]; omega
    · obtain rfl : k = n := by omega
      go_wp2
      go_ret
      exact ⟨_, rfl, HR.out, Nat.le_refl _, hB⟩
end Go.Proofs.Yticickicfigpbaa

namespace Go.Proofs.Yticickicfigpbaa
open Go.RowKit

set_option maxRecDepth 100000 in
set_option maxHeartbeats 2000000 in
theorem mostTop_any (n : Int) (A : Option Addr) (len cap : Nat) (es : List E3) (w : World) (hE : EdgesAt w w.heap.size A len es) :
    Calls Try.prog 17 #[.agg #[.int .i64 n, .slice A len cap]] w (CrowdTop false w n es) := by
  have HX := Lib.hid (BoxG.start (n := n) (cap := cap) hE)
  have k0 := HX.out.c0
  have k1 := HX.out.c1
  obtain ⟨x, hx⟩ : ∃ x, gcheck n es = x := ⟨_, rfl⟩
  by_cases h0 : x = 0
  · subst h0
    obtain ⟨hn0, hn1, hl, hg⟩ := good_of_gcheck hx
    obtain ⟨m, rfl⟩ := Int.eq_ofNat_of_zero_le hn0
    have hm10 : m ≤ 10 := by omega
    have HNB := Lib.hid (fun W hW => neighbours_any m A len cap es W hW hx)
    have HXX := Lib.hid hx
    have HST := Lib.hid (fun g W hW => strangers_any m m (some ⟨g, 0, none⟩) (nbL m es) W hW hm10 (fun i => by have := pow10 hm10 (nbL_words hg i); omega))
    have HMA := Lib.hid (fun g W hW => mostApart_any m m (some ⟨g, 0, none⟩) (strL m es) W hW hm10 (strL_lt m es))
    clear hE hx hn0 hn1 hl
    go_enter Try.func17, Try.ntmps17
    go_wp2_with fail
    refine (HNB.out _ HX.out.edges).mono ?_
    rintro e w1 ⟨g, rfl, hrow, hg0, hB⟩
    have HX1 := Lib.hid (HX.out.next hB)
    have HR : Hid (WordsAt w1 w1.heap.size (some ⟨g, 0, none⟩) m (nbL m es)) := Lib.hid (by
      have h := WordsAt.of_row (B := w1.heap.size) hrow hrow.lt
      rw [nbL_length] at h
      exact h)
    clear hB k0 k1 HNB hrow
    go_wp2_with fail
    refine (HST.out g _ HR.out).mono ?_
    rintro e w2 ⟨g2, rfl, hrow, hg2, hB⟩
    have HX2 := Lib.hid (HX1.out.next hB)
    have HR2 : Hid (WordsAt w2 w2.heap.size (some ⟨g2, 0, none⟩) m (strL m es)) := Lib.hid (by
      rw [strG_all] at hrow
      have h := WordsAt.of_row (B := w2.heap.size) hrow hrow.lt
      rw [strL_length] at h
      exact h)
    clear hB hrow
    go_wp2_with fail
    refine (HMA.out g2 _ HR2.out).mono ?_
    rintro e w3 ⟨⟨b, hb, rfl⟩, hB⟩
    have HX3 := Lib.hid (HX2.out.next hB)
    have HBB := Lib.hid hb
    clear hB hb
    go_wp2_with fail
    go_ret2
    exact ⟨fun h => absurd HXX.out h, fun _ => ⟨b, HBB.out.congr (Nat.two_pow_pos m) (fun j hj => apart_str hm10 hg hj) (fun j hj => ones_sizeP j (pow10 hm10 hj)), rfl⟩, HX3.out.below⟩
  · have hx1 : (x != 0) = true := by simpa using h0
    have HNB := Lib.hid (fun W hW => neighbours_bad n A len cap es x W hW hx h0)
    have HXX := Lib.hid (show gcheck n es ≠ 0 by rw [hx]; exact h0)
    have HXE := Lib.hid hx
    clear hE hx h0
    go_enter Try.func17, Try.ntmps17
    go_wp2_with fail
    refine (HNB.out _ HX.out.edges).mono ?_
    rintro e w1 ⟨rfl, hB⟩
    have HX1 := Lib.hid (HX.out.next hB)
    clear hB k0 k1 HNB
    go_wp2_with fail
    go_ret2
    exact ⟨fun _ => by rw [HXE.out]; rfl, fun h => absurd h HXX.out, HX1.out.below⟩
end Go.Proofs.Yticickicfigpbaa

namespace Go.Proofs.Yticickicfigpbaa
open Go.ChangeShapes Go.WideShapes Go.ChangeAt Go.RowKit Go.Joins Go.Deep

set_option maxRecDepth 100000 in
theorem ownK : ownKnob Try.prog.godebug = none := by kernel_rfl
set_option maxRecDepth 100000 in
theorem laidOutO : laidOutB Try.prog = true := by kernel_rfl
set_option maxRecDepth 100000 in
theorem cellsInt : Try.prog.cellsOf 3 = 1 := by kernel_rfl
end Go.Proofs.Yticickicfigpbaa

namespace Go.Proofs.Yticickicfigpbaa
open Go.ChangeShapes Go.WideShapes Go.ChangeAt Go.RowKit Go.Joins Go.Deep

set_option maxRecDepth 100000 in
theorem recGraph : Try.prog.readableRec 24 = true := by kernel_rfl
set_option maxRecDepth 100000 in
theorem rowGraph : (24 : TypeId) < Try.prog.types.size := of_decide_eq_true (by kernel_rfl)
set_option maxRecDepth 100000 in
theorem cellsGraph : Try.prog.cellsOf 24 = 2 := by kernel_rfl
set_option maxRecDepth 100000 in
theorem cellsEdge : Try.prog.cellsOf 54 = 3 := by kernel_rfl
set_option maxRecDepth 100000 in
theorem cellsInt64 : Try.prog.cellsOf 2 = 1 := by kernel_rfl

/-- Every number of an edge is an int64. -/
def WfE (e : E3) : Prop := (Lit.int .i64 e.1).wf = true ∧ (Lit.int .i64 e.2.1).wf = true ∧ (Lit.int .i64 e.2.2).wf = true

section
variable {H : Type} {enc : TypeId × Value → H} {W : World} {base : Nat} {spare : Nat → Bool} {held : Bool}

set_option maxRecDepth 100000 in
theorem edge_of {n : Nat} {cs : List Value} {x : DataW H × List MemPlace} (h : DataW.trod enc Try.prog W base spare held n 54 cs = some x) :
    ∃ e : E3, cs = [.int .i64 e.1, .int .i64 e.2.1, .int .i64 e.2.2] ∧ WfE e := by
  obtain ⟨y0, y1, y2, m, _, hlen, h0, h1, h2⟩ := trod_struct3 Try.underlying54 h
  rw [cellsEdge] at hlen
  match cs, hlen with
  | [c0, c1, c2], _ =>
    simp only [cellsInt, cellsInt64, List.drop_zero, List.take_succ_cons, List.take_zero, List.drop_succ_cons] at h0 h1 h2
    obtain ⟨a, e0, _, wa⟩ := DataW.trod_int Try.underlying3 h0
    obtain ⟨b, e1, _, wb⟩ := DataW.trod_int Try.underlying3 h1
    obtain ⟨c, e2, _, wc⟩ := DataW.trod_int Try.underlying2 h2
    simp only [List.cons.injEq, and_true] at e0 e1 e2
    subst e0 e1 e2
    exact ⟨(a, b, c), rfl, wa, wb, wc⟩

set_option maxRecDepth 100000 in
theorem edges_of {n : Nat} {v : Value} {x : DataW H × List MemPlace} (h : DataW.trod enc Try.prog W base spare held n 22 [v] = some x) :
    ∃ (A : Option Addr) (len cap : Nat) (es : List E3), v = .slice A len cap ∧ EdgesAt W W.heap.size A len es ∧ len ≤ cap ∧ ∀ e ∈ es, WfE e := by
  rcases open_slice Try.underlying22 h with ⟨h0, _⟩ | ⟨a, len, cap, m, k, D, Pl, hcs, _, hl, _, hmm, _, hi⟩
  · simp only [List.cons.injEq, and_true] at h0
    subst h0
    exact ⟨none, 0, 0, [], rfl, ⟨rfl, fun h => absurd h (by omega)⟩, Nat.le_refl _, by simp⟩
  · simp only [List.cons.injEq, and_true] at hcs
    subst hcs
    have hlm : len ≤ m := by rw [hmm]; split <;> omega
    have hall : ∀ i, ∃ e : E3, i < len → (∀ j, j < 3 → W.cell? (a.add (i * 3 + j)) = [Value.int .i64 e.1, .int .i64 e.2.1, .int .i64 e.2.2][j]?) ∧ WfE e := fun i => by
      by_cases hlt : i < len
      · obtain ⟨cs', hc, ht⟩ := hi i (by omega)
        obtain ⟨e, rfl, he⟩ := edge_of ht
        rw [cellsEdge] at hc
        obtain ⟨_, _, hat⟩ := World.cells?_some hc
        exact ⟨e, fun _ => ⟨fun j hj => by rw [← Go.Deep.add_add]; exact hat j hj, he⟩⟩
      · exact ⟨default, fun h => absurd h hlt⟩
    obtain ⟨f, hf⟩ := Classical.axiomOfChoice hall
    refine ⟨some a, len, cap, (List.range len).map f, rfl, ⟨by simp, fun hn => ?_⟩, hl, fun e he => ?_⟩
    · have hz := (hf 0 hn).1 0 (by omega)
      simp only [Nat.zero_mul, Nat.add_zero, List.getElem?_cons_zero] at hz
      obtain ⟨b, off, spot⟩ := a
      have hspot : spot = none := by simpa [Addr.add] using World.cell?_spot hz
      subst hspot
      have hb : b < W.heap.size := by
        rcases Nat.lt_or_ge b W.heap.size with h | h
        · exact h
        · simp [World.cell?, Addr.add, Array.getElem?_eq_none h] at hz
      refine ⟨b, off, rfl, hb, fun i e hie => ?_⟩
      obtain ⟨hil, hie⟩ := List.getElem?_eq_some_iff.1 hie
      simp only [List.length_map, List.length_range] at hil
      simp only [List.getElem_map, List.getElem_range] at hie
      subst hie
      have hc := (hf i hil).1
      refine ⟨?_, ?_, ?_⟩
      · have := hc 0 (by omega); rw [Go.WideShapes.add_plain] at this; simpa using this
      · have := hc 1 (by omega); rw [Go.WideShapes.add_plain] at this; simpa [Nat.add_assoc] using this
      · have := hc 2 (by omega); rw [Go.WideShapes.add_plain] at this; simpa [Nat.add_assoc] using this
    · simp only [List.mem_map, List.mem_range] at he
      obtain ⟨i, hi', rfl⟩ := he
      exact (hf i hi').2

set_option maxRecDepth 100000 in
theorem open_graph {r : Reach} {b0 : Nat} {v : Value} {d : DataW H} {p : List MemPlace} (hv : Value.okWide Try.prog W r b0 24 v) (h : DataW.Trod enc Try.prog W base spare held 24 v d p) :
    ∃ (n : Int) (A : Option Addr) (len cap : Nat) (es : List E3), v = .agg #[.int .i64 n, .slice A len cap] ∧ EdgesAt W W.heap.size A len es ∧ len ≤ cap ∧ (∀ e ∈ es, WfE e) ∧ (Lit.int .i64 n).wf = true := by
  obtain ⟨c0, c1, y0, y1, m, rfl, _, _, hy0, hy1⟩ := open_agg2 Try.underlying24 (by kernel_rfl) cellsGraph hv h
  obtain ⟨n, e0, _, wn⟩ := DataW.trod_int Try.underlying3 hy0
  simp only [List.cons.injEq, and_true] at e0
  subst e0
  obtain ⟨A, len, cap, es, rfl, hE, hl, hw⟩ := edges_of hy1
  exact ⟨n, A, len, cap, es, rfl, hE, hl, hw, wn⟩
end
end Go.Proofs.Yticickicfigpbaa

namespace Go.Proofs.Yticickicfigpbaa
open Go.ChangeShapes Go.WideShapes Go.ChangeAt Go.RowKit

set_option maxRecDepth 100000 in
theorem chordPerfect_any (n : Int) (A : Option Addr) (len cap : Nat) (es : List E3) (w : World) (hE : EdgesAt w w.heap.size A len es) (hcap : len ≤ cap) (_ : ∀ e ∈ es, WfE e) (_ : (Lit.int .i64 n).wf = true) :
    Calls Try.prog 6 #[.agg #[.int .i64 n, .slice A len cap]] w fun e w' => e = .returned (.bool true) ∧ Below w.heap.size w w' :=
  chordPerfect_of n A len cap es w hE hcap (fun W _ h => orderTop_any n A len cap es W h) (fun W _ h => mostTop_any n A len cap es W h) (fun W _ h => leastTop_any n A len cap es W h) (fun A2 len2 cap2 xs W _ _ h h2 => greedyTop_any n A len cap es A2 len2 cap2 xs W h h2)
set_option maxRecDepth 100000 in
theorem chordPerfect_lifted (os : Os) (started : os.Started) (H : Type) (enc : TypeId × Value → H) :
    ReturnsInHanded {} Try.checked os 6 .any (Rows.chordPerfectSpec.pre6 enc Try.prog Try.f6 Rows.chordPerfectRow.domain false) (Rows.chordPerfectSpec.post enc Try.prog Try.f6 false true false false) := by
  refine returnsInHanded_of_change (C := Try.checked) ownK started (by kernel_rfl) Try.func6
    (ChangeSpec.witness6 (enc := enc) (C := Try.checked) false ⟨#[], #[.agg #[.int .i64 0, .slice none 0 0]], []⟩ 8 (by kernel_rfl) (by kernel_rfl) (by kernel_rfl) (by kernel_rfl)) ?_
  intro W base args ds gs before hval0 hW _ _
  have hval : ∀ (j : Nat) t v, Try.f6.params[j]? = some t → args[j]? = some v → Value.okWide Try.prog W .any base t v := hval0
  have hW' := hW
  obtain ⟨p, q, hA0, hV, rfl, _, _⟩ := hW
  have hA : DataW.TrodAll enc Try.prog W 0 (fun _ => true) true Try.f6.params.toList args.toList ds p := hA0
  rw [Try.params6] at hA hval
  obtain ⟨v0, d0, rfl, rfl, h0⟩ := trodAll_one hA
  obtain ⟨rfl, rfl⟩ := trodVars_none hV
  obtain ⟨n0, A0, len0, cap0, es0, rfl, hE0, hcap0, hwf0, hwn0⟩ := open_graph (hval 0 24 v0 rfl rfl) h0
  clear hA0 hval0
  simp only [List.append_nil] at hW'
  refine (chordPerfect_any n0 A0 len0 cap0 es0 W hE0 hcap0 hwf0 hwn0).mono fun e W' ⟨he, hb⟩ => ?_
  subst he
  exact ⟨_, rfl, _, _, _, [], (p), [], hW', trodAll_mk1 (shut_bool Try.underlying4 _), trodAll_mk1 (Below.trod laidOutO recGraph rowGraph h0 hb (fun x hx => hW'.lt x hx)), rfl, hb.frame _, fun h => by cases h⟩

theorem chordPerfect_holds : Rows.ChordPerfectSaid :=
  OpenClaim.holds_of_wide 6 Try.f6 rfl rfl rfl rfl rfl rfl rfl ⟨rfl, rfl, rfl, rfl, rfl⟩ rfl rfl rfl rfl rfl (by kernel_rfl) Try.func6 (by kernel_rfl)
    (of_decide_eq_true (by kernel_rfl)) (by unfold Func.isWrapper; first | (rw [if_pos (by decide +kernel)]; kernel_rfl) | (rw [if_neg (by decide +kernel)]; exact ⟨rfl, rfl⟩))
    (fun os started H enc _ => chordPerfect_lifted os started H enc)
#print axioms chordPerfect_holds
end Go.Proofs.Yticickicfigpbaa
