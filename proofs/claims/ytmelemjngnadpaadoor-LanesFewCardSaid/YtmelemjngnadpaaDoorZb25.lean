/- Plain facts and small walks that the others lean on, in one text: LinkedP, WallOkP. No conditions. -/
import Derived.Test.YtmelemjngnadpaaDoorZLinked
import Derived.Test.YtmelemjngnadpaaDoorZBesideP
import Derived.Test.YtmelemjngnadpaaDoorZLanesEnd
namespace Go.Proofs.YtmelemjngnadpaaDoor

/-- A step to a node of a word. -/
def stepW (es : List E3) (wi i j : Nat) : Bool := adjE es i j && wi.testBit j
structure LinkI (es : List E3) (wi s layer met acc : Nat) : Prop where
  come : ∀ v, met.testBit v = true → ∃ k, wk (stepW es wi) k s v
  src : met.testBit s = true
  shut : ∀ i j, met.testBit i = true → layer.testBit i = false → stepW es wi i j = true → met.testBit j = true
  all : ∀ v, met.testBit v = true ↔ acc.testBit v = true ∨ layer.testBit v = true
section
variable {m s wi : Nat} {es : List E3}
theorem nextW_bit (hm : m ≤ 10) (hg : goodE m es) {layer met : Nat} (hmet : met < 2 ^ m) (v : Nat) : (nextW m (nbL m es) wi layer met).testBit v = true ↔ (∃ x, x < m ∧ layer.testBit x = true ∧ stepW es wi x v = true) ∧ met.testBit v = false := by
  have hw := nbL_words hg
  unfold nextW
  rw [diffW_testBit (besideN m (nbL m es) layer &&& wi) met v (Nat.lt_of_lt_of_le (pow10 hm (besideW_lt hw wi layer)) (by decide)) (Nat.lt_of_lt_of_le (pow10 hm hmet) (by decide))]
  rw [Nat.testBit_and, Bool.and_eq_true, Bool.and_eq_true, besideN_bit hg, Bool.not_eq_true']
  unfold stepW
  constructor
  · rintro ⟨⟨⟨x, h1, h2, h3⟩, h4⟩, h5⟩
    exact ⟨⟨x, h1, h2, by rw [h3, h4]; rfl⟩, h5⟩
  · rintro ⟨⟨x, h1, h2, h3⟩, h5⟩
    rw [Bool.and_eq_true] at h3
    exact ⟨⟨⟨x, h1, h2, h3.1⟩, h3.2⟩, h5⟩
theorem linkI_next (hm : m ≤ 10) (hg : goodE m es) {layer met acc : Nat} (hmet : met < 2 ^ m) (h : LinkI es wi s layer met acc) :
    LinkI es wi s (nextW m (nbL m es) wi layer met) (met ||| nextW m (nbL m es) wi layer met) (acc ||| layer) := by
  have hb := fun v => nextW_bit (wi := wi) (layer := layer) hm hg hmet v
  generalize nextW m (nbL m es) wi layer met = nx at *
  have hor : ∀ v, (met ||| nx).testBit v = true ↔ met.testBit v = true ∨ nx.testBit v = true := fun v => by rw [Nat.testBit_or, Bool.or_eq_true]
  refine ⟨fun v hv => ?_, (hor s).2 (.inl h.src), fun i j hi hl hst => ?_, fun v => ?_⟩
  · rcases (hor v).1 hv with hv | hv
    · exact h.come v hv
    · obtain ⟨⟨x, _, hx, hst⟩, _⟩ := (hb v).1 hv
      obtain ⟨k, hk⟩ := h.come x ((h.all x).2 (.inr hx))
      exact ⟨k + 1, x, hk, hst⟩
  · rcases (hor i).1 hi with hi | hi
    · cases hli : layer.testBit i with
      | false => exact (hor j).2 (.inl (h.shut i j hi hli hst))
      | true =>
        cases hmj : met.testBit j with
        | true => exact (hor j).2 (.inl hmj)
        | false =>
          have ha : adjE es i j = true := by unfold stepW at hst; rw [Bool.and_eq_true] at hst; exact hst.1
          exact (hor j).2 (.inr ((hb j).2 ⟨⟨i, (adjE_lt hg ha).1, hli, hst⟩, hmj⟩))
    · rw [hi] at hl; cases hl
  · rw [hor, h.all, Nat.testBit_or, Bool.or_eq_true]
theorem link_bits (hm : m ≤ 10) (hg : goodE m es) (j : Nat) : ∀ (f far layer met acc : Nat), f + far = 1025 → far + (if layer = 0 then 0 else 1) ≤ met → layer < 2 ^ m → met < 2 ^ m → LinkI es wi s layer met acc →
    (((layW m (nbL m es) wi f far layer met).foldl (fun acc x => acc ||| x.2.val) acc).testBit j = true ↔ ∃ k, wk (stepW es wi) k s j)
  | 0, far, layer, met, acc, hf, hle, _, hm2, _ => by
    have := pow10 hm hm2
    split at hle <;> omega
  | f + 1, far, layer, met, acc, hf, hle, hl2, hm2, hI => by
    by_cases h0 : layer = 0
    · subst h0
      have hacc : ∀ v, met.testBit v = true ↔ acc.testBit v = true := fun v => by rw [hI.all]; simp
      have e : (layW m (nbL m es) wi (f + 1) far 0 met).foldl (fun acc x => acc ||| x.2.val) acc = acc := by simp [layW]
      rw [e, ← hacc]
      constructor
      · exact hI.come j
      · rintro ⟨k, hk⟩
        have hall : ∀ k v, wk (stepW es wi) k s v → met.testBit v = true := by
          intro k
          induction k with
          | zero => intro v hv; cases hv; exact hI.src
          | succ k ih =>
            rintro v ⟨x, hx, hst⟩
            exact hI.shut x v (ih x hx) (by simp) hst
        exact hall k j hk
    · have hle' : far + 1 ≤ met := by rw [if_neg h0] at hle; exact hle
      have hI' := linkI_next hm hg hm2 hI
      have hnx := nextW_lt hm (nbL_words hg) wi layer met hm2
      have hle2 : far + 1 + (if nextW m (nbL m es) wi layer met = 0 then 0 else 1) ≤ met ||| nextW m (nbL m es) wi layer met := by
        have hge : met ≤ met ||| nextW m (nbL m es) wi layer met := Nat.left_le_or
        by_cases hn0 : nextW m (nbL m es) wi layer met = 0
        · rw [if_pos hn0]; omega
        · rw [if_neg hn0]
          have := metW_grows hm (nbL_words hg) wi layer met hm2 hn0
          omega
      have hstep : layW m (nbL m es) wi (f + 1) far layer met = (far, toF m layer) :: layW m (nbL m es) wi f (far + 1) (nextW m (nbL m es) wi layer met) (met ||| nextW m (nbL m es) wi layer met) := by
        conv => lhs; unfold layW
        rw [if_neg h0]
      rw [hstep]
      simp only [List.foldl_cons, toF_val hl2]
      exact link_bits hm hg j f (far + 1) _ _ (acc ||| layer) (by omega) hle2 hnx (Nat.or_lt_two_pow hm2 hnx) hI'
theorem linkedW_bit (hm : m ≤ 10) (hg : goodE m es) (hs : s < m) (j : Nat) : (linkedW m (nbL m es) wi s).testBit j = true ↔ ∃ k, wk (stepW es wi) k s j := by
  have hp := Nat.two_pow_pos s
  have hlt : 2 ^ s < 2 ^ m := Nat.pow_lt_pow_right (by decide) hs
  have hb : ∀ v, (2 ^ s).testBit v = true ↔ v = s := fun v => by
    rw [Nat.testBit_two_pow, decide_eq_true_iff]; exact eq_comm
  unfold linkedW allTo
  refine link_bits hm hg j 1025 0 (2 ^ s) (2 ^ s) 0 rfl (by rw [if_neg (by omega)]; omega) hlt hlt ⟨fun v hv => ⟨0, ?_⟩, (hb s).2 rfl, fun i j hi hl _ => (by rw [hi] at hl; cases hl), fun v => by simp⟩
  have := (hb v).1 hv
  exact this.symm
end
end Go.Proofs.YtmelemjngnadpaaDoor

namespace Go.Proofs.YtmelemjngnadpaaDoor
section
variable {m a b : Nat} {es : List E3}
/-- The word of all nodes but two. -/
structure Others (m a b O : Nat) : Prop where
  lt : O < 2 ^ m
  bit : ∀ v, O.testBit v = true ↔ v < m ∧ v ≠ a ∧ v ≠ b
theorem okW_lt (_hg : goodE m es) {u : Nat} (h : OkW es a b u) {O : Nat} (hO : Others m a b O) (hu : u < 2 ^ m) : (∀ v, u.testBit v = true → O.testBit v = true) ∧ u ≤ O := by
  have hs : ∀ v, u.testBit v = true → O.testBit v = true := fun v hv => by
    refine (hO.bit v).2 ⟨?_, fun e => ?_, fun e => ?_⟩
    · rcases Nat.lt_or_ge v m with h1 | h1
      · exact h1
      · rw [bit_pow hu h1] at hv; cases hv
    · rw [e, h.1] at hv; cases hv
    · rw [e, h.2.1] at hv; cases hv
  refine ⟨hs, ?_⟩
  have e : u &&& O = u := by
    apply Nat.eq_of_testBit_eq
    intro v
    rw [Nat.testBit_and]
    cases hv : u.testBit v with
    | true => rw [hs v hv]; rfl
    | false => rfl
  rw [← e]; exact Nat.and_le_right
theorem okW_all (hg : goodE m es) (_hm : m ≤ 10) (hab : a ≠ b) (hno : adjE es a b = false) {O : Nat} (hO : Others m a b O) : OkW es a b O := by
  have ha : O.testBit a = false := by
    cases h : O.testBit a with
    | false => rfl
    | true => exact absurd rfl ((hO.bit a).1 h).2.1
  have hb : O.testBit b = false := by
    cases h : O.testBit b with
    | false => rfl
    | true => exact absurd rfl ((hO.bit b).1 h).2.2
  refine (okW_wall hg hO.lt).2 ⟨ha, hb, ⟨fun x hx => (hO.bit x).1 hx, fun q p hp => ?_⟩⟩
  obtain ⟨t, h1, h2, h3⟩ := (wall_near hab hno (adjE_far hg)).meet q p hp
  refine ⟨t, h1, h2, (hO.bit _).2 ⟨(adjE_lt hg h3).2.1, fun e => ?_, fun e => ?_⟩⟩
  · rw [e] at h3; exact (adjE_lt hg h3).2.2 rfl
  · rw [e, hno] at h3; cases h3
theorem okW_size (hg : goodE m es) (hm : m ≤ 10) {u O : Nat} (h : OkW es a b u) (hO : Others m a b O) (hu : u < 2 ^ m) (hne : u ≠ O) : sizeW u < sizeW O := by
  obtain ⟨hs, _⟩ := okW_lt hg h hO hu
  rw [sizeW_bits (n := m) (by omega) hu, sizeW_bits (n := m) (by omega) hO.lt]
  have hex : ∃ v, u.testBit v = false ∧ O.testBit v = true := by
    apply Classical.byContradiction
    intro hn
    apply hne
    apply Nat.eq_of_testBit_eq
    intro v
    cases h1 : O.testBit v with
    | false =>
      cases h2 : u.testBit v with
      | false => rfl
      | true => rw [hs v h2] at h1; cases h1
    | true =>
      cases h2 : u.testBit v with
      | true => rfl
      | false => exact absurd ⟨v, h2, h1⟩ hn
  obtain ⟨v, h1, h2⟩ := hex
  exact sizeP_lt (fun i hi => hs i hi) ((hO.bit v).1 h2).1 h1 h2
/-- As far as the words were gone through. -/
structure WallI (es : List E3) (a b O k best : Nat) : Prop where
  ok : OkW es a b best
  le : best = O ∨ best < k
  least : ∀ u, u < k → OkW es a b u → sizeW best ≤ sizeW u ∧ (u < best → sizeW best < sizeW u)
theorem WallI.start {O : Nat} (h : OkW es a b O) : WallI es a b O 0 O := ⟨h, .inl rfl, fun u hu => absurd hu (Nat.not_lt_zero u)⟩
theorem WallI.take {O k best : Nat} (h : WallI es a b O k best) (hk : OkW es a b k) (hl : sizeW k < sizeW best) : WallI es a b O (k + 1) k :=
  ⟨hk, .inr (Nat.lt_succ_self k), fun u hu ho => by
    rcases Nat.lt_or_ge u k with h1 | h1
    · have := (h.least u h1 ho).1
      exact ⟨by omega, fun _ => by omega⟩
    · obtain rfl : u = k := by omega
      exact ⟨Nat.le_refl _, fun h => absurd h (Nat.lt_irrefl _)⟩⟩
theorem WallI.skip {O k best : Nat} (h : WallI es a b O k best) (hk : ¬ OkW es a b k) : WallI es a b O (k + 1) best :=
  ⟨h.ok, h.le.imp id fun h => by omega, fun u hu ho => by
    rcases Nat.lt_or_ge u k with h1 | h1
    · exact h.least u h1 ho
    · obtain rfl : u = k := by omega
      exact absurd ho hk⟩
theorem WallI.keep {O k best : Nat} (hg : goodE m es) (hm : m ≤ 10) (hO : Others m a b O) (h : WallI es a b O k best) (hkO : k < O) (hl : ¬ sizeW k < sizeW best) : WallI es a b O (k + 1) best := by
  by_cases hk : OkW es a b k
  · refine ⟨h.ok, h.le.imp id fun h => by omega, fun u hu ho => ?_⟩
    rcases Nat.lt_or_ge u k with h1 | h1
    · exact h.least u h1 ho
    · obtain rfl : u = k := by omega
      refine ⟨by omega, fun hlt => ?_⟩
      rcases h.le with e | e
      · subst e
        have := okW_size hg hm ho hO (by have := hO.lt; omega) (by omega)
        omega
      · omega
  · exact h.skip hk
theorem WallI.done {O best : Nat} (hg : goodE m es) (hm : m ≤ 10) (hO : Others m a b O) (h : WallI es a b O O best) : LeastW (OkW es a b) sizeW (2 ^ m) best true := by
  have hbO : best ≤ O := by rcases h.le with e | e <;> omega
  have hb2 : best < 2 ^ m := by have := hO.lt; omega
  have hall : ∀ u, u < 2 ^ m → OkW es a b u → sizeW best ≤ sizeW u ∧ (u < best → sizeW best < sizeW u) := fun u hu ho => by
    rcases Nat.lt_or_ge u O with h1 | h1
    · exact h.least u h1 ho
    · have h2 := (okW_lt hg ho hO hu).2
      obtain rfl : u = O := by omega
      refine ⟨?_, fun h => by omega⟩
      by_cases e : best = u
      · rw [e]; exact Nat.le_refl _
      · exact Nat.le_of_lt (okW_size hg hm h.ok hO hb2 e)
  exact ⟨fun h => (by cases h), fun _ => ⟨hb2, h.ok, fun u hu ho => (hall u hu ho).1, fun u hu ho => (hall u (by omega) ho).2 hu⟩⟩
theorem others_word (hm : m ≤ 10) (ha : a < m) (hb : b < m) : Others m a b (diffW (2 ^ m - 1) (2 ^ a ||| 2 ^ b)) := by
  have hp := Nat.two_pow_pos m
  have hpm := pow10 hm (show 2 ^ m - 1 < 2 ^ m by omega)
  have hE : 2 ^ a ||| 2 ^ b < 2 ^ m := Nat.or_lt_two_pow (Nat.pow_lt_pow_right (by decide) ha) (Nat.pow_lt_pow_right (by decide) hb)
  have hE2 := pow10 hm hE
  refine ⟨diffW_lt_pow hm (by omega) (by omega), fun v => ?_⟩
  rw [diffW_testBit _ _ v (by omega) (by omega), Nat.testBit_two_pow_sub_one, Nat.testBit_or, Nat.testBit_two_pow, Nat.testBit_two_pow]
  simp only [Bool.and_eq_true, Bool.not_eq_true', Bool.or_eq_false_iff, decide_eq_true_eq, decide_eq_false_iff_not]
  constructor
  · rintro ⟨h1, h2, h3⟩; exact ⟨h1, fun e => h2 e.symm, fun e => h3 e.symm⟩
  · rintro ⟨h1, h2, h3⟩; exact ⟨h1, fun e => h2 e.symm, fun e => h3 e.symm⟩
theorem ends_and (u : Nat) : u &&& (2 ^ a ||| 2 ^ b) = 0 ↔ u.testBit a = false ∧ u.testBit b = false := by
  have hE : ∀ v, (2 ^ a ||| 2 ^ b).testBit v = true ↔ v = a ∨ v = b := fun v => by
    rw [Nat.testBit_or, Nat.testBit_two_pow, Nat.testBit_two_pow, Bool.or_eq_true, decide_eq_true_iff, decide_eq_true_iff]
    exact or_congr eq_comm eq_comm
  constructor
  · intro h
    have hz : ∀ v, v = a ∨ v = b → u.testBit v = false := fun v hv => by
      have h1 : (u &&& (2 ^ a ||| 2 ^ b)).testBit v = false := by rw [h, Nat.zero_testBit]
      rw [Nat.testBit_and, (hE v).2 hv, Bool.and_true] at h1
      exact h1
    exact ⟨hz a (.inl rfl), hz b (.inr rfl)⟩
  · rintro ⟨h1, h2⟩
    apply Nat.eq_of_testBit_eq
    intro v
    rw [Nat.testBit_and, Nat.zero_testBit]
    cases hv : (2 ^ a ||| 2 ^ b).testBit v with
    | false => rw [Bool.and_false]
    | true =>
      rcases (hE v).1 hv with rfl | rfl
      · rw [h1]; rfl
      · rw [h2]; rfl
theorem compl_bit {u v : Nat} (hu : u < 4294967296) (hv : v < 32) : (4294967295 - u).testBit v = !u.testBit v := by
  have h : 4294967295 - u = 2 ^ 32 - (u + 1) := by omega
  rw [h, Nat.testBit_two_pow_sub_succ (by simpa using hu), decide_eq_true hv, Bool.true_and]
theorem ones_size {x : Nat} (h : x < 1024) : ones x = sizeW x := (sizeTo_far (n := 10) (by simpa using h) 22).symm
/-- A wall by whom a is linked with. -/
theorem okW_linked (hg : goodE m es) (hm : m ≤ 10) (ha : a < m) {u wi : Nat} (hua : u.testBit a = false) (hub : u.testBit b = false) (hw : ∀ v, v < m → wi.testBit v = !u.testBit v) :
    OkW es a b u ↔ (linkedW m (nbL m es) wi a).testBit b = false := by
  have hkey : ∀ k j, wk (stepW es wi) k a j ↔ wk (adjE (offE u es)) k a j := by
    have hoff : ∀ k j, wk (stepW es wi) k a j → u.testBit j = false := by
      intro k
      induction k with
      | zero => intro j hj; cases hj; exact hua
      | succ k _ =>
        rintro j ⟨x, _, hst⟩
        unfold stepW at hst
        rw [Bool.and_eq_true] at hst
        have := hw j (adjE_lt hg hst.1).2.1
        rw [hst.2] at this
        cases h : u.testBit j with
        | false => rfl
        | true => rw [h] at this; cases this
    have hoff2 : ∀ k j, wk (adjE (offE u es)) k a j → u.testBit j = false := by
      intro k
      induction k with
      | zero => intro j hj; cases hj; exact hua
      | succ k _ =>
        rintro j ⟨x, _, hst⟩
        have h := ((adjE_off hg).1 hst).2.2
        unfold offW at h
        cases h2 : u.testBit j with
        | false => rfl
        | true => rw [h2] at h; cases h
    intro k
    induction k with
    | zero => intro j; exact Iff.rfl
    | succ k ih =>
      intro j
      constructor
      · rintro ⟨x, hx, hst⟩
        have h1 := hoff k x hx
        have h2 := hoff (k + 1) j ⟨x, hx, hst⟩
        unfold stepW at hst
        rw [Bool.and_eq_true] at hst
        exact ⟨x, (ih x).1 hx, (adjE_off hg).2 ⟨hst.1, by unfold offW; rw [h1]; rfl, by unfold offW; rw [h2]; rfl⟩⟩
      · rintro ⟨x, hx, hst⟩
        have h2 := hoff2 (k + 1) j ⟨x, hx, hst⟩
        have h3 := ((adjE_off hg).1 hst).1
        refine ⟨x, (ih x).2 hx, ?_⟩
        unfold stepW
        rw [h3, hw j (adjE_lt hg h3).2.1, h2]; rfl
  unfold OkW
  rw [partedB_iff]
  have hl := linkedW_bit (wi := wi) hm hg ha b
  constructor
  · rintro ⟨_, _, h⟩
    cases hb : (linkedW m (nbL m es) wi a).testBit b with
    | false => rfl
    | true =>
      obtain ⟨k, hk⟩ := hl.1 hb
      exact absurd ⟨k, (hkey k b).1 hk⟩ h
  · intro h
    refine ⟨hua, hub, fun ⟨k, hk⟩ => ?_⟩
    have := hl.2 ⟨k, (hkey k b).2 hk⟩
    rw [h] at this; cases this
end
end Go.Proofs.YtmelemjngnadpaaDoor
