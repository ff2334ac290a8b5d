/- STANLEY: in as many ways all edges may be turned, so that nothing comes round, as there are colourings by one colour less than none, without the sign. Plain facts, of no program. -/
import Derived.Test.YtpcealcghglopaaCountP
namespace Go.Proofs.Ytpcealcghglopaa

/-- A sum, gone through by other names. -/
theorem sum_bij {N M : Nat} {P Q : Nat → Prop} [DecidablePred P] [DecidablePred Q] (f g : Nat → Nat) (h1 : ∀ o, o < N → P o → f o < M ∧ Q (f o) ∧ g (f o) = o) (h2 : ∀ o, o < M → Q o → g o < N ∧ P (g o) ∧ f (g o) = o) (F : Nat → Int) :
    sumI (fun o => if P o then F (f o) else 0) N = sumI (fun o => if Q o then F o else 0) M := by
  have e1 : ∀ o, o < N → (if P o then F (f o) else 0) = sumI (fun o' => if P o ∧ f o = o' then F o' else 0) M := fun o ho => by
    by_cases hp : P o
    · obtain ⟨a, _, _⟩ := h1 o ho hp
      rw [if_pos hp, sumI_one (i := f o) M a fun o' _ hne => if_neg fun h => hne h.2.symm, if_pos ⟨hp, rfl⟩]
    · rw [if_neg hp]
      exact (sumI_zero _ fun o' _ => if_neg fun h => hp h.1).symm
  have e2 : ∀ o', o' < M → (if Q o' then F o' else 0) = sumI (fun o => if P o ∧ f o = o' then F o' else 0) N := fun o' ho => by
    by_cases hq : Q o'
    · obtain ⟨a, b, c⟩ := h2 o' ho hq
      rw [if_pos hq, sumI_one (i := g o') N a fun o ho' hne => if_neg fun h => hne (by rw [← h.2, (h1 o ho' h.1).2.2]), if_pos ⟨b, c⟩]
    · rw [if_neg hq]
      exact (sumI_zero _ fun o ho' => if_neg fun h => hq (by rw [← h.2]; exact (h1 o ho' h.1).2.1)).symm
  rw [sumI_congr N e1, sumI_congr M e2, sumI_comm]

/-! Even or odd. -/
def sgW (x : Nat) : Nat → Int
  | 0 => 1
  | n + 1 => sgW x n * if x.testBit n = true then -1 else 1
theorem sgW_xor (x y : Nat) : ∀ n, sgW (x ^^^ y) n = sgW x n * sgW y n
  | 0 => rfl
  | n + 1 => by
    simp only [sgW]
    rw [sgW_xor x y n, Nat.testBit_xor]
    cases x.testBit n <;> cases y.testBit n <;> simp [Int.mul_neg, Int.neg_mul]
theorem sgW_one (x : Nat) : ∀ n, sgW x n = 1 ∨ sgW x n = -1
  | 0 => .inl rfl
  | n + 1 => by
    simp only [sgW]
    rcases sgW_one x n with h | h <;> rw [h] <;> cases x.testBit n <;> simp
theorem sgW_sq (x n : Nat) : sgW x n * sgW x n = 1 := by rcases sgW_one x n with h | h <;> rw [h] <;> rfl
theorem sgW_zero : ∀ n, sgW 0 n = 1
  | 0 => rfl
  | n + 1 => by simp only [sgW]; rw [sgW_zero n]; simp
theorem sgW_two {t : Nat} : ∀ n, t < n → sgW (2 ^ t) n = -1
  | n + 1, h => by
    simp only [sgW]
    rcases Nat.lt_or_ge t n with h1 | h1
    · rw [sgW_two n h1, Nat.testBit_two_pow, if_neg (by simp; omega)]; rfl
    · obtain rfl : t = n := by omega
      have h0 : ∀ m, m ≤ t → sgW (2 ^ t) m = 1 := fun m => by
        induction m with
        | zero => intro _; rfl
        | succ m ih =>
          intro hm
          simp only [sgW]
          rw [ih (by omega), Nat.testBit_two_pow, if_neg (by simp; omega)]; rfl
      rw [h0 t (Nat.le_refl _), Nat.testBit_two_pow, if_pos (by simp)]; rfl
/-- Of the sets within one that is not empty as many are even as are odd. -/
theorem sg_sum {n T : Nat} (hT : T < 2 ^ n) (h0 : T ≠ 0) : sumI (fun s => if subQ s T = true then sgW s n else 0) (2 ^ n) = 0 := by
  obtain ⟨t, ht⟩ := Nat.exists_testBit_of_ne_zero h0
  have htn : t < n := by
    apply Nat.lt_of_not_le
    intro h
    rw [bit_pow hT h] at ht; cases ht
  have hp : 2 ^ t < 2 ^ n := Nat.pow_lt_pow_right (by decide) htn
  have hsub : subQ (2 ^ t) T = true := subQ_iff.2 fun i hi => by
    rw [Nat.testBit_two_pow] at hi
    rw [← of_decide_eq_true hi]; exact ht
  have hx : ∀ s, subQ s T = true → subQ (s ^^^ 2 ^ t) T = true := fun s hs => subQ_iff.2 fun i hi => by
    rw [Nat.testBit_xor] at hi
    cases h1 : s.testBit i with
    | true => exact subQ_iff.1 hs i h1
    | false =>
      rw [h1] at hi
      exact subQ_iff.1 hsub i (by simpa using hi)
  have hxx : ∀ s : Nat, (s ^^^ 2 ^ t) ^^^ 2 ^ t = s := fun s => by rw [Nat.xor_assoc, Nat.xor_self, Nat.xor_zero]
  have h := sum_bij (N := 2 ^ n) (M := 2 ^ n) (P := fun s => subQ s T = true) (Q := fun s => subQ s T = true) (fun s => s ^^^ 2 ^ t) (fun s => s ^^^ 2 ^ t) (fun s _ hs => ⟨sub_pow (hx s hs) hT, hx s hs, hxx s⟩) (fun s _ hs => ⟨sub_pow (hx s hs) hT, hx s hs, hxx s⟩) (fun s => sgW s n)
  have h2 : sumI (fun o => if subQ o T = true then sgW (o ^^^ 2 ^ t) n else 0) (2 ^ n) = (-1) * sumI (fun s => if subQ s T = true then sgW s n else 0) (2 ^ n) := by
    rw [← sumI_mul]
    refine sumI_congr _ fun s _ => ?_
    by_cases hs : subQ s T = true
    · rw [if_pos hs, if_pos hs, sgW_xor, sgW_two n htn]; omega
    · rw [if_neg hs, if_neg hs]; rfl
  rw [h2] at h
  omega

/-! Edges, turned as a word's bits have it. -/
structure EdgP where
  m : Nat
  a : Nat → Nat
  b : Nat → Nat
def EdgP.to (G : EdgP) (o k : Nat) : Nat := if o.testBit k = true then G.a k else G.b k
def EdgP.fr (G : EdgP) (o k : Nat) : Nat := if o.testBit k = true then G.b k else G.a k
def EdgP.loose (G : EdgP) (s : Nat) : Prop := ∀ k, k < G.m → ¬ (s.testBit (G.a k) = true ∧ s.testBit (G.b k) = true)
/-- Only edges within w have their bits. -/
def OnlyW (G : EdgP) (o w : Nat) : Prop := ∀ k, o.testBit k = true → k < G.m ∧ w.testBit (G.a k) = true ∧ w.testBit (G.b k) = true
/-- Nothing leads to it from within s. -/
def FirstW (G : EdgP) (o s i : Nat) : Prop := ∀ k, k < G.m → G.to o k = i → ¬ s.testBit (G.fr o k) = true
/-- Nothing comes round within w: of each set some node has nothing that leads to it. -/
def AcycW (G : EdgP) (o w : Nat) : Prop := ∀ s, s ≠ 0 → subQ s w = true → ∃ i, s.testBit i = true ∧ FirstW G o s i
open Classical in
noncomputable def aoW (G : EdgP) (w : Nat) : Int := sumI (fun o => if OnlyW G o w ∧ AcycW G o w then 1 else 0) (2 ^ G.m)
section
variable {G : EdgP} {n : Nat}
theorem ends_cases (G : EdgP) (o k : Nat) : (G.to o k = G.a k ∧ G.fr o k = G.b k ∧ o.testBit k = true) ∨ (G.to o k = G.b k ∧ G.fr o k = G.a k ∧ o.testBit k = false) := by
  unfold EdgP.to EdgP.fr
  cases h : o.testBit k <;> simp
/-- The sources of a turning, as a word. -/
theorem src_ex (o w n : Nat) : ∃ T, T < 2 ^ n ∧ ∀ i, i < n → (T.testBit i = true ↔ w.testBit i = true ∧ FirstW G o w i) := by
  classical
  obtain ⟨T, h1, h2⟩ := word_ex (fun i => decide (w.testBit i = true ∧ FirstW G o w i)) n
  exact ⟨T, h1, fun i hi => by rw [h2 i hi]; exact decide_eq_true_iff⟩
/-- The edges that lead out of s to the rest, turned so; the others as o has them. -/
theorem mask_ex (G : EdgP) (s w : Nat) : ∃ M, M < 2 ^ G.m ∧ ∀ k, k < G.m → (M.testBit k = true ↔ s.testBit (G.b k) = true ∧ w.testBit (G.a k) = true) := by
  obtain ⟨M, h1, h2⟩ := word_ex (fun k => s.testBit (G.b k) && w.testBit (G.a k)) G.m
  exact ⟨M, h1, fun k hk => by rw [h2 k hk, Bool.and_eq_true]⟩
theorem rest_ex (G : EdgP) (o s w : Nat) : ∃ o', o' < 2 ^ G.m ∧ ∀ k, k < G.m → (o'.testBit k = true ↔ o.testBit k = true ∧ (w ^^^ s).testBit (G.a k) = true ∧ (w ^^^ s).testBit (G.b k) = true) := by
  obtain ⟨M, h1, h2⟩ := word_ex (fun k => o.testBit k && ((w ^^^ s).testBit (G.a k) && (w ^^^ s).testBit (G.b k))) G.m
  exact ⟨M, h1, fun k hk => by rw [h2 k hk, Bool.and_eq_true, Bool.and_eq_true]⟩
open Classical in
/-- Turnings of which s are sources, and turnings of the rest. -/
theorem ao_rest {w s : Nat} (hs : subQ s w = true) (hl : G.loose s) :
    aoW G (w ^^^ s) = sumI (fun o => if (OnlyW G o w ∧ AcycW G o w) ∧ (∀ i, s.testBit i = true → FirstW G o w i) then 1 else 0) (2 ^ G.m) := by
  obtain ⟨M, hM, hMb⟩ := mask_ex G s w
  have hr : ∀ o : Nat, ∃ o' : Nat, o' < 2 ^ G.m ∧ ∀ k, k < G.m → (o'.testBit k = true ↔ o.testBit k = true ∧ (w ^^^ s).testBit (G.a k) = true ∧ (w ^^^ s).testBit (G.b k) = true) := fun o => rest_ex G o s w
  obtain ⟨R, hR⟩ := Classical.axiomOfChoice hr
  have hin : ∀ i, (w ^^^ s).testBit i = true ↔ w.testBit i = true ∧ s.testBit i = false := fun i => by
    rw [sub_bits hs, Bool.and_eq_true, Bool.not_eq_true']
  have hsw : ∀ i, s.testBit i = true → w.testBit i = true := subQ_iff.1 hs
  have big : ∀ x k : Nat, x < 2 ^ G.m → G.m ≤ k → x.testBit k = false := fun x k hx hk => bit_pow hx hk
  have or_bit : ∀ x k : Nat, (x ||| M).testBit k = true ↔ x.testBit k = true ∨ M.testBit k = true := fun x k => by rw [Nat.testBit_or, Bool.or_eq_true]
  have ext : ∀ x y : Nat, x < 2 ^ G.m → y < 2 ^ G.m → (∀ k, k < G.m → (x.testBit k = true ↔ y.testBit k = true)) → x = y := fun x y hx hy h => by
    apply Nat.eq_of_testBit_eq
    intro k
    rcases Nat.lt_or_ge k G.m with hk | hk
    · exact Bool.eq_iff_iff.2 (h k hk)
    · rw [big x k hx hk, big y k hy hk]
  unfold aoW
  refine (sum_bij (N := 2 ^ G.m) (M := 2 ^ G.m) (P := fun o => (OnlyW G o w ∧ AcycW G o w) ∧ (∀ i, s.testBit i = true → FirstW G o w i)) (Q := fun o => OnlyW G o (w ^^^ s) ∧ AcycW G o (w ^^^ s)) R (fun o => o ||| M) ?_ ?_ (fun _ => 1)).symm
  · rintro o ho ⟨⟨h1, h2⟩, h3⟩
    obtain ⟨r1, r2⟩ := hR o
    have same : ∀ k, k < G.m → (w ^^^ s).testBit (G.a k) = true → (w ^^^ s).testBit (G.b k) = true → (R o).testBit k = o.testBit k := fun k hk ha hb => Bool.eq_iff_iff.2 ⟨fun h => ((r2 k hk).1 h).1, fun h => (r2 k hk).2 ⟨h, ha, hb⟩⟩
    refine ⟨r1, ⟨fun k hk => ?_, fun t ht0 hts => ?_⟩, ?_⟩
    · have hkm : k < G.m := by
        apply Nat.lt_of_not_le
        intro h
        rw [big _ _ r1 h] at hk; cases hk
      exact ⟨hkm, ((r2 k hkm).1 hk).2⟩
    · have htw : subQ t w = true := subQ_iff.2 fun i hi => ((hin i).1 (subQ_iff.1 hts i hi)).1
      obtain ⟨i, hi, hf⟩ := h2 t ht0 htw
      refine ⟨i, hi, fun k hk hto hfr => ?_⟩
      have hi' := subQ_iff.1 hts i hi
      have hf' := subQ_iff.1 hts _ hfr
      have hsame : (R o).testBit k = o.testBit k := by
        rcases ends_cases G (R o) k with ⟨e1, e2, _⟩ | ⟨e1, e2, _⟩
        · exact same k hk (by rw [← e1, hto]; exact hi') (by rw [← e2]; exact hf')
        · exact same k hk (by rw [← e2]; exact hf') (by rw [← e1, hto]; exact hi')
      have e1 : G.to (R o) k = G.to o k := by unfold EdgP.to; rw [hsame]
      have e2 : G.fr (R o) k = G.fr o k := by unfold EdgP.fr; rw [hsame]
      exact hf k hk (e1 ▸ hto) (e2 ▸ hfr)
    · refine ext _ _ (Nat.or_lt_two_pow r1 hM) ho fun k hk => ?_
      rw [or_bit, r2 k hk, hMb k hk]
      constructor
      · rintro (⟨h, _⟩ | ⟨hb, ha⟩)
        · exact h
        · rcases ends_cases G o k with ⟨_, _, e⟩ | ⟨e1, e2, _⟩
          · exact e
          · exact absurd (by rw [e2]; exact ha) (h3 _ hb k hk e1)
      · intro h
        obtain ⟨_, ha, hb⟩ := h1 k h
        rcases ends_cases G o k with ⟨e1, e2, _⟩ | ⟨_, _, e⟩
        · have has : s.testBit (G.a k) = false := by
            cases hc : s.testBit (G.a k) with
            | false => rfl
            | true => exact absurd (by rw [e2]; exact hb) (h3 _ hc k hk e1)
          cases hbs : s.testBit (G.b k) with
          | true => exact .inr ⟨rfl, ha⟩
          | false => exact .inl ⟨h, (hin _).2 ⟨ha, has⟩, (hin _).2 ⟨hb, hbs⟩⟩
        · rw [h] at e; cases e
  · rintro o ho ⟨h1, h2⟩
    have hlt : (o ||| M) < 2 ^ G.m := Nat.or_lt_two_pow ho hM
    have hgb : ∀ k, k < G.m → ((o ||| M).testBit k = true ↔ o.testBit k = true ∨ (s.testBit (G.b k) = true ∧ w.testBit (G.a k) = true)) := fun k hk => by rw [or_bit, hMb k hk]
    have hsrc : ∀ i, s.testBit i = true → FirstW G (o ||| M) w i := fun i hi k hk hto hfr => by
      rcases ends_cases G (o ||| M) k with ⟨e1, e2, e3⟩ | ⟨e1, e2, e3⟩
      · have ha : s.testBit (G.a k) = true := by rw [← e1, hto]; exact hi
        rcases (hgb k hk).1 e3 with h | ⟨h, _⟩
        · have := ((hin _).1 (h1 k h).2.1).2
          rw [ha] at this; cases this
        · exact hl k hk ⟨ha, h⟩
      · have hb : s.testBit (G.b k) = true := by rw [← e1, hto]; exact hi
        have := (hgb k hk).2 (.inr ⟨hb, by rw [← e2]; exact hfr⟩)
        rw [e3] at this; cases this
    refine ⟨hlt, ⟨⟨fun k hk => ?_, fun t ht0 htw => ?_⟩, hsrc⟩, ?_⟩
    · have hkm : k < G.m := by
        apply Nat.lt_of_not_le
        intro h
        rw [big _ _ hlt h] at hk; cases hk
      rcases (hgb k hkm).1 hk with h | ⟨h, h'⟩
      · obtain ⟨_, ha, hb⟩ := h1 k h
        exact ⟨hkm, ((hin _).1 ha).1, ((hin _).1 hb).1⟩
      · exact ⟨hkm, h', hsw _ h⟩
    · by_cases hts : ∃ i, t.testBit i = true ∧ s.testBit i = true
      · obtain ⟨i, hi, his⟩ := hts
        exact ⟨i, hi, fun k hk hto hfr => hsrc i his k hk hto (subQ_iff.1 htw _ hfr)⟩
      · have hns : ∀ i, t.testBit i = true → s.testBit i = false := fun i hi => by
          cases hc : s.testBit i with
          | false => rfl
          | true => exact absurd ⟨i, hi, hc⟩ hts
        obtain ⟨i, hi, hf⟩ := h2 t ht0 (subQ_iff.2 fun i hi => (hin i).2 ⟨subQ_iff.1 htw i hi, hns i hi⟩)
        refine ⟨i, hi, fun k hk hto hfr => ?_⟩
        have hbt : s.testBit (G.b k) = false := by
          rcases ends_cases G (o ||| M) k with ⟨_, e2, _⟩ | ⟨e1, _, _⟩
          · exact hns _ (by rw [← e2]; exact hfr)
          · exact hns _ (by rw [← e1, hto]; exact hi)
        have hsame : (o ||| M).testBit k = o.testBit k := Bool.eq_iff_iff.2 (by
          rw [hgb k hk, hbt]; simp)
        have e1 : G.to (o ||| M) k = G.to o k := by unfold EdgP.to; rw [hsame]
        have e2 : G.fr (o ||| M) k = G.fr o k := by unfold EdgP.fr; rw [hsame]
        exact hf k hk (e1 ▸ hto) (e2 ▸ hfr)
    · obtain ⟨r1, r2⟩ := hR (o ||| M)
      refine ext _ _ r1 ho fun k hk => ?_
      rw [r2 k hk, hgb k hk]
      constructor
      · rintro ⟨h | ⟨h, _⟩, _, hb⟩
        · exact h
        · have := ((hin _).1 hb).2
          rw [h] at this; cases this
      · intro h
        obtain ⟨_, ha, hb⟩ := h1 k h
        exact ⟨.inl h, ha, hb⟩
/-- Sources, in and out. -/
theorem ao_rec {looseB : Nat → Bool} (hlb : ∀ s, looseB s = true ↔ G.loose s) {w : Nat} (hw : w < 2 ^ n) (h0 : w ≠ 0) : sumQ n looseB w (fun s => sgW s n * aoW G (w ^^^ s)) = 0 := by
  classical
  have e1 : sumQ n looseB w (fun s => sgW s n * aoW G (w ^^^ s)) = sumI (fun s => sumI (fun o => if ((subQ s w = true ∧ looseB s = true) ∧ (∀ i, s.testBit i = true → FirstW G o w i)) ∧ OnlyW G o w ∧ AcycW G o w then sgW s n else 0) (2 ^ G.m)) (2 ^ n) := by
    unfold sumQ
    refine sumI_congr _ fun s _ => ?_
    try dsimp only
    by_cases hc : subQ s w = true ∧ looseB s = true
    · rw [if_pos hc, ao_rest hc.1 ((hlb s).1 hc.2), ← sumI_mul]
      refine sumI_congr _ fun o _ => ?_
      try dsimp only
      by_cases hd : (OnlyW G o w ∧ AcycW G o w) ∧ (∀ i, s.testBit i = true → FirstW G o w i)
      · rw [if_pos hd, if_pos ⟨⟨hc, hd.2⟩, hd.1⟩, Int.mul_one]
      · rw [if_neg hd, if_neg fun h => hd ⟨h.2, h.1.2⟩, Int.mul_zero]
    · rw [if_neg hc]
      exact (sumI_zero _ fun o _ => if_neg fun h => hc h.1.1).symm
  rw [e1, sumI_comm (fun s o => if ((subQ s w = true ∧ looseB s = true) ∧ (∀ i, s.testBit i = true → FirstW G o w i)) ∧ OnlyW G o w ∧ AcycW G o w then sgW s n else 0)]
  refine sumI_zero _ fun o _ => ?_
  by_cases ho : OnlyW G o w ∧ AcycW G o w
  · obtain ⟨T, hT, hTb⟩ := src_ex (G := G) o w n
    have hTw : ∀ i, T.testBit i = true ↔ w.testBit i = true ∧ FirstW G o w i := fun i => by
      rcases Nat.lt_or_ge i n with hi | hi
      · exact hTb i hi
      · rw [bit_pow hT hi, bit_pow hw hi]; simp
    have hT0 : T ≠ 0 := fun e => by
      obtain ⟨i, hi, hf⟩ := ho.2 w h0 (subQ_iff.2 fun _ h => h)
      have := (hTw i).2 ⟨hi, hf⟩
      rw [e] at this; simp at this
    have hiff : ∀ s, (((subQ s w = true ∧ looseB s = true) ∧ (∀ i, s.testBit i = true → FirstW G o w i)) ∧ OnlyW G o w ∧ AcycW G o w) ↔ subQ s T = true := fun s => by
      constructor
      · rintro ⟨⟨⟨h1, _⟩, h2⟩, _⟩
        exact subQ_iff.2 fun i hi => (hTw i).2 ⟨subQ_iff.1 h1 i hi, h2 i hi⟩
      · intro h
        have h1 : ∀ i, s.testBit i = true → w.testBit i = true ∧ FirstW G o w i := fun i hi => (hTw i).1 (subQ_iff.1 h i hi)
        refine ⟨⟨⟨subQ_iff.2 fun i hi => (h1 i hi).1, (hlb s).2 fun k hk ⟨ha, hb⟩ => ?_⟩, fun i hi => (h1 i hi).2⟩, ho⟩
        rcases ends_cases G o k with ⟨e1, e2, _⟩ | ⟨e1, e2, _⟩
        · exact (h1 _ ha).2 k hk e1 (by rw [e2]; exact (h1 _ hb).1)
        · exact (h1 _ hb).2 k hk e1 (by rw [e2]; exact (h1 _ ha).1)
    refine Eq.trans (sumI_congr _ fun s _ => ?_) (sg_sum hT hT0)
    try dsimp only
    by_cases hs : subQ s T = true
    · rw [if_pos hs, if_pos ((hiff s).2 hs)]
    · rw [if_neg hs, if_neg fun h => hs ((hiff s).1 h)]
  · exact sumI_zero _ fun s _ => if_neg fun h => ho h.2
theorem ao_zero (G : EdgP) : aoW G 0 = 1 := by
  classical
  unfold aoW
  rw [sumI_one (i := 0) (2 ^ G.m) (Nat.two_pow_pos _) fun o _ ho => if_neg fun h => by
    obtain ⟨k, hk⟩ := Nat.exists_testBit_of_ne_zero ho
    have := (h.1 k hk).2.1
    simp at this]
  refine if_pos ⟨fun k hk => by simp at hk, fun s hs hsub => absurd (Nat.le_zero.1 (sub_le fun i hi => subQ_iff.1 hsub i hi)) hs⟩
/-- STANLEY. -/
theorem stanley {looseB : Nat → Bool} (hlb : ∀ s, looseB s = true ↔ G.loose s) {A : Nat → Int → Int} (H : PolA n looseB A) : ∀ m w, w < m → w < 2 ^ n → aoW G w = sgW w n * A w (-1)
  | 0, _, h, _ => absurd h (by omega)
  | m + 1, w, hm, hw => by
    have hl0 : looseB 0 = true := (hlb 0).2 fun k _ h => by simp at h
    by_cases h0 : w = 0
    · subst h0
      rw [ao_zero, sgW_zero, H.zero]; rfl
    · have h1 := ao_rec hlb hw h0
      have h2 : sumQ n looseB w (fun s => sgW s n * (sgW (w ^^^ s) n * A (w ^^^ s) (-1))) = 0 := by
        have e : sumQ n looseB w (fun s => sgW s n * (sgW (w ^^^ s) n * A (w ^^^ s) (-1))) = sgW w n * sumQ n looseB w (fun s => A (w ^^^ s) (-1)) := by
          unfold sumQ
          rw [← sumI_mul]
          refine sumI_congr _ fun s _ => ?_
          try dsimp only
          by_cases hc : subQ s w = true ∧ looseB s = true
          · rw [if_pos hc, if_pos hc, ← Int.mul_assoc, ← sgW_xor, show s ^^^ (w ^^^ s) = w by rw [Nat.xor_comm w s, ← Nat.xor_assoc, Nat.xor_self, Nat.zero_xor]]
          · rw [if_neg hc, if_neg hc, Int.mul_zero]
        rw [e, ← pol_succ H hl0 hw (-1), show (-1 : Int) + 1 = 0 from rfl, pol_zero H hw h0, Int.mul_zero]
      have h3 : sumI (fun s => (if subQ s w = true ∧ looseB s = true then sgW s n * aoW G (w ^^^ s) else 0) - (if subQ s w = true ∧ looseB s = true then sgW s n * (sgW (w ^^^ s) n * A (w ^^^ s) (-1)) else 0)) (2 ^ n) = 0 := by
        rw [sumI_sub]
        simp only [sumQ] at h1 h2
        omega
      rw [sumI_one (i := 0) (2 ^ n) (Nat.two_pow_pos _) fun s _ hs => ?_] at h3
      · simp only [if_pos (show subQ 0 w = true ∧ looseB 0 = true from ⟨subQ_zero w, hl0⟩), Nat.xor_zero, sgW_zero, Int.one_mul] at h3
        omega
      · by_cases hc : subQ s w = true ∧ looseB s = true
        · rw [if_pos hc, if_pos hc, stanley hlb H m (w ^^^ s) (by have := sub_lt hc.1 hs; omega) (sub_pow (sub_sub hc.1) hw)]
          omega
        · rw [if_neg hc, if_neg hc]; rfl
theorem ao_nonneg (G : EdgP) (w : Nat) : 0 ≤ aoW G w := by
  unfold aoW
  refine sumI_nonneg _ fun o _ => ?_
  split <;> decide
/-- .. without the sign. -/
theorem stanley_abs {looseB : Nat → Bool} (hlb : ∀ s, looseB s = true ↔ G.loose s) {A : Nat → Int → Int} (H : PolA n looseB A) {w : Nat} (hw : w < 2 ^ n) : aoW G w = if A w (-1) < 0 then -A w (-1) else A w (-1) := by
  have h1 := stanley hlb H (w + 1) w (by omega) hw
  have h2 := ao_nonneg G w
  rcases sgW_one w n with h | h <;> rw [h] at h1 <;> split <;> omega
end
end Go.Proofs.Ytpcealcghglopaa
