/- BUMBY; TIJDEMAN; BAKER, SHOSTAK; HAJNAL, MILNER, SZEMEREDI: of up to nine people all know all in the end behind no fewer calls than none, one, three, or four less than two each. Plain facts, of no program. -/
import Derived.Test.YticickicfigpbaaMatroidP
namespace Go.Proofs.Yticickicfigpbaa

/-- Who knows the thing of i, behind the first t calls (a call of one with himself is none). -/
def Kn (a b : Nat → Nat) : Nat → Nat → Nat → Prop
  | 0, i, j => i = j
  | t + 1, i, j => Kn a b t i j ∨ ((j = a t ∨ j = b t) ∧ (Kn a b t i (a t) ∨ Kn a b t i (b t)))
/-- Whose things as they are ahead of the last d calls come to x. -/
def Bk (a b : Nat → Nat) (K x : Nat) : Nat → Nat → Prop
  | 0, j => j = x
  | d + 1, j => Bk a b K x d j ∨ ((j = a (K - 1 - d) ∨ j = b (K - 1 - d)) ∧ (Bk a b K x d (a (K - 1 - d)) ∨ Bk a b K x d (b (K - 1 - d))))
/-- People, and calls among them. -/
structure Phone (n : Nat) (S : BS) (a b : Nat → Nat) (K : Nat) : Prop where
  lt : ∀ i, S i = true → i < n
  in_ : ∀ t, t < K → a t ≠ b t → S (a t) = true ∧ S (b t) = true
  all : ∀ i j, S i = true → S j = true → Kn a b K i j
def realB (a b : Nat → Nat) : BS := fun t => decide (a t ≠ b t)
section
variable {n K : Nat} {S : BS} {a b : Nat → Nat}
theorem kn_more {t i j : Nat} (h : Kn a b t i j) : Kn a b (t + 1) i j := .inl h
theorem kn_in (H : Phone n S a b K) {i : Nat} (hi : S i = true) : ∀ {t j : Nat}, t ≤ K → Kn a b t i j → S j = true
  | 0, j, _, h => by cases h; exact hi
  | t + 1, j, ht, h => by
    rcases h with h | ⟨h1, h2⟩
    · exact kn_in H hi (by omega) h
    · by_cases e : a t = b t
      · rcases h2 with h2 | h2
        · have h3 := kn_in H hi (by omega) h2
          rcases h1 with h1 | h1
          · rw [h1]; exact h3
          · rw [h1, ← e]; exact h3
        · have h3 := kn_in H hi (by omega) h2
          rcases h1 with h1 | h1
          · rw [h1, e]; exact h3
          · rw [h1]; exact h3
      · obtain ⟨g1, g2⟩ := H.in_ t (by omega) e
        rcases h1 with h1 | h1
        · rw [h1]; exact g1
        · rw [h1]; exact g2
open Classical in
noncomputable def knB (a b : Nat → Nat) (t x : Nat) : BS := fun j => decide (Kn a b t x j)
theorem knB_iff {t x j : Nat} : knB a b t x j = true ↔ Kn a b t x j := by simp [knB]
/-- The calls by which the thing of x comes to one more. -/
noncomputable def outB (a b : Nat → Nat) (x : Nat) : BS := fun t => knB a b t x (a t) != knB a b t x (b t)
theorem out_size {x : Nat} : ∀ K, sizeP (knB a b K x) n ≤ 1 + sizeP (outB a b x) K
  | 0 => by
    have h1 : sizeP (knB a b 0 x) n ≤ 1 := by
      rcases Nat.lt_or_ge x n with h | h
      · have e := sizeP_del (A := knB a b 0 x) (i := x) (knB_iff.2 rfl) h
        have : sizeP (delB (knB a b 0 x) x) n = 0 := sizeP_none fun i _ => by
          cases hh : delB (knB a b 0 x) x i with
          | false => rfl
          | true =>
            obtain ⟨h2, h3⟩ := delB_iff.1 hh
            exact absurd (knB_iff.1 h2).symm h3
        omega
      · have : sizeP (knB a b 0 x) n = 0 := sizeP_none fun i hi => by
          cases hh : knB a b 0 x i with
          | false => rfl
          | true => have h2 : x = i := knB_iff.1 hh; omega
        omega
    omega
  | t + 1 => by
    have ih := out_size (x := x) t
    rw [sizeP_succ]
    by_cases ho : outB a b x t = true
    · rw [if_pos ho]
      -- one more at the most
      have hex : ∃ c, ∀ j, knB a b (t + 1) x j = true → knB a b t x j = true ∨ j = c := by
        unfold outB at ho
        cases hA : knB a b t x (a t) with
        | true =>
          refine ⟨b t, fun j hj => ?_⟩
          rcases knB_iff.1 hj with h | ⟨h1 | h1, _⟩
          · exact .inl (knB_iff.2 h)
          · exact .inl (by rw [h1]; exact hA)
          · exact .inr h1
        | false =>
          rw [hA] at ho
          have hB : knB a b t x (b t) = true := by simpa using ho
          refine ⟨a t, fun j hj => ?_⟩
          rcases knB_iff.1 hj with h | ⟨h1 | h1, _⟩
          · exact .inl (knB_iff.2 h)
          · exact .inr h1
          · exact .inl (by rw [h1]; exact hB)
      obtain ⟨c, hc⟩ := hex
      have h1 : sizeP (knB a b (t + 1) x) n ≤ sizeP (insB (knB a b t x) c) n := sizeP_sub fun j _ hj => insB_iff.2 (hc j hj)
      have h2 : sizeP (insB (knB a b t x) c) n ≤ sizeP (knB a b t x) n + 1 := by
        by_cases hcn : c < n ∧ knB a b t x c = false
        · rw [sizeP_ins hcn.1 hcn.2]; exact Nat.le_refl _
        · refine Nat.le_trans (sizeP_sub fun j hj h => ?_) (Nat.le_succ _)
          rcases insB_iff.1 h with h | h
          · exact h
          · cases hk : knB a b t x j with
            | true => rfl
            | false => exact absurd ⟨by omega, by rw [← h]; exact hk⟩ hcn
      omega
    · rw [if_neg ho]
      have h1 : sizeP (knB a b (t + 1) x) n ≤ sizeP (knB a b t x) n := sizeP_sub fun j _ hj => by
        rcases knB_iff.1 hj with h | ⟨h1, h2⟩
        · exact knB_iff.2 h
        · unfold outB at ho
          have he : knB a b t x (a t) = knB a b t x (b t) := by simpa using ho
          have hA : knB a b t x (a t) = true := by
            rcases h2 with h2 | h2
            · exact knB_iff.2 h2
            · rw [he]; exact knB_iff.2 h2
          rcases h1 with h1 | h1
          · rw [h1]; exact hA
          · rw [h1, ← he]; exact hA
      omega
open Classical in
noncomputable def bkB (a b : Nat → Nat) (K x d : Nat) : BS := fun j => decide (Bk a b K x d j)
theorem bkB_iff {x d j : Nat} : bkB a b K x d j = true ↔ Bk a b K x d j := by simp [bkB]
/-- The calls by which one more's thing comes to x. -/
noncomputable def inB (a b : Nat → Nat) (K x : Nat) : BS := fun t => bkB a b K x (K - 1 - t) (a t) != bkB a b K x (K - 1 - t) (b t)
theorem in_size {x : Nat} : ∀ d, d ≤ K → sizeP (bkB a b K x d) n ≤ 1 + sizeP (fun e => inB a b K x (K - 1 - e)) d
  | 0, _ => by
    have h1 : sizeP (bkB a b K x 0) n ≤ 1 := by
      rcases Nat.lt_or_ge x n with h | h
      · have e := sizeP_del (A := bkB a b K x 0) (i := x) (bkB_iff.2 rfl) h
        have : sizeP (delB (bkB a b K x 0) x) n = 0 := sizeP_none fun i _ => by
          cases hh : delB (bkB a b K x 0) x i with
          | false => rfl
          | true =>
            obtain ⟨h2, h3⟩ := delB_iff.1 hh
            exact absurd (bkB_iff.1 h2) h3
        omega
      · have : sizeP (bkB a b K x 0) n = 0 := sizeP_none fun i hi => by
          cases hh : bkB a b K x 0 i with
          | false => rfl
          | true => have h2 : i = x := bkB_iff.1 hh; omega
        omega
    omega
  | d + 1, hd => by
    have ih := in_size (x := x) d (by omega)
    rw [sizeP_succ]
    have hK : K - 1 - (K - 1 - d) = d := by omega
    by_cases ho : inB a b K x (K - 1 - d) = true
    · rw [if_pos ho]
      have hex : ∃ c, ∀ j, bkB a b K x (d + 1) j = true → bkB a b K x d j = true ∨ j = c := by
        unfold inB at ho
        rw [hK] at ho
        cases hA : bkB a b K x d (a (K - 1 - d)) with
        | true =>
          refine ⟨b (K - 1 - d), fun j hj => ?_⟩
          rcases bkB_iff.1 hj with h | ⟨h1 | h1, _⟩
          · exact .inl (bkB_iff.2 h)
          · exact .inl (by rw [h1]; exact hA)
          · exact .inr h1
        | false =>
          rw [hA] at ho
          have hB : bkB a b K x d (b (K - 1 - d)) = true := by simpa using ho
          refine ⟨a (K - 1 - d), fun j hj => ?_⟩
          rcases bkB_iff.1 hj with h | ⟨h1 | h1, _⟩
          · exact .inl (bkB_iff.2 h)
          · exact .inr h1
          · exact .inl (by rw [h1]; exact hB)
      obtain ⟨c, hc⟩ := hex
      have h1 : sizeP (bkB a b K x (d + 1)) n ≤ sizeP (insB (bkB a b K x d) c) n := sizeP_sub fun j _ hj => insB_iff.2 (hc j hj)
      have h2 : sizeP (insB (bkB a b K x d) c) n ≤ sizeP (bkB a b K x d) n + 1 := by
        by_cases hcn : c < n ∧ bkB a b K x d c = false
        · rw [sizeP_ins hcn.1 hcn.2]; exact Nat.le_refl _
        · refine Nat.le_trans (sizeP_sub fun j hj h => ?_) (Nat.le_succ _)
          rcases insB_iff.1 h with h | h
          · exact h
          · cases hk : bkB a b K x d j with
            | true => rfl
            | false => exact absurd ⟨by omega, by rw [← h]; exact hk⟩ hcn
      omega
    · rw [if_neg ho]
      have h1 : sizeP (bkB a b K x (d + 1)) n ≤ sizeP (bkB a b K x d) n := sizeP_sub fun j _ hj => by
        rcases bkB_iff.1 hj with h | ⟨h1, h2⟩
        · exact bkB_iff.2 h
        · unfold inB at ho
          rw [hK] at ho
          have he : bkB a b K x d (a (K - 1 - d)) = bkB a b K x d (b (K - 1 - d)) := by simpa using ho
          have hA : bkB a b K x d (a (K - 1 - d)) = true := by
            rcases h2 with h2 | h2
            · exact bkB_iff.2 h2
            · rw [he]; exact bkB_iff.2 h2
          rcases h1 with h1 | h1
          · rw [h1]; exact hA
          · rw [h1, ← he]; exact hA
      omega
theorem kn_bk {i x : Nat} (h : Kn a b K i x) : ∀ d, d ≤ K → ∃ j, Kn a b (K - d) i j ∧ Bk a b K x d j
  | 0, _ => ⟨x, h, rfl⟩
  | d + 1, hd => by
    obtain ⟨j, h1, h2⟩ := kn_bk h d (by omega)
    have e : K - d = (K - 1 - d) + 1 := by omega
    rw [e] at h1
    rw [show K - (d + 1) = K - 1 - d by omega]
    rcases h1 with h1 | ⟨h3, h4⟩
    · exact ⟨j, h1, .inl h2⟩
    · have hb : Bk a b K x d (a (K - 1 - d)) ∨ Bk a b K x d (b (K - 1 - d)) := by
        rcases h3 with h3 | h3
        · exact .inl (h3 ▸ h2)
        · exact .inr (h3 ▸ h2)
      rcases h4 with h4 | h4
      · exact ⟨_, h4, .inr ⟨.inl rfl, hb⟩⟩
      · exact ⟨_, h4, .inr ⟨.inr rfl, hb⟩⟩
/-- The other way round, a count is the same. -/
theorem sizeP_rev (A : BS) : ∀ K, sizeP (fun e => A (K - 1 - e)) K = sizeP A K := fun K => by
  apply Nat.le_antisymm
  · exact sizeP_inj _ (m := fun e => K - 1 - e) rfl (fun e he h => ⟨by omega, h⟩) fun e f he hf _ _ h => by
      have h : K - 1 - e = K - 1 - f := h
      omega
  · exact sizeP_inj _ (m := fun e => K - 1 - e) rfl (fun e he h => ⟨by omega, by
      show A (K - 1 - (K - 1 - e)) = true
      rw [show K - 1 - (K - 1 - e) = e by omega]; exact h⟩) fun e f he hf _ _ h => by
      have h : K - 1 - e = K - 1 - f := h
      omega
/-- One hears his own thing. -/
def Hears (a b : Nat → Nat) (K x : Nat) : Prop := ∃ s y, s < K ∧ y ≠ x ∧ ((a s = x ∧ b s = y) ∨ (a s = y ∧ b s = x)) ∧ Kn a b s x y
theorem hears_of {x : Nat} : ∀ (d c : Nat), d ≤ K → c ≠ x → Kn a b (K - d) x c → Bk a b K x d c → Hears a b K x
  | 0, c, _, hc, _, h => absurd h hc
  | d + 1, c, hd, hc, hk, h => by
    have e1 : K - (d + 1) = K - 1 - d := by omega
    have e2 : K - d = (K - 1 - d) + 1 := by omega
    rw [e1] at hk
    rcases h with h | ⟨h1, h2⟩
    · exact hears_of d c (by omega) hc (by rw [e2]; exact .inl hk) h
    · have hknow : Kn a b (K - 1 - d) x (a (K - 1 - d)) ∨ Kn a b (K - 1 - d) x (b (K - 1 - d)) := by
        rcases h1 with h1 | h1
        · exact .inl (h1 ▸ hk)
        · exact .inr (h1 ▸ hk)
      rcases h2 with h2 | h2
      · by_cases hx : a (K - 1 - d) = x
        · rcases h1 with h1 | h1
          · exact absurd (h1.trans hx) hc
          · exact ⟨K - 1 - d, c, by omega, hc, .inl ⟨hx, h1.symm⟩, hk⟩
        · exact hears_of d _ (by omega) hx (by rw [e2]; exact .inr ⟨.inl rfl, hknow⟩) h2
      · by_cases hx : b (K - 1 - d) = x
        · rcases h1 with h1 | h1
          · exact ⟨K - 1 - d, c, by omega, hc, .inr ⟨h1.symm, hx⟩, hk⟩
          · exact absurd (h1.trans hx) hc
        · exact hears_of d _ (by omega) hx (by rw [e2]; exact .inr ⟨.inr rfl, hknow⟩) h2
/-- The calls of one. -/
def ownB (a b : Nat → Nat) (x : Nat) : BS := fun t => decide (a t ≠ b t) && (decide (a t = x) || decide (b t = x))
/-- Who does not hear his own thing has so many calls. -/
theorem calls_ge (H : Phone n S a b K) {x : Nat} (hx : S x = true) (hno : ¬ Hears a b K x) : 2 * (sizeP S n - 1) ≤ sizeP (realB a b) K + sizeP (ownB a b x) K := by
  have h1 := out_size (n := n) (a := a) (b := b) (x := x) K
  have h2 := in_size (n := n) (K := K) (a := a) (b := b) (x := x) K (Nat.le_refl _)
  rw [sizeP_rev (inB a b K x) K] at h2
  have h3 : sizeP S n ≤ sizeP (knB a b K x) n := sizeP_sub fun i _ hi => knB_iff.2 (H.all x i hx hi)
  have h4 : sizeP S n ≤ sizeP (bkB a b K x K) n := sizeP_sub fun i _ hi => by
    obtain ⟨j, g1, g2⟩ := kn_bk (H.all i x hi hx) K (Nat.le_refl _)
    rw [Nat.sub_self] at g1
    have g1 : i = j := g1
    rw [bkB_iff, g1]; exact g2
  have h5 := size_cup_cap (outB a b x) (inB a b K x) K
  have h6 : sizeP (cupB (outB a b x) (inB a b K x)) K ≤ sizeP (realB a b) K := sizeP_sub fun t _ ht => by
    simp only [realB, decide_eq_true_eq]
    intro e
    simp only [cupB, outB, inB, Bool.or_eq_true, bne_iff_ne, ne_eq] at ht
    rcases ht with ht | ht
    · exact ht (by rw [e])
    · exact ht (by rw [e])
  have h7 : sizeP (capB (outB a b x) (inB a b K x)) K ≤ sizeP (ownB a b x) K := sizeP_sub fun t htK ht => by
    simp only [capB, outB, inB, Bool.and_eq_true, bne_iff_ne, ne_eq] at ht
    obtain ⟨ho, hi⟩ := ht
    have hab : a t ≠ b t := fun e => ho (by rw [e])
    cases hown : ownB a b x t with
    | true => rfl
    | false =>
      exfalso
      simp only [ownB, Bool.and_eq_false_iff, decide_eq_false_iff_not, Bool.or_eq_false_iff] at hown
      have hxx : a t ≠ x ∧ b t ≠ x := hown.resolve_left (fun h => h hab)
      -- behind it both know the thing of x, and one of them brings it to x
      have hk : Kn a b t x (a t) ∨ Kn a b t x (b t) := by
        cases hA : knB a b t x (a t) with
        | true => exact .inl (knB_iff.1 hA)
        | false =>
          cases hB : knB a b t x (b t) with
          | true => exact .inr (knB_iff.1 hB)
          | false => rw [hA, hB] at ho; exact absurd rfl ho
      have hb : Bk a b K x (K - 1 - t) (a t) ∨ Bk a b K x (K - 1 - t) (b t) := by
        cases hA : bkB a b K x (K - 1 - t) (a t) with
        | true => exact .inl (bkB_iff.1 hA)
        | false =>
          cases hB : bkB a b K x (K - 1 - t) (b t) with
          | true => exact .inr (bkB_iff.1 hB)
          | false => rw [hA, hB] at hi; exact absurd rfl hi
      have e : K - (K - 1 - t) = t + 1 := by omega
      rcases hb with hb | hb
      · exact hno (hears_of (K - 1 - t) (a t) (by omega) hxx.1 (by rw [e]; exact .inr ⟨.inl rfl, hk⟩) hb)
      · exact hno (hears_of (K - 1 - t) (b t) (by omega) hxx.2 (by rw [e]; exact .inr ⟨.inr rfl, hk⟩) hb)
  omega
theorem sumTo_swap (F : Nat → Nat → Nat) (b : Nat) : ∀ a, sumTo (fun x => sumTo (fun y => F x y) b) a = sumTo (fun y => sumTo (fun x => F x y) a) b
  | 0 => (sumTo_zero b fun _ _ => rfl).symm
  | a + 1 => by
    simp only [sumTo]
    rw [sumTo_swap F b a, ← sumTo_add]
theorem own_sum (n : Nat) : sumTo (fun x => sizeP (ownB a b x) K) n ≤ 2 * sizeP (realB a b) K := by
  unfold sizeP
  rw [sumTo_swap (fun x t => if ownB a b x t = true then 1 else 0) K n]
  have : ∀ K, sumTo (fun t => sumTo (fun x => if ownB a b x t = true then 1 else 0) n) K ≤ 2 * sumTo (fun t => if realB a b t = true then 1 else 0) K := fun K => by
    induction K with
    | zero => exact Nat.le_refl _
    | succ K ih =>
      simp only [sumTo]
      by_cases hr : a K = b K
      · have e : sumTo (fun x => if ownB a b x K = true then 1 else 0) n = 0 := sumTo_zero n fun x _ => by simp [ownB, hr]
        rw [e]; omega
      · have e : sumTo (fun x => if ownB a b x K = true then 1 else 0) n ≤ sumTo (fun x => (if a K = x then 1 else 0) + if b K = x then 1 else 0) n := sumTo_le n fun x _ => by
          by_cases h1 : a K = x
          · rw [if_pos h1]; split <;> first | omega | (split <;> omega)
          · by_cases h2 : b K = x
            · rw [if_pos h2]; split <;> first | omega | (split <;> omega)
            · rw [if_neg (by simp [ownB, h1, h2])]; exact Nat.zero_le _
        rw [sumTo_add, sumTo_ind, sumTo_ind] at e
        rw [if_pos (show realB a b K = true by simp [realB, hr])]
        have : (if a K < n then 1 else 0) ≤ 1 := by split <;> omega
        have : (if b K < n then 1 else 0) ≤ 1 := by split <;> omega
        omega
  exact this K
/-- Along whom the thing of x went till it came to y. -/
structure Chain (a b : Nat → Nat) (S : BS) (x t0 s : Nat) (σ : Nat → Nat) : Prop where
  lt : t0 < s
  fst : (a t0 = x ∧ b t0 = σ t0) ∨ (a t0 = σ t0 ∧ b t0 = x)
  ne : ∀ t, σ t ≠ x
  mem : ∀ t, S (σ t) = true
  on : ∀ t, σ (t + 1) = σ t ∨ (a t = σ t ∧ b t = σ (t + 1)) ∨ (a t = σ (t + 1) ∧ b t = σ t)
theorem chain_ex (H : Phone n S a b K) {x : Nat} (hx : S x = true) : ∀ (s y : Nat), s ≤ K → y ≠ x → Kn a b s x y → ∃ t0 σ, Chain a b S x t0 s σ ∧ σ s = y
  | 0, y, _, hy, h => absurd h.symm hy
  | s + 1, y, hs, hy, h => by
    have hSy := kn_in H hx hs h
    -- one goes on, by nothing or by a call
    have hgo : ∀ z, z ≠ x → Kn a b s x z → (y = z ∨ (a s = z ∧ b s = y) ∨ (a s = y ∧ b s = z)) → ∃ t0 σ, Chain a b S x t0 (s + 1) σ ∧ σ (s + 1) = y := fun z hz hk hst => by
      obtain ⟨t0, σ, hC, hσ⟩ := chain_ex H hx s z (by omega) hz hk
      refine ⟨t0, fun t => if t ≤ s then σ t else y, ⟨by have := hC.lt; omega, ?_, fun t => ?_, fun t => ?_, fun t => ?_⟩, if_neg (by omega)⟩
      · have := hC.lt
        simp only [if_pos (show t0 ≤ s by omega)]
        exact hC.fst
      · by_cases ht : t ≤ s
        · simp only [if_pos ht]; exact hC.ne t
        · simp only [if_neg ht]; exact hy
      · by_cases ht : t ≤ s
        · simp only [if_pos ht]; exact hC.mem t
        · simp only [if_neg ht]; exact hSy
      · rcases Nat.lt_trichotomy t s with ht | ht | ht
        · simp only [if_pos (show t + 1 ≤ s by omega), if_pos (show t ≤ s by omega)]
          exact hC.on t
        · subst ht
          simp only [if_neg (show ¬ t + 1 ≤ t by omega), if_pos (Nat.le_refl t), hσ]
          exact hst
        · simp only [if_neg (show ¬ t + 1 ≤ s by omega), if_neg (show ¬ t ≤ s by omega)]
          exact .inl trivial
    rcases h with h | ⟨h1, h2⟩
    · exact hgo y hy h (.inl rfl)
    · have hfirst : (a s = x ∧ b s = y) ∨ (a s = y ∧ b s = x) → ∃ t0 σ, Chain a b S x t0 (s + 1) σ ∧ σ (s + 1) = y := fun hf =>
        ⟨s, fun _ => y, ⟨by omega, hf, fun _ => hy, fun _ => hSy, fun _ => .inl rfl⟩, rfl⟩
      rcases h1 with h1 | h1 <;> rcases h2 with h2 | h2
      · exact hgo _ (fun e => hy (h1.trans e)) h2 (.inl h1)
      · by_cases hb : b s = x
        · exact hfirst (.inr ⟨h1.symm, hb⟩)
        · exact hgo _ hb h2 (.inr (.inr ⟨h1.symm, rfl⟩))
      · by_cases ha : a s = x
        · exact hfirst (.inl ⟨ha, h1.symm⟩)
        · exact hgo _ ha h2 (.inr (.inl ⟨rfl, h1.symm⟩))
      · exact hgo _ (fun e => hy (h1.trans e)) h2 (.inl h1)
/-- Who hears his own thing can be left out, and two calls with him. -/
theorem leave_out (H : Phone n S a b K) {x : Nat} (hx : S x = true) (hh : Hears a b K x) : ∃ a' b', Phone n (delB S x) a' b' K ∧ sizeP (realB a' b') K + 2 ≤ sizeP (realB a b) K := by
  obtain ⟨s, y, hs, hy, hc, hk⟩ := hh
  obtain ⟨t0, σ, hC, hσ⟩ := chain_ex H hx s y (by omega) hy hk
  have hcs : (a s = x ∧ b s = σ s) ∨ (a s = σ s ∧ b s = x) := by rw [hσ]; exact hc
  -- whoever carries it speaks for x
  let a' : Nat → Nat := fun t => if a t = x then σ t else a t
  let b' : Nat → Nat := fun t => if b t = x then σ t else b t
  have hstay : ∀ t, a t = x ∨ b t = x → σ (t + 1) = σ t := fun t h => by
    rcases hC.on t with h1 | ⟨h1, h2⟩ | ⟨h1, h2⟩
    · exact h1
    · rcases h with h | h
      · exact absurd (h1.symm.trans h) (hC.ne t)
      · exact absurd (h2.symm.trans h) (hC.ne (t + 1))
    · rcases h with h | h
      · exact absurd (h1.symm.trans h) (hC.ne (t + 1))
      · exact absurd (h2.symm.trans h) (hC.ne t)
  have hmain : ∀ i, i ≠ x → ∀ t, (∀ j, j ≠ x → Kn a b t i j → Kn a' b' t i j) ∧ (Kn a b t i x → Kn a' b' t i (σ t)) := fun i hi t => by
    induction t with
    | zero => exact ⟨fun j _ h => h, fun h => absurd h hi⟩
    | succ t ih =>
      obtain ⟨ih1, ih2⟩ := ih
      -- whom one who knows hands it on to
      have hca : Kn a b t i (a t) → Kn a' b' t i (a' t) := fun h => by
        show Kn a' b' t i (if a t = x then σ t else a t)
        by_cases e : a t = x
        · rw [if_pos e]; exact ih2 (e ▸ h)
        · rw [if_neg e]; exact ih1 _ e h
      have hcb : Kn a b t i (b t) → Kn a' b' t i (b' t) := fun h => by
        show Kn a' b' t i (if b t = x then σ t else b t)
        by_cases e : b t = x
        · rw [if_pos e]; exact ih2 (e ▸ h)
        · rw [if_neg e]; exact ih1 _ e h
      have hor : Kn a b t i (a t) ∨ Kn a b t i (b t) → Kn a' b' t i (a' t) ∨ Kn a' b' t i (b' t) := Or.imp hca hcb
      refine ⟨fun j hj h => ?_, fun h => ?_⟩
      · rcases h with h | ⟨h1, h2⟩
        · exact .inl (ih1 j hj h)
        · refine .inr ⟨?_, hor h2⟩
          rcases h1 with h1 | h1
          · left
            show j = if a t = x then σ t else a t
            rw [if_neg (fun e => hj (h1.trans e))]; exact h1
          · right
            show j = if b t = x then σ t else b t
            rw [if_neg (fun e => hj (h1.trans e))]; exact h1
      · rcases h with h | ⟨h1, h2⟩
        · have h3 := ih2 h
          rcases hC.on t with h4 | ⟨h4, h5⟩ | ⟨h4, h5⟩
          · rw [h4]; exact .inl h3
          · have ea : a' t = σ t := by show (if a t = x then σ t else a t) = σ t; rw [if_neg (fun e => hC.ne t (h4.symm.trans e))]; exact h4
            have eb : b' t = σ (t + 1) := by show (if b t = x then σ t else b t) = _; rw [if_neg (fun e => hC.ne (t + 1) (h5.symm.trans e))]; exact h5
            exact .inr ⟨.inr eb.symm, .inl (by rw [ea]; exact h3)⟩
          · have ea : a' t = σ (t + 1) := by show (if a t = x then σ t else a t) = _; rw [if_neg (fun e => hC.ne (t + 1) (h4.symm.trans e))]; exact h4
            have eb : b' t = σ t := by show (if b t = x then σ t else b t) = σ t; rw [if_neg (fun e => hC.ne t (h5.symm.trans e))]; exact h5
            exact .inr ⟨.inl ea.symm, .inr (by rw [eb]; exact h3)⟩
        · rw [hstay t (h1.imp Eq.symm Eq.symm)]
          refine .inr ⟨?_, hor h2⟩
          rcases h1 with h1 | h1
          · left; show σ t = if a t = x then σ t else a t; rw [if_pos h1.symm]
          · right; show σ t = if b t = x then σ t else b t; rw [if_pos h1.symm]
  refine ⟨a', b', ⟨fun i hi => H.lt i (delB_iff.1 hi).1, fun t ht hab => ?_, fun i j hi hj => ?_⟩, ?_⟩
  · have hab0 : a t ≠ b t := fun e => hab (by show (if a t = x then σ t else a t) = if b t = x then σ t else b t; rw [e])
    obtain ⟨g1, g2⟩ := H.in_ t ht hab0
    constructor
    · show delB S x (if a t = x then σ t else a t) = true
      by_cases e : a t = x
      · rw [if_pos e]; exact delB_iff.2 ⟨hC.mem t, hC.ne t⟩
      · rw [if_neg e]; exact delB_iff.2 ⟨g1, e⟩
    · show delB S x (if b t = x then σ t else b t) = true
      by_cases e : b t = x
      · rw [if_pos e]; exact delB_iff.2 ⟨hC.mem t, hC.ne t⟩
      · rw [if_neg e]; exact delB_iff.2 ⟨g2, e⟩
  · obtain ⟨i1, i2⟩ := delB_iff.1 hi
    obtain ⟨j1, j2⟩ := delB_iff.1 hj
    exact (hmain i i2 K).1 j j2 (H.all i j i1 j1)
  · have hnull : ∀ t, (a t = x ∧ b t = σ t) ∨ (a t = σ t ∧ b t = x) → realB a b t = true ∧ realB a' b' t = false := fun t h => by
      have e1 : a' t = b' t := by
        show (if a t = x then σ t else a t) = if b t = x then σ t else b t
        rcases h with ⟨h1, h2⟩ | ⟨h1, h2⟩
        · rw [if_pos h1, if_neg (fun e => hC.ne t (h2.symm.trans e)), h2]
        · rw [if_pos h2, if_neg (fun e => hC.ne t (h1.symm.trans e)), h1]
      refine ⟨?_, by simp [realB, e1]⟩
      simp only [realB, decide_eq_true_eq]
      rcases h with ⟨h1, h2⟩ | ⟨h1, h2⟩
      · rw [h1, h2]; exact (hC.ne t).symm
      · rw [h1, h2]; exact hC.ne t
    obtain ⟨p1, p2⟩ := hnull t0 hC.fst
    obtain ⟨q1, q2⟩ := hnull s hcs
    have hlt := hC.lt
    have d1 := sizeP_del p1 (show t0 < K by omega)
    have d2 := sizeP_del (A := delB (realB a b) t0) (delB_iff.2 ⟨q1, by omega⟩) hs
    have hsub : sizeP (realB a' b') K ≤ sizeP (delB (delB (realB a b) t0) s) K := sizeP_sub fun t _ ht => by
      refine delB_iff.2 ⟨delB_iff.2 ⟨?_, fun e => by rw [e, p2] at ht; cases ht⟩, fun e => by rw [e, q2] at ht; cases ht⟩
      simp only [realB, decide_eq_true_eq] at ht ⊢
      intro e
      exact ht (by show (if a t = x then σ t else a t) = if b t = x then σ t else b t; rw [e])
    omega
/-- How many calls there must be. -/
def fewC (m : Nat) : Nat := if m ≤ 1 then 0 else if m = 2 then 1 else if m = 3 then 3 else 2 * m - 4
/-- The theorem of the telephones, for up to nine. -/
theorem phones : ∀ (m : Nat) (S : BS) (a b : Nat → Nat), sizeP S n = m → m ≤ 9 → Phone n S a b K → fewC m ≤ sizeP (realB a b) K
  | m, S, a, b, hm, h9, H => by
    by_cases hh : ∃ x, S x = true ∧ Hears a b K x
    · obtain ⟨x, hx, hx2⟩ := hh
      obtain ⟨a', b', H', h1⟩ := leave_out H hx hx2
      have hdel := sizeP_del hx (H.lt x hx)
      have ih := phones (m - 1) (delB S x) a' b' (by omega) (by omega) H'
      unfold fewC at ih ⊢
      split at ih <;> split <;> (try split at ih) <;> (try split) <;> (try split at ih) <;> (try split) <;> omega
    · -- nobody hears his own
      have hge : ∀ x, S x = true → 2 * (m - 1) ≤ sizeP (realB a b) K + sizeP (ownB a b x) K := fun x hx => by
        have := calls_ge H hx fun h => hh ⟨x, hx, h⟩
        rw [hm] at this
        exact this
      have hsum : m * (2 * (m - 1)) ≤ m * sizeP (realB a b) K + sumTo (fun x => sizeP (ownB a b x) K) n := by
        have : ∀ k, k ≤ n → sizeP S k * (2 * (m - 1)) ≤ sizeP S k * sizeP (realB a b) K + sumTo (fun x => sizeP (ownB a b x) K) k := fun k => by
          induction k with
          | zero => intro _; simp [sizeP, sumTo]
          | succ k ih =>
            intro hk
            have ih := ih (by omega)
            rw [sizeP_succ]
            simp only [sumTo]
            by_cases hS : S k = true
            · have h1 := hge k hS
              rw [if_pos hS, Nat.add_mul, Nat.add_mul, Nat.one_mul, Nat.one_mul]
              omega
            · rw [if_neg hS, Nat.add_zero]; omega
        have h := this n (Nat.le_refl n)
        rw [hm] at h
        exact h
      have hown := own_sum (a := a) (b := b) (K := K) n
      generalize sizeP (realB a b) K = k at *
      generalize sumTo (fun x => sizeP (ownB a b x) K) n = z at *
      rcases (show m = 0 ∨ m = 1 ∨ m = 2 ∨ m = 3 ∨ m = 4 ∨ m = 5 ∨ m = 6 ∨ m = 7 ∨ m = 8 ∨ m = 9 by omega) with rfl | rfl | rfl | rfl | rfl | rfl | rfl | rfl | rfl | rfl <;> simp [fewC] <;> omega
  termination_by m => m
  decreasing_by omega
end
end Go.Proofs.Yticickicfigpbaa
