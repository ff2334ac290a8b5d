/- The reference's Cheaper, plain: the least fees of steps as numbers (a great one: none), and the rounds of detours. Plain facts, of no program. -/
import Derived.Test.YtkpejmpnbdblbaaDetourP
import Derived.Test.YtkpejmpnbdblbaaFillAt
namespace Go.Proofs.Ytkpejmpnbdblbaa

abbrev farQ : Int := 1152921504606846976
def encQ : Option Int → Int
  | none => farQ
  | some c => c
def feeP (es : List A4) (k : Nat) : Int := (es.getD k default).2.2.2
def putQ (D : Nat → Nat → Option Int) (a b : Nat) (v : Option Int) : Nat → Nat → Option Int := fun i j => if i = a ∧ j = b then v else D i j
def lowQ (D : Nat → Nat → Option Int) (a b : Nat) (c : Int) (on : Bool) : Nat → Nat → Option Int := if on = true ∧ c < encQ (D a b) then putQ D a b (some c) else D
def diagQ (n : Nat) : Nat → Nat → Option Int := fun i j => if i = j ∧ i < n then some 0 else none
/-- Behind so many arcs. -/
def startQ (N : NetP) (fee f : Nat → Int) : Nat → Nat → Nat → Option Int
  | 0 => diagQ N.n
  | k + 1 => lowQ (lowQ (startQ N fee f k) (N.fr k) (N.to k) (fee k) (decide (f k < N.mo k))) (N.to k) (N.fr k) (-fee k) (decide (0 < f k))
section
variable {N : NetP} {fee f : Nat → Int} {D : Nat → Nat → Option Int} {a b : Nat} {c : Int} {on : Bool}
theorem lowQ_some {i j : Nat} {z : Int} (h : lowQ D a b c on i j = some z) : D i j = some z ∨ (on = true ∧ i = a ∧ j = b ∧ z = c) := by
  unfold lowQ at h
  split at h
  · rename_i hc
    unfold putQ at h
    split at h
    · rename_i hij
      injection h with h
      exact .inr ⟨hc.1, hij.1, hij.2, h.symm⟩
    · exact .inl h
  · exact .inl h
theorem lowQ_keep {i j : Nat} {z : Int} (h : D i j = some z) : ∃ z', lowQ D a b c on i j = some z' ∧ z' ≤ z := by
  unfold lowQ
  split
  · rename_i hc
    unfold putQ
    split
    · rename_i hij
      obtain ⟨rfl, rfl⟩ := hij
      rw [h] at hc
      have : c < z := hc.2
      exact ⟨c, rfl, by omega⟩
    · exact ⟨z, h, Int.le_refl _⟩
  · exact ⟨z, h, Int.le_refl _⟩
theorem lowQ_new (hon : on = true) (hc : c < farQ) : ∃ z', lowQ D a b c on a b = some z' ∧ z' ≤ c := by
  unfold lowQ
  split
  · exact ⟨c, by unfold putQ; rw [if_pos ⟨rfl, rfl⟩], Int.le_refl _⟩
  · rename_i h
    cases hd : D a b with
    | none => exact absurd ⟨hon, by rw [hd]; exact hc⟩ h
    | some z =>
      refine ⟨z, rfl, ?_⟩
      rw [hd] at h
      have : ¬ c < z := fun h2 => h ⟨hon, h2⟩
      omega
theorem startQ_some {i j : Nat} {z : Int} : ∀ k, k ≤ N.K → startQ N fee f k i j = some z → (i = j ∧ z = 0) ∨ StepC N fee f i j z
  | 0, _, h => by
    have h' : (if i = j ∧ i < N.n then some (0 : Int) else none) = some z := h
    split at h'
    · rename_i hij
      injection h' with h'
      exact .inl ⟨hij.1, h'.symm⟩
    · cases h'
  | k + 1, hk, h => by
    rcases lowQ_some h with h | ⟨h1, rfl, rfl, rfl⟩
    · rcases lowQ_some h with h | ⟨h1, rfl, rfl, rfl⟩
      · exact startQ_some k (by omega) h
      · exact .inr ⟨k, by omega, .inl ⟨rfl, rfl, of_decide_eq_true h1, rfl⟩⟩
    · exact .inr ⟨k, by omega, .inr ⟨rfl, rfl, of_decide_eq_true h1, rfl⟩⟩
theorem startQ_le {i j : Nat} {z : Int} {k : Nat} (h : ∃ z', startQ N fee f k i j = some z' ∧ z' ≤ z) : ∀ d, ∃ z', startQ N fee f (k + d) i j = some z' ∧ z' ≤ z
  | 0 => h
  | d + 1 => by
    obtain ⟨z1, h1, h2⟩ := startQ_le h d
    obtain ⟨z2, h3, h4⟩ := lowQ_keep (a := N.fr (k + d)) (b := N.to (k + d)) (c := fee (k + d)) (on := decide (f (k + d) < N.mo (k + d))) h1
    obtain ⟨z3, h5, h6⟩ := lowQ_keep (a := N.to (k + d)) (b := N.fr (k + d)) (c := -fee (k + d)) (on := decide (0 < f (k + d))) h3
    exact ⟨z3, h5, by omega⟩
theorem startQ_all (hfee : ∀ k, k < N.K → -1048576 ≤ fee k ∧ fee k ≤ 1048576) {i j : Nat} {z : Int} (h : StepC N fee f i j z) : ∃ z', startQ N fee f N.K i j = some z' ∧ z' ≤ z := by
  obtain ⟨k, hk, ⟨rfl, rfl, h3, rfl⟩ | ⟨rfl, rfl, h3, rfl⟩⟩ := h
  · have hb := hfee k hk
    have h1 := lowQ_new (D := startQ N fee f k) (a := N.fr k) (b := N.to k) (c := fee k) (on := decide (f k < N.mo k)) (decide_eq_true h3) (by unfold farQ; omega)
    obtain ⟨z1, h4, h5⟩ := h1
    obtain ⟨z2, h6, h7⟩ := lowQ_keep (a := N.to k) (b := N.fr k) (c := -fee k) (on := decide (0 < f k)) h4
    have h8 := startQ_le (k := k + 1) ⟨z2, h6, show z2 ≤ fee k by omega⟩ (N.K - (k + 1))
    rwa [show k + 1 + (N.K - (k + 1)) = N.K by omega] at h8
  · have hb := hfee k hk
    have h1 := lowQ_new (D := lowQ (startQ N fee f k) (N.fr k) (N.to k) (fee k) (decide (f k < N.mo k))) (a := N.to k) (b := N.fr k) (c := -fee k) (on := decide (0 < f k)) (decide_eq_true h3) (by unfold farQ; omega)
    obtain ⟨z1, h4, h5⟩ := h1
    have h8 := startQ_le (k := k + 1) ⟨z1, h4, h5⟩ (N.K - (k + 1))
    rwa [show k + 1 + (N.K - (k + 1)) = N.K by omega] at h8
theorem startQ_diag (hne : ∀ k, k < N.K → N.fr k ≠ N.to k) {i : Nat} : ∀ k, k ≤ N.K → startQ N fee f k i i = diagQ N.n i i
  | 0, _ => rfl
  | k + 1, hk => by
    have hno := hne k (by omega)
    have h1 : ∀ (D : Nat → Nat → Option Int) (a b : Nat) (c : Int) (on : Bool), a ≠ b → lowQ D a b c on i i = D i i := fun D a b c on hab => by
      unfold lowQ putQ
      split
      · simp only
        rw [if_neg (by rintro ⟨rfl, h⟩; exact hab h)]
      · rfl
    show lowQ (lowQ _ _ _ _ _) _ _ _ _ i i = _
    rw [h1 _ _ _ _ _ (Ne.symm hno), h1 _ _ _ _ _ hno, startQ_diag hne k (by omega)]
theorem startQ_out (hlt : ∀ k, k < N.K → N.fr k < N.n ∧ N.to k < N.n) {i : Nat} (hi : N.n ≤ i) (j : Nat) : startQ N fee f N.K i j = none := by
  cases h : startQ N fee f N.K i j with
  | none => rfl
  | some z =>
    exfalso
    rcases startQ_some N.K (Nat.le_refl _) h with ⟨rfl, rfl⟩ | ⟨k, hk, h⟩
    · have hd : ∀ k, k ≤ N.K → startQ N fee f k i i = none := by
        intro k
        induction k with
        | zero => intro _; show (if i = i ∧ i < N.n then some (0 : Int) else none) = none; rw [if_neg (by omega)]
        | succ k ih =>
          intro hk
          cases h2 : startQ N fee f (k + 1) i i with
          | none => rfl
          | some y =>
            exfalso
            obtain ⟨l1, l2⟩ := hlt k (by omega)
            rcases lowQ_some h2 with h3 | ⟨_, e, _⟩
            · rcases lowQ_some h3 with h4 | ⟨_, e, _⟩
              · rw [ih (by omega)] at h4; cases h4
              · omega
            · omega
      rw [hd N.K (Nat.le_refl _)] at h; cases h
    · obtain ⟨l1, l2⟩ := hlt k hk
      rcases h with ⟨h1, _⟩ | ⟨h1, _⟩ <;> omega
theorem fwR_out {E : Nat → Nat → Option Int} {i : Nat} (h : ∀ j, E i j = none) : ∀ l j, fwR E l i j = none
  | 0, j => h j
  | l + 1, j => by
    show fwStep (fwR E l) l i j = none
    unfold fwStep
    rw [fwR_out h l l, fwR_out h l j]
/-- One round, as numbers. -/
theorem step_enc {k i j : Nat} (hb : ∀ i j c, D i j = some c → -1073741824 ≤ c ∧ c ≤ 1073741824) :
    encQ (fwStep D k i j) = if encQ (D i k) < farQ ∧ encQ (D k j) < farQ ∧ encQ (D i k) + encQ (D k j) < encQ (D i j) then encQ (D i k) + encQ (D k j) else encQ (D i j) := by
  unfold fwStep
  cases h1 : D i k with
  | none => simp [encQ]
  | some x =>
    cases h2 : D k j with
    | none => simp [encQ]
    | some y =>
      have hx := hb _ _ _ h1
      have hy := hb _ _ _ h2
      have hf : farQ = 1152921504606846976 := rfl
      cases h3 : D i j with
      | none =>
        show encQ (some (x + y)) = _
        rw [if_pos (show encQ (some x) < farQ ∧ encQ (some y) < farQ ∧ encQ (some x) + encQ (some y) < encQ none from (by show x < farQ ∧ y < farQ ∧ x + y < farQ; omega))]; rfl
      | some z =>
        show encQ (if x + y < z then some (x + y) else some z) = _
        by_cases hlt : x + y < z
        · rw [if_pos hlt, if_pos (show encQ (some x) < farQ ∧ encQ (some y) < farQ ∧ encQ (some x) + encQ (some y) < encQ (some z) from (by show x < farQ ∧ y < farQ ∧ x + y < z; omega))]; rfl
        · rw [if_neg hlt, if_neg (show ¬ (encQ (some x) < farQ ∧ encQ (some y) < farQ ∧ encQ (some x) + encQ (some y) < encQ (some z)) from (by show ¬ (x < farQ ∧ y < farQ ∧ x + y < z); omega))]
theorem enc_le {v : Option Int} (hb : ∀ c, v = some c → -1073741824 ≤ c ∧ c ≤ 1073741824) : -1073741824 ≤ encQ v ∧ (encQ v ≤ 1073741824 ∨ encQ v = farQ) := by
  cases v with
  | none => exact ⟨by decide, .inr rfl⟩
  | some c => have := hb c rfl; exact ⟨this.1, .inl this.2⟩
/-- In the midst of a round: what lies ahead of a place is done. -/
def matQ (E : Nat → Nat → Option Int) (k a b : Nat) : Nat → Nat → Option Int := fun i j => if i < a ∨ (i = a ∧ j < b) then fwR E (k + 1) i j else fwR E k i j
def numQ (E : Nat → Nat → Option Int) (k a b i j : Nat) : Int := encQ (matQ E k a b i j)
section
variable {E : Nat → Nat → Option Int} {k a b i j n : Nat}
theorem matQ_col (h : ∀ z, fwR E k k k = some z → 0 ≤ z) (i : Nat) : matQ E k a b i k = fwR E k i k := by
  unfold matQ
  split
  · exact fwStep_col h i
  · rfl
theorem matQ_row (h : ∀ z, fwR E k k k = some z → 0 ≤ z) (j : Nat) : matQ E k a b k j = fwR E k k j := by
  unfold matQ
  split
  · exact fwStep_row h j
  · rfl
theorem matQ_here : matQ E k a b a b = fwR E k a b := by unfold matQ; rw [if_neg (by omega)]
theorem numQ_next (hb : ∀ i j c, fwR E k i j = some c → -1073741824 ≤ c ∧ c ≤ 1073741824) (h : ∀ z, fwR E k k k = some z → 0 ≤ z) :
    numQ E k a (b + 1) i j = if i = a ∧ j = b then (if numQ E k a b a k < farQ ∧ numQ E k a b k b < farQ ∧ numQ E k a b a k + numQ E k a b k b < numQ E k a b a b then numQ E k a b a k + numQ E k a b k b else numQ E k a b a b) else numQ E k a b i j := by
  unfold numQ
  by_cases hij : i = a ∧ j = b
  · obtain ⟨rfl, rfl⟩ := hij
    rw [if_pos ⟨rfl, rfl⟩, matQ_col h, matQ_row h, matQ_here, ← step_enc hb]
    have e : matQ E k i (j + 1) i j = fwR E (k + 1) i j := by unfold matQ; rw [if_pos (by omega)]
    rw [e]; rfl
  · rw [if_neg hij]
    have e : matQ E k a (b + 1) i j = matQ E k a b i j := by
      unfold matQ
      by_cases h1 : i < a ∨ (i = a ∧ j < b)
      · rw [if_pos (by omega), if_pos h1]
      · rw [if_neg (by omega), if_neg h1]
    rw [e]
theorem numQ_stay (hb : ∀ i j c, fwR E k i j = some c → -1073741824 ≤ c ∧ c ≤ 1073741824) (h : ∀ z, fwR E k k k = some z → 0 ≤ z) (hs : ¬ (numQ E k a b a k < farQ ∧ numQ E k a b k b < farQ ∧ numQ E k a b a k + numQ E k a b k b < numQ E k a b a b)) : numQ E k a (b + 1) i j = numQ E k a b i j := by
  rw [numQ_next hb h, if_neg hs]
  split
  · rename_i hij; obtain ⟨rfl, rfl⟩ := hij; rfl
  · rfl
theorem numQ_row (hj : j < n) : numQ E k a n i j = numQ E k (a + 1) 0 i j := by
  unfold numQ matQ
  by_cases h1 : i < a ∨ (i = a ∧ j < n)
  · rw [if_pos h1, if_pos (by omega)]
  · rw [if_neg h1, if_neg (by omega)]
theorem numQ_end (hi : i < n) : numQ E k n 0 i j = numQ E (k + 1) 0 0 i j := by
  unfold numQ matQ
  rw [if_pos (.inl hi), if_neg (by omega)]
theorem numQ_zero : numQ E k 0 0 i j = encQ (fwR E k i j) := by unfold numQ matQ; rw [if_neg (by omega)]
theorem matQ_abs (hB : ∀ i j c, E i j = some c → -1048576 ≤ c ∧ c ≤ 1048576) (hk : k + 1 ≤ 10) {c : Int} (h : matQ E k a b i j = some c) : -1073741824 ≤ c ∧ c ≤ 1073741824 := by
  have hp : ∀ l, l ≤ 10 → (1048576 : Int) * 2 ^ l ≤ 1073741824 := fun l hl => by
    have h4 : 2 ^ l ≤ 2 ^ 10 := Nat.pow_le_pow_right (by decide) hl
    have h5 : ((2 ^ l : Nat) : Int) ≤ 1024 := by omega
    have h6 : (2 : Int) ^ l ≤ 1024 := by simpa using h5
    omega
  unfold matQ at h
  split at h
  · have := fwR_abs hB (by omega) _ _ _ _ h
    have := hp (k + 1) hk
    omega
  · have := fwR_abs hB (by omega) _ _ _ _ h
    have := hp k (by omega)
    omega
theorem numQ_abs (hB : ∀ i j c, E i j = some c → -1048576 ≤ c ∧ c ≤ 1048576) (hk : k + 1 ≤ 10) : -1073741824 ≤ numQ E k a b i j ∧ (numQ E k a b i j ≤ 1073741824 ∨ numQ E k a b i j = farQ) :=
  enc_le fun _ h => matQ_abs hB hk h
end
end
end Go.Proofs.Ytkpejmpnbdblbaa
