/- The first order of jobs, by taking the least place that is ready, again and again. Plain facts, of no program. -/
import Derived.Test.YthjhndbhebnmjaaLineP
import Derived.Test.YthjhndbhebnmjaaJobsCheck
import Derived.Test.YthjhndbhebnmjaaHas
namespace Go.Proofs.Ythjhndbhebnmjaa

def jobD : JobV := ⟨0, [], 0, 0⟩
def jobsP (js : List JobV) : JobsP := ⟨js.length, fun i k => hasI (js.getD i jobD).aft (k : Int), fun i => (js.getD i jobD).time⟩
def natI (l : List Nat) : List Int := l.map fun n : Nat => (n : Int)
theorem natI_mem {l : List Nat} {k : Nat} : (k : Int) ∈ natI l ↔ k ∈ l := by
  unfold natI
  rw [List.mem_map]
  constructor
  · rintro ⟨x, hx, e⟩
    have : x = k := by omega
    rw [← this]; exact hx
  · exact fun h => ⟨k, h, rfl⟩
theorem hasI_nat {l : List Nat} {k : Nat} : hasI (natI l) (k : Int) = true ↔ k ∈ l := by rw [hasI_iff, natI_mem]
/-- May i go next, behind those of l? -/
def readyB (js : List JobV) (l : List Nat) (i : Nat) : Bool := !hasI (natI l) (i : Int) && (js.getD i jobD).aft.all (hasI (natI l))
/-- The least one from i on. -/
def nextF (f : Nat → Bool) (n i : Nat) : Option Nat := (List.range' i (n - i)).find? f
def ordF (js : List JobV) : Nat → List Nat → Option (List Nat)
  | 0, l => some l
  | r + 1, l => match nextF (readyB js l) js.length 0 with
    | none => none
    | some i => ordF js r (l ++ [i])
section
variable {f : Nat → Bool} {n i : Nat}
theorem nextF_end : nextF f n n = none := by unfold nextF; rw [Nat.sub_self]; rfl
theorem nextF_step (h : i < n) : nextF f n i = if f i = true then some i else nextF f n (i + 1) := by
  have e : n - i = (n - (i + 1)) + 1 := by omega
  unfold nextF
  rw [e, List.range'_succ, List.find?_cons]
  cases hf : f i with
  | true => rfl
  | false => simp
theorem nextF_some {k : Nat} (h : nextF f n i = some k) : i ≤ k ∧ k < n ∧ f k = true := by
  unfold nextF at h
  have h1 := List.find?_some h
  have h2 := List.mem_of_find?_eq_some h
  rw [List.mem_range'_1] at h2
  exact ⟨h2.1, by omega, h1⟩
theorem nextF_none (h : nextF f n i = none) : ∀ k, i ≤ k → k < n → f k = false := by
  unfold nextF at h
  rw [List.find?_eq_none] at h
  exact fun k h1 h2 => by
    have := h k (by rw [List.mem_range'_1]; omega)
    simpa using this
theorem nextF_first {k : Nat} (h : nextF f n i = some k) : ∀ x, i ≤ x → x < k → f x = false := fun x h1 h2 => by
  obtain ⟨_, h3, _⟩ := nextF_some h
  have key : ∀ d i, i + d = x → nextF f n i = some k → f x = false := fun d => by
    induction d with
    | zero =>
      intro i hi h
      rw [nextF_step (by omega)] at h
      have e : i = x := by omega
      subst e
      split at h
      · injection h with h; omega
      · rename_i h0; simpa using h0
    | succ d ih =>
      intro i hi h
      rw [nextF_step (by omega)] at h
      split at h
      · injection h with h; omega
      · exact ih (i + 1) (by omega) h
  exact key (x - i) i (by omega) h
theorem left_some : ∀ (n : Nat) (l : List Nat), l.length < n → ∃ i, i < n ∧ i ∉ l := fun n l hl => by
  apply Classical.byContradiction
  intro hc
  have hall : ∀ i, i < n → i ∈ l := fun i hi => Classical.byContradiction fun h => hc ⟨i, hi, h⟩
  have key : ∀ (n : Nat) (l : List Nat), (∀ i, i < n → i ∈ l) → n ≤ l.length := fun n => by
    induction n with
    | zero => exact fun _ _ => Nat.zero_le _
    | succ n ih =>
      intro l h
      have h1 := ih (l.filter fun x => x != n) fun i hi => by
        rw [List.mem_filter]
        exact ⟨h i (by omega), by simp; omega⟩
      have h2 : (l.filter fun x => x != n).length < l.length := by
        rw [List.length_filter_lt_length_iff_exists]
        exact ⟨n, h n (by omega), by simp⟩
      omega
  have := key n l hall
  omega
theorem all_of_nodup : ∀ (n : Nat) (l : List Nat), l.Nodup → (∀ x ∈ l, x < n) → n ≤ l.length → ∀ i, i < n → i ∈ l := fun n l hn hl hlen i hi => by
  apply Classical.byContradiction
  intro hc
  have key : ∀ (n : Nat) (l : List Nat), l.Nodup → (∀ x ∈ l, x < n) → l.length ≤ n := fun n => by
    induction n with
    | zero =>
      intro l _ h
      cases l with
      | nil => exact Nat.le_refl _
      | cons x l => exact absurd (h x (List.mem_cons_self ..)) (by omega)
    | succ n ih =>
      intro l hn h
      by_cases hm : n ∈ l
      · have h1 := ih (l.erase n) (hn.erase _) fun x hx => by
          have hx1 := h x (List.mem_of_mem_erase hx)
          have hx2 : x ≠ n := fun e => by
            subst e
            exact (List.Nodup.not_mem_erase hn) hx
          omega
        have h2 := List.length_erase_of_mem hm
        have h3 := List.length_pos_of_mem hm
        omega
      · have h1 := ih l hn fun x hx => by
          have hx1 := h x hx
          have hx2 : x ≠ n := fun e => by subst e; exact hm hx
          omega
        omega
  have h1 := key n (i :: l) (List.nodup_cons.2 ⟨hc, hn⟩) fun x hx => by
    rcases List.mem_cons.1 hx with rfl | hx
    · exact hi
    · exact hl x hx
  simp only [List.length_cons] at h1
  omega
end
section
variable {js : List JobV} {l : List Nat}
theorem readyB_iff (hA : ∀ j ∈ js, RightA js.length j) {i : Nat} (hi : i < js.length) : readyB js l i = true ↔ readyP (jobsP js) l i := by
  have hj : js.getD i jobD ∈ js := by
    rw [List.getD_eq_getElem?_getD, List.getElem?_eq_getElem hi]
    exact List.getElem_mem _
  unfold readyB readyP
  rw [Bool.and_eq_true, Bool.not_eq_true', ← Bool.not_eq_true, hasI_nat, List.all_eq_true]
  constructor
  · rintro ⟨h1, h2⟩
    exact ⟨hi, h1, fun k hk => hasI_nat.1 (h2 _ (hasI_iff.1 hk))⟩
  · rintro ⟨_, h1, h2⟩
    refine ⟨h1, fun x hx => ?_⟩
    obtain ⟨x, rfl⟩ := Int.eq_ofNat_of_zero_le (hA _ hj x hx).1
    exact hasI_nat.2 (h2 x (hasI_iff.2 hx))
theorem ord_ok (hA : ∀ j ∈ js, RightA js.length j) : ∀ (r : Nat) (l l' : List Nat), OrderP (jobsP js) l → ordF js r l = some l' → OrderP (jobsP js) l' ∧ l'.length = l.length + r
  | 0, l, l', h, e => by
    have e' : some l = some l' := e
    injection e' with e'
    subst e'
    exact ⟨h, rfl⟩
  | r + 1, l, l', h, e => by
    cases hn : nextF (readyB js l) js.length 0 with
    | none =>
      have e' : (match nextF (readyB js l) js.length 0 with | none => none | some i => ordF js r (l ++ [i])) = some l' := e
      rw [hn] at e'
      cases e'
    | some i =>
      have e' : (match nextF (readyB js l) js.length 0 with | none => none | some i => ordF js r (l ++ [i])) = some l' := e
      rw [hn] at e'
      obtain ⟨_, h2, h3⟩ := nextF_some hn
      obtain ⟨h4, h5⟩ := ord_ok hA r (l ++ [i]) l' (h.snoc ((readyB_iff hA h2).1 h3)) e'
      exact ⟨h4, by rw [h5]; simp; omega⟩
theorem ord_all (h : OrderP (jobsP js) l) (hl : l.length = js.length) : ∀ i, i < js.length → i ∈ l := all_of_nodup _ l h.nd h.lt (by omega)
/-- Where there is an order of all, one is found. -/
theorem ord_some (hA : ∀ j ∈ js, RightA js.length j) {o : List Nat} (ho : OrderP (jobsP js) o) (hall : ∀ i, i < js.length → i ∈ o) : ∀ (r : Nat) (l : List Nat), l.length + r = js.length → ∃ l', ordF js r l = some l'
  | 0, l, _ => ⟨l, rfl⟩
  | r + 1, l, hl => by
    obtain ⟨i, hi⟩ := ready_ex (l := l) ho hall (left_some js.length l (by omega))
    cases hn : nextF (readyB js l) js.length 0 with
    | none =>
      have h1 := nextF_none hn i (Nat.zero_le _) hi.1
      rw [(readyB_iff hA hi.1).2 hi] at h1
      cases h1
    | some k =>
      obtain ⟨l', h⟩ := ord_some hA ho hall r (l ++ [k]) (by simp; omega)
      refine ⟨l', ?_⟩
      show (match nextF (readyB js l) js.length 0 with | none => none | some i => ordF js r (l ++ [i])) = some l'
      rw [hn]; exact h
theorem ordF_step {r i : Nat} (h : nextF (readyB js l) js.length 0 = some i) : ordF js (r + 1) l = ordF js r (l ++ [i]) := by
  show (match nextF (readyB js l) js.length 0 with | none => none | some i => ordF js r (l ++ [i])) = _
  rw [h]
theorem ordF_stuck {r : Nat} (h : nextF (readyB js l) js.length 0 = none) : ordF js (r + 1) l = none := by
  show (match nextF (readyB js l) js.length 0 with | none => none | some i => ordF js r (l ++ [i])) = _
  rw [h]
end
end Go.Proofs.Ythjhndbhebnmjaa
