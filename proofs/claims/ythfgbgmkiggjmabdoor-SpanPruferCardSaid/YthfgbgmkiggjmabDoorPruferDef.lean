/- PRUFER, plain: who goes next, and what stands in the list of how often each is still to be told. No conditions. -/
import Derived.Test.YthfgbgmkiggjmabDoorPlain
namespace Go.Proofs.YthfgbgmkiggjmabDoor

theorem all_len : ∀ (n : Nat) (l : List Nat), (∀ i, i < n → i ∈ l) → n ≤ l.length
  | 0, _, _ => Nat.zero_le _
  | n + 1, l, h => by
    have h1 := h n (by omega)
    have h2 := all_len n (l.erase n) (fun i hi => (List.mem_erase_of_ne (by omega)).2 (h i (by omega)))
    have h3 := List.length_erase_of_mem h1
    have h4 := List.length_pos_of_mem h1
    omega
/-- The least number that a list lacks. -/
def freeN (l : List Nat) : Nat := ((List.range (l.length + 1)).find? fun i => !l.contains i).getD 0
theorem freeN_props (l : List Nat) : freeN l ≤ l.length ∧ freeN l ∉ l ∧ ∀ j, j < freeN l → j ∈ l := by
  unfold freeN
  cases h : (List.range (l.length + 1)).find? fun i => !l.contains i with
  | none =>
    rw [List.find?_eq_none] at h
    have := all_len (l.length + 1) l (fun i hi => by
      have := h i (List.mem_range.2 hi)
      simpa using this)
    omega
  | some k =>
    rw [List.find?_range_eq_some] at h
    obtain ⟨h1, h2, h3⟩ := h
    simp only [Option.getD_some]
    have h2 := List.mem_range.1 h2
    exact ⟨by omega, by simpa using h1, fun j hj => by simpa using h3 j hj⟩
theorem freeN_le (l : List Nat) : freeN l ≤ l.length := (freeN_props l).1
theorem freeN_not (l : List Nat) : freeN l ∉ l := (freeN_props l).2.1
theorem freeN_below {l : List Nat} {j : Nat} (h : j < freeN l) : j ∈ l := (freeN_props l).2.2 j h
theorem freeN_eq {l : List Nat} {k : Nat} (h1 : k ∉ l) (h2 : ∀ j, j < k → j ∈ l) : freeN l = k := by
  rcases Nat.lt_trichotomy (freeN l) k with h | h | h
  · exact absurd (h2 _ h) (freeN_not l)
  · exact h
  · exact absurd (freeN_below h) h1

/-- Who has gone behind so many numbers of a code. -/
def goneK (cs : List Nat) : Nat → List Nat
  | 0 => []
  | k + 1 => goneK cs k ++ [freeN (goneK cs k ++ cs.drop k)]
def nextK (cs : List Nat) (k : Nat) : Nat := freeN (goneK cs k ++ cs.drop k)
theorem goneK_succ (cs : List Nat) (k : Nat) : goneK cs (k + 1) = goneK cs k ++ [nextK cs k] := rfl
theorem goneK_length (cs : List Nat) : ∀ k, (goneK cs k).length = k
  | 0 => rfl
  | k + 1 => by rw [goneK, List.length_append, goneK_length cs k]; rfl
theorem nextK_lt {cs : List Nat} {k : Nat} (hk : k ≤ cs.length) : nextK cs k ≤ cs.length := by
  have := freeN_le (goneK cs k ++ cs.drop k)
  rw [List.length_append, goneK_length, List.length_drop] at this
  unfold nextK
  omega
theorem goneK_apart (cs : List Nat) : ∀ k, ∀ v ∈ goneK cs k, v ∉ cs.drop k
  | 0, v, h => by simp [goneK] at h
  | k + 1, v, h => by
    rw [goneK, List.mem_append, List.mem_singleton] at h
    have hd : ∀ x, x ∈ cs.drop (k + 1) → x ∈ cs.drop k := fun x hx => by
      rw [← List.drop_drop] at hx
      exact List.mem_of_mem_drop hx
    rcases h with h | rfl
    · exact fun hv => goneK_apart cs k v h (hd v hv)
    · exact fun hv => freeN_not (goneK cs k ++ cs.drop k) (List.mem_append_right _ (hd _ hv))
theorem goneK_nodup (cs : List Nat) : ∀ k, (goneK cs k).Nodup
  | 0 => List.nodup_nil
  | k + 1 => by
    rw [goneK, List.nodup_append]
    refine ⟨goneK_nodup cs k, by simp, fun a ha b hb => ?_⟩
    rw [List.mem_singleton] at hb
    subst hb
    intro e
    subst e
    exact freeN_not (goneK cs k ++ cs.drop k) (List.mem_append_left _ ha)
/-- The edges that one knows behind so many numbers of a code. -/
def decE (cs : List Nat) : Nat → List E3
  | 0 => []
  | k + 1 => decE cs k ++ [(((nextK cs k : Nat) : Int), ((cs.getD k 0 : Nat) : Int), (0 : Int))]
theorem decE_length (cs : List Nat) : ∀ k, (decE cs k).length = k
  | 0 => rfl
  | k + 1 => by rw [decE, List.length_append, decE_length cs k]; rfl
def lastA (cs : List Nat) : Nat := freeN (goneK cs cs.length)
def lastB (cs : List Nat) : Nat := freeN (goneK cs cs.length ++ [lastA cs])
def decAll (cs : List Nat) : List E3 := decE cs cs.length ++ [(((lastA cs : Nat) : Int), ((lastB cs : Nat) : Int), (0 : Int))]
theorem decAll_length (cs : List Nat) : (decAll cs).length = cs.length + 1 := by rw [decAll, List.length_append, decE_length]; rfl
theorem lastA_le (cs : List Nat) : lastA cs ≤ cs.length := by have := freeN_le (goneK cs cs.length); rw [goneK_length] at this; exact this
theorem lastB_le (cs : List Nat) : lastB cs ≤ cs.length + 1 := by have := freeN_le (goneK cs cs.length ++ [lastA cs]); rw [List.length_append, goneK_length] at this; exact this
theorem nextK_end (cs : List Nat) : nextK cs cs.length = lastA cs := by unfold nextK lastA; rw [List.drop_length, List.append_nil]
theorem lastA_lt_lastB (cs : List Nat) : lastA cs < lastB cs := by
  rcases Nat.lt_trichotomy (lastA cs) (lastB cs) with h | h | h
  · exact h
  · exact absurd (show lastB cs ∈ goneK cs cs.length ++ [lastA cs] by rw [← h]; simp) (freeN_not (goneK cs cs.length ++ [lastA cs]))
  · have h1 : lastB cs ∈ goneK cs cs.length := freeN_below h
    exact absurd (List.mem_append_left _ h1) (freeN_not (goneK cs cs.length ++ [lastA cs]))

/-- How often each is still to be told; -1 once it went. -/
def tcF (gone rest : List Nat) (v : Nat) : Int := if gone.contains v = true then -1 else (rest.count v : Int)
theorem tcF_gone {gone rest : List Nat} {v : Nat} (h : v ∈ gone) : tcF gone rest v = -1 := by unfold tcF; rw [if_pos (by simpa using h)]
theorem tcF_not {gone rest : List Nat} {v : Nat} (h : v ∉ gone) : tcF gone rest v = (rest.count v : Int) := by unfold tcF; rw [if_neg (by simpa using h)]
theorem tcF_zero {gone rest : List Nat} {v : Nat} (h1 : v ∉ gone ++ rest) : tcF gone rest v = 0 := by
  rw [List.mem_append] at h1
  rw [tcF_not (fun h => h1 (.inl h)), List.count_eq_zero_of_not_mem (fun h => h1 (.inr h))]; rfl
theorem tcF_some {gone rest : List Nat} {v : Nat} (h1 : v ∈ gone ++ rest) : tcF gone rest v ≠ 0 := by
  by_cases h : v ∈ gone
  · rw [tcF_gone h]; decide
  · rw [tcF_not h]
    have := List.count_pos_iff.2 ((List.mem_append.1 h1).resolve_left h)
    omega
theorem tcF_take (gone rest : List Nat) (k v : Nat) : (if v = k then -1 else tcF gone rest v) = tcF (gone ++ [k]) rest v := by
  by_cases h : v = k
  · rw [if_pos h, tcF_gone (by simp [h])]
  · rw [if_neg h]
    by_cases hg : v ∈ gone
    · rw [tcF_gone hg, tcF_gone (by simp [hg])]
    · rw [tcF_not hg, tcF_not (by simp [hg, h])]
theorem tcF_told {gone rest : List Nat} {c : Nat} (hc : c ∉ gone) (v : Nat) : (if v = c then tcF gone (c :: rest) c - 1 else tcF gone (c :: rest) v) = tcF gone rest v := by
  by_cases h : v = c
  · subst h
    rw [if_pos rfl, tcF_not hc, tcF_not hc, List.count_cons_self]
    omega
  · rw [if_neg h]
    by_cases hg : v ∈ gone
    · rw [tcF_gone hg, tcF_gone hg]
    · rw [tcF_not hg, tcF_not hg, List.count_cons_of_ne (by omega)]
def intsN (l : List Nat) : List Int := l.map fun n : Nat => (n : Int)
theorem intsN_length (l : List Nat) : (intsN l).length = l.length := by simp [intsN]
theorem intsN_get {l : List Nat} {k : Nat} {x : Int} (h : (intsN l)[k]? = some x) : ∃ c : Nat, l[k]? = some c ∧ x = (c : Int) := by
  unfold intsN at h
  rw [List.getElem?_map, Option.map_eq_some_iff] at h
  obtain ⟨c, h1, h2⟩ := h
  exact ⟨c, h1, h2.symm⟩
end Go.Proofs.YthfgbgmkiggjmabDoor
