/- The table of edges, as the form of edges says it. Plain facts. -/
import Derived.Test.YthfgbgmkiggjmabDoorLap
import Derived.Test.YthfgbgmkiggjmabDoorGood
import Derived.Test.YthfgbgmkiggjmabDoorTbl
namespace Go.Proofs.YthfgbgmkiggjmabDoor

def pairsN (es : List E3) : NE := es.map fun e => (e.1.toNat, e.2.1.toNat)
def lapM (es : List E3) (a b : Nat) : Int := lapS (pairsN es) (ind id a) (ind id b)
theorem ind_id (a i : Nat) : ind id a i = if i = a then 1 else 0 := rfl
theorem lapS_snoc (E : NE) (e : Nat × Nat) (u v : Nat → Int) : lapS (E ++ [e]) u v = lapS E u v + (u e.1 - u e.2) * (v e.1 - v e.2) := by
  rw [lapS_perm (List.perm_append_comm (l₁ := E) (l₂ := [e])) u v]
  show (u e.1 - u e.2) * (v e.1 - v e.2) + lapS E u v = _
  omega
theorem lapM_nil (a b : Nat) : lapM [] a b = 0 := rfl
theorem pairsN_snoc (es : List E3) (i j : Nat) (c : Int) : pairsN (es ++ [((i : Int), (j : Int), c)]) = pairsN es ++ [(i, j)] := by simp [pairsN]
theorem lapM_snoc (es : List E3) (i j : Nat) (c : Int) (a b : Nat) : lapM (es ++ [((i : Int), (j : Int), c)]) a b = lapM es a b + (ind id a i - ind id a j) * (ind id b i - ind id b j) := by
  unfold lapM
  rw [pairsN_snoc, lapS_snoc]
/-- No edge, nothing. -/
theorem lapM_zero {i j : Nat} (hij : i ≠ j) : ∀ es : List E3, (∀ e ∈ es, ¬ ((e.1.toNat = i ∧ e.2.1.toNat = j) ∨ (e.1.toNat = j ∧ e.2.1.toNat = i))) → lapM es i j = 0
  | [], _ => rfl
  | e :: es, h => by
    have ih := lapM_zero hij es (fun x hx => h x (List.mem_cons_of_mem _ hx))
    have h0 := h e (List.mem_cons_self ..)
    show (ind id i e.1.toNat - ind id i e.2.1.toNat) * (ind id j e.1.toNat - ind id j e.2.1.toNat) + lapM es i j = 0
    rw [ih]
    simp only [ind_id]
    generalize e.1.toNat = x at *
    generalize e.2.1.toNat = y at *
    by_cases h1 : x = i <;> by_cases h2 : y = i <;> by_cases h3 : x = j <;> by_cases h4 : y = j <;> simp [h1, h2, h3, h4] <;> omega
theorem lapM_diag : ∀ (es : List E3) (a : Nat), 0 ≤ lapM es a a ∧ lapM es a a ≤ es.length
  | [], _ => by simp [lapM_nil]
  | e :: es, a => by
    have ih := lapM_diag es a
    have h : lapM (e :: es) a a = (ind id a e.1.toNat - ind id a e.2.1.toNat) * (ind id a e.1.toNat - ind id a e.2.1.toNat) + lapM es a a := rfl
    rw [h]
    simp only [ind_id, List.length_cons]
    by_cases h1 : e.1.toNat = a <;> by_cases h2 : e.2.1.toNat = a <;> simp [h1, h2] <;> omega
/-- An edge more, as the program writes it. -/
theorem lapM_next {n : Int} {es : List E3} (hg : goodE n es) {k i j : Nat} {c : Int} (hk : es[k]? = some ((i : Int), (j : Int), c)) (a b : Nat) :
    updG (updG (updG (updG (lapM (es.take k)) i i (lapM (es.take k) i i + 1)) j j (lapM (es.take k) j j + 1)) i j (-1)) j i (-1) a b = lapM (es.take (k + 1)) a b := by
  obtain ⟨_, _, _, _, hne, hmet⟩ := edge_ok (hg k _ hk)
  have hij : i ≠ j := fun e => hne (by rw [e])
  have hlt : k < es.length := (List.getElem?_eq_some_iff.1 hk).1
  have htk : es.take (k + 1) = es.take k ++ [((i : Int), (j : Int), c)] := by
    obtain ⟨h1, h2⟩ := List.getElem?_eq_some_iff.1 hk
    rw [List.take_succ_eq_append_getElem h1, h2]
  have hno : ∀ e ∈ es.take k, ¬ ((e.1.toNat = i ∧ e.2.1.toNat = j) ∨ (e.1.toNat = j ∧ e.2.1.toNat = i)) := fun e he hh => by
    obtain ⟨q, hq⟩ := List.getElem?_of_mem he
    have hqk : q < k := by have := (List.getElem?_eq_some_iff.1 hq).1; rw [List.length_take] at this; omega
    rw [List.getElem?_take, if_pos hqk] at hq
    obtain ⟨e0, _, e2, _, _, _⟩ := edge_ok (hg q _ hq)
    unfold metB at hmet
    rw [List.any_eq_false] at hmet
    refine hmet e he ?_
    unfold sameB
    simp
    omega
  have z1 := lapM_zero hij (es.take k) hno
  have z2 := lapM_zero (Ne.symm hij) (es.take k) (fun e he hh => hno e he (by omega))
  rw [htk, lapM_snoc]
  simp only [ind_id]
  unfold updG
  clear hno hmet htk hk hg
  generalize lapM (es.take k) = f at *
  by_cases h1 : a = i
  · subst h1
    by_cases h3 : b = a
    · subst h3
      have hji : ¬ j = b := fun e => hij e.symm
      simp [hij, hji]
    · by_cases h4 : b = j
      · subst h4
        have hji : ¬ b = a := fun e => hij e.symm
        simp [hij, hji, z1]
      · have h3' : ¬ a = b := fun e => h3 e.symm
        have h4' : ¬ j = b := fun e => h4 e.symm
        simp [hij, h3, h4, h3', h4']
  · by_cases h2 : a = j
    · subst h2
      have hia : ¬ i = a := hij
      by_cases h3 : b = i
      · subst h3
        have h9 : ¬ a = b := fun e => hij e.symm
        simp [hij, h9, z2]
      · by_cases h4 : b = a
        · subst h4
          have h9 : ¬ b = i := fun e => hij e.symm
          simp [hij, h9]
        · have h3' : ¬ i = b := fun e => h3 e.symm
          have h4' : ¬ a = b := fun e => h4 e.symm
          have h9 : ¬ a = i := fun e => hij e.symm
          simp [hij, h3, h4, h3', h4', h9]
    · have h1' : ¬ i = a := fun e => h1 e.symm
      have h2' : ¬ j = a := fun e => h2 e.symm
      simp [h1, h2, h1', h2']
end Go.Proofs.YthfgbgmkiggjmabDoor
