/- The forests of a graph as a determinant: that of the nodes that are no least ones of their parts. Plain facts. -/
import Derived.Test.YthfgbgmkiggjmabDoorDet
import Derived.Test.YthfgbgmkiggjmabDoorLap
import Derived.Test.YthfgbgmkiggjmabDoorLapM
import Derived.Test.YthfgbgmkiggjmabDoorWithout
import Derived.Test.YthfgbgmkiggjmabDoorPairs
import Derived.Test.YthfgbgmkiggjmabDoorPrufer
namespace Go.Proofs.YthfgbgmkiggjmabDoor

/-- Those that are no least ones of their parts. -/
def manyA (es : List E3) (L : List Nat) (i j : Nat) : Int := lapM es (L.getD i 0) (L.getD j 0)
theorem map_getD_range (L : List Nat) (k : Nat) (hk : k ≤ L.length) : (List.range k).map (fun i => L.getD i 0) = L.take k := by
  apply List.ext_getElem
  · simp; omega
  · intro i h1 h2
    have hi : i < k := by simpa using h1
    simp only [List.getElem_map, List.getElem_range, List.getElem_take]
    rw [List.getD_eq_getElem?_getD, List.getElem?_eq_getElem (by omega)]; rfl
theorem manyA_det (es : List E3) (L : List Nat) (k : Nat) (hk : k ≤ L.length) : det (manyA es L) (List.range k) (List.range k) = detL (pairsN es) id (L.take k) := by
  unfold detL detE
  rw [← map_getD_range L k hk, List.map_map]
  exact (det_map (lapS (pairsN es)) (ind id ∘ fun i => L.getD i 0) (ind id ∘ fun i => L.getD i 0) (List.range k) (List.range k)).symm
theorem rch_const {m : Nat} {es : List E3} (_hin : InE m es) {f : Nat → Bool} (h : ∀ e ∈ pairsN es, f e.1 = f e.2) {i j : Nat} (hr : Rch es i j) : f i = f j := by
  obtain ⟨k, hk⟩ := hr
  induction k generalizing j with
  | zero => rw [show i = j from hk]
  | succ k ih =>
    obtain ⟨x, hx, ha⟩ := hk
    rw [ih hx]
    obtain ⟨e, he, h1⟩ := adjE_mem.1 ha
    have h2 := h (e.1.toNat, e.2.1.toNat) (List.mem_map.2 ⟨e, he, rfl⟩)
    simp only at h2
    rcases h1 with ⟨p, q⟩ | ⟨p, q⟩
    · rw [p, q] at h2; simpa using h2
    · rw [p, q] at h2; simpa using h2.symm
/-- Whoever leaves a root of each part out leaves nothing cut off. -/
theorem tied_roots {m : Nat} {es : List E3} (hin : InE m es) {reps : List Nat} (hr : ∀ i, i ∈ reps → ¬ Root es i) : Tied (pairsN es) id reps := fun f _ h2 h3 i => by
  obtain ⟨r, _, hri, hroot⟩ := least_root es i
  rw [rch_const hin h2 hri]
  exact h3 r (fun hm => hr r hm hroot)
theorem many_pos {m : Nat} {es : List E3} (hin : InE m es) {L : List Nat} (hn : L.Nodup) (hr : ∀ i, i ∈ L → ¬ Root es i) (k : Nat) (hk : k ≤ L.length) : 0 < det (manyA es L) (List.range k) (List.range k) := by
  rw [manyA_det es L k hk]
  have := detL_pos (pairsN es) id (L.take k) ⟨hn.sublist (List.take_sublist _ _), fun r _ => ⟨r, rfl⟩⟩ (tied_roots hin fun i hi => hr i (List.mem_of_mem_take hi))
  omega
/-- An edge seen by one node and by several. -/
def sumU (L : List Nat) (n : Nat) : Nat → Int := fun i => sumF (fun j => ind id (L.getD j 0) i) n
theorem sumF_lap (E : NE) (u : Nat → Int) (v : Nat → Nat → Int) : ∀ n, sumF (fun j => lapS E u (v j)) n = lapS E u (fun i => sumF (fun j => v j i) n)
  | 0 => by
    simp only [sumF]
    induction E with
    | nil => rfl
    | cons e E ih => simp only [lapS]; rw [← ih]; simp
  | n + 1 => by
    simp only [sumF]
    rw [sumF_lap E u v n, ← lapS_add]
theorem sumU_bd {L : List Nat} (hn : L.Nodup) : ∀ n, n ≤ L.length → ∀ i, 0 ≤ sumU L n i ∧ sumU L n i ≤ 1 ∧ (∀ j, j < n → L.getD j 0 = i → sumU L n i = 1) ∧ (sumU L n i = 1 → ∃ j, j < n ∧ L.getD j 0 = i)
  | 0, _, i => by simp [sumU, sumF]
  | n + 1, h, i => by
    obtain ⟨h1, h2, h3, h4⟩ := sumU_bd hn n (by omega) i
    have e : sumU L (n + 1) i = sumU L n i + ind id (L.getD n 0) i := rfl
    have hi : ind id (L.getD n 0) i = if i = L.getD n 0 then 1 else 0 := rfl
    by_cases hin : i = L.getD n 0
    · have h0 : sumU L n i = 0 := by
        rcases Int.lt_or_le 0 (sumU L n i) with h5 | h5
        · obtain ⟨j, hj, hji⟩ := h4 (by omega)
          have hjl : j < L.length := by omega
          have hnl : n < L.length := by omega
          rw [hin, List.getD_eq_getElem?_getD, List.getD_eq_getElem?_getD, List.getElem?_eq_getElem hjl, List.getElem?_eq_getElem hnl] at hji
          simp only [Option.getD_some] at hji
          exact absurd hji ((List.pairwise_iff_getElem.1 hn) j n hjl hnl hj)
        · omega
      rw [e, hi, if_pos hin, h0]
      exact ⟨by omega, by omega, fun _ _ _ => by omega, fun _ => ⟨n, by omega, hin.symm⟩⟩
    · rw [e, hi, if_neg hin]
      refine ⟨by omega, by omega, fun j hj hji => ?_, fun h5 => ?_⟩
      · rcases Nat.lt_or_ge j n with hlt | hge
        · have := h3 j hlt hji; omega
        · obtain rfl : j = n := by omega
          exact absurd hji.symm hin
      · obtain ⟨j, hj, hji⟩ := h4 (by omega)
        exact ⟨j, by omega, hji⟩
theorem lapS_row {m : Nat} {es : List E3} (hs : SomeE m es) {a : Nat} {u : Nat → Int} (hu : ∀ i, 0 ≤ u i ∧ u i ≤ 1) (ha : u a = 1) : 0 ≤ lapS (pairsN es) (ind id a) u := by
  have key : ∀ fs : List E3, (∀ e ∈ fs, e.1.toNat ≠ e.2.1.toNat) → 0 ≤ lapS (pairsN fs) (ind id a) u := by
    intro fs
    induction fs with
    | nil => intro _; exact Int.le_refl _
    | cons e fs ih =>
      intro h
      have h1 := ih (fun x hx => h x (List.mem_cons_of_mem _ hx))
      have hne := h e (List.mem_cons_self ..)
      show 0 ≤ (ind id a e.1.toNat - ind id a e.2.1.toNat) * (u e.1.toNat - u e.2.1.toNat) + lapS (pairsN fs) (ind id a) u
      generalize e.1.toNat = x at *
      generalize e.2.1.toNat = y at *
      have hx := hu x
      have hy := hu y
      simp only [ind_id]
      by_cases h2 : x = a
      · subst h2
        rw [if_pos rfl, if_neg (fun h => hne h.symm), ha]; omega
      · by_cases h3 : y = a
        · subst h3
          rw [if_neg h2, if_pos rfl, ha]; omega
        · rw [if_neg h2, if_neg h3]; simp; exact h1
  exact key es (fun e he hne => by
    obtain ⟨h0, _, h1, _⟩ := hs.inn e he
    have := hs.simp.lt (prE e) (List.mem_map_of_mem he)
    unfold prE pr at this
    simp at this
    omega)
theorem lapM_off {a b : Nat} (hab : a ≠ b) : ∀ es : List E3, lapM es a b ≤ 0
  | [] => Int.le_refl _
  | e :: es => by
    have ih := lapM_off hab es
    show (ind id a e.1.toNat - ind id a e.2.1.toNat) * (ind id b e.1.toNat - ind id b e.2.1.toNat) + lapM es a b ≤ 0
    simp only [ind_id]
    generalize e.1.toNat = x
    generalize e.2.1.toNat = y
    have hba : ¬ b = a := fun e => hab e.symm
    by_cases h1 : x = a <;> by_cases h2 : y = a <;> by_cases h3 : x = b <;> by_cases h4 : y = b <;> simp [h1, h2, h3, h4, hab, hba] <;> omega
theorem lapM_deg (a : Nat) : ∀ es : List E3, (∀ e ∈ es, e.1.toNat ≠ e.2.1.toNat) → lapM es a a = (degP (prsE es) a : Nat)
  | [], _ => rfl
  | e :: es, h => by
    have ih := lapM_deg a es (fun x hx => h x (List.mem_cons_of_mem _ hx))
    have hne := h e (List.mem_cons_self ..)
    show (ind id a e.1.toNat - ind id a e.2.1.toNat) * (ind id a e.1.toNat - ind id a e.2.1.toNat) + lapM es a a = ((degP (prE e :: prsE es) a : Nat) : Int)
    unfold prE
    rw [degP_cons, has_pr, ih]
    simp only [ind_id]
    generalize e.1.toNat = x at *
    generalize e.2.1.toNat = y at *
    by_cases h1 : x = a <;> by_cases h2 : y = a <;> simp [h1, h2] <;> omega
theorem deg_le {m : Nat} {G : List Pr} (hs : Simp G) (hin : InG m G) (hm : m ≤ 10) (a : Nat) : degP G a ≤ 9 := by
  rcases Nat.lt_or_ge a m with ha | ha
  · rw [← nbs_deg m a G hs hin]
    have h1 : (List.range m).countP (fun j => adjP G a j) ≤ (List.range m).countP (fun j => !(j == a)) := List.countP_mono_left fun j _ hj => by
      have := hs.ne (adjP_iff.1 hj)
      simp; omega
    have h2 : (List.range m).countP (fun j => !(j == a)) + (List.range m).countP (fun j => j == a) = m := by
      have := countP_not (fun j => j == a) (List.range m)
      rw [List.length_range] at this
      omega
    rw [countP_eq_one a m ha] at h2
    omega
  · rw [degP_out hs hin ha]; omega
theorem many_lap {m : Nat} {es : List E3} (hs : SomeE m es) (hm : m ≤ 10) {L : List Nat} (hn : L.Nodup) : LapT L.length 9 (manyA es L) := by
  have hne : ∀ e ∈ es, e.1.toNat ≠ e.2.1.toNat := fun e he hne => by
    have := hs.simp.lt (prE e) (List.mem_map_of_mem he)
    unfold prE pr at this
    simp at this
    omega
  refine ⟨fun i j _ _ => lapS_comm _ _ _, fun i j hi hj hij => lapM_off (fun e => ?_) es, fun i hi => ?_, fun i _ => ?_⟩
  · rw [List.getD_eq_getElem?_getD, List.getD_eq_getElem?_getD, List.getElem?_eq_getElem hi, List.getElem?_eq_getElem hj] at e
    simp only [Option.getD_some] at e
    rcases Nat.lt_trichotomy i j with h | h | h
    · exact absurd e ((List.pairwise_iff_getElem.1 hn) i j hi hj h)
    · exact hij h
    · exact absurd e.symm ((List.pairwise_iff_getElem.1 hn) j i hj hi h)
  · show 0 ≤ sumF (fun j => lapS (pairsN es) (ind id (L.getD i 0)) (ind id (L.getD j 0))) L.length
    rw [sumF_lap]
    have hb := sumU_bd hn L.length (Nat.le_refl _)
    exact lapS_row hs (u := sumU L L.length) (fun x => ⟨(hb x).1, (hb x).2.1⟩) ((hb _).2.2.1 i hi rfl)
  · show lapM es _ _ ≤ 9
    rw [lapM_deg _ es hne]
    have := deg_le hs.simp hs.inG hm (L.getD i 0)
    omega
end Go.Proofs.YthfgbgmkiggjmabDoor
