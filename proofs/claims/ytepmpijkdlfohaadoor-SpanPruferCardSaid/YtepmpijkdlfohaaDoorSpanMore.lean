/- KRUSKAL, PRIM, JARNIK, plain: the kept edges are a forest, no other one weighs less, and of each cut one of the lightest is kept. No conditions. -/
import Derived.Test.YtepmpijkdlfohaaDoorSpanPlain
namespace Go.Proofs.YtepmpijkdlfohaaDoor

section
variable {m : Nat} {es : List E3}
theorem allS_nodup : (allS es).Nodup := List.nodup_range
theorem keptS_nodup : (keptS es).Nodup := allS_nodup.filter _
theorem keptS_lt {i : Nat} (h : i ∈ keptS es) : i < es.length := (mem_keptS.1 h).1
theorem kept_rch (hin : InE m es) (i j : Nat) : Rch (eg es (keptS es)) i j ↔ Rch es i j := by
  constructor
  · intro h
    have h2 : Rch (eg es (allS es)) i j := h.sub (eg_sub fun k hk => List.mem_range.2 (keptS_lt hk))
    rwa [eg_all] at h2
  · intro h
    rw [← eg_all es] at h
    exact kept_span hin (T := allS es) (fun k hk => List.mem_range.1 hk) (fun _ k _ hk _ => List.mem_range.2 hk) (S := keptS es) (fun k hk _ => mem_keptS.2 hk) h
theorem kept_forest (hin : InE m es) : rootsN m es + (keptS es).length = m := by
  have h1 := kept_count hin _ (keptS es) rfl keptS_nodup (fun i hi => mem_keptS.1 hi)
  rwa [rootsN_congr m (kept_rch hin)] at h1
def sumW (es : List E3) (S : List Nat) : Int := (S.map (wAt es)).sum

theorem part_of (p : Nat → Bool) : ∀ S : List Nat, (S.filter p ++ S.filter fun i => !p i).Perm S
  | [] => by simp
  | x :: S => by
    have ih := part_of p S
    by_cases h : p x = true
    · rw [List.filter_cons_of_pos h, List.filter_cons_of_neg (by simp [h]), List.cons_append]
      exact ih.cons x
    · rw [List.filter_cons_of_neg h, List.filter_cons_of_pos (by simpa using h)]
      exact List.perm_middle.trans (ih.cons x)
theorem kept_lightest (hin : InE m es) (hw : ∀ e ∈ es, -1048576 ≤ e.2.2 ∧ e.2.2 ≤ 1048576) {S : List Nat} (hS : ∀ i ∈ S, i < es.length) (hf : rootsN m (eg es S) + S.length = m) (hl : S.length = (keptS es).length) : sumW es (keptS es) ≤ sumW es S := by
  have bound : ∀ i, i < es.length → -((1048576 : Nat) : Int) ≤ wAt es i ∧ wAt es i ≤ -((1048576 : Nat) : Int) + (2097152 : Nat) := fun i hi => by
    have := hw _ (edgeAt_mem hi)
    unfold wAt
    omega
  refine sum_le (M := 1048576) 2097152 _ _ (fun x hx => ?_) (fun y hy => ?_) (by simp [hl]) (fun t => ?_)
  · obtain ⟨i, hi, rfl⟩ := List.mem_map.1 hx
    exact bound i (keptS_lt hi)
  · obtain ⟨i, hi, rfl⟩ := List.mem_map.1 hy
    exact bound i (hS i hi)
  · rw [List.countP_map, List.countP_map]
    let p : Nat → Bool := fun i => decide (wAt es i ≤ t)
    show S.countP p ≤ (keptS es).countP p
    rw [← filter_len, ← filter_len]
    have hp := part_of p S
    have h1 : rootsN m (eg es (S.filter p)) + (S.filter p).length = m := by
      have e1 : eg es (S.filter p) ++ eg es (S.filter fun i => !p i) = eg es (S.filter p ++ S.filter fun i => !p i) := by simp [eg]
      have hq : (eg es (S.filter p ++ S.filter fun i => !p i)).Perm (eg es S) := hp.map _
      have h := acyc_sub (m := m) (F := eg es (S.filter p)) (G := eg es (S.filter fun i => !p i)) (by
        rw [e1]
        exact eg_in hin fun i hi => hS i (hp.mem_iff.1 hi)) (by
        rw [e1, rootsN_congr m (rch_perm hq), hq.length_eq, eg_len]
        exact hf)
      rwa [eg_len] at h
    have h2 := kept_count hin _ ((keptS es).filter p) rfl (keptS_nodup.filter _) (fun i hi => mem_keptS.1 ((List.mem_filter.1 hi).1))
    have h3 : rootsN m (eg es ((keptS es).filter p)) ≤ rootsN m (eg es (S.filter p)) := by
      refine rootsN_mono m fun i j hr => ?_
      have hr2 : Rch (eg es ((allS es).filter p)) i j := hr.sub (eg_sub fun k hk => by
        obtain ⟨hk1, hk2⟩ := List.mem_filter.1 hk
        exact List.mem_filter.2 ⟨List.mem_range.2 (hS k hk1), hk2⟩)
      refine kept_span hin (T := (allS es).filter p) (fun k hk => List.mem_range.1 ((List.mem_filter.1 hk).1)) (fun k l hk hl hlk => ?_) (fun k hk hkT => ?_) hr2
      · refine List.mem_filter.2 ⟨List.mem_range.2 hl, ?_⟩
        have h4 := (List.mem_filter.1 hk).2
        simp only [p, decide_eq_true_eq] at h4 ⊢
        rw [ahead_iff] at hlk
        omega
      · exact List.mem_filter.2 ⟨mem_keptS.2 hk, (List.mem_filter.1 hkT).2⟩
    omega

/-- Some of a list is the first of it. -/
theorem first_of {S : List Nat} (h : S ≠ []) : ∃ i ∈ S, ∀ j ∈ S, j ≠ i → aheadB es i j = true := by
  induction S with
  | nil => exact absurd rfl h
  | cons x S ih =>
    by_cases hS : S = []
    · subst hS
      exact ⟨x, List.mem_cons_self .., fun j hj hne => by simp at hj; exact absurd hj hne⟩
    · obtain ⟨i, hi, hl⟩ := ih hS
      by_cases hxi : x = i
      · subst hxi
        exact ⟨x, List.mem_cons_self .., fun j hj hne => by
          rcases List.mem_cons.1 hj with rfl | hj
          · exact absurd rfl hne
          · exact hl j hj hne⟩
      · rcases ahead_total (es := es) hxi with h1 | h1
        · refine ⟨x, List.mem_cons_self .., fun j hj hne => ?_⟩
          rcases List.mem_cons.1 hj with rfl | hj
          · exact absurd rfl hne
          · by_cases hji : j = i
            · rw [hji]; exact h1
            · exact ahead_trans h1 (hl j hj hji)
        · refine ⟨i, List.mem_cons_of_mem _ hi, fun j hj hne => ?_⟩
          rcases List.mem_cons.1 hj with rfl | hj
          · exact h1
          · exact hl j hj hne
/-- Does an edge lead out of a set? -/
def crossB (c : Int → Bool) (e : E3) : Bool := c e.1 != c e.2.1
theorem rch_side {F : List E3} {c : Int → Bool} (h : ∀ e ∈ F, crossB c e = false) {i j : Nat} (hr : Rch F i j) : c (i : Int) = c (j : Int) := by
  obtain ⟨k, hk⟩ := hr
  induction k generalizing j with
  | zero => cases hk; rfl
  | succ k ih =>
    obtain ⟨x, hx, ha⟩ := hk
    rw [ih hx]
    obtain ⟨e, he, h1⟩ := adjE_mem.1 ha
    have h2 := h e he
    unfold crossB at h2
    rcases h1 with ⟨p, q⟩ | ⟨p, q⟩
    · rw [p, q] at h2; simpa using h2
    · rw [p, q] at h2
      have h3 : c (j : Int) = c (x : Int) := by simpa using h2
      exact h3.symm
theorem kept_cut (_hin : InE m es) (c : Int → Bool) {i0 : Nat} (hi : i0 < es.length) (hc : crossB c (edgeAt es i0) = true) (hmin : ∀ j, j < es.length → crossB c (edgeAt es j) = true → wAt es i0 ≤ wAt es j) : ∃ i, Kept es i ∧ crossB c (edgeAt es i) = true ∧ wAt es i = wAt es i0 := by
  obtain ⟨i, hiS, hfirst⟩ := first_of (es := es) (S := (allS es).filter fun j => crossB c (edgeAt es j)) (fun h => by
    have : i0 ∈ (allS es).filter fun j => crossB c (edgeAt es j) := List.mem_filter.2 ⟨List.mem_range.2 hi, hc⟩
    rw [h] at this
    simp at this)
  obtain ⟨hiA, hiC⟩ := List.mem_filter.1 hiS
  have hil := List.mem_range.1 hiA
  refine ⟨i, ⟨hil, fun a b ha hb hr => ?_⟩, hiC, ?_⟩
  · have hs := rch_side (c := c) (fun e he => ?_) hr
    · have h3 : crossB c (edgeAt es i) = false := by unfold crossB; rw [ha, hb, hs]; simp
      have h4 : crossB c (edgeAt es i) = true := hiC
      rw [h3] at h4
      cases h4
    · obtain ⟨j, hj, rfl⟩ := List.mem_map.1 he
      obtain ⟨hjl, hja⟩ := mem_aheadS.1 hj
      cases hcj : crossB c (edgeAt es j) with
      | false => rfl
      | true =>
        have hne : j ≠ i := fun e => by rw [e, ahead_irr] at hja; cases hja
        have h5 := hfirst j (List.mem_filter.2 ⟨List.mem_range.2 hjl, hcj⟩) hne
        have h6 := ahead_trans h5 hja
        rw [ahead_irr] at h6
        cases h6
  · have h1 := hmin i hil hiC
    by_cases hne : i0 = i
    · rw [hne]
    · have h2 := hfirst i0 (List.mem_filter.2 ⟨List.mem_range.2 hi, hc⟩) hne
      rw [ahead_iff] at h2
      omega
end
end Go.Proofs.YtepmpijkdlfohaaDoor
