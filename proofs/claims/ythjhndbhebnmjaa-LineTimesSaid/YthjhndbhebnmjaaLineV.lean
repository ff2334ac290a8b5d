/- When jobs are done, as they are taken one by one. Plain facts, of no program. -/
import Derived.Test.YthjhndbhebnmjaaTimesTop
namespace Go.Proofs.Ythjhndbhebnmjaa

/-- The greatest of what some have, 0 for none. -/
def maxL (v : Nat → Int) : List Int → Int → Int
  | [], m => m
  | k :: r, m => maxL v r (if m < v k.toNat then v k.toNat else m)
section
variable {v v' : Nat → Int} {a b : List Int} {m : Int}
theorem maxL_append : ∀ (a b : List Int) (m : Int), maxL v (a ++ b) m = maxL v b (maxL v a m)
  | [], _, _ => rfl
  | _ :: r, b, _ => maxL_append r b _
theorem maxL_snoc (a : List Int) (k m : Int) : maxL v (a ++ [k]) m = if maxL v a m < v k.toNat then v k.toNat else maxL v a m := by rw [maxL_append]; rfl
theorem maxL_ge : ∀ (a : List Int) (m : Int), m ≤ maxL v a m
  | [], _ => Int.le_refl _
  | k :: r, m => by
    have := maxL_ge r (if m < v k.toNat then v k.toNat else m)
    show m ≤ maxL v r (if m < v k.toNat then v k.toNat else m)
    split at this <;> rename_i h
    · rw [if_pos h]; omega
    · rw [if_neg h]; exact this
theorem maxL_mem : ∀ (a : List Int) (m k : Int), k ∈ a → v k.toNat ≤ maxL v a m
  | [], _, _, h => by cases h
  | x :: r, m, k, h => by
    rcases List.mem_cons.1 h with rfl | h
    · show v k.toNat ≤ maxL v r (if m < v k.toNat then v k.toNat else m)
      have := maxL_ge (v := v) r (if m < v k.toNat then v k.toNat else m)
      split at this <;> rename_i h
      · rw [if_pos h]; exact this
      · rw [if_neg h]; omega
    · exact maxL_mem r _ k h
theorem maxL_le {c : Int} : ∀ (a : List Int) (m : Int), m ≤ c → (∀ k ∈ a, v k.toNat ≤ c) → maxL v a m ≤ c
  | [], _, h, _ => h
  | x :: r, m, h, hk => by
    show maxL v r _ ≤ c
    refine maxL_le r _ ?_ fun k h => hk k (List.mem_cons_of_mem _ h)
    have := hk x (List.mem_cons_self ..)
    split <;> omega
theorem maxL_congr : ∀ (a : List Int) (m : Int), (∀ k ∈ a, v k.toNat = v' k.toNat) → maxL v a m = maxL v' a m
  | [], _, _ => rfl
  | x :: r, m, h => by
    show maxL v r _ = maxL v' r _
    rw [h x (List.mem_cons_self ..)]
    exact maxL_congr r _ fun k hk => h k (List.mem_cons_of_mem _ hk)
theorem maxL_take {t : Nat} {x : Int} (h : a[t]? = some x) : maxL v (a.take (t + 1)) m = if maxL v (a.take t) m < v x.toNat then v x.toNat else maxL v (a.take t) m := by
  obtain ⟨h1, h2⟩ := List.getElem?_eq_some_iff.1 h
  rw [List.take_succ_eq_append_getElem h1, h2, maxL_snoc]
end
/-- The moments at which those of a list are done. -/
structure DoneV (js : List JobV) (l : List Nat) (v : Nat → Int) : Prop where
  eq : ∀ i ∈ l, v i = maxL v (js.getD i jobD).aft 0 + (js.getD i jobD).time
  bound : ∀ i ∈ l, 0 ≤ v i ∧ v i ≤ 1048576 * l.length
section
variable {js : List JobV} {l : List Nat} {v : Nat → Int} {x : Nat}
theorem DoneV.nil (v : Nat → Int) : DoneV js [] v := ⟨fun _ h => (by cases h), fun _ h => (by cases h)⟩
theorem OrderP.ahead (h : OrderP (jobsP js) l) {i : Nat} (hi : i ∈ l) {k : Nat} (hk : (k : Int) ∈ (js.getD i jobD).aft) : k ∈ l := by
  obtain ⟨a, b, he⟩ := List.append_of_mem hi
  have := h.wait a i b he k (hasI_iff.2 hk)
  rw [he]; exact List.mem_append_left _ this
theorem right_at (hz : jobsF js = 0) {i : Nat} (hi : i < js.length) : (js.getD i jobD).aft.length ≤ 10 ∧ 0 ≤ (js.getD i jobD).time ∧ (js.getD i jobD).time ≤ 1048576 ∧ RightA js.length (js.getD i jobD) := (jobsF_zero hz).2 _ (job_mem hi)
theorem nat_of_right {n : Nat} {j : JobV} (h : RightA n j) {x : Int} (hx : x ∈ j.aft) : ∃ k : Nat, x = (k : Int) ∧ k < n := by
  obtain ⟨h0, h1⟩ := h x hx
  exact ⟨x.toNat, by omega, by omega⟩
theorem DoneV.maxB (h : DoneV js l v) {a : List Int} (ha : ∀ x ∈ a, ∃ k : Nat, x = (k : Int) ∧ k ∈ l) : 0 ≤ maxL v a 0 ∧ maxL v a 0 ≤ 1048576 * l.length :=
  ⟨maxL_ge _ _, maxL_le _ _ (by omega) fun x hx => by
    obtain ⟨k, rfl, hk⟩ := ha x hx
    exact (h.bound k hk).2⟩
def updV (v : Nat → Int) (x : Nat) (z : Int) : Nat → Int := fun i => if i = x then z else v i
theorem updV_same (z : Int) : updV v x z x = z := if_pos rfl
theorem updV_other {i : Nat} (z : Int) (h : i ≠ x) : updV v x z i = v i := if_neg h
theorem DoneV.step (hz : jobsF js = 0) (ho : OrderP (jobsP js) l) (h : DoneV js l v) (hx : x < js.length) (hr : readyP (jobsP js) l x) :
    DoneV js (l ++ [x]) (updV v x (maxL v (js.getD x jobD).aft 0 + (js.getD x jobD).time)) := by
  obtain ⟨_, t0, t1, hR⟩ := right_at hz hx
  have hall : ∀ i ∈ l, ∀ y ∈ (js.getD i jobD).aft, ∃ k : Nat, y = (k : Int) ∧ k ∈ l := fun i hi y hy => by
    obtain ⟨k, rfl, _⟩ := nat_of_right (right_at hz (ho.lt i hi)).2.2.2 hy
    exact ⟨k, rfl, ho.ahead hi hy⟩
  have hallx : ∀ y ∈ (js.getD x jobD).aft, ∃ k : Nat, y = (k : Int) ∧ k ∈ l := fun y hy => by
    obtain ⟨k, rfl, _⟩ := nat_of_right hR hy
    exact ⟨k, rfl, hr.2.2 k (hasI_iff.2 hy)⟩
  have hne : ∀ i ∈ l, i ≠ x := fun i hi e => hr.2.1 (e ▸ hi)
  have hm : ∀ (a : List Int) (z : Int), (∀ y ∈ a, ∃ k : Nat, y = (k : Int) ∧ k ∈ l) → maxL (updV v x z) a 0 = maxL v a 0 := fun a z ha => maxL_congr _ _ fun y hy => by
    obtain ⟨k, rfl, hk⟩ := ha y hy
    exact updV_other _ (hne k hk)
  obtain ⟨b0, b1⟩ := h.maxB hallx
  refine ⟨fun i hi => ?_, fun i hi => ?_⟩
  · rcases List.mem_append.1 hi with hi | hi
    · rw [updV_other _ (hne i hi), hm _ _ (hall i hi)]
      exact h.eq i hi
    · rw [List.mem_singleton.1 hi, updV_same, hm _ _ hallx]
  · rw [List.length_append, List.length_singleton]
    rcases List.mem_append.1 hi with hi | hi
    · rw [updV_other _ (hne i hi)]
      have := h.bound i hi
      omega
    · rw [List.mem_singleton.1 hi, updV_same]
      omega
/-- Where all are in order, a job begins when what is ahead of it is done. -/
theorem DoneV.early (hz : jobsF js = 0) (ho : OrderP (jobsP js) l) (hl : l.length = js.length) (h : DoneV js l v) : IsE (jobsP js) (fun i => v i - (js.getD i jobD).time) := fun i hi => by
  have hin : i < js.length := hi
  have hil := ord_all ho hl i hin
  have e := h.eq i hil
  obtain ⟨_, _, _, hR⟩ := right_at hz hin
  show v i - (js.getD i jobD).time = _
  have e2 : maxL v (js.getD i jobD).aft 0 = maxI (fun k => if (jobsP js).aft i k = true then v k - (js.getD k jobD).time + (jobsP js).time k else 0) (jobsP js).n := by
    apply Int.le_antisymm
    · refine maxL_le _ _ (maxI_nonneg _ _) fun y hy => ?_
      obtain ⟨k, rfl, hk⟩ := nat_of_right hR hy
      have h1 := maxI_ge (f := fun k => if (jobsP js).aft i k = true then v k - (js.getD k jobD).time + (jobsP js).time k else 0) (jobsP js).n k hk
      rw [if_pos (show (jobsP js).aft i k = true from hasI_iff.2 hy)] at h1
      have e3 : (jobsP js).time k = (js.getD k jobD).time := rfl
      rw [e3] at h1
      rw [show ((k : Int)).toNat = k from rfl]
      omega
    · refine maxI_le (maxL_ge _ _) _ fun k hk => ?_
      split
      · rename_i ha
        have h1 := maxL_mem (v := v) (js.getD i jobD).aft 0 (k : Int) (hasI_iff.1 ha)
        rw [show ((k : Int)).toNat = k from rfl] at h1
        have e3 : (jobsP js).time k = (js.getD k jobD).time := rfl
        rw [e3]; omega
      · exact maxL_ge _ _
  rw [← e2]
  omega
theorem DoneV.is_early {rk : Nat → Nat} (R : RankP (jobsP js) rk) (hz : jobsF js = 0) (ho : OrderP (jobsP js) l) (hl : l.length = js.length) (h : DoneV js l v) {i : Nat} (hi : i < js.length) : v i - (js.getD i jobD).time = earlyV js i :=
  e_one R (h.early hz ho hl) (early_is R) (rk i + 1) i (by omega) hi
end
end Go.Proofs.Ythjhndbhebnmjaa
