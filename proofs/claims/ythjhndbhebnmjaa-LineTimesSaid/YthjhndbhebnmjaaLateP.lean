/- How late jobs may begin, as the order is gone through from its last job on. Plain facts, of no program. -/
import Derived.Test.YthjhndbhebnmjaaLineV
namespace Go.Proofs.Ythjhndbhebnmjaa

/-- What those of a list that wait for q take at most. -/
def behindL (js : List JobV) (T : Nat → Int) (L : List Nat) (q : Nat) : Int := maxI (fun k => if k ∈ L ∧ (jobsP js).aft k q = true then T k else 0) js.length
/-- The last jobs of the order, from the i-th on, have been gone through. -/
def LateI (js : List JobV) (T : Nat → Int) (z : Int) (l : List Nat) (i : Nat) (b : Nat → Int) : Prop :=
  ∀ q, q < js.length → b q = if q ∈ l.drop i then z - T q else z - behindL js T (l.drop i) q
/-- .. and of those ahead of the i-th one the first t. -/
def LateM (js : List JobV) (T : Nat → Int) (z : Int) (l : List Nat) (i x t : Nat) (b : Nat → Int) : Prop :=
  ∀ q, q < js.length → b q = if q ∈ l.drop i then z - T q else z - (if (q : Int) ∈ (js.getD x jobD).aft.take t ∧ behindL js T (l.drop (i + 1)) q < T x then T x else behindL js T (l.drop (i + 1)) q)
section
variable {js : List JobV} {T : Nat → Int} {z : Int} {l : List Nat} {i x t : Nat} {b : Nat → Int}
theorem LateI.start (hl : l.length = js.length) : LateI js T z l js.length (fun _ => z) := fun q _ => by
  rw [← hl, List.drop_length, if_neg (by simp : ¬ q ∈ ([] : List Nat))]
  unfold behindL
  have h : maxI (fun k => if k ∈ ([] : List Nat) ∧ (jobsP js).aft k q = true then T k else 0) js.length = 0 := by
    apply Int.le_antisymm
    · exact maxI_le (Int.le_refl _) _ fun k _ => by rw [if_neg (by simp)]; exact Int.le_refl _
    · exact maxI_nonneg _ _
  rw [h, Int.sub_zero]
theorem behind_cons {L : List Nat} (hx : x < js.length) (q : Nat) : behindL js T (x :: L) q = if (jobsP js).aft x q = true ∧ behindL js T L q < T x then T x else behindL js T L q := by
  have hle : behindL js T L q ≤ behindL js T (x :: L) q := maxI_le (maxI_nonneg _ _) _ fun k hk => by
    have h := maxI_ge (f := fun k => if k ∈ x :: L ∧ (jobsP js).aft k q = true then T k else 0) js.length k hk
    split
    · rename_i hc
      rw [if_pos ⟨List.mem_cons_of_mem _ hc.1, hc.2⟩] at h
      exact h
    · exact maxI_nonneg _ _
  have hge : ∀ c : Int, behindL js T L q ≤ c → ((jobsP js).aft x q = true → T x ≤ c) → behindL js T (x :: L) q ≤ c := fun c h1 h2 => maxI_le (Int.le_trans (maxI_nonneg _ _) h1) _ fun k hk => by
    have h := maxI_ge (f := fun k => if k ∈ L ∧ (jobsP js).aft k q = true then T k else 0) js.length k hk
    split
    · rename_i hc
      rcases List.mem_cons.1 hc.1 with e | hm
      · rw [e]; exact h2 (e ▸ hc.2)
      · rw [if_pos ⟨hm, hc.2⟩] at h
        exact Int.le_trans h h1
    · exact Int.le_trans (maxI_nonneg _ _) h1
  split
  · rename_i hc
    apply Int.le_antisymm
    · exact hge _ (by omega) fun _ => Int.le_refl _
    · have h := maxI_ge (f := fun k => if k ∈ x :: L ∧ (jobsP js).aft k q = true then T k else 0) js.length x hx
      rw [if_pos ⟨List.mem_cons_self .., hc.1⟩] at h
      exact h
  · rename_i hc
    apply Int.le_antisymm
    · exact hge _ (Int.le_refl _) fun ha => Int.not_lt.1 fun h => hc ⟨ha, h⟩
    · exact hle
/-- What is known of an order of all jobs. -/
structure OrdAll (js : List JobV) (T : Nat → Int) (l : List Nat) : Prop where
  ord : OrderP (jobsP js) l
  len : l.length = js.length
  isT : IsT (jobsP js) T
theorem OrdAll.at_ (h : OrdAll js T l) (hi : l[i]? = some x) : x < js.length ∧ l.drop i = x :: l.drop (i + 1) ∧ x ∉ l.drop (i + 1) := by
  obtain ⟨h1, h2⟩ := List.getElem?_eq_some_iff.1 hi
  have e : l.drop i = x :: l.drop (i + 1) := by rw [List.drop_eq_getElem_cons h1, h2]
  refine ⟨h.ord.lt x (h2 ▸ List.getElem_mem h1), e, fun hm => ?_⟩
  have hn : (l.drop i).Nodup := h.ord.nd.sublist (List.drop_sublist _ _)
  rw [e, List.nodup_cons] at hn
  exact hn.1 hm
theorem OrdAll.split (h : OrdAll js T l) (hi : l[i]? = some x) : l = l.take i ++ x :: l.drop (i + 1) := by rw [← (h.at_ hi).2.1, List.take_append_drop]
/-- All that wait for a job stand behind it. -/
theorem OrdAll.behind (h : OrdAll js T l) (hi : l[i]? = some x) {k : Nat} (hk : k < js.length) (ha : (jobsP js).aft k x = true) : k ∈ l.drop (i + 1) := by
  have hkl : k ∈ l := ord_all h.ord h.len k hk
  obtain ⟨a, b, he⟩ := List.append_of_mem hkl
  have hxa := h.ord.wait a k b he x ha
  have hsp := h.split hi
  rw [hsp] at hkl
  rcases List.mem_append.1 hkl with hm | hm
  · exfalso
    -- k ahead of x, and x ahead of k
    obtain ⟨a', b', he'⟩ := List.append_of_mem hm
    have hw := h.ord.wait a' k (b' ++ x :: l.drop (i + 1)) (by rw [← List.cons_append, ← List.append_assoc, ← he']; exact hsp) x ha
    have hnd := h.ord.nd
    rw [hsp, he'] at hnd
    rw [List.nodup_append] at hnd
    exact hnd.2.2 x (List.mem_append_left _ hw) x (List.mem_cons_self ..) rfl
  · rcases List.mem_cons.1 hm with e | hm
    · exfalso
      subst e
      have hw := h.ord.wait _ _ _ hsp k ha
      have hnd := h.ord.nd
      rw [hsp, List.nodup_append] at hnd
      exact hnd.2.2 k hw k (List.mem_cons_self ..) rfl
    · exact hm
/-- Those ahead of a job are not among those behind. -/
theorem OrdAll.ahead (h : OrdAll js T l) (hi : l[i]? = some x) {k : Nat} (ha : (k : Int) ∈ (js.getD x jobD).aft) : k ∉ l.drop i := fun hm => by
  have hw := h.ord.wait _ _ _ (h.split hi) k (hasI_iff.2 ha)
  have hnd := h.ord.nd
  rw [← List.take_append_drop i l, List.nodup_append] at hnd
  exact hnd.2.2 k hw k hm rfl
theorem OrdAll.tail (h : OrdAll js T l) (hi : l[i]? = some x) : behindL js T (l.drop (i + 1)) x + (js.getD x jobD).time = T x := by
  have hx := (h.at_ hi).1
  have e := h.isT x hx
  have e2 : behindL js T (l.drop (i + 1)) x = maxI (fun k => if (jobsP js).aft k x = true then T k else 0) (jobsP js).n := maxI_congr _ fun k hk => by
    by_cases ha : (jobsP js).aft k x = true
    · rw [if_pos ha, if_pos ⟨h.behind hi hk ha, ha⟩]
    · rw [if_neg ha, if_neg fun hc => ha hc.2]
  rw [e2, e]; rfl
theorem LateI.own (h : OrdAll js T l) (hi : l[i]? = some x) (H : LateI js T z l (i + 1) b) : b x - (js.getD x jobD).time = z - T x := by
  obtain ⟨hx, _, hn⟩ := h.at_ hi
  have := h.tail hi
  rw [H x hx, if_neg hn]
  omega
theorem LateI.mid (h : OrdAll js T l) (hi : l[i]? = some x) (H : LateI js T z l (i + 1) b) : LateM js T z l i x 0 (updQ b x (z - T x)) := fun q hq => by
  obtain ⟨_, e, _⟩ := h.at_ hi
  rw [e]
  unfold updQ
  by_cases hqx : q = x
  · subst hqx
    rw [if_pos rfl, if_pos (List.mem_cons_self ..)]
  · rw [if_neg hqx, H q hq]
    by_cases hm : q ∈ l.drop (i + 1)
    · rw [if_pos hm, if_pos (List.mem_cons_of_mem _ hm)]
    · rw [if_neg hm, if_neg (by rw [List.mem_cons]; rintro (h | h); exact hqx h; exact hm h), if_neg (by simp)]
theorem LateM.own (h : OrdAll js T l) (hi : l[i]? = some x) (H : LateM js T z l i x t b) : b x = z - T x := by
  obtain ⟨hx, e, _⟩ := h.at_ hi
  rw [H x hx, e, if_pos (List.mem_cons_self ..)]
theorem LateM.step (h : OrdAll js T l) (hi : l[i]? = some x) (H : LateM js T z l i x t b) {y : Nat} (hy : (js.getD x jobD).aft[t]? = some (y : Int)) (hyn : y < js.length) :
    LateM js T z l i x (t + 1) (updQ b y (if z - T x < b y then z - T x else b y)) := fun q hq => by
  have hyd := h.ahead hi (List.mem_of_getElem? hy)
  obtain ⟨h1, h2⟩ := List.getElem?_eq_some_iff.1 hy
  have ht : (js.getD x jobD).aft.take (t + 1) = (js.getD x jobD).aft.take t ++ [(y : Int)] := by rw [List.take_succ_eq_append_getElem h1, h2]
  unfold updQ
  by_cases hqy : q = y
  · subst hqy
    have hb := H q hq
    rw [if_neg hyd] at hb
    rw [if_pos rfl, if_neg hyd, ht]
    generalize behindL js T (l.drop (i + 1)) q = M at hb
    by_cases hM : M < T x
    · rw [if_pos (show ((q : Int) ∈ _ ++ [(q : Int)] ∧ M < T x) from ⟨by simp, hM⟩)]
      by_cases hc : (q : Int) ∈ (js.getD x jobD).aft.take t ∧ M < T x
      · rw [if_pos hc] at hb; rw [hb]; split <;> omega
      · rw [if_neg hc] at hb; rw [hb, if_pos (by omega)]
    · have hn1 : ¬ ((q : Int) ∈ (js.getD x jobD).aft.take t ∧ M < T x) := fun hc => hM hc.2
      have hn2 : ¬ ((q : Int) ∈ (js.getD x jobD).aft.take t ++ [(q : Int)] ∧ M < T x) := fun hc => hM hc.2
      rw [if_neg hn1] at hb
      rw [if_neg hn2, hb, if_neg (by omega)]
  · rw [if_neg hqy, H q hq, ht]
    have e : ((q : Int) ∈ (js.getD x jobD).aft.take t ++ [(y : Int)]) ↔ (q : Int) ∈ (js.getD x jobD).aft.take t := by
      rw [List.mem_append, List.mem_singleton]
      exact ⟨fun hc => hc.resolve_right fun e => hqy (by omega), .inl⟩
    simp only [e]
theorem LateM.done (h : OrdAll js T l) (hi : l[i]? = some x) (H : LateM js T z l i x (js.getD x jobD).aft.length b) : LateI js T z l i b := fun q hq => by
  obtain ⟨hx, e, _⟩ := h.at_ hi
  rw [H q hq, List.take_length]
  by_cases hm : q ∈ l.drop i
  · rw [if_pos hm, if_pos hm]
  · rw [if_neg hm, if_neg hm, e, behind_cons hx q]
    have e2 : (jobsP js).aft x q = true ↔ (q : Int) ∈ (js.getD x jobD).aft := hasI_iff
    simp only [e2]
theorem LateI.end_ (h : OrdAll js T l) (H : LateI js T z l 0 b) : ∀ q, q < js.length → b q = z - T q := fun q hq => by
  rw [H q hq, List.drop_zero, if_pos (ord_all h.ord h.len q hq)]
theorem behind_bound {B : Int} (hB : 0 ≤ B) (hT : ∀ q, q < js.length → T q ≤ B) (L : List Nat) (q : Nat) : 0 ≤ behindL js T L q ∧ behindL js T L q ≤ B :=
  ⟨maxI_nonneg _ _, maxI_le hB _ fun k hk => by split; exact hT k hk; exact hB⟩
theorem LateI.bound {B : Int} (hB : 0 ≤ B) (hT : ∀ q, q < js.length → 0 ≤ T q ∧ T q ≤ B) (H : LateI js T z l i b) : ∀ q, q < js.length → z - B ≤ b q ∧ b q ≤ z := fun q hq => by
  have h1 := hT q hq
  have h2 := behind_bound (js := js) (T := T) hB (fun q hq => (hT q hq).2) (l.drop i) q
  rw [H q hq]
  split <;> omega
theorem LateM.bound {B : Int} (hB : 0 ≤ B) (hT : ∀ q, q < js.length → 0 ≤ T q ∧ T q ≤ B) (hx : x < js.length) (H : LateM js T z l i x t b) : ∀ q, q < js.length → z - B ≤ b q ∧ b q ≤ z := fun q hq => by
  have h1 := hT q hq
  have h2 := behind_bound (js := js) (T := T) hB (fun q hq => (hT q hq).2) (l.drop (i + 1)) q
  have h3 := hT x hx
  rw [H q hq]
  split
  · omega
  · split <;> omega
end
end Go.Proofs.Ythjhndbhebnmjaa
