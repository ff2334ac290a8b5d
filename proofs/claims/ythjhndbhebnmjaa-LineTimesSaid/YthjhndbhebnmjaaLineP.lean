/- KAHN; KELLEY, WALKER: orders in which each stands behind what it waits for; when each may begin at the earliest, and when at the latest. Plain facts, of no program. -/
import Derived.Test.YthjhndbhebnmjaaFlowP
namespace Go.Proofs.Ythjhndbhebnmjaa

/-- The greatest of some numbers, and of nothing. -/
def maxI (f : Nat → Int) : Nat → Int
  | 0 => 0
  | n + 1 => if maxI f n < f n then f n else maxI f n
section
variable {f g : Nat → Int} {n : Nat}
theorem maxI_nonneg (f : Nat → Int) : ∀ n, 0 ≤ maxI f n
  | 0 => Int.le_refl _
  | n + 1 => by have := maxI_nonneg f n; simp only [maxI]; split <;> omega
theorem maxI_ge : ∀ n, ∀ k, k < n → f k ≤ maxI f n
  | n + 1, k, hk => by
    simp only [maxI]
    rcases Nat.lt_or_ge k n with h | h
    · have := maxI_ge n k h; split <;> omega
    · obtain rfl : k = n := by omega
      split <;> omega
theorem maxI_le {b : Int} (hb : 0 ≤ b) : ∀ n, (∀ k, k < n → f k ≤ b) → maxI f n ≤ b
  | 0, _ => hb
  | n + 1, h => by
    have h1 := maxI_le hb n fun k hk => h k (by omega)
    have h2 := h n (by omega)
    simp only [maxI]; split <;> omega
theorem maxI_att : ∀ n, maxI f n = 0 ∨ ∃ k, k < n ∧ maxI f n = f k
  | 0 => .inl rfl
  | n + 1 => by
    simp only [maxI]
    split
    · exact .inr ⟨n, by omega, rfl⟩
    · rcases maxI_att n with h | ⟨k, h1, h2⟩
      · exact .inl h
      · exact .inr ⟨k, by omega, h2⟩
theorem maxI_congr : ∀ n, (∀ k, k < n → f k = g k) → maxI f n = maxI g n
  | 0, _ => rfl
  | n + 1, h => by simp only [maxI]; rw [maxI_congr n fun k hk => h k (by omega), h n (by omega)]
end

/-! Jobs. -/
structure JobsP where
  n : Nat
  aft : Nat → Nat → Bool
  time : Nat → Int
/-- k stands ahead of i. -/
def JobsP.wait (J : JobsP) (i k : Nat) : Prop := i < J.n ∧ k < J.n ∧ J.aft i k = true
structure RankP (J : JobsP) (rk : Nat → Nat) : Prop where
  up : ∀ i k, i < J.n → J.aft i k = true → k < J.n ∧ rk k < rk i
  lt : ∀ i, i < J.n → rk i < J.n
  time : ∀ i, i < J.n → 0 ≤ J.time i
/-- When each may begin. -/
def IsE (J : JobsP) (E : Nat → Int) : Prop := ∀ i, i < J.n → E i = maxI (fun k => if J.aft i k = true then E k + J.time k else 0) J.n
/-- How long it takes from the beginning of each to the end of all that hangs on it. -/
def IsT (J : JobsP) (t : Nat → Int) : Prop := ∀ i, i < J.n → t i = maxI (fun k => if J.aft k i = true then t k else 0) J.n + J.time i
section
variable {J : JobsP} {rk : Nat → Nat} {E t : Nat → Int}
theorem e_one {E' : Nat → Int} (R : RankP J rk) (h : IsE J E) (h' : IsE J E') : ∀ m i, rk i < m → i < J.n → E i = E' i
  | 0, _, hm, _ => absurd hm (by omega)
  | m + 1, i, hm, hi => by
    rw [h i hi, h' i hi]
    refine maxI_congr _ fun k hk => ?_
    by_cases ha : J.aft i k = true
    · rw [if_pos ha, if_pos ha, e_one R h h' m k (by have := (R.up i k hi ha).2; omega) hk]
    · rw [if_neg ha, if_neg ha]
theorem t_one {t' : Nat → Int} (R : RankP J rk) (h : IsT J t) (h' : IsT J t') : ∀ m i, J.n - rk i < m → i < J.n → t i = t' i
  | 0, _, hm, _ => absurd hm (by omega)
  | m + 1, i, hm, hi => by
    rw [h i hi, h' i hi]
    congr 1
    refine maxI_congr _ fun k hk => ?_
    by_cases ha : J.aft k i = true
    · rw [if_pos ha, if_pos ha, t_one R h h' m k (by have := (R.up k i hk ha).2; have := R.lt i hi; have := R.lt k hk; omega) hk]
    · rw [if_neg ha, if_neg ha]
def eFuel (J : JobsP) : Nat → Nat → Int
  | 0, _ => 0
  | m + 1, i => maxI (fun k => if J.aft i k = true then eFuel J m k + J.time k else 0) J.n
def tFuel (J : JobsP) : Nat → Nat → Int
  | 0, _ => 0
  | m + 1, i => maxI (fun k => if J.aft k i = true then tFuel J m k else 0) J.n + J.time i
theorem eFuel_same (R : RankP J rk) : ∀ m m' i, rk i < m → rk i < m' → i < J.n → eFuel J m i = eFuel J m' i
  | 0, _, _, h, _, _ => absurd h (by omega)
  | _, 0, _, _, h, _ => absurd h (by omega)
  | m + 1, m' + 1, i, h, h', hi => by
    refine maxI_congr _ fun k hk => ?_
    by_cases ha : J.aft i k = true
    · have := (R.up i k hi ha).2
      rw [if_pos ha, if_pos ha, eFuel_same R m m' k (by omega) (by omega) hk]
    · rw [if_neg ha, if_neg ha]
theorem tFuel_same (R : RankP J rk) : ∀ m m' i, J.n - rk i ≤ m → J.n - rk i ≤ m' → i < J.n → tFuel J m i = tFuel J m' i
  | 0, _, i, h, _, hi => by have := R.lt i hi; omega
  | _, 0, i, _, h, hi => by have := R.lt i hi; omega
  | m + 1, m' + 1, i, h, h', hi => by
    show maxI _ _ + _ = maxI _ _ + _
    congr 1
    refine maxI_congr _ fun k hk => ?_
    by_cases ha : J.aft k i = true
    · have := (R.up k i hk ha).2
      have := R.lt k hk
      rw [if_pos ha, if_pos ha, tFuel_same R m m' k (by omega) (by omega) hk]
    · rw [if_neg ha, if_neg ha]
theorem e_ex (R : RankP J rk) : IsE J (eFuel J J.n) := fun i hi => by
  have h := R.lt i hi
  rw [eFuel_same R J.n (J.n + 1) i h (by omega) hi]
  refine maxI_congr _ fun k hk => ?_
  rfl
theorem t_ex (R : RankP J rk) : IsT J (tFuel J J.n) := fun i hi => by
  rw [tFuel_same R J.n (J.n + 1) i (by omega) (by omega) hi]
  rfl
theorem e_after (h : IsE J E) {i k : Nat} (hi : i < J.n) (hk : k < J.n) (ha : J.aft i k = true) : E k + J.time k ≤ E i := by
  rw [h i hi]
  have := maxI_ge (f := fun k => if J.aft i k = true then E k + J.time k else 0) J.n k hk
  rwa [if_pos ha] at this
theorem e_nonneg (h : IsE J E) {i : Nat} (hi : i < J.n) : 0 ≤ E i := by rw [h i hi]; exact maxI_nonneg _ _
theorem e_least (h : IsE J E) {i : Nat} {b : Int} (hi : i < J.n) (hb : 0 ≤ b) (hk : ∀ k, k < J.n → J.aft i k = true → E k + J.time k ≤ b) : E i ≤ b := by
  rw [h i hi]
  refine maxI_le hb _ fun k hkn => ?_
  split
  · rename_i ha; exact hk k hkn ha
  · exact hb
theorem t_after (h : IsT J t) {i k : Nat} (hi : i < J.n) (hk : k < J.n) (ha : J.aft k i = true) : t k + J.time i ≤ t i := by
  rw [h i hi]
  have := maxI_ge (f := fun k => if J.aft k i = true then t k else 0) J.n k hk
  rw [if_pos ha] at this
  omega
theorem t_own (h : IsT J t) {i : Nat} (hi : i < J.n) : J.time i ≤ t i := by
  rw [h i hi]
  have := maxI_nonneg (fun k => if J.aft k i = true then t k else 0) J.n
  omega
/-- When all are done. -/
def endP (J : JobsP) (E : Nat → Int) : Int := maxI (fun i => E i + J.time i) J.n
/-- KELLEY, WALKER: none begins later than it must. -/
theorem crit_le (R : RankP J rk) (h : IsE J E) (ht : IsT J t) : ∀ m i, J.n - rk i < m → i < J.n → E i + t i ≤ endP J E
  | 0, _, hm, _ => absurd hm (by omega)
  | m + 1, i, hm, hi => by
    have hend := maxI_ge (f := fun i => E i + J.time i) J.n i hi
    rw [ht i hi]
    rcases maxI_att (f := fun k => if J.aft k i = true then t k else 0) J.n with h0 | ⟨k, hk, h0⟩
    · rw [h0]; unfold endP; omega
    · rw [h0]
      by_cases ha : J.aft k i = true
      · rw [if_pos ha]
        have h1 := e_after h hk hi ha
        have h2 := crit_le R h ht m k (by have := (R.up k i hk ha).2; have := R.lt i hi; have := R.lt k hk; omega) hk
        omega
      · rw [if_neg ha]; unfold endP; omega
/-- .. and some job has no time to lose. -/
theorem crit_tight (R : RankP J rk) (h : IsE J E) (ht : IsT J t) (hn : 0 < J.n) : ∃ i, i < J.n ∧ E i + t i = endP J E := by
  have key : ∃ i, i < J.n ∧ E i + J.time i = endP J E := by
    rcases maxI_att (f := fun i => E i + J.time i) J.n with h0 | ⟨k, hk, h0⟩
    · refine ⟨0, hn, ?_⟩
      have h1 := maxI_ge (f := fun i => E i + J.time i) J.n 0 hn
      have h2 := e_nonneg h hn
      have h3 := R.time 0 hn
      unfold endP
      omega
    · exact ⟨k, hk, h0.symm⟩
  obtain ⟨i, hi, he⟩ := key
  have h1 := crit_le R h ht (J.n - rk i + 1) i (by omega) hi
  have h2 := t_own ht hi
  exact ⟨i, hi, by omega⟩
theorem end_nonneg (J : JobsP) (E : Nat → Int) : 0 ≤ endP J E := maxI_nonneg _ _
/-- The numbers are bounded. -/
theorem e_le (R : RankP J rk) (h : IsE J E) {B : Int} (hB : ∀ i, i < J.n → J.time i ≤ B) (hB0 : 0 ≤ B) : ∀ m i, rk i < m → i < J.n → E i ≤ rk i * B
  | 0, _, hm, _ => absurd hm (by omega)
  | m + 1, i, hm, hi => e_least h hi (Int.mul_nonneg (by omega) hB0) fun k hk ha => by
    have h1 := (R.up i k hi ha).2
    have h2 := e_le R h hB hB0 m k (by omega) hk
    have h3 := hB k hk
    have h4 : ((rk k : Int) + 1) * B ≤ rk i * B := Int.mul_le_mul_of_nonneg_right (by omega) hB0
    rw [Int.add_mul, Int.one_mul] at h4
    omega

/-! Rounds that make it later until nothing changes. -/
/-- What a round may do to when each begins: nothing beyond, and behind it all of the first ranks are right. -/
structure EarlyI (J : JobsP) (rk : Nat → Nat) (E : Nat → Int) (r : Nat) (x : Nat → Int) : Prop where
  nonneg : ∀ i, i < J.n → 0 ≤ x i
  le : ∀ i, i < J.n → x i ≤ E i
  right : ∀ i, i < J.n → rk i < r → x i = E i
theorem EarlyI.start (h : IsE J E) : EarlyI J rk E 0 (fun _ => 0) := ⟨fun _ _ => Int.le_refl _, fun i hi => e_nonneg h hi, fun i _ hr => absurd hr (by omega)⟩
/-- One step: i behind k. -/
theorem EarlyI.step (h : IsE J E) {r : Nat} {x : Nat → Int} (H : EarlyI J rk E r x) {i k : Nat} (hi : i < J.n) (hk : k < J.n) (ha : J.aft i k = true) (hlt : x i < x k + J.time k) : EarlyI J rk E r (updI x i (x k + J.time k)) := by
  have hle : x k + J.time k ≤ E i := by have := H.le k hk; have := e_after h hi hk ha; omega
  refine ⟨fun j hj => ?_, fun j hj => ?_, fun j hj hr => ?_⟩
  · unfold updI; split
    · have := H.nonneg i hi; omega
    · exact H.nonneg j hj
  · unfold updI; split
    · rename_i e; subst e; exact hle
    · exact H.le j hj
  · unfold updI; split
    · rename_i e
      subst e
      have := H.right j hj hr
      omega
    · exact H.right j hj hr
/-- What is right stays; and who has gone through all that it waits for is right. -/
theorem EarlyI.done (h : IsE J E) {r : Nat} {x : Nat → Int} (H : EarlyI J rk E r x) (hall : ∀ i, i < J.n → rk i = r → ∀ k, k < J.n → J.aft i k = true → E k + J.time k ≤ x i) : EarlyI J rk E (r + 1) x :=
  ⟨H.nonneg, H.le, fun i hi hr => by
    rcases Nat.lt_or_ge (rk i) r with h1 | h1
    · exact H.right i hi h1
    · have h2 := H.le i hi
      have h3 := e_least h hi (H.nonneg i hi) (hall i hi (by omega))
      omega⟩
end

/-! Orders. -/
/-- Each once, each behind all that it waits for. -/
structure OrderP (J : JobsP) (l : List Nat) : Prop where
  nd : l.Nodup
  lt : ∀ i ∈ l, i < J.n
  wait : ∀ a i b, l = a ++ i :: b → ∀ k, J.aft i k = true → k ∈ a
def readyP (J : JobsP) (l : List Nat) (i : Nat) : Prop := i < J.n ∧ i ∉ l ∧ ∀ k, J.aft i k = true → k ∈ l
section
variable {J : JobsP} {l : List Nat} {i : Nat}
theorem OrderP.nil (J : JobsP) : OrderP J [] := ⟨List.nodup_nil, fun _ h => (by cases h), fun a i b h => by simp at h⟩
theorem OrderP.snoc (h : OrderP J l) (hr : readyP J l i) : OrderP J (l ++ [i]) := by
  refine ⟨?_, fun j hj => ?_, fun a j b he k hk => ?_⟩
  · rw [List.nodup_append]
    refine ⟨h.nd, by simp, fun a ha b hb => ?_⟩
    rw [List.mem_singleton.1 hb]
    rintro rfl
    exact hr.2.1 ha
  · rcases List.mem_append.1 hj with hj | hj
    · exact h.lt j hj
    · rw [List.mem_singleton.1 hj]; exact hr.1
  · rcases List.append_eq_append_iff.1 he with ⟨c, hc, hd⟩ | ⟨c, hc, hd⟩
    · cases c with
      | nil =>
        simp only [List.append_nil, List.nil_append, List.cons.injEq] at hc hd
        obtain ⟨rfl, _⟩ := hd
        rw [hc]
        exact hr.2.2 k hk
      | cons x c => simp at hd
    · cases c with
      | nil =>
        simp only [List.append_nil, List.nil_append, List.cons.injEq] at hc hd
        rw [← hc]
        rw [hd.1] at hk
        exact hr.2.2 k hk
      | cons x c =>
        simp only [List.cons_append, List.cons.injEq] at hd
        obtain ⟨rfl, _⟩ := hd
        exact h.wait a j c hc k hk
/-- A list of all jobs in order ranks them. -/
theorem OrderP.rank (h : OrderP J l) (hall : ∀ i, i < J.n → i ∈ l) (ht : ∀ i, i < J.n → 0 ≤ J.time i) (hlen : l.length ≤ J.n) : RankP J (fun i => l.idxOf i) := by
  refine ⟨fun i k hi ha => ?_, fun i hi => ?_, ht⟩
  · obtain ⟨a, b, he⟩ := List.append_of_mem (hall i hi)
    have hk := h.wait a i b he k ha
    have hia : i ∉ a := fun hm => by
      have := h.nd
      rw [he, List.nodup_append] at this
      exact this.2.2 i hm i (List.mem_cons_self ..) rfl
    have hkl : k ∈ l := by rw [he]; exact List.mem_append_left _ hk
    refine ⟨h.lt k hkl, ?_⟩
    have e1 : l.idxOf i = a.length := by rw [he, List.idxOf_append, if_neg hia]; simp
    have e2 : l.idxOf k = a.idxOf k := by rw [he, List.idxOf_append, if_pos hk]
    show l.idxOf k < l.idxOf i
    rw [e1, e2]
    exact List.idxOf_lt_length_of_mem hk
  · have := List.idxOf_lt_length_of_mem (hall i hi)
    show l.idxOf i < J.n
    omega
/-- KAHN: where there is an order of all, something is ready as long as any is left. -/
theorem ready_ex {o : List Nat} (ho : OrderP J o) (hall : ∀ i, i < J.n → i ∈ o) (hleft : ∃ i, i < J.n ∧ i ∉ l) : ∃ i, readyP J l i := by
  -- the first of the order that is not there yet
  have key : ∀ (b a : List Nat), o = a ++ b → (∀ i ∈ a, i ∈ l) → (∃ i ∈ b, i ∉ l) → ∃ i, readyP J l i := fun b => by
    induction b with
    | nil => rintro a _ _ ⟨i, hi, _⟩; cases hi
    | cons x b ih =>
      intro a he ha hb
      by_cases hx : x ∈ l
      · refine ih (a ++ [x]) (by rw [he]; simp) (fun i hi => ?_) ?_
        · rcases List.mem_append.1 hi with hi | hi
          · exact ha i hi
          · rw [List.mem_singleton.1 hi]; exact hx
        · obtain ⟨i, hi, hil⟩ := hb
          rcases List.mem_cons.1 hi with rfl | hi
          · exact absurd hx hil
          · exact ⟨i, hi, hil⟩
      · exact ⟨x, ho.lt x (by rw [he]; simp), hx, fun k hk => ha k (ho.wait a x b he k hk)⟩
  obtain ⟨i, hi, hil⟩ := hleft
  exact key o [] rfl (fun _ h => (by cases h)) ⟨i, hall i hi, hil⟩
end
end Go.Proofs.Ythjhndbhebnmjaa
