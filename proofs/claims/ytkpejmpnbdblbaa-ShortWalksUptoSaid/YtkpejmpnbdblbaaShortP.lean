/- BELLMAN, FORD: walks as lists of arcs; which of two is the better one; rounds in which each walk goes on by each arc: what they find, and when there is more to be had for ever. Plain facts, of no program. -/
import Derived.Test.YtkpejmpnbdblbaaBellmanP
namespace Go.Proofs.Ytkpejmpnbdblbaa

/-- A list of arcs is a walk from s to t. -/
def PathL (N : ArcsF) : Nat → Nat → List Nat → Prop
  | s, t, [] => s = t
  | s, t, k :: r => k < N.K ∧ N.fr k = s ∧ PathL N (N.to k) t r
def lenL (N : ArcsF) : List Nat → Int
  | [] => 0
  | k :: r => N.fee k + lenL N r
section
variable {N : ArcsF} {s t u k : Nat} {l m : List Nat}
theorem PathL.app : ∀ {l : List Nat} {s : Nat}, PathL N s u l → PathL N u t m → PathL N s t (l ++ m)
  | [], s, h1, h2 => by
    have e : s = u := h1
    subst e; exact h2
  | k :: r, s, ⟨h1, h2, h3⟩, h4 => ⟨h1, h2, PathL.app h3 h4⟩
theorem PathL.part : ∀ {l : List Nat} {s : Nat}, PathL N s t (l ++ m) → ∃ u, PathL N s u l ∧ PathL N u t m
  | [], s, h => ⟨s, rfl, h⟩
  | k :: r, s, ⟨h1, h2, h3⟩ => by
    obtain ⟨u, h4, h5⟩ := PathL.part h3
    exact ⟨u, ⟨h1, h2, h4⟩, h5⟩
theorem PathL.snoc (h : PathL N s (N.fr k) l) (hk : k < N.K) : PathL N s (N.to k) (l ++ [k]) := h.app ⟨hk, rfl, rfl⟩
theorem PathL.unsnoc (h : PathL N s t (l ++ [k])) : PathL N s (N.fr k) l ∧ k < N.K ∧ N.to k = t := by
  obtain ⟨u, h1, h2, h3, h4⟩ := h.part
  rw [h3]; exact ⟨h1, h2, h4⟩
theorem PathL.all : ∀ {l : List Nat} {s : Nat}, PathL N s t l → ∀ k ∈ l, k < N.K
  | [], _, _, _, h => by cases h
  | k :: r, s, ⟨h1, h2, h3⟩, x, hx => by
    rcases List.mem_cons.1 hx with rfl | hx
    · exact h1
    · exact PathL.all h3 x hx
theorem lenL_app : ∀ {l : List Nat}, lenL N (l ++ m) = lenL N l + lenL N m
  | [] => by simp [lenL]
  | k :: r => by
    have := lenL_app (l := r)
    simp only [List.cons_append, lenL]; omega
theorem lenL_snoc : lenL N (l ++ [k]) = lenL N l + N.fee k := by
  rw [lenL_app]; simp [lenL]
theorem PathL.walk : ∀ {l : List Nat} {s : Nat}, PathL N s t l → WalkN N l.length s t (lenL N l)
  | [], s, h => by
    have e : s = t := h
    subst e; exact .nil N s
  | k :: r, s, ⟨h1, h2, h3⟩ => (PathL.walk h3).cons ⟨k, h1, h2, rfl, rfl⟩
theorem WalkN.path : ∀ {x : Nat} {s : Nat} {c : Int}, WalkN N x s t c → ∃ l, l.length = x ∧ PathL N s t l ∧ lenL N l = c
  | 0, s, c, ⟨p, cs, _, h2, h3, h4⟩ => ⟨[], rfl, h2.symm.trans h3, h4⟩
  | x + 1, s, c, h => by
    obtain ⟨j, d, a, ⟨k, h1, h2, h3, h4⟩, h5, rfl⟩ := h.uncons
    subst h2 h3 h4
    obtain ⟨l, h6, h7, h8⟩ := WalkN.path h5
    exact ⟨k :: l, by simp [h6], ⟨h1, rfl, h7⟩, by simp [lenL, h8]⟩
theorem lenL_abs {M : Int} (hM : ∀ k, k < N.K → -M ≤ N.fee k ∧ N.fee k ≤ M) : ∀ {l : List Nat}, (∀ k ∈ l, k < N.K) → -(M * (l.length : Int)) ≤ lenL N l ∧ lenL N l ≤ M * (l.length : Int)
  | [], _ => by simp [lenL]
  | k :: r, h => by
    have h1 := lenL_abs hM (l := r) fun x hx => h x (List.mem_cons_of_mem _ hx)
    have h2 := hM k (h k List.mem_cons_self)
    have h3 : M * (((k :: r).length : Nat) : Int) = M * (r.length : Int) + M := by
      rw [List.length_cons, Int.natCast_succ, Int.mul_add, Int.mul_one]
    simp only [lenL]
    omega
end
/-- A list of places as a number: the lesser one is the one with the lesser place where two of the same length first differ. -/
def valL (l : List Nat) : Nat := l.foldl (fun v k => v * 64 + k) 0
theorem valL_snoc (l : List Nat) (k : Nat) : valL (l ++ [k]) = valL l * 64 + k := by simp [valL, List.foldl_append]
theorem foldl_val (r : List Nat) : ∀ v : Nat, r.foldl (fun v k => v * 64 + k) v = v * 64 ^ r.length + valL r := by
  induction r with
  | nil => intro v; simp [valL]
  | cons k r ih =>
    intro v
    unfold valL
    simp only [List.foldl_cons, List.length_cons]
    rw [ih, ih (0 * 64 + k), Nat.pow_succ]
    simp only [Nat.add_mul, Nat.mul_assoc, Nat.zero_mul, Nat.zero_add, Nat.mul_comm 64]
    omega
theorem valL_app (p : List Nat) (x : Nat) (r : List Nat) : valL (p ++ x :: r) = (valL p * 64 + x) * 64 ^ r.length + valL r := by
  have h : valL (p ++ x :: r) = r.foldl (fun v k => v * 64 + k) (valL p * 64 + x) := by simp [valL, List.foldl_append]
  rw [h, foldl_val]
theorem valL_lt : ∀ (r : List Nat), (∀ k ∈ r, k < 64) → valL r < 64 ^ r.length
  | [], _ => by simp [valL]
  | k :: r, h => by
    have h1 := valL_lt r fun x hx => h x (List.mem_cons_of_mem _ hx)
    have h2 := h k List.mem_cons_self
    have h3 := valL_app [] k r
    simp only [List.nil_append] at h3
    have e : valL ([] : List Nat) = 0 := rfl
    rw [h3, e, List.length_cons, Nat.pow_succ, Nat.zero_mul, Nat.zero_add]
    have h4 : k * 64 ^ r.length ≤ 63 * 64 ^ r.length := Nat.mul_le_mul_right _ (by omega)
    omega
theorem valL_less {p r r' : List Nat} {a b : Nat} (hab : a < b) (hr : ∀ k ∈ r, k < 64) (he : r.length = r'.length) : valL (p ++ a :: r) < valL (p ++ b :: r') := by
  rw [valL_app, valL_app, ← he]
  have h1 := valL_lt r hr
  have h2 : (valL p * 64 + a + 1) * 64 ^ r.length ≤ (valL p * 64 + b) * 64 ^ r.length := Nat.mul_le_mul_right _ (by omega)
  rw [Nat.add_mul (valL p * 64 + a) 1, Nat.one_mul] at h2
  omega
theorem valL_inj : ∀ (n : Nat) (l m : List Nat), l.length = n → m.length = n → (∀ k ∈ l, k < 64) → (∀ k ∈ m, k < 64) → valL l = valL m → l = m
  | 0, l, m, h, h', _, _, _ => by rw [List.length_eq_zero_iff.1 h, List.length_eq_zero_iff.1 h']
  | n + 1, l, m, h, h', h1, h2, hv => by
    rcases List.eq_nil_or_concat l with rfl | ⟨l, a, rfl⟩
    · simp at h
    rcases List.eq_nil_or_concat m with rfl | ⟨m, b, rfl⟩
    · simp at h'
    simp only [List.concat_eq_append, List.length_append, List.length_cons, List.length_nil] at h h' h1 h2 hv ⊢
    rw [valL_snoc, valL_snoc] at hv
    have ha := h1 a (by simp)
    have hb := h2 b (by simp)
    have e1 : valL l = valL m := by omega
    have e2 : a = b := by omega
    rw [valL_inj n l m (by omega) (by omega) (fun k hk => h1 k (by simp [hk])) (fun k hk => h2 k (by simp [hk])) e1, e2]
/-- The one is better than the other one: shorter; or of fewer arcs; or of lesser places. -/
def lessL (x : Int) (l : List Nat) (y : Int) (m : List Nat) : Prop := x < y ∨ x = y ∧ (l.length < m.length ∨ l.length = m.length ∧ valL l < valL m)
instance (x : Int) (l : List Nat) (y : Int) (m : List Nat) : Decidable (lessL x l y m) := by unfold lessL; infer_instance
def LessW (N : ArcsF) (l m : List Nat) : Prop := lessL (lenL N l) l (lenL N m) m
instance (N : ArcsF) (l m : List Nat) : Decidable (LessW N l m) := by unfold LessW; infer_instance
/-- The best walk. -/
def BestW (N : ArcsF) (s t : Nat) (l : List Nat) : Prop := PathL N s t l ∧ ∀ m, PathL N s t m → ¬ LessW N m l
section
variable {N : ArcsF} {s t k : Nat} {l m q : List Nat}
theorem LessW.snoc (h : LessW N l m) (k : Nat) : LessW N (l ++ [k]) (m ++ [k]) := by
  unfold LessW lessL at *
  simp only [lenL_snoc, valL_snoc, List.length_append, List.length_cons, List.length_nil]
  omega
theorem LessW.irrefl : ¬ LessW N l l := by unfold LessW lessL; omega
theorem LessW.len_le (h : ¬ LessW N l m) : lenL N m ≤ lenL N l := by
  unfold LessW lessL at h; omega
theorem LessW.total (hK : N.K ≤ 64) (hl : PathL N s t l) (hm : PathL N s t m) (h1 : ¬ LessW N l m) (h2 : ¬ LessW N m l) : l = m := by
  unfold LessW lessL at h1 h2
  exact valL_inj m.length l m (by omega) rfl (fun k hk => by have := hl.all k hk; omega) (fun k hk => by have := hm.all k hk; omega) (by omega)
theorem BestW.one (hK : N.K ≤ 64) (hl : BestW N s t l) (hm : BestW N s t m) : l = m := LessW.total hK hl.1 hm.1 (hm.2 l hl.1) (hl.2 m hm.1)
theorem BestW.before (h : BestW N s t (l ++ [k])) : BestW N s (N.fr k) l ∧ k < N.K ∧ N.to k = t := by
  obtain ⟨h1, h2, h3⟩ := h.1.unsnoc
  refine ⟨⟨h1, fun m hm hlt => h.2 (m ++ [k]) ?_ (hlt.snoc k)⟩, h2, h3⟩
  rw [← h3]; exact hm.snoc h2
theorem BestW.few (hN : N.ok) (hs : s < N.n) (hS : ¬ SinksP N s) (h : BestW N s t l) : l.length < N.n := by
  obtain ⟨x, c, h1, h2, h3⟩ := short_enough hN hs hS h.1.walk
  obtain ⟨m, h4, h5, h6⟩ := h2.path
  have := h.2 m h5
  unfold LessW lessL at this
  omega
theorem nat_least {P : Nat → Prop} (h : ∃ x, P x) : ∃ x, P x ∧ ∀ y, P y → x ≤ y := by
  obtain ⟨x, hx⟩ := h
  induction x using Nat.strongRecOn with
  | ind x ih =>
    by_cases h2 : ∃ y, P y ∧ y < x
    · obtain ⟨y, h3, h4⟩ := h2
      exact ih y h4 h3
    · exact ⟨x, hx, fun y hy => Nat.le_of_not_lt fun h => h2 ⟨y, hy, h⟩⟩
theorem best_ex {M : Int} (hM : ∀ k, k < N.K → -M ≤ N.fee k ∧ N.fee k ≤ M) (hM0 : 0 ≤ M) (hN : N.ok) (hs : s < N.n) (hS : ¬ SinksP N s) (h : PathL N s t q) : ∃ l, BestW N s t l := by
  obtain ⟨c, ⟨l0, h1, h2⟩, h3⟩ := int_least (P := fun z => ∃ l, PathL N s t l ∧ lenL N l = z) (B := -(M * (N.n : Int))) (fun z ⟨l, h1, h2⟩ => by
    obtain ⟨x, c, h3, h4, h5⟩ := short_enough hN hs hS h1.walk
    obtain ⟨m, h6, h7, h8⟩ := h4.path
    have h9 := (lenL_abs hM h7.all).1
    have h10 : M * (m.length : Int) ≤ M * (N.n : Int) := Int.mul_le_mul_of_nonneg_left (by omega) hM0
    omega) ⟨q, h, rfl⟩
  obtain ⟨x, ⟨l1, h4, h5, h6⟩, h7⟩ := nat_least (P := fun x => ∃ l, PathL N s t l ∧ lenL N l = c ∧ l.length = x) ⟨_, l0, h1, h2, rfl⟩
  obtain ⟨v, ⟨l2, h8, h9, h10, h11⟩, h12⟩ := nat_least (P := fun v => ∃ l, PathL N s t l ∧ lenL N l = c ∧ l.length = x ∧ valL l = v) ⟨_, l1, h4, h5, h6, rfl⟩
  refine ⟨l2, h8, fun m hm hlt => ?_⟩
  have g1 := h3 _ ⟨m, hm, rfl⟩
  unfold LessW lessL at hlt
  have g2 : lenL N m = c := by omega
  have g3 := h7 _ ⟨m, hm, g2, rfl⟩
  have g4 : m.length = x := by omega
  have g5 := h12 _ ⟨m, hm, g2, g4, rfl⟩
  omega
end

/-! What is known of each node: a walk, or none; the rounds. -/
def updD (D : Nat → Option (List Nat)) (t : Nat) (l : List Nat) : Nat → Option (List Nat) := fun x => if x = t then some l else D x
/-- Is there more to be had by that arc? -/
def moreD (N : ArcsF) (D : Nat → Option (List Nat)) (k : Nat) : Bool := match D (N.fr k) with
  | none => false
  | some l => match D (N.to k) with
    | none => true
    | some q => decide (LessW N (l ++ [k]) q)
def stepD (N : ArcsF) (D : Nat → Option (List Nat)) (k : Nat) : Nat → Option (List Nat) := match D (N.fr k) with
  | none => D
  | some l => if moreD N D k then updD D (N.to k) (l ++ [k]) else D
def goD (N : ArcsF) (D : Nat → Option (List Nat)) : Nat → Nat → Option (List Nat)
  | 0 => D
  | k + 1 => stepD N (goD N D k) k
def bitD (N : ArcsF) (D : Nat → Option (List Nat)) : Nat → Bool
  | 0 => false
  | k + 1 => bitD N D k || moreD N (goD N D k) k
def startD (s : Nat) : Nat → Option (List Nat) := fun x => if x = s then some [] else none
def runD (N : ArcsF) (s : Nat) : Nat → Nat → Option (List Nat)
  | 0 => startD s
  | r + 1 => goD N (runD N s r) N.K
/-- What is known are walks, of few arcs. -/
def OkD (N : ArcsF) (s c : Nat) (D : Nat → Option (List Nat)) : Prop := (∀ t l, D t = some l → PathL N s t l ∧ l.length ≤ c ∧ t < N.n) ∧ ∃ l, D s = some l
section
variable {N : ArcsF} {s t k c r : Nat} {D : Nat → Option (List Nat)} {l m q : List Nat}
theorem stepD_none (h : D (N.fr k) = none) : stepD N D k = D := by unfold stepD; rw [h]
theorem moreD_none (h : D (N.fr k) = none) : moreD N D k = false := by unfold moreD; rw [h]
theorem moreD_new (h : D (N.fr k) = some l) (h2 : D (N.to k) = none) : moreD N D k = true := by unfold moreD; rw [h]; simp only [h2]
theorem moreD_old (h : D (N.fr k) = some l) (h2 : D (N.to k) = some q) : moreD N D k = decide (LessW N (l ++ [k]) q) := by unfold moreD; rw [h]; simp only [h2]
theorem stepD_more (h : D (N.fr k) = some l) (h2 : moreD N D k = true) : stepD N D k = updD D (N.to k) (l ++ [k]) := by unfold stepD; rw [h]; simp only [h2, if_true]
theorem stepD_not (h2 : moreD N D k = false) : stepD N D k = D := by
  unfold stepD
  split
  · rfl
  · rw [h2]; rfl
theorem OkD.start (hs : s < N.n) : OkD N s 0 (startD s) := by
  refine ⟨fun t l h => ?_, ⟨[], if_pos rfl⟩⟩
  unfold startD at h
  split at h
  · rename_i e
    injection h with h
    subst e h
    exact ⟨rfl, Nat.le_refl _, hs⟩
  · cases h
theorem OkD.more (h : OkD N s c D) {c' : Nat} (hc : c ≤ c') : OkD N s c' D := ⟨fun t l hl => by have := h.1 t l hl; exact ⟨this.1, by omega, this.2.2⟩, h.2⟩
theorem OkD.step (hN : N.ok) (h : OkD N s c D) (hk : k < N.K) : OkD N s (c + 1) (stepD N D k) := by
  cases hf : D (N.fr k) with
  | none => rw [stepD_none hf]; exact h.more (Nat.le_succ _)
  | some l =>
    cases hm : moreD N D k with
    | false => rw [stepD_not hm]; exact h.more (Nat.le_succ _)
    | true =>
      rw [stepD_more hf hm]
      obtain ⟨h1, h2, h3⟩ := h.1 _ _ hf
      refine ⟨fun t q hq => ?_, ?_⟩
      · unfold updD at hq
        split at hq
        · rename_i e
          injection hq with hq
          subst e hq
          exact ⟨h1.snoc hk, by simp; omega, (hN k hk).2⟩
        · have := h.1 _ _ hq
          exact ⟨this.1, by omega, this.2.2⟩
      · unfold updD
        split
        · exact ⟨_, rfl⟩
        · exact h.2
theorem OkD.go_ (hN : N.ok) (h : OkD N s c D) : ∀ k, k ≤ N.K → OkD N s (c + k) (goD N D k)
  | 0, _ => h
  | k + 1, hk => (OkD.go_ hN h k (by omega)).step hN (by omega)
theorem OkD.run (hN : N.ok) (hs : s < N.n) : ∀ r, OkD N s (r * N.K) (runD N s r)
  | 0 => by rw [Nat.zero_mul]; exact .start hs
  | r + 1 => by rw [Nat.succ_mul]; exact (OkD.run hN hs r).go_ hN _ (Nat.le_refl _)
theorem stepD_best (hb : BestW N s t l) (h : OkD N s c D) (hk : k < N.K) (hd : D t = some l) : stepD N D k t = some l := by
  cases hf : D (N.fr k) with
  | none => rw [stepD_none hf]; exact hd
  | some m =>
    cases hm : moreD N D k with
    | false => rw [stepD_not hm]; exact hd
    | true =>
      rw [stepD_more hf hm]
      unfold updD
      split
      · rename_i e
        subst e
        rw [moreD_old hf hd] at hm
        exact absurd (of_decide_eq_true hm) (hb.2 _ ((h.1 _ _ hf).1.snoc hk))
      · exact hd
theorem goD_best (hN : N.ok) (hb : BestW N s t l) (h : OkD N s c D) (hd : D t = some l) : ∀ k, k ≤ N.K → goD N D k t = some l
  | 0, _ => hd
  | k + 1, hk => stepD_best hb (h.go_ hN k (by omega)) (by omega) (goD_best hN hb h hd k (by omega))
/-- The arc by which the best walk ends makes it known, where the walk ahead of it is. -/
theorem stepD_via (hK : N.K ≤ 64) (hb : BestW N s (N.to k) (l ++ [k])) (h : OkD N s c D) (_hk : k < N.K) (hd : D (N.fr k) = some l) : stepD N D k (N.to k) = some (l ++ [k]) := by
  cases ht : D (N.to k) with
  | none =>
    rw [stepD_more hd (moreD_new hd ht)]; exact if_pos rfl
  | some q =>
    by_cases hl : LessW N (l ++ [k]) q
    · rw [stepD_more hd (by rw [moreD_old hd ht]; exact decide_eq_true hl)]; exact if_pos rfl
    · rw [stepD_not (by rw [moreD_old hd ht]; exact decide_eq_false hl), ht]
      have hq := (h.1 _ _ ht).1
      rw [LessW.total hK hb.1 hq hl (hb.2 q hq)]
theorem goD_via (hN : N.ok) (hK : N.K ≤ 64) (hb : BestW N s t (l ++ [k])) (h : OkD N s c D) (hd : D (N.fr k) = some l) : goD N D N.K t = some (l ++ [k]) := by
  obtain ⟨hb1, hk, rfl⟩ := hb.before
  have h1 : goD N D k (N.fr k) = some l := goD_best hN hb1 h hd k (by omega)
  have h2 : goD N D (k + 1) (N.to k) = some (l ++ [k]) := stepD_via hK hb (h.go_ hN k (by omega)) hk h1
  have h3 : ∀ j, k + 1 + j ≤ N.K → goD N D (k + 1 + j) (N.to k) = some (l ++ [k]) := fun j => by
    induction j with
    | zero => exact fun _ => h2
    | succ j ih =>
      intro hj
      show stepD N (goD N D (k + 1 + j)) (k + 1 + j) (N.to k) = _
      exact stepD_best hb (h.go_ hN (k + 1 + j) (by omega)) (by omega) (ih (by omega))
  have := h3 (N.K - (k + 1)) (by omega)
  rwa [show k + 1 + (N.K - (k + 1)) = N.K by omega] at this
theorem run_best (hN : N.ok) (hs : s < N.n) (hK : N.K ≤ 64) : ∀ r t l, BestW N s t l → l.length ≤ r → runD N s r t = some l
  | 0, t, l, hb, hl => by
    obtain rfl : l = [] := List.length_eq_zero_iff.1 (by omega)
    have e : s = t := hb.1
    subst e
    exact if_pos rfl
  | r + 1, t, l, hb, hl => by
    rcases List.eq_nil_or_concat l with rfl | ⟨m, k, rfl⟩
    · have e : s = t := hb.1
      subst e
      exact goD_best hN hb (.run hN hs r) (run_best hN hs hK r s [] hb (Nat.zero_le _)) _ (Nat.le_refl _)
    · rw [List.concat_eq_append] at hb hl ⊢
      simp only [List.length_append, List.length_cons, List.length_nil] at hl
      exact goD_via hN hK hb (.run hN hs r) (run_best hN hs hK r _ m hb.before.1 (by omega))
theorem bitD_false : ∀ {k : Nat}, bitD N D k = false → (∀ j, j ≤ k → goD N D j = D) ∧ ∀ j, j < k → moreD N D j = false
  | 0, _ => ⟨fun j hj => by
      obtain rfl : j = 0 := by omega
      rfl, fun j hj => by omega⟩
  | k + 1, h => by
    unfold bitD at h
    obtain ⟨h1, h2⟩ := Bool.or_eq_false_iff.1 h
    obtain ⟨h3, h4⟩ := bitD_false h1
    rw [h3 k (Nat.le_refl _)] at h2
    refine ⟨fun j hj => ?_, fun j hj => ?_⟩
    · rcases Nat.lt_or_ge k j with h5 | h5
      · obtain rfl : j = k + 1 := by omega
        show stepD N (goD N D k) k = D
        rw [h3 k (Nat.le_refl _)]; exact stepD_not h2
      · exact h3 j h5
    · rcases Nat.lt_or_ge j k with h5 | h5
      · exact h4 j h5
      · obtain rfl : j = k := by omega
        exact h2
/-- Where nothing more is to be had, no ring is below nothing. -/
theorem still_fine (h : OkD N s c D) (hb : bitD N D N.K = false) : ¬ SinksP N s := by
  obtain ⟨_, hm⟩ := bitD_false hb
  have arc : ∀ i j d a l, ArcC N i j d → D i = some l → lenL N l = a → ∃ q, D j = some q ∧ lenL N q ≤ a + d := fun i j d a l ⟨k, h1, h2, h3, h4⟩ hi ha => by
    subst h2 h3 h4 ha
    have := hm k h1
    cases ht : D (N.to k) with
    | none => rw [moreD_new hi ht] at this; cases this
    | some q =>
      rw [moreD_old hi ht] at this
      have := LessW.len_le (of_decide_eq_false this)
      rw [lenL_snoc] at this
      exact ⟨q, rfl, this⟩
  have walk : ∀ x i j c l, WalkN N x i j c → D i = some l → ∃ q, D j = some q ∧ lenL N q ≤ lenL N l + c := fun x => by
    induction x with
    | zero =>
      rintro i j c l ⟨p, cs, _, h2, h3, h4⟩ hi
      have e : j = i := h3.symm.trans h2
      subst e
      exact ⟨l, hi, by rw [← h4]; simp [sumI]⟩
    | succ x ih =>
      intro i j c l h hi
      obtain ⟨m, a, d, h1, h2, rfl⟩ := h.unsnoc
      obtain ⟨q, h3, h4⟩ := ih i m a l h1 hi
      obtain ⟨q', h5, h6⟩ := arc m j d _ q h2 h3 rfl
      exact ⟨q', h5, by omega⟩
  rintro ⟨u, x, c', ⟨x0, c0, h0⟩, hw, hc⟩
  obtain ⟨l, hl⟩ := h.2
  obtain ⟨q, h1, _⟩ := walk x0 s u c0 l h0 hl
  obtain ⟨q', h2, h3⟩ := walk x u u c' q hw h1
  rw [h1] at h2
  injection h2 with h2
  subst h2
  omega
/-- Behind one round less than there are nodes all is known, or there is more to be had for ever. -/
theorem run_all {M : Int} (hM : ∀ k, k < N.K → -M ≤ N.fee k ∧ N.fee k ≤ M) (hM0 : 0 ≤ M) (hN : N.ok) (hs : s < N.n) (hK : N.K ≤ 64) (hS : ¬ SinksP N s) (hr : N.n ≤ r + 1) : (∀ t, (∀ l, runD N s r t = some l → BestW N s t l) ∧ (runD N s r t = none → ∀ l, ¬ PathL N s t l)) ∧ bitD N (runD N s r) N.K = false := by
  have hok := OkD.run (N := N) hN hs r
  have hall : ∀ t q, PathL N s t q → ∃ l, BestW N s t l ∧ runD N s r t = some l := fun t q hq => by
    obtain ⟨l, hl⟩ := best_ex hM hM0 hN hs hS hq
    exact ⟨l, hl, run_best hN hs hK r t l hl (by have := hl.few hN hs hS; omega)⟩
  have h1 : ∀ t, (∀ l, runD N s r t = some l → BestW N s t l) ∧ (runD N s r t = none → ∀ l, ¬ PathL N s t l) := fun t => by
    refine ⟨fun l hl => ?_, fun hn l hl => ?_⟩
    · obtain ⟨m, h2, h3⟩ := hall t l (hok.1 t l hl).1
      rw [hl] at h3
      injection h3 with h3
      rw [h3]; exact h2
    · obtain ⟨m, _, h3⟩ := hall t l hl
      rw [hn] at h3
      cases h3
  refine ⟨h1, ?_⟩
  have h2 : ∀ k, k < N.K → moreD N (runD N s r) k = false := fun k hk => by
    cases hf : runD N s r (N.fr k) with
    | none => exact moreD_none hf
    | some l =>
      have hp := (hok.1 _ _ hf).1.snoc hk
      cases ht : runD N s r (N.to k) with
      | none => exact absurd hp ((h1 _).2 ht _)
      | some q =>
        rw [moreD_old hf ht]
        exact decide_eq_false (((h1 _).1 q ht).2 _ hp)
  have h3 : ∀ k, k ≤ N.K → goD N (runD N s r) k = runD N s r ∧ bitD N (runD N s r) k = false := fun k => by
    induction k with
    | zero => exact fun _ => ⟨rfl, rfl⟩
    | succ k ih =>
      intro hk
      obtain ⟨g1, g2⟩ := ih (by omega)
      refine ⟨?_, ?_⟩
      · show stepD N (goD N (runD N s r) k) k = _
        rw [g1]; exact stepD_not (h2 k (by omega))
      · show (bitD N (runD N s r) k || moreD N (goD N (runD N s r) k) k) = false
        rw [g1, g2, h2 k (by omega)]; rfl
  exact (h3 _ (Nat.le_refl _)).2
theorem bit_sinks {M : Int} (hM : ∀ k, k < N.K → -M ≤ N.fee k ∧ N.fee k ≤ M) (hM0 : 0 ≤ M) (hN : N.ok) (hs : s < N.n) (hK : N.K ≤ 64) (hr : N.n ≤ r + 1) : bitD N (runD N s r) N.K = true ↔ SinksP N s := by
  constructor
  · intro hb
    apply Classical.byContradiction
    intro hS
    rw [(run_all hM hM0 hN hs hK hS hr).2] at hb
    cases hb
  · intro hS
    cases hb : bitD N (runD N s r) N.K with
    | true => rfl
    | false => exact absurd hS (still_fine (OkD.run hN hs r) hb)
end
end Go.Proofs.Ytkpejmpnbdblbaa
