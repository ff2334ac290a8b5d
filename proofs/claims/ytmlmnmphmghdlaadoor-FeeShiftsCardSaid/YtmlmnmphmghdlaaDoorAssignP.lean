/- Who gets what, for the least fees together: the first of the best lists, by a recursion that tries all; more on a row; EGERVARY's one way. Plain facts, of no program. -/
import Derived.Test.YtmlmnmphmghdlaaDoorFlowP
namespace Go.Proofs.YtmlmnmphmghdlaaDoor

/-- What a list costs, from place i on. -/
def costA (fee : Nat → Nat → Int) : Nat → List Nat → Int
  | _, [] => 0
  | i, x :: r => fee i x + costA fee (i + 1) r
theorem costA_app (fee : Nat → Nat → Int) : ∀ (l r : List Nat) i, costA fee i (l ++ r) = costA fee i l + costA fee (i + l.length) r
  | [], r, i => by simp [costA]
  | x :: l, r, i => by
    show fee i x + costA fee (i + 1) (l ++ r) = fee i x + costA fee (i + 1) l + costA fee (i + (l.length + 1)) r
    rw [costA_app fee l r (i + 1), show i + 1 + l.length = i + (l.length + 1) by omega]; omega
/-- A whole list that begins with l. -/
structure ExtA (n : Nat) (l m : List Nat) : Prop where
  pre : ∃ r, m = l ++ r
  len : m.length = n
  nd : m.Nodup
  lt : ∀ x ∈ m, x < n
/-- The lesser number where two first differ. -/
def LexLt (a b : List Nat) : Prop := ∃ p x y r s, a = p ++ x :: r ∧ b = p ++ y :: s ∧ x < y
theorem LexLt.irr {a : List Nat} : ¬ LexLt a a := fun ⟨p, x, y, r, s, h1, h2, h3⟩ => by
  rw [h1] at h2
  have := List.append_cancel_left h2
  injection this with h4
  omega
theorem LexLt.asymm {a b : List Nat} (h : LexLt a b) (h2 : LexLt b a) : False := by
  obtain ⟨p, x, y, r, s, rfl, hb, hxy⟩ := h
  obtain ⟨q, u, v, t, w, hb2, ha, huv⟩ := h2
  rw [hb2] at hb
  have key : ∀ (p q : List Nat) (x y u v : Nat) (r s t w : List Nat), q ++ u :: t = p ++ y :: s → p ++ x :: r = q ++ v :: w → x < y → u < v → False := fun p => by
    induction p with
    | nil =>
      intro q x y u v r s t w h1 h2 hxy huv
      cases q with
      | nil =>
        simp only [List.nil_append, List.cons.injEq] at h1 h2
        omega
      | cons z q =>
        simp only [List.nil_append, List.cons_append, List.cons.injEq] at h1 h2
        omega
    | cons c p ih =>
      intro q x y u v r s t w h1 h2 hxy huv
      cases q with
      | nil =>
        simp only [List.nil_append, List.cons_append, List.cons.injEq] at h1 h2
        omega
      | cons z q =>
        simp only [List.cons_append, List.cons.injEq] at h1 h2
        exact ih q x y u v r s t w h1.2 h2.2 hxy huv
  exact key p q x y u v r s t w hb ha hxy huv
structure BestA (fee : Nat → Nat → Int) (n : Nat) (l m : List Nat) : Prop where
  ext : ExtA n l m
  least : ∀ m', ExtA n l m' → costA fee 0 m ≤ costA fee 0 m' ∧ (costA fee 0 m' = costA fee 0 m → m = m' ∨ LexLt m m')
theorem BestA.one {fee : Nat → Nat → Int} {n : Nat} {l m m' : List Nat} (h : BestA fee n l m) (h' : BestA fee n l m') : m = m' := by
  obtain ⟨h1, h2⟩ := h.least m' h'.ext
  obtain ⟨h3, h4⟩ := h'.least m h.ext
  rcases h2 (by omega) with h5 | h5
  · exact h5
  · rcases h4 (by omega) with h6 | h6
    · exact h6.symm
    · exact (h5.asymm h6).elim
/-- The first k who may come next, tried. -/
def asgTo (rec_ : Nat → List Nat × Int) (fee : Nat → Int) (l : List Nat) : Nat → Option (List Nat × Int)
  | 0 => none
  | k + 1 => if k ∈ l then asgTo rec_ fee l k else match asgTo rec_ fee l k with
    | none => some ((rec_ k).1, (rec_ k).2 + fee k)
    | some b => if (rec_ k).2 + fee k < b.2 then some ((rec_ k).1, (rec_ k).2 + fee k) else some b
/-- The recursion. -/
def asgR (fee : Nat → Nat → Int) (n : Nat) : Nat → List Nat → List Nat × Int
  | 0, l => (l, 0)
  | r + 1, l => (asgTo (fun j => asgR fee n r (l ++ [j])) (fee l.length) l n).getD ([], 0)
section
variable {fee : Nat → Nat → Int} {n : Nat}
theorem ExtA.next {l m : List Nat} (h : ExtA n l m) (hl : l.length < n) : ∃ j, j < n ∧ j ∉ l ∧ ExtA n (l ++ [j]) m := by
  obtain ⟨r, hr⟩ := h.pre
  cases r with
  | nil =>
    have := h.len
    rw [hr, List.append_nil] at this
    omega
  | cons j r =>
    refine ⟨j, h.lt j (by rw [hr]; simp), fun hj => ?_, ⟨r, by rw [hr]; simp⟩, h.len, h.nd, h.lt⟩
    have := h.nd
    rw [hr, List.nodup_append] at this
    exact this.2.2 j hj j (List.mem_cons_self ..) rfl
theorem ExtA.less {l m : List Nat} {j : Nat} (h : ExtA n (l ++ [j]) m) : ExtA n l m ∧ ∃ r, m = l ++ j :: r := by
  obtain ⟨r, hr⟩ := h.pre
  exact ⟨⟨⟨j :: r, by rw [hr]; simp⟩, h.len, h.nd, h.lt⟩, r, by rw [hr]; simp⟩
/-- What is found among the first k. -/
structure AsgI (fee : Nat → Nat → Int) (n : Nat) (l : List Nat) (k : Nat) (b : List Nat × Int) : Prop where
  ext : ∃ j, j < k ∧ j ∉ l ∧ ExtA n (l ++ [j]) b.1
  cost : costA fee 0 b.1 = costA fee 0 l + b.2
  least : ∀ j m', j < k → j ∉ l → ExtA n (l ++ [j]) m' → costA fee 0 b.1 ≤ costA fee 0 m' ∧ (costA fee 0 m' = costA fee 0 b.1 → b.1 = m' ∨ LexLt b.1 m')
theorem asgTo_ok {l : List Nat} {rec_ : Nat → List Nat × Int} (hrec : ∀ j, j < n → j ∉ l → BestA fee n (l ++ [j]) (rec_ j).1 ∧ costA fee 0 (rec_ j).1 = costA fee 0 l + fee l.length j + (rec_ j).2) :
    ∀ k, k ≤ n → (∀ b, asgTo rec_ (fee l.length) l k = some b → AsgI fee n l k b) ∧ (asgTo rec_ (fee l.length) l k = none → ∀ j, j < k → j ∈ l)
  | 0, _ => ⟨fun b h => (by cases h), fun _ j hj => absurd hj (by omega)⟩
  | k + 1, hk => by
    obtain ⟨ih1, ih2⟩ := asgTo_ok hrec k (by omega)
    by_cases hkl : k ∈ l
    · have e : asgTo rec_ (fee l.length) l (k + 1) = asgTo rec_ (fee l.length) l k := by simp only [asgTo]; rw [if_pos hkl]
      rw [e]
      refine ⟨fun b hb => ?_, fun h j hj => ?_⟩
      · have H := ih1 b hb
        obtain ⟨j, h1, h2⟩ := H.ext
        refine ⟨⟨j, by omega, h2⟩, H.cost, fun j m' hj hjl hm => ?_⟩
        rcases Nat.lt_or_ge j k with h3 | h3
        · exact H.least j m' h3 hjl hm
        · obtain rfl : j = k := by omega
          exact absurd hkl hjl
      · rcases Nat.lt_or_ge j k with h3 | h3
        · exact ih2 h j h3
        · obtain rfl : j = k := by omega
          exact hkl
    · obtain ⟨hB, hC⟩ := hrec k (by omega) hkl
      -- the new one alone
      have new : (∀ j, j < k → j ∈ l) → AsgI fee n l (k + 1) ((rec_ k).1, (rec_ k).2 + fee l.length k) := fun hall => by
        refine ⟨⟨k, by omega, hkl, hB.ext⟩, by show costA fee 0 (rec_ k).1 = _; rw [hC]; omega, fun j m' hj hjl hm => ?_⟩
        rcases Nat.lt_or_ge j k with h3 | h3
        · exact absurd (hall j h3) hjl
        · obtain rfl : j = k := by omega
          exact hB.least m' hm
      cases h : asgTo rec_ (fee l.length) l k with
      | none =>
        have e : asgTo rec_ (fee l.length) l (k + 1) = some ((rec_ k).1, (rec_ k).2 + fee l.length k) := by simp only [asgTo]; rw [if_neg hkl, h]
        rw [e]
        exact ⟨fun b hb => by injection hb with hb; rw [← hb]; exact new (ih2 h), fun h => by cases h⟩
      | some b =>
        have H := ih1 b h
        have e : asgTo rec_ (fee l.length) l (k + 1) = if (rec_ k).2 + fee l.length k < b.2 then some ((rec_ k).1, (rec_ k).2 + fee l.length k) else some b := by simp only [asgTo]; rw [if_neg hkl, h]
        rw [e]
        by_cases hlt : (rec_ k).2 + fee l.length k < b.2
        · rw [if_pos hlt]
          refine ⟨fun b' hb => ?_, fun h => by cases h⟩
          injection hb with hb
          rw [← hb]
          refine ⟨⟨k, by omega, hkl, hB.ext⟩, by show costA fee 0 (rec_ k).1 = _; rw [hC]; omega, fun j m' hj hjl hm => ?_⟩
          rcases Nat.lt_or_ge j k with h3 | h3
          · obtain ⟨h4, _⟩ := H.least j m' h3 hjl hm
            have := H.cost
            exact ⟨by show costA fee 0 (rec_ k).1 ≤ _; omega, fun he => by
              have he' : costA fee 0 m' = costA fee 0 (rec_ k).1 := he
              omega⟩
          · obtain rfl : j = k := by omega
            exact hB.least m' hm
        · rw [if_neg hlt]
          refine ⟨fun b' hb => ?_, fun h => by cases h⟩
          injection hb with hb
          rw [← hb]
          obtain ⟨j0, h1, h2, h3⟩ := H.ext
          refine ⟨⟨j0, by omega, h2, h3⟩, H.cost, fun j m' hj hjl hm => ?_⟩
          rcases Nat.lt_or_ge j k with h4 | h4
          · exact H.least j m' h4 hjl hm
          · obtain rfl : j = k := by omega
            obtain ⟨h5, _⟩ := hB.least m' hm
            have h6 := H.cost
            obtain ⟨_, r, hr⟩ := h3.less
            obtain ⟨_, r', hr'⟩ := hm.less
            exact ⟨by omega, fun _ => .inr ⟨l, j0, j, r, r', hr, hr', h1⟩⟩
/-- The recursion finds the first of the best. -/
theorem asgR_ok : ∀ r l, l.length + r = n → l.Nodup → (∀ x ∈ l, x < n) → BestA fee n l (asgR fee n r l).1 ∧ costA fee 0 (asgR fee n r l).1 = costA fee 0 l + (asgR fee n r l).2
  | 0, l, hl, hnd, hlt => by
    refine ⟨⟨⟨⟨[], by simp [asgR]⟩, by simpa [asgR] using hl, hnd, hlt⟩, fun m' hm => ?_⟩, by simp [asgR]⟩
    obtain ⟨r, hr⟩ := hm.pre
    have hr0 : r = [] := by
      have := hm.len
      rw [hr, List.length_append] at this
      exact List.length_eq_zero_iff.1 (by omega)
    rw [hr0, List.append_nil] at hr
    rw [hr]
    exact ⟨Int.le_refl _, fun _ => .inl rfl⟩
  | r + 1, l, hl, hnd, hlt => by
    have hrec : ∀ j, j < n → j ∉ l → BestA fee n (l ++ [j]) (asgR fee n r (l ++ [j])).1 ∧ costA fee 0 (asgR fee n r (l ++ [j])).1 = costA fee 0 l + fee l.length j + (asgR fee n r (l ++ [j])).2 := fun j hj hjl => by
      obtain ⟨h1, h2⟩ := asgR_ok r (l ++ [j]) (by simp; omega) (by
        rw [List.nodup_append]
        refine ⟨hnd, by simp, fun a ha b hb => ?_⟩
        rw [List.mem_singleton.1 hb]
        rintro rfl
        exact hjl ha) (fun x hx => by
        rcases List.mem_append.1 hx with hx | hx
        · exact hlt x hx
        · rw [List.mem_singleton.1 hx]; exact hj)
      refine ⟨h1, ?_⟩
      rw [h2, costA_app]
      simp only [costA, Nat.zero_add]
      omega
    obtain ⟨h1, h2⟩ := asgTo_ok (rec_ := fun j => asgR fee n r (l ++ [j])) hrec n (Nat.le_refl _)
    cases h : asgTo (fun j => asgR fee n r (l ++ [j])) (fee l.length) l n with
    | none =>
      exfalso
      -- all n are in l, which is shorter
      have hall := h2 h
      have hlen : (List.range n).length ≤ l.length := by
        have key : ∀ (a b : List Nat), a.Nodup → (∀ x ∈ a, x ∈ b) → a.length ≤ b.length := fun a => by
          induction a with
          | nil => intro b _ _; exact Nat.zero_le _
          | cons x a ih =>
            intro b hn hs
            obtain ⟨hx, hn⟩ := List.nodup_cons.1 hn
            have hxb := hs x (List.mem_cons_self ..)
            have h3 := ih (b.erase x) hn fun y hy => (List.mem_erase_of_ne (fun e => hx (by rw [← e]; exact hy))).2 (hs y (List.mem_cons_of_mem _ hy))
            rw [List.length_erase_of_mem hxb] at h3
            have := List.length_pos_of_mem hxb
            simp only [List.length_cons]; omega
        exact key _ _ List.nodup_range fun x hx => hall x (List.mem_range.1 hx)
      rw [List.length_range] at hlen
      omega
    | some b =>
      have e : asgR fee n (r + 1) l = b := by simp only [asgR]; rw [h]; rfl
      rw [e]
      have H := h1 b h
      obtain ⟨j, hj1, hj2, hj3⟩ := H.ext
      refine ⟨⟨hj3.less.1, fun m' hm => ?_⟩, H.cost⟩
      obtain ⟨i, hi1, hi2, hi3⟩ := hm.next (by omega)
      exact H.least i m' hi1 hi2 hi3
/-- More on one row: the same list, and so much more. -/
theorem costA_shift {fee' : Nat → Nat → Int} {k : Nat} {d : Int} (hf : ∀ i j, fee' i j = fee i j + if i = k then d else 0) : ∀ (m : List Nat) i, costA fee' i m = costA fee i m + if i ≤ k ∧ k < i + m.length then d else 0
  | [], i => by simp [costA]; omega
  | x :: m, i => by
    show fee' i x + costA fee' (i + 1) m = fee i x + costA fee (i + 1) m + if i ≤ k ∧ k < i + (m.length + 1) then d else 0
    rw [hf, costA_shift hf m (i + 1)]
    by_cases h1 : i = k
    · rw [if_pos h1, if_neg (by omega), if_pos (by omega)]; omega
    · rw [if_neg h1]
      by_cases h2 : i + 1 ≤ k ∧ k < i + 1 + m.length
      · rw [if_pos h2, if_pos (by omega)]; omega
      · rw [if_neg h2, if_neg (by omega)]; omega
theorem best_shift {fee' : Nat → Nat → Int} {k : Nat} {d : Int} (hk : k < n) (hf : ∀ i j, fee' i j = fee i j + if i = k then d else 0) {m : List Nat} (h : BestA fee n [] m) : BestA fee' n [] m ∧ costA fee' 0 m = costA fee 0 m + d := by
  have hc : ∀ m', ExtA n [] m' → costA fee' 0 m' = costA fee 0 m' + d := fun m' hm => by
    rw [costA_shift hf m' 0, if_pos ⟨Nat.zero_le _, by rw [hm.len]; omega⟩]
  refine ⟨⟨h.ext, fun m' hm => ?_⟩, hc m h.ext⟩
  obtain ⟨h1, h2⟩ := h.least m' hm
  rw [hc m h.ext, hc m' hm]
  exact ⟨by omega, fun he => h2 (by omega)⟩
/-- EGERVARY, one way: numbers of both sides, no two more than the fee of both, are together no more than any list costs. -/
theorem egervary {u v : Nat → Int} (huv : ∀ i j, i < n → j < n → u i + v j ≤ fee i j) {m : List Nat} (h : ExtA n [] m) : sumI u n + sumI v n ≤ costA fee 0 m := by
  have h1 : ∀ (m : List Nat) i, (∀ x ∈ m, x < n) → i + m.length ≤ n → sumI (fun t => u (i + t)) m.length + (m.map v).foldr (· + ·) 0 ≤ costA fee i m := fun m => by
    induction m with
    | nil => intro i _ _; simp [sumI, costA]
    | cons x m ih =>
      intro i hx hi
      have h2 := ih (i + 1) (fun y hy => hx y (List.mem_cons_of_mem _ hy)) (by simp at hi; omega)
      have h3 := huv i x (by simp at hi; omega) (hx x (List.mem_cons_self ..))
      have h4 : ∀ (f : Nat → Int) a, sumI f (a + 1) = f 0 + sumI (fun t => f (t + 1)) a := fun f a => by
        induction a with
        | zero => simp [sumI]
        | succ a ih => simp only [sumI] at ih ⊢; omega
      show sumI (fun t => u (i + t)) (m.length + 1) + (v x + (m.map v).foldr (· + ·) 0) ≤ fee i x + costA fee (i + 1) m
      rw [h4]
      have h5 : sumI (fun t => u (i + (t + 1))) m.length = sumI (fun t => u (i + 1 + t)) m.length := sumI_congr _ fun t _ => by rw [show i + (t + 1) = i + 1 + t by omega]
      simp only [Nat.add_zero]
      omega
  have h2 := h1 m 0 h.lt (by rw [h.len]; omega)
  rw [h.len] at h2
  have h3 : sumI (fun t => u (0 + t)) n = sumI u n := sumI_congr _ fun t _ => by rw [Nat.zero_add]
  -- each number of the other side is there once
  have h4 : ∀ (k : Nat) (m : List Nat), m.Nodup → (∀ x ∈ m, x < k) → m.length = k → (m.map v).foldr (· + ·) 0 = sumI v k := fun k => by
    induction k with
    | zero =>
      intro m _ _ hl
      rw [List.length_eq_zero_iff.1 hl]; rfl
    | succ k ih =>
      intro m hn hx hl
      have hk : k ∈ m := by
        apply Classical.byContradiction
        intro hk
        have key : ∀ (a b : List Nat), a.Nodup → (∀ x ∈ a, x ∈ b) → a.length ≤ b.length := fun a => by
          induction a with
          | nil => intro b _ _; exact Nat.zero_le _
          | cons x a ih =>
            intro b hn hs
            obtain ⟨hx, hn⟩ := List.nodup_cons.1 hn
            have hxb := hs x (List.mem_cons_self ..)
            have h3 := ih (b.erase x) hn fun y hy => (List.mem_erase_of_ne (fun e => hx (by rw [← e]; exact hy))).2 (hs y (List.mem_cons_of_mem _ hy))
            rw [List.length_erase_of_mem hxb] at h3
            have := List.length_pos_of_mem hxb
            simp only [List.length_cons]; omega
        have := key m (List.range k) hn fun x hxm => List.mem_range.2 (by
          have h5 := hx x hxm
          have h6 : x ≠ k := fun e => hk (e ▸ hxm)
          omega)
        rw [List.length_range] at this
        omega
      obtain ⟨a, b, rfl⟩ := List.append_of_mem hk
      have hab : (a ++ b).Nodup := by
        rw [List.nodup_append] at hn ⊢
        exact ⟨hn.1, (List.nodup_cons.1 hn.2.1).2, fun x hx y hy => hn.2.2 x hx y (List.mem_cons_of_mem _ hy)⟩
      have hkab : k ∉ a ++ b := fun hm => by
        rw [List.nodup_append] at hn
        rcases List.mem_append.1 hm with hm | hm
        · exact hn.2.2 k hm k (List.mem_cons_self ..) rfl
        · exact (List.nodup_cons.1 hn.2.1).1 hm
      have h5 := ih (a ++ b) hab (fun x hxm => by
        have h6 := hx x (by
          rcases List.mem_append.1 hxm with h | h
          · exact List.mem_append_left _ h
          · exact List.mem_append_right _ (List.mem_cons_of_mem _ h))
        have h7 : x ≠ k := fun e => hkab (e ▸ hxm)
        omega) (by simp at hl ⊢; omega)
      have h6 : ∀ (a b : List Int), (a ++ b).foldr (· + ·) 0 = a.foldr (· + ·) 0 + b.foldr (· + ·) 0 := fun a b => by
        induction a with
        | nil => simp
        | cons x a ih => simp only [List.cons_append, List.foldr_cons]; rw [ih]; omega
      rw [List.map_append, h6] at h5
      rw [List.map_append, h6]
      simp only [List.map_cons, List.foldr_cons, sumI]
      omega
  have h5 := h4 n m h.nd h.lt h.len
  omega
end
end Go.Proofs.YtmlmnmphmghdlaaDoor
