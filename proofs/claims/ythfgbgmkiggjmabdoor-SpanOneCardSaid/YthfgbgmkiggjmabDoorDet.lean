/- Determinants of whole numbers, along the first row. Plain facts. No conditions. -/
import Derived.Test.YthfgbgmkiggjmabDoorPlain
namespace Go.Proofs.YthfgbgmkiggjmabDoor

/-- The alternating sum over what one leaves out of a list. -/
def altS {β : Type} (f : β → List β → Int) : List β → List β → Int
  | _, [] => 0
  | pre, c :: post => f c (pre ++ post) - altS f (pre ++ [c]) post
/-- The determinant of a table: rows, columns, and what stands where they meet. -/
def det {α β : Type} (A : α → β → Int) : List α → List β → Int
  | [], _ => 1
  | r :: rs, cs => altS (fun c rest => A r c * det A rs rest) [] cs

theorem altS_congr {β : Type} {f g : β → List β → Int} : ∀ (post pre : List β), (∀ c ∈ post, ∀ X, X.length + 1 = pre.length + post.length → (∀ x ∈ X, x ∈ pre ∨ x ∈ post) → f c X = g c X) → altS f pre post = altS g pre post
  | [], _, _ => rfl
  | c :: post, pre, h => by
    simp only [altS]
    rw [h c (List.mem_cons_self ..) (pre ++ post) (by simp; omega) (fun x hx => by rcases List.mem_append.1 hx with h | h <;> simp [h]),
      altS_congr post (pre ++ [c]) (fun d hd X hX hm => h d (List.mem_cons_of_mem _ hd) X (by simp at hX ⊢; omega) (fun x hx => by
        rcases hm x hx with h | h
        · rcases List.mem_append.1 h with h | h
          · exact .inl h
          · exact .inr (by simp at h; simp [h])
        · exact .inr (List.mem_cons_of_mem _ h)))]
theorem altS_lin {β : Type} {f g h : β → List β → Int} (k l : Int) : ∀ (post pre : List β), (∀ c ∈ post, ∀ X, X.length + 1 = pre.length + post.length → h c X = k * f c X + l * g c X) → altS h pre post = k * altS f pre post + l * altS g pre post
  | [], _, _ => by simp [altS]
  | c :: post, pre, hh => by
    simp only [altS]
    rw [hh c (List.mem_cons_self ..) (pre ++ post) (by simp; omega), altS_lin k l post (pre ++ [c]) (fun d hd X hX => hh d (List.mem_cons_of_mem _ hd) X (by simp at hX ⊢; omega)), Int.mul_sub, Int.mul_sub]
    omega
theorem altS_zero {β : Type} {f : β → List β → Int} : ∀ (post pre : List β), (∀ c ∈ post, ∀ X, f c X = 0) → altS f pre post = 0
  | [], _, _ => rfl
  | c :: post, pre, h => by
    simp only [altS]
    rw [h c (List.mem_cons_self ..), altS_zero post _ (fun d hd X => h d (List.mem_cons_of_mem _ hd) X)]; rfl
theorem altS_shift {β : Type} (f : β → List β → Int) (c : β) : ∀ (post pre : List β), altS f (c :: pre) post = altS (fun d X => f d (c :: X)) pre post
  | [], _ => rfl
  | d :: post, pre => by
    simp only [altS, List.cons_append]
    rw [← List.cons_append, altS_shift f c post (pre ++ [d])]

/-! Columns. -/
theorem altS_in {β : Type} {f : β → List β → Int} {n : Nat} {u v w : β} (k l : Int) (hf : ∀ c X Y, X.length + Y.length + 1 = n → f c (X ++ w :: Y) = k * f c (X ++ u :: Y) + l * f c (X ++ v :: Y)) : ∀ (Q X Y : List β), X.length + Y.length + 1 + Q.length = n + 1 → altS f (X ++ w :: Y) Q = k * altS f (X ++ u :: Y) Q + l * altS f (X ++ v :: Y) Q
  | [], _, _, _ => by simp [altS]
  | c :: Q, X, Y, h => by
    simp only [altS, List.append_assoc, List.cons_append]
    have h1 := hf c X (Y ++ Q) (by simp at h ⊢; omega)
    have h2 := altS_in k l hf Q X (Y ++ [c]) (by simp at h ⊢; omega)
    rw [h1, h2, Int.mul_sub, Int.mul_sub]
    omega
theorem altS_at {β : Type} {f : β → List β → Int} {n : Nat} {u v w : β} (k l : Int) (hf : ∀ c X Y, X.length + Y.length + 1 = n → f c (X ++ w :: Y) = k * f c (X ++ u :: Y) + l * f c (X ++ v :: Y)) (hc : ∀ X, X.length = n → f w X = k * f u X + l * f v X) : ∀ (P pre Q : List β), pre.length + P.length + Q.length = n → altS f pre (P ++ w :: Q) = k * altS f pre (P ++ u :: Q) + l * altS f pre (P ++ v :: Q)
  | [], pre, Q, h => by
    simp only [List.nil_append, altS]
    have h1 := hc (pre ++ Q) (by simp at h ⊢; omega)
    have h2 := altS_in k l hf Q pre [] (by simp at h ⊢; omega)
    rw [h1, h2, Int.mul_sub, Int.mul_sub]
    omega
  | c :: P, pre, Q, h => by
    simp only [List.cons_append, altS]
    have h1 := hf c (pre ++ P) Q (by simp at h ⊢; omega)
    have h2 := altS_at k l hf hc P (pre ++ [c]) Q (by simp at h ⊢; omega)
    simp only [List.append_assoc] at h1
    rw [h1, h2, Int.mul_sub, Int.mul_sub]
    omega
/-- The determinant goes with each of its columns. -/
theorem det_col {α β : Type} {A : α → β → Int} {u v w : β} (k l : Int) : ∀ (rs : List α) (P Q : List β), (∀ r ∈ rs, A r w = k * A r u + l * A r v) → P.length + Q.length + 1 = rs.length → det A rs (P ++ w :: Q) = k * det A rs (P ++ u :: Q) + l * det A rs (P ++ v :: Q)
  | [], _, _, _, h => by simp at h
  | r :: rs, P, Q, hA, h => by
    simp only [det]
    refine altS_at (n := rs.length) k l (fun c X Y hX => ?_) (fun X _ => ?_) P [] Q (by simp at h ⊢; omega)
    · rw [det_col k l rs X Y (fun r hr => hA r (List.mem_cons_of_mem _ hr)) hX, Int.mul_add]
      rw [Int.mul_left_comm, Int.mul_left_comm (A r c)]
    · rw [hA r (List.mem_cons_self ..), Int.add_mul, Int.mul_assoc, Int.mul_assoc]
theorem altS_swap_in {β : Type} {f : β → List β → Int} {n : Nat} {u v : β} (hf : ∀ c X Y, X.length + Y.length + 2 = n → f c (X ++ u :: v :: Y) = - f c (X ++ v :: u :: Y)) : ∀ (Q X Y : List β), X.length + Y.length + 2 + Q.length = n + 1 → altS f (X ++ u :: v :: Y) Q = - altS f (X ++ v :: u :: Y) Q
  | [], _, _, _ => by simp [altS]
  | c :: Q, X, Y, h => by
    simp only [altS, List.append_assoc, List.cons_append]
    have h1 := hf c X (Y ++ Q) (by simp at h ⊢; omega)
    have h2 := altS_swap_in hf Q X (Y ++ [c]) (by simp at h ⊢; omega)
    rw [h1, h2]
    omega
theorem altS_swap {β : Type} {f : β → List β → Int} {n : Nat} {u v : β} (hf : ∀ c X Y, X.length + Y.length + 2 = n → f c (X ++ u :: v :: Y) = - f c (X ++ v :: u :: Y)) : ∀ (P pre Q : List β), pre.length + P.length + Q.length + 1 = n → altS f pre (P ++ u :: v :: Q) = - altS f pre (P ++ v :: u :: Q)
  | [], pre, Q, h => by
    simp only [List.nil_append, altS, List.append_assoc, List.cons_append]
    have h2 := altS_swap_in hf Q pre [] (by simp at h ⊢; omega)
    rw [h2]
    omega
  | c :: P, pre, Q, h => by
    simp only [List.cons_append, altS]
    have h1 := hf c (pre ++ P) Q (by simp at h ⊢; omega)
    have h2 := altS_swap hf P (pre ++ [c]) Q (by simp at h ⊢; omega)
    simp only [List.append_assoc] at h1
    rw [h1, h2]
    omega
theorem det_swap {α β : Type} {A : α → β → Int} {u v : β} : ∀ (rs : List α) (P Q : List β), P.length + Q.length + 2 = rs.length → det A rs (P ++ u :: v :: Q) = - det A rs (P ++ v :: u :: Q)
  | [], _, _, h => by simp at h
  | r :: rs, P, Q, h => by
    simp only [det]
    refine altS_swap (n := rs.length) (fun c X Y hX => ?_) P [] Q (by simp at h ⊢; omega)
    rw [det_swap rs X Y hX, Int.mul_neg]
/-- One column to the front. -/
theorem det_front {α β : Type} {A : α → β → Int} {u : β} (rs : List α) : ∀ (P Q : List β), P.length + Q.length + 1 = rs.length → det A rs (P ++ u :: Q) = (-1) ^ P.length * det A rs (u :: (P ++ Q)) := by
  intro P
  induction hn : P.length generalizing P with
  | zero => intro Q h; obtain rfl := List.length_eq_zero_iff.1 hn; simp
  | succ n ih =>
    intro Q h
    obtain ⟨P', c, rfl⟩ : ∃ P' c, P = P' ++ [c] := ⟨P.dropLast, P.getLast (by intro e; rw [e] at hn; simp at hn), (List.dropLast_concat_getLast _).symm⟩
    have hn' : P'.length = n := by simpa using hn
    have h1 := det_swap (A := A) (u := c) (v := u) rs P' Q (by omega)
    have h2 := ih P' hn' (c :: Q) (by simp; omega)
    rw [List.append_assoc, List.cons_append, List.nil_append, h1, h2, List.append_assoc, List.cons_append, List.nil_append, Int.pow_succ]
    rw [Int.mul_neg_one, Int.neg_mul]
theorem det_twice {α β : Type} {A : α → β → Int} {u : β} (rs : List α) (P Q : List β) (h : P.length + Q.length + 2 = rs.length) : det A rs (u :: (P ++ u :: Q)) = 0 := by
  have h1 := det_front (A := A) (u := u) rs (u :: P) Q (by simp; omega)
  have h2 := det_swap (A := A) (u := u) (v := u) rs [] (P ++ Q) (by simp; omega)
  simp only [List.nil_append] at h2
  have h3 : det A rs (u :: u :: (P ++ Q)) = 0 := by omega
  rw [List.cons_append] at h1
  rw [h1, List.cons_append, h3, Int.mul_zero]
/-- A column may be put to another one, as often as one likes. -/
theorem det_add {α β : Type} {A : α → β → Int} {u v w : β} (k l : Int) (rs : List α) (P Q : List β) (hA : ∀ r ∈ rs, A r w = k * A r v + l * A r u) (h : P.length + Q.length + 2 = rs.length) : det A rs (u :: (P ++ w :: Q)) = k * det A rs (u :: (P ++ v :: Q)) := by
  have h1 := det_col (A := A) (u := v) (v := u) (w := w) k l rs (u :: P) Q hA (by simp; omega)
  simp only [List.cons_append] at h1
  rw [h1, det_twice rs P Q h, Int.mul_zero, Int.add_zero]

/-! Rows are columns. -/
theorem altS_altS {β γ : Type} (k : β → Int) (l : γ → Int) (M : List γ → List β → Int) (rs : List γ) (rp : List γ) : ∀ (cs cp : List β), altS (fun d X => k d * altS (fun r Y => l r * M Y X) rp rs) cp cs = altS (fun r Y => l r * altS (fun d X => k d * M Y X) cp cs) rp rs
  | [], cp => by
    simp only [altS, Int.mul_zero]
    exact (altS_zero rs rp (fun _ _ _ => rfl)).symm
  | d :: cs, cp => by
    have ih := altS_altS k l M rs rp cs (cp ++ [d])
    have h := altS_lin (f := fun r Y => l r * M Y (cp ++ cs)) (g := fun r Y => l r * altS (fun d X => k d * M Y X) (cp ++ [d]) cs) (h := fun r Y => l r * altS (fun d X => k d * M Y X) cp (d :: cs)) (k d) (-1) rs rp (fun c _ X _ => by
      simp only [altS]
      rw [Int.mul_sub, Int.mul_left_comm]
      omega)
    rw [h, ← ih]
    simp only [altS]
    omega
theorem det_col1 {α β : Type} (A : α → β → Int) (c : β) : ∀ (rs : List α) (cs : List β), rs.length = cs.length + 1 → det A rs (c :: cs) = altS (fun r rest => A r c * det A rest cs) [] rs
  | [], _, h => by simp at h
  | r0 :: rs, cs, h => by
    cases cs with
    | nil =>
      obtain rfl : rs = [] := List.length_eq_zero_iff.1 (by simpa using h)
      simp [det, altS]
    | cons c2 cs2 =>
      have hl : rs.length = (c2 :: cs2).length := by simpa using h
      simp only [det]
      generalize hcs : c2 :: cs2 = cs at *
      show A r0 c * det A rs ([] ++ cs) - altS (fun d rest => A r0 d * det A rs rest) ([] ++ [c]) cs = A r0 c * det A ([] ++ rs) cs - altS (fun r rest => A r c * det A rest cs) ([] ++ [r0]) rs
      simp only [List.nil_append]
      congr 1
      rw [altS_shift, altS_shift]
      rw [altS_congr (g := fun d X => A r0 d * altS (fun r Y => A r c * det A Y X) [] rs) cs [] (fun d _ X hX _ => by
        simp at hX
        rw [det_col1 A c rs X (by omega)])]
      rw [altS_altS (fun d => A r0 d) (fun r => A r c) (fun Y X => det A Y X) rs [] cs []]
      rfl
theorem det_flip {α β : Type} (A : α → β → Int) : ∀ (cs : List β) (rs : List α), rs.length = cs.length → det A rs cs = det (fun c r => A r c) cs rs
  | [], rs, h => by obtain rfl := List.length_eq_zero_iff.1 h; rfl
  | c :: cs, rs, h => by
    rw [det_col1 A c rs cs h]
    simp only [det]
    exact altS_congr rs [] (fun r _ X hX _ => by
      simp at hX h
      rw [det_flip A cs X (by omega)])
theorem neg_one_sq : ∀ n : Nat, ((-1 : Int) ^ n) * (-1) ^ n = 1
  | 0 => rfl
  | n + 1 => by
    have := neg_one_sq n
    rw [Int.pow_succ, Int.mul_neg_one, Int.neg_mul_neg]
    exact this
/-- One thing to the front, as a row and as a column. -/
theorem det_both {α : Type} {A : α → α → Int} {u : α} (P Q : List α) : det A (P ++ u :: Q) (P ++ u :: Q) = det A (u :: (P ++ Q)) (u :: (P ++ Q)) := by
  rw [det_front _ P Q (by simp; omega), det_flip A _ _ (by simp; omega), det_front _ P Q (by simp), ← Int.mul_assoc, neg_one_sq, Int.one_mul, det_flip A _ _ (by simp)]
theorem det_agree {α β : Type} {A B : α → β → Int} : ∀ (rs : List α) (cs : List β), (∀ r ∈ rs, ∀ c ∈ cs, A r c = B r c) → det A rs cs = det B rs cs
  | [], _, _ => rfl
  | r :: rs, cs, h => by
    simp only [det]
    refine altS_congr cs [] (fun c hc X _ hX => ?_)
    have hX' : ∀ x ∈ X, x ∈ cs := fun x hx => (hX x hx).elim (fun h => by simp at h) id
    rw [h r (List.mem_cons_self ..) c hc, det_agree rs X (fun r' hr x hx => h r' (List.mem_cons_of_mem _ hr) x (hX' x hx))]
theorem det_map {α β γ δ : Type} (A : γ → δ → Int) (f : α → γ) (g : β → δ) : ∀ (rs : List α) (cs : List β), det A (rs.map f) (cs.map g) = det (fun r c => A (f r) (g c)) rs cs := by
  have key : ∀ (F : δ → List δ → Int) (post pre : List β), altS F (pre.map g) (post.map g) = altS (fun c X => F (g c) (X.map g)) pre post := by
    intro F post
    induction post with
    | nil => intro pre; rfl
    | cons c post ih =>
      intro pre
      simp only [List.map_cons, altS, List.map_append]
      have := ih (pre ++ [c])
      simp only [List.map_append, List.map_cons, List.map_nil] at this
      rw [this]
  intro rs
  induction rs with
  | nil => intro cs; rfl
  | cons r rs ih =>
    intro cs
    simp only [List.map_cons, det]
    have := key (fun c rest => A (f r) c * det A (rs.map f) rest) cs []
    simp only [List.map_nil] at this
    rw [this]
    exact altS_congr cs [] (fun c _ X _ _ => by rw [ih])

section
theorem det_scale {α β : Type} {A B : α → β → Int} (p : Int) : ∀ (rs : List α) (cs : List β), (∀ r ∈ rs, ∀ c ∈ cs, B r c = p * A r c) → det B rs cs = p ^ rs.length * det A rs cs
  | [], _, _ => by simp [det]
  | r :: rs, cs, h => by
    simp only [det, List.length_cons]
    have h1 := altS_lin (f := fun c rest => A r c * det A rs rest) (g := fun _ _ => 0) (h := fun c rest => p ^ (rs.length + 1) * (A r c * det A rs rest)) (p ^ (rs.length + 1)) 0 cs [] (fun c _ X _ => by simp)
    rw [Int.zero_mul, Int.add_zero] at h1
    rw [← h1]
    refine altS_congr cs [] (fun c hc X _ hX => ?_)
    have hX' : ∀ x ∈ X, x ∈ cs := fun x hx => (hX x hx).elim (fun h => by simp at h) id
    rw [h r (List.mem_cons_self ..) c hc, det_scale p rs X (fun r' hr x hx => h r' (List.mem_cons_of_mem _ hr) x (hX' x hx)), Int.pow_succ]
    simp only [Int.mul_assoc, Int.mul_left_comm, Int.mul_comm]

/-- What elimination makes of a table, not divided. -/
def elim (M : Nat → Nat → Int) (k : Nat) (r c : Nat) : Int := M r c * M k k - M r k * M k c
theorem elim_cols (M : Nat → Nat → Int) (k : Nat) (rs : List Nat) : ∀ (C : List Nat) (P : List (Nat → Int)), P.length + C.length + 1 = rs.length →
    det (fun r (c : Nat → Int) => c r) rs ((fun r => M r k) :: (P ++ C.map fun c r => elim M k r c)) = M k k ^ C.length * det (fun r (c : Nat → Int) => c r) rs ((fun r => M r k) :: (P ++ C.map fun c r => M r c))
  | [], P, _ => by simp
  | c :: C, P, h => by
    simp only [List.map_cons, List.length_cons]
    have h1 := det_add (A := fun r (c : Nat → Int) => c r) (u := fun r => M r k) (v := fun r => M r c) (w := fun r => elim M k r c) (M k k) (- M k c) rs P (C.map fun c r => elim M k r c) (fun r _ => by
      unfold elim
      rw [Int.mul_comm (M r c), Int.neg_mul, Int.mul_comm (M r k)]; omega) (by simp at h ⊢; omega)
    have h2 := elim_cols M k rs C (P ++ [fun r => M r c]) (by simp at h ⊢; omega)
    simp only [List.append_assoc, List.cons_append, List.nil_append] at h2
    rw [h1, h2, Int.pow_succ, ← Int.mul_assoc, Int.mul_comm (M k k)]
theorem det_elim (M : Nat → Nat → Int) (k : Nat) (R C : List Nat) (h : R.length = C.length) : M k k * det (elim M k) R C = M k k ^ C.length * det M (k :: R) (k :: C) := by
  have h1 := elim_cols M k (k :: R) C [] (by simp; omega)
  simp only [List.nil_append] at h1
  have h2 : det M (k :: R) (k :: C) = det (fun r (c : Nat → Int) => c r) (k :: R) ((fun r => M r k) :: C.map fun c r => M r c) := by
    have := det_map (fun (r : Nat) (c : Nat → Int) => c r) (fun r : Nat => r) (fun (c : Nat) (r : Nat) => M r c) (k :: R) (k :: C)
    rw [List.map_id', List.map_cons] at this
    exact this.symm
  have h3 : det (elim M k) R C = det (fun r (c : Nat → Int) => c r) R (C.map fun c r => elim M k r c) := by
    have := det_map (fun (r : Nat) (c : Nat → Int) => c r) (fun r : Nat => r) (fun (c : Nat) (r : Nat) => elim M k r c) R C
    rw [List.map_id'] at this
    exact this.symm
  rw [h2, ← h1, h3]
  simp only [det, altS, List.nil_append]
  rw [altS_zero (C.map fun c r => elim M k r c) [fun r => M r k] (fun c hc X => by
    obtain ⟨d, _, rfl⟩ := List.mem_map.1 hc
    have : elim M k k d = 0 := by unfold elim; rw [Int.mul_comm]; omega
    show elim M k k d * _ = 0
    rw [this, Int.zero_mul])]
  omega

def bstep (k : Nat) (p : Int) (M : Nat → Nat → Int) : Nat → Nat → Int := fun i j => if k < i ∧ k < j then (elim M k i j).tdiv p else M i j
def bst (A : Nat → Nat → Int) : Nat → (Nat → Nat → Int) × Int
  | 0 => (A, 1)
  | k + 1 => (bstep k (bst A k).2 (bst A k).1, (bst A k).1 k k)

theorem pow_pos' {p : Int} (h : 0 < p) : ∀ n : Nat, 0 < p ^ n
  | 0 => by simp
  | n + 1 => by rw [Int.pow_succ]; exact Int.mul_pos (pow_pos' h n) h
structure BInv (A : Nat → Nat → Int) (k : Nat) : Prop where
  lead : (bst A k).2 = det A (List.range k) (List.range k)
  minors : ∀ (q : Nat) (R C : List Nat), R.length = q + 1 → C.length = q + 1 → (∀ r ∈ R, k ≤ r) → (∀ c ∈ C, k ≤ c) → det (bst A k).1 R C = (bst A k).2 ^ q * det A (List.range k ++ R) (List.range k ++ C)
theorem det_cell {α β : Type} (A : α → β → Int) (r : α) (c : β) : det A [r] [c] = A r c := by simp [det, altS]
theorem elim_exact {A : Nat → Nat → Int} {k : Nat} (h : BInv A k) (h1 : (bst A k).1 k k ≠ 0) {r c : Nat} (hr : k < r) (hc : k < c) : elim (bst A k).1 k r c = (bst A k).2 * det A (List.range k ++ [k, r]) (List.range k ++ [k, c]) := by
  have h2 := det_elim (bst A k).1 k [r] [c] rfl
  rw [det_cell] at h2
  simp only [List.length_singleton, Int.pow_succ, Int.pow_zero, Int.one_mul] at h2
  have h3 := Int.eq_of_mul_eq_mul_left h1 h2
  rw [h3, h.minors 1 [k, r] [k, c] rfl rfl (by simp; omega) (by simp; omega), Int.pow_succ, Int.pow_zero, Int.one_mul]
theorem binv_kk {A : Nat → Nat → Int} {k : Nat} (h : BInv A k) : (bst A k).1 k k = det A (List.range (k + 1)) (List.range (k + 1)) := by
  have := h.minors 0 [k] [k] rfl rfl (by simp) (by simp)
  rw [det_cell, Int.pow_zero, Int.one_mul, ← List.range_succ] at this
  exact this
theorem binv {A : Nat → Nat → Int} {n : Nat} (hpos : ∀ k, k ≤ n → 0 < det A (List.range k) (List.range k)) : ∀ k, k ≤ n → BInv A k
  | 0, _ => ⟨rfl, fun q R C _ _ _ _ => by
      show det A R C = 1 ^ q * det A R C
      rw [Int.one_pow, Int.one_mul]⟩
  | k + 1, hk => by
    have ih := binv hpos k (by omega)
    have hkk := binv_kk ih
    have hp0 := hpos k (by omega)
    have hp1 := hpos (k + 1) hk
    rw [← ih.lead] at hp0
    rw [← hkk] at hp1
    refine ⟨hkk, fun q R C hR hC hRk hCk => ?_⟩
    show det (bstep k (bst A k).2 (bst A k).1) R C = (bst A k).1 k k ^ q * _
    have e1 : det (elim (bst A k).1 k) R C = (bst A k).2 ^ R.length * det (bstep k (bst A k).2 (bst A k).1) R C := det_scale _ R C (fun r hr c hc => by
      have h1 := hRk r hr
      have h2 := hCk c hc
      unfold bstep
      rw [if_pos ⟨by omega, by omega⟩, elim_exact ih (by omega) (by omega) (by omega), Int.mul_tdiv_cancel_left _ (by omega)])
    have e2 := det_elim (bst A k).1 k R C (by omega)
    have e3 := ih.minors (q + 1) (k :: R) (k :: C) (by simp [hR]) (by simp [hC]) (fun r hr => by
      rcases List.mem_cons.1 hr with rfl | hr
      · exact Nat.le_refl _
      · have := hRk r hr; omega) (fun r hr => by
      rcases List.mem_cons.1 hr with rfl | hr
      · exact Nat.le_refl _
      · have := hCk r hr; omega)
    have e4 : List.range k ++ k :: R = List.range (k + 1) ++ R := by rw [List.range_succ]; simp
    have e5 : List.range k ++ k :: C = List.range (k + 1) ++ C := by rw [List.range_succ]; simp
    rw [e4, e5] at e3
    rw [e1, e3, hR, hC] at e2
    have hpp := pow_pos' hp0 (q + 1)
    generalize det (bstep k (bst A k).2 (bst A k).1) R C = X at *
    generalize det A (List.range (k + 1) ++ R) (List.range (k + 1) ++ C) = Y at *
    generalize (bst A k).1 k k = u at *
    generalize (bst A k).2 ^ (q + 1) = v at *
    rw [Int.pow_succ] at e2
    have e6 : (u * v) * X = (u * v) * (u ^ q * Y) := by
      rw [Int.mul_assoc, e2]
      simp only [Int.mul_assoc, Int.mul_left_comm, Int.mul_comm]
    exact Int.eq_of_mul_eq_mul_left (by have := Int.mul_pos hp1 hpp; omega) e6
/-- What elimination tells is the determinant. -/
theorem bst_det {A : Nat → Nat → Int} {n : Nat} (hpos : ∀ k, k ≤ n → 0 < det A (List.range k) (List.range k)) : (bst A n).2 = det A (List.range n) (List.range n) := (binv hpos n (Nat.le_refl n)).lead

/-! How large the numbers get. -/
def sumF (f : Nat → Int) : Nat → Int
  | 0 => 0
  | n + 1 => sumF f n + f n
theorem sumF_congr {f g : Nat → Int} : ∀ n, (∀ i, i < n → f i = g i) → sumF f n = sumF g n
  | 0, _ => rfl
  | n + 1, h => by simp only [sumF]; rw [sumF_congr n (fun i hi => h i (by omega)), h n (by omega)]
theorem sumF_lin (k l : Int) (f g : Nat → Int) : ∀ n, sumF (fun i => k * f i + l * g i) n = k * sumF f n + l * sumF g n
  | 0 => by simp [sumF]
  | n + 1 => by simp only [sumF]; rw [sumF_lin k l f g n, Int.mul_add, Int.mul_add]; omega
theorem sumF_nonpos {f : Nat → Int} : ∀ n, (∀ i, i < n → f i ≤ 0) → sumF f n ≤ 0
  | 0, _ => by simp [sumF]
  | n + 1, h => by have := sumF_nonpos n (fun i hi => h i (by omega)); have := h n (by omega); simp only [sumF]; omega
theorem sumF_mono {f g : Nat → Int} : ∀ n, (∀ i, i < n → f i ≤ g i) → sumF f n ≤ sumF g n
  | 0, _ => by simp [sumF]
  | n + 1, h => by have := sumF_mono n (fun i hi => h i (by omega)); have := h n (by omega); simp only [sumF]; omega
/-- One of the numbers, the others being no more than 0. -/
theorem sumF_le_one {f : Nat → Int} {j : Nat} : ∀ n, j < n → (∀ i, i < n → i ≠ j → f i ≤ 0) → sumF f n ≤ f j
  | 0, h, _ => by omega
  | n + 1, h, hf => by
    simp only [sumF]
    by_cases hj : j = n
    · have := sumF_nonpos n (fun i hi => hf i (by omega) (by omega))
      rw [hj]; omega
    · have := sumF_le_one n (by omega) (fun i hi hij => hf i (by omega) hij)
      have := hf n (by omega) (by omega)
      omega
theorem sumF_le_two {f : Nat → Int} {i j : Nat} : ∀ n, i < n → j < n → i ≠ j → (∀ x, x < n → x ≠ i → x ≠ j → f x ≤ 0) → sumF f n ≤ f i + f j
  | 0, h, _, _, _ => by omega
  | n + 1, hi, hj, hij, hf => by
    simp only [sumF]
    by_cases h1 : j = n
    · subst h1
      have := sumF_le_one (f := f) (j := i) j (by omega) (fun x hx hxi => hf x (by omega) hxi (by omega))
      omega
    · by_cases h2 : i = n
      · subst h2
        have := sumF_le_one (f := f) (j := j) i (by omega) (fun x hx hxj => hf x (by omega) (by omega) hxj)
        omega
      · have := sumF_le_two n (by omega) (by omega) hij (fun x hx a b => hf x (by omega) a b)
        have := hf n (by omega) (by omega) (by omega)
        omega
/-- A table like that of edges: the same both ways, nothing above 0 but on the diagonal, no row below 0. -/
structure LapT (n : Nat) (D : Int) (A : Nat → Nat → Int) : Prop where
  sym : ∀ i j, i < n → j < n → A i j = A j i
  off : ∀ i j, i < n → j < n → i ≠ j → A i j ≤ 0
  row : ∀ i, i < n → 0 ≤ sumF (fun j => A i j) n
  diag : ∀ i, i < n → A i i ≤ D
/-- The same, of what is left at a stage. -/
structure LapK (n k : Nat) (p D : Int) (M : Nat → Nat → Int) : Prop where
  sym : ∀ i j, k ≤ i → k ≤ j → i < n → j < n → M i j = M j i
  off : ∀ i j, k ≤ i → k ≤ j → i < n → j < n → i ≠ j → M i j ≤ 0
  row : ∀ i, k ≤ i → i < n → 0 ≤ sumF (fun j => if k ≤ j then M i j else 0) n
  diag : ∀ i, k ≤ i → i < n → M i i ≤ p * D
theorem LapK.abs {n k : Nat} {p D : Int} {M : Nat → Nat → Int} (h : LapK n k p D M) {i j : Nat} (hi : k ≤ i) (hj : k ≤ j) (hin : i < n) (hjn : j < n) : 0 ≤ M i i ∧ - (p * D) ≤ M i j ∧ M i j ≤ p * D := by
  have h1 := h.row i hi hin
  have h2 := h.diag i hi hin
  have h3 := sumF_le_one (f := fun j => if k ≤ j then M i j else 0) (j := i) n hin (fun x hx hxi => by
    by_cases hkx : k ≤ x
    · rw [if_pos hkx]; exact h.off i x hi hkx hin hx (Ne.symm hxi)
    · rw [if_neg hkx]; exact Int.le_refl _)
  simp only [if_pos hi] at h3
  refine ⟨by omega, ?_⟩
  by_cases hij : i = j
  · subst hij; omega
  · have h4 := h.off i j hi hj hin hjn hij
    have h5 := sumF_le_two (f := fun j => if k ≤ j then M i j else 0) (i := i) (j := j) n hin hjn hij (fun x hx hxi _ => by
      by_cases hkx : k ≤ x
      · rw [if_pos hkx]; exact h.off i x hi hkx hin hx (Ne.symm hxi)
      · rw [if_neg hkx]; exact Int.le_refl _)
    simp only [if_pos hi, if_pos hj] at h5
    omega
theorem sumF_split {f : Nat → Int} {k : Nat} : ∀ n, k < n → sumF (fun j => if k ≤ j then f j else 0) n = f k + sumF (fun j => if k + 1 ≤ j then f j else 0) n
  | 0, h => by omega
  | n + 1, h => by
    simp only [sumF]
    by_cases hn : k = n
    · subst hn
      rw [sumF_congr (g := fun _ => 0) k (fun i hi => by rw [if_neg (by omega)]), sumF_congr (f := fun j => if k + 1 ≤ j then f j else 0) (g := fun _ => 0) k (fun i hi => by rw [if_neg (by omega)]), if_pos (Nat.le_refl _), if_neg (by omega)]
      omega
    · rw [sumF_split n (by omega), if_pos (by omega), if_pos (by omega)]
      omega
theorem LapT.start {n : Nat} {D : Int} {A : Nat → Nat → Int} (h : LapT n D A) : LapK n 0 1 D A :=
  ⟨fun i j _ _ hi hj => h.sym i j hi hj, fun i j _ _ hi hj hij => h.off i j hi hj hij, fun i _ hi => by simpa using h.row i hi, fun i _ hi => by rw [Int.one_mul]; exact h.diag i hi⟩
theorem LapK.step {n k : Nat} {p D : Int} {M M' : Nat → Nat → Int} (h : LapK n k p D M) (hp : 0 < p) (hk : k < n) (hM : ∀ i j, k < i → k < j → i < n → j < n → M' i j * p = elim M k i j) : LapK n (k + 1) (M k k) D M' := by
  have hkk := (h.abs (Nat.le_refl k) (Nat.le_refl k) hk hk).1
  have cancel : ∀ x : Int, x * p ≤ 0 → x ≤ 0 := fun x hx => by
    rcases Int.lt_or_le 0 x with h1 | h1
    · have := Int.mul_pos h1 hp; omega
    · exact h1
  refine ⟨fun i j hi hj hin hjn => ?_, fun i j hi hj hin hjn hij => ?_, fun i hi hin => ?_, fun i hi hin => ?_⟩
  · have e1 := hM i j (by omega) (by omega) hin hjn
    have e2 := hM j i (by omega) (by omega) hjn hin
    have e3 : elim M k i j = elim M k j i := by
      unfold elim
      rw [h.sym i j (by omega) (by omega) hin hjn, h.sym i k (by omega) (by omega) hin hk, h.sym k j (by omega) (by omega) hk hjn, Int.mul_comm (M k i)]
    rw [← e1, ← e2] at e3
    exact Int.eq_of_mul_eq_mul_right (by omega) e3
  · apply cancel
    rw [hM i j (by omega) (by omega) hin hjn]
    unfold elim
    have a1 := h.off i j (by omega) (by omega) hin hjn hij
    have a2 := h.off i k (by omega) (by omega) hin hk (by omega)
    have a3 := h.off k j (by omega) (by omega) hk hjn (by omega)
    have b1 := Int.mul_nonneg (show 0 ≤ - M i j by omega) hkk
    have b2 := Int.mul_nonneg (show 0 ≤ - M i k by omega) (show 0 ≤ - M k j by omega)
    rw [Int.neg_mul] at b1
    rw [Int.neg_mul_neg] at b2
    omega
  · have s1 := h.row i (by omega) hin
    have s2 := h.row k (Nat.le_refl _) hk
    have t1 := sumF_split (f := fun j => M i j) n hk
    have t2 := sumF_split (f := fun j => M k j) n hk
    have a2 := h.off i k (by omega) (by omega) hin hk (by omega)
    have e : sumF (fun j => if k + 1 ≤ j then M' i j else 0) n * p = M k k * sumF (fun j => if k + 1 ≤ j then M i j else 0) n + (- M i k) * sumF (fun j => if k + 1 ≤ j then M k j else 0) n := by
      rw [← sumF_lin]
      have : ∀ m, m ≤ n → sumF (fun j => if k + 1 ≤ j then M' i j else 0) m * p = sumF (fun j => M k k * (if k + 1 ≤ j then M i j else 0) + (- M i k) * (if k + 1 ≤ j then M k j else 0)) m := by
        intro m
        induction m with
        | zero => intro _; simp [sumF]
        | succ m ih =>
          intro hm
          simp only [sumF]
          rw [Int.add_mul, ih (by omega)]
          congr 1
          by_cases hkm : k + 1 ≤ m
          · rw [if_pos hkm, if_pos hkm, if_pos hkm, hM i m (by omega) (by omega) hin (by omega)]
            unfold elim
            rw [Int.mul_comm (M i m), Int.neg_mul]; omega
          · rw [if_neg hkm, if_neg hkm, if_neg hkm]; simp
      exact this n (Nat.le_refl _)
    have c1 := Int.mul_nonneg hkk s1
    have c2 := Int.mul_nonneg (show 0 ≤ - M i k by omega) s2
    generalize sumF (fun j => if k + 1 ≤ j then M' i j else 0) n = X at *
    generalize sumF (fun j => if k + 1 ≤ j then M i j else 0) n = Y at *
    generalize sumF (fun j => if k + 1 ≤ j then M k j else 0) n = Z at *
    rw [t1, Int.mul_add] at c1
    rw [t2, Int.mul_add] at c2
    have c3 : M k k * M i k + (- M i k) * M k k = 0 := by rw [Int.neg_mul, Int.mul_comm]; omega
    rcases Int.lt_or_le X 0 with hX | hX
    · have := Int.mul_pos (show 0 < - X by omega) hp
      rw [Int.neg_mul] at this
      omega
    · exact hX
  · have e1 := hM i i (by omega) (by omega) hin hin
    unfold elim at e1
    rw [h.sym i k (by omega) (by omega) hin hk] at e1
    have a1 : 0 ≤ M k i * M k i := by
      rcases Int.le_total 0 (M k i) with h0 | h0
      · exact Int.mul_nonneg h0 h0
      · have := Int.mul_nonneg (show 0 ≤ - M k i by omega) (show 0 ≤ - M k i by omega)
        rwa [Int.neg_mul_neg] at this
    have a2 := Int.mul_nonneg (show 0 ≤ p * D - M i i by have := h.diag i (by omega) hin; omega) hkk
    rw [Int.sub_mul] at a2
    have a3 : (M k k * D) * p = p * D * M k k := by simp only [Int.mul_left_comm, Int.mul_comm]
    have a4 : (M' i i - M k k * D) * p ≤ 0 := by rw [Int.sub_mul]; omega
    have := cancel _ a4
    omega
theorem bst_lap {A : Nat → Nat → Int} {n : Nat} {D : Int} (hA : LapT n D A) (hpos : ∀ k, k ≤ n → 0 < det A (List.range k) (List.range k)) : ∀ k, k ≤ n → LapK n k (bst A k).2 D (bst A k).1
  | 0, _ => hA.start
  | k + 1, hk => by
    have ih := bst_lap hA hpos k (by omega)
    have hb := binv hpos k (by omega)
    have h0 := hpos k (by omega)
    have h1 := hpos (k + 1) hk
    rw [← binv_kk hb] at h1
    rw [← hb.lead] at h0
    refine ih.step h0 (by omega) (fun i j hi hj hin hjn => ?_)
    show bstep k (bst A k).2 (bst A k).1 i j * _ = _
    unfold bstep
    rw [if_pos ⟨hi, hj⟩, elim_exact hb (by omega) hi hj, Int.mul_tdiv_cancel_left _ (by omega), Int.mul_comm]
/-- What is divided by grows no faster than the diagonal lets it. -/
theorem bst_le {A : Nat → Nat → Int} {n : Nat} {D : Int} (hD : 0 ≤ D) (hA : LapT n D A) (hpos : ∀ k, k ≤ n → 0 < det A (List.range k) (List.range k)) : ∀ k, k ≤ n → (bst A k).2 ≤ D ^ k
  | 0, _ => by simp [bst]
  | k + 1, hk => by
    have ih := bst_le hD hA hpos k (by omega)
    have hl := (bst_lap hA hpos k (by omega)).diag k (Nat.le_refl _) (by omega)
    show (bst A k).1 k k ≤ _
    rw [Int.pow_succ]
    have := Int.mul_le_mul_of_nonneg_right ih hD
    omega
end
end Go.Proofs.YthfgbgmkiggjmabDoor
