/- The best bond of the nodes that are free, node by node; the odd parts among some nodes, part by part. Plain facts. -/
import Derived.Test.YthfgbgmkiggjmacDoorWallP
import Derived.Test.YthfgbgmkiggjmacDoorNbP
import Derived.Test.YthfgbgmkiggjmacDoorWordsAt
namespace Go.Proofs.YthfgbgmkiggjmacDoor

/-- The nodes that a word has not. -/
def cmpW (n f : Nat) : Nat := 2 ^ n - (f + 1)
theorem cmpW_bit {n f : Nat} (hf : f < 2 ^ n) (i : Nat) : (cmpW n f).testBit i = (decide (i < n) && !f.testBit i) := Nat.testBit_two_pow_sub_succ hf i
theorem cmpW_all (n : Nat) : cmpW n (2 ^ n - 1) = 0 := by have := Nat.two_pow_pos n; unfold cmpW; omega
theorem bit_lt {n f i : Nat} (hf : f < 2 ^ n) (h : f.testBit i = true) : i < n := by
  rcases Nat.lt_or_ge i n with h1 | h1
  · exact h1
  · rw [Nat.testBit_lt_two_pow (Nat.lt_of_lt_of_le hf (Nat.pow_le_pow_right (by decide) h1))] at h; cases h
/-- How many pairs there are at most among the nodes of a word. -/
def mF (n : Nat) (es : List E3) (f : Nat) : Nat := bN es es.length 0 (cmpW n f)
theorem low_dec : ∀ r, r < 1024 → r ≠ 0 → r.testBit (Lib.ctz 32 r) = true ∧ r &&& (r - 1) < r ∧ ∀ i, i < 10 → (r &&& (r - 1)).testBit i = (r.testBit i && !decide (i = Lib.ctz 32 r)) ∧ (r.testBit i = true → Lib.ctz 32 r ≤ i) := by decide +kernel
section
variable {n r : Nat}
theorem low_bit (hn : n ≤ 10) (hr : r < 2 ^ n) (h0 : r ≠ 0) : r.testBit (Lib.ctz 32 r) = true := (low_dec r (pow10 hn hr) h0).1
theorem low_lt (hn : n ≤ 10) (hr : r < 2 ^ n) (h0 : r ≠ 0) : Lib.ctz 32 r < n := bit_lt hr (low_bit hn hr h0)
theorem rest_lt (hn : n ≤ 10) (hr : r < 2 ^ n) (h0 : r ≠ 0) : r &&& (r - 1) < 2 ^ n := by have := (low_dec r (pow10 hn hr) h0).2.1; omega
theorem rest_bit (hn : n ≤ 10) (hr : r < 2 ^ n) (h0 : r ≠ 0) (i : Nat) : (r &&& (r - 1)).testBit i = (r.testBit i && !decide (i = Lib.ctz 32 r)) := by
  rcases Nat.lt_or_ge i 10 with hi | hi
  · exact ((low_dec r (pow10 hn hr) h0).2.2 i hi).1
  · have h1 := pow10 hn hr
    have h2 : 1024 ≤ 2 ^ i := by rw [show 1024 = 2 ^ 10 from rfl]; exact Nat.pow_le_pow_right (by decide) hi
    rw [Nat.testBit_and, Nat.testBit_lt_two_pow (show r < 2 ^ i by omega)]; rfl
theorem low_le (hn : n ≤ 10) (hr : r < 2 ^ n) {i : Nat} (h : r.testBit i = true) : Lib.ctz 32 r ≤ i := by
  have h0 : r ≠ 0 := fun e => by subst e; simp at h
  exact ((low_dec r (pow10 hn hr) h0).2.2 i (Nat.lt_of_lt_of_le (bit_lt hr h) hn)).2 h
end
theorem diffW_pow_bit {a x : Nat} (ha : a < 1024) (hx : x < 10) (i : Nat) : (diffW a (2 ^ x)).testBit i = (a.testBit i && !decide (i = x)) := by
  have hp : 2 ^ x < 4294967296 := by show 2 ^ x < 2 ^ 32; exact Nat.pow_lt_pow_right (by decide) (by omega)
  rw [diffW_testBit a _ i (by omega) hp, Nat.testBit_two_pow]
  congr 2
  rw [decide_eq_decide]
  exact ⟨Eq.symm, Eq.symm⟩
theorem diffW_sub {n a b : Nat} (hn : n ≤ 10) (ha : a < 2 ^ n) (hb : b < 4294967296) : diffW a b < 2 ^ n := by
  apply Nat.lt_pow_two_of_testBit
  intro i hi
  rw [diffW_testBit a b i (Nat.lt_of_lt_of_le (pow10 hn ha) (by decide)) hb, Nat.testBit_lt_two_pow (Nat.lt_of_lt_of_le ha (Nat.pow_le_pow_right (by decide) hi))]
  rfl
/-- The bits of a word stand at the last r of ten places. -/
def Lv (r f : Nat) : Prop := ∀ i, f.testBit i = true → 10 ≤ i + r
section
variable {n f r x : Nat} {es : List E3}
theorem Lv.all (_hn : n ≤ 10) (_hf : f < 2 ^ n) : Lv 10 f := fun i h => by omega
theorem Lv.zero (hn : n ≤ 10) (hf : f < 2 ^ n) (h : Lv 0 f) : f = 0 := by
  apply Nat.eq_of_testBit_eq
  intro i
  rw [Nat.zero_testBit]
  cases hb : f.testBit i with
  | false => rfl
  | true => have := h i hb; have := bit_lt hf hb; omega
theorem Lv.rest (hn : n ≤ 10) (hf : f < 2 ^ n) (h0 : f ≠ 0) (h : Lv (r + 1) f) : Lv r (f &&& (f - 1)) := fun i hi => by
  rw [rest_bit hn hf h0] at hi
  simp only [Bool.and_eq_true, Bool.not_eq_true', decide_eq_false_iff_not] at hi
  have h1 := low_le hn hf hi.1
  have h2 := h _ (low_bit hn hf h0)
  omega
theorem Lv.less (hn : n ≤ 10) (hf : f < 2 ^ n) (hx : x < 10) (h : Lv r f) : Lv r (diffW f (2 ^ x)) := fun i hi => by
  rw [diffW_pow_bit (pow10 hn hf) hx] at hi
  simp only [Bool.and_eq_true] at hi
  exact h i hi.1
theorem cmpW_rest (hn : n ≤ 10) (hf : f < 2 ^ n) (h0 : f ≠ 0) : cmpW n (f &&& (f - 1)) = cmpW n f ||| 2 ^ Lib.ctz 32 f := by
  apply Nat.eq_of_testBit_eq
  intro i
  have hc := low_lt hn hf h0
  rw [cmpW_bit (rest_lt hn hf h0), rest_bit hn hf h0, Nat.testBit_or, cmpW_bit hf, Nat.testBit_two_pow]
  by_cases h1 : i = Lib.ctz 32 f
  · subst h1; simp [hc]
  · have h2 : ¬ Lib.ctz 32 f = i := fun e => h1 e.symm
    simp [h1, h2]
theorem cmpW_less (hn : n ≤ 10) (hf : f < 2 ^ n) (hx : x < n) : cmpW n (diffW f (2 ^ x)) = cmpW n f ||| 2 ^ x := by
  apply Nat.eq_of_testBit_eq
  intro i
  have hp : 2 ^ x < 4294967296 := by show 2 ^ x < 2 ^ 32; exact Nat.pow_lt_pow_right (by decide) (by omega)
  rw [cmpW_bit (diffW_sub hn hf hp), diffW_pow_bit (pow10 hn hf) (by omega), Nat.testBit_or, cmpW_bit hf, Nat.testBit_two_pow]
  by_cases h1 : i = x
  · subst h1; simp [hx]
  · have h2 : ¬ x = i := fun e => h1 e.symm
    simp [h1, h2]
theorem mF_zero (hg : goodE n es) : mF n es 0 = 0 := by
  unfold mF
  obtain ⟨h1, _, h3, h4⟩ := bndL_ok (es := es) es.length 0 (cmpW n 0) (by omega)
  rw [← h4]
  cases hl : bndL es es.length 0 (cmpW n 0) with
  | nil => rfl
  | cons k l =>
    have hk : k ∈ bndL es es.length 0 (cmpW n 0) := by rw [hl]; exact List.mem_cons_self ..
    obtain ⟨_, _, h5, _⟩ := ends hg (h1.lt k hk)
    have h6 := freeK_iff.1 (h3 k hk) (eA es k) (tchK_iff.2 (.inl rfl))
    rw [cmpW_bit (Nat.two_pow_pos n)] at h6
    simp [h5] at h6
theorem mF_rest_le (hn : n ≤ 10) (hf : f < 2 ^ n) (h0 : f ≠ 0) : mF n es (f &&& (f - 1)) ≤ mF n es f := by
  unfold mF; rw [cmpW_rest hn hf h0]; exact bN_leave
/-- Those that the least node of a word may be paired with. -/
def opW (es : List E3) (f : Nat) : Nat := nbW es (Lib.ctz 32 f) &&& (f &&& (f - 1))
theorem opW_lt (hn : n ≤ 10) (hf : f < 2 ^ n) (h0 : f ≠ 0) : opW es f < 2 ^ n := Nat.and_lt_two_pow _ (rest_lt hn hf h0)
theorem nbW_adj (hg : goodE n es) (i j : Nat) : (nbW es i).testBit j = adjE es i j := by
  have h := nbW_bit hg i j es.length
  rwa [List.take_length] at h
theorem opW_bit (hg : goodE n es) : (opW es f).testBit x = true ↔ adjE es (Lib.ctz 32 f) x = true ∧ (f &&& (f - 1)).testBit x = true := by
  unfold opW
  rw [Nat.testBit_and, nbW_adj hg, Bool.and_eq_true]
theorem mF_take (hg : goodE n es) (hn : n ≤ 10) (hf : f < 2 ^ n) (h0 : f ≠ 0) (hx : (opW es f).testBit x = true) : 1 + mF n es (diffW (f &&& (f - 1)) (2 ^ x)) ≤ mF n es f := by
  obtain ⟨h1, h2⟩ := (opW_bit hg).1 hx
  have hxn := bit_lt (rest_lt hn hf h0) h2
  unfold mF
  rw [cmpW_less hn (rest_lt hn hf h0) hxn, cmpW_rest hn hf h0]
  refine bN_take hg h1 ?_ ?_
  · rw [cmpW_bit hf, low_bit hn hf h0]; simp
  · rw [rest_bit hn hf h0] at h2
    simp only [Bool.and_eq_true] at h2
    rw [cmpW_bit hf, h2.1]; simp
theorem mF_node (hg : goodE n es) (hn : n ≤ 10) (hf : f < 2 ^ n) (h0 : f ≠ 0) : mF n es f = mF n es (f &&& (f - 1)) ∨ ∃ x, (opW es f).testBit x = true ∧ mF n es f = 1 + mF n es (diffW (f &&& (f - 1)) (2 ^ x)) := by
  have hv : (cmpW n f).testBit (Lib.ctz 32 f) = false := by rw [cmpW_bit hf, low_bit hn hf h0]; simp
  rcases bN_node hg hv with h | ⟨x, h1, h2, h3⟩
  · left; unfold mF; rw [cmpW_rest hn hf h0]; exact h
  · right
    have hxn := (adjE_lt hg h1).2.1
    have hfx : f.testBit x = true := by
      rw [cmpW_bit hf] at h2
      simpa [hxn] using h2
    have hne : x ≠ Lib.ctz 32 f := fun e => (adjE_lt hg h1).2.2 e.symm
    have hr : (f &&& (f - 1)).testBit x = true := by rw [rest_bit hn hf h0, hfx]; simp [hne]
    refine ⟨x, (opW_bit hg).2 ⟨h1, hr⟩, ?_⟩
    unfold mF
    rw [cmpW_less hn (rest_lt hn hf h0) hxn, cmpW_rest hn hf h0]
    exact h3
/-- What the most is, while those of the word o are not tried yet. -/
structure SeekInv (n : Nat) (es : List E3) (f o M : Nat) : Prop where
  sub : ∀ i, o.testBit i = true → (opW es f).testBit i = true
  rest : mF n es (f &&& (f - 1)) ≤ M
  tried : ∀ x, (opW es f).testBit x = true → o.testBit x = false → 1 + mF n es (diffW (f &&& (f - 1)) (2 ^ x)) ≤ M
  some_ : M ≤ mF n es f
theorem SeekInv.start (hn : n ≤ 10) (hf : f < 2 ^ n) (h0 : f ≠ 0) : SeekInv n es f (opW es f) (mF n es (f &&& (f - 1))) :=
  ⟨fun _ h => h, Nat.le_refl _, fun x h1 h2 => (by rw [h1] at h2; cases h2), mF_rest_le hn hf h0⟩
theorem SeekInv.next {o M : Nat} (hg : goodE n es) (hn : n ≤ 10) (hf : f < 2 ^ n) (h0 : f ≠ 0) (h : SeekInv n es f o M) (ho : o < 2 ^ n) (hz : o ≠ 0) :
    SeekInv n es f (o &&& (o - 1)) (max M (1 + mF n es (diffW (f &&& (f - 1)) (2 ^ Lib.ctz 32 o)))) := by
  refine ⟨fun i hi => ?_, Nat.le_trans h.rest (Nat.le_max_left ..), fun x h1 h2 => ?_, Nat.max_le.2 ⟨h.some_, mF_take hg hn hf h0 (h.sub _ (low_bit hn ho hz))⟩⟩
  · rw [rest_bit hn ho hz, Bool.and_eq_true] at hi
    exact h.sub i hi.1
  · rw [rest_bit hn ho hz] at h2
    by_cases hx : x = Lib.ctz 32 o
    · subst hx; exact Nat.le_max_right ..
    · have h3 : o.testBit x = false := by simpa [hx] using h2
      exact Nat.le_trans (h.tried x h1 h3) (Nat.le_max_left ..)
theorem SeekInv.done {M : Nat} (hg : goodE n es) (hn : n ≤ 10) (hf : f < 2 ^ n) (h0 : f ≠ 0) (h : SeekInv n es f 0 M) : M = mF n es f := by
  refine Nat.le_antisymm h.some_ ?_
  rcases mF_node hg hn hf h0 with h1 | ⟨x, h1, h2⟩
  · rw [h1]; exact h.rest
  · rw [h2]; exact h.tried x h1 (Nat.zero_testBit x)
theorem mF_le (hg : goodE n es) (f : Nat) : 2 * mF n es f ≤ n := by
  obtain ⟨h1, _, _, h4⟩ := bndL_ok (es := es) es.length 0 (cmpW n f) (by omega)
  unfold mF
  rw [← h4, ← cov_size hg h1]
  have := sizeP_not (covK es (bndL es es.length 0 (cmpW n f))) n
  omega
/-- An edge of free nodes. -/
theorem free_ends (hg : goodE n es) (hf : f < 2 ^ n) {k : Nat} (hk : k < es.length) : (f &&& (2 ^ eA es k ||| 2 ^ eB es k) = 2 ^ eA es k ||| 2 ^ eB es k) ↔ freeK es (cmpW n f) k = true := by
  obtain ⟨_, _, h1, h2, _⟩ := ends hg hk
  have hb : ∀ i, (2 ^ eA es k ||| 2 ^ eB es k).testBit i = tchK es k i := fun i => by
    rw [Nat.testBit_or, Nat.testBit_two_pow, Nat.testBit_two_pow]; rfl
  rw [freeK_iff]
  constructor
  · intro h i hi
    have h3 : (f &&& (2 ^ eA es k ||| 2 ^ eB es k)).testBit i = true := by rw [h, hb]; exact hi
    rw [Nat.testBit_and, Bool.and_eq_true] at h3
    rw [cmpW_bit hf, h3.1]; simp
  · intro h
    apply Nat.eq_of_testBit_eq
    intro i
    rw [Nat.testBit_and, hb]
    cases hi : tchK es k i with
    | false => simp
    | true =>
      have h3 := h i hi
      have hin : i < n := by rcases tchK_iff.1 hi with e | e <;> omega
      rw [cmpW_bit hf] at h3
      simpa [hin] using h3
theorem cmpW_with (hg : goodE n es) (hn : n ≤ 10) (hf : f < 2 ^ n) {k : Nat} (hk : k < es.length) : cmpW n (diffW f (2 ^ eA es k ||| 2 ^ eB es k)) = withK es (cmpW n f) k := by
  obtain ⟨_, _, h1, h2, _⟩ := ends hg hk
  have h1024 : 2 ^ n ≤ 1024 := by rw [show 1024 = 2 ^ 10 from rfl]; exact Nat.pow_le_pow_right (by decide) hn
  have hlt : 2 ^ eA es k ||| 2 ^ eB es k < 2 ^ n := Nat.or_lt_two_pow (Nat.pow_lt_pow_right (by decide) h1) (Nat.pow_lt_pow_right (by decide) h2)
  have hb : ∀ i, (2 ^ eA es k ||| 2 ^ eB es k).testBit i = tchK es k i := fun i => by
    rw [Nat.testBit_or, Nat.testBit_two_pow, Nat.testBit_two_pow]; rfl
  apply Nat.eq_of_testBit_eq
  intro i
  rw [cmpW_bit (diffW_sub hn hf (by omega)), diffW_testBit _ _ _ (by omega) (by omega), hb, withK_bit, cmpW_bit hf]
  cases ht : tchK es k i with
  | false => simp
  | true =>
    have hin : i < n := by rcases tchK_iff.1 ht with e | e <;> omega
    simp [hin]
/-- What the program has of the bond behind k edges. -/
def MostGoInv (n : Nat) (es : List E3) (k f : Nat) (l : List Nat) : Prop := gndL es es.length 0 0 = l ++ gndL es (es.length - k) k (cmpW n f)
theorem MostGoInv.start : MostGoInv n es 0 (2 ^ n - 1) [] := by unfold MostGoInv; rw [cmpW_all]; rfl
theorem MostGoInv.take {k : Nat} {l : List Nat} (hg : goodE n es) (hn : n ≤ 10) (hf : f < 2 ^ n) (hk : k < es.length) (h : MostGoInv n es k f l) (h1 : f &&& (2 ^ eA es k ||| 2 ^ eB es k) = 2 ^ eA es k ||| 2 ^ eB es k) (h2 : 1 + mF n es (diffW f (2 ^ eA es k ||| 2 ^ eB es k)) = mF n es f) :
    MostGoInv n es (k + 1) (diffW f (2 ^ eA es k ||| 2 ^ eB es k)) (l ++ [k]) := by
  unfold MostGoInv at h ⊢
  unfold mF at h2
  rw [cmpW_with hg hn hf hk] at h2 ⊢
  rw [h, show es.length - k = (es.length - (k + 1)) + 1 by omega]
  conv => lhs; rw [gndL]
  rw [if_pos ⟨(free_ends hg hf hk).1 h1, h2⟩, List.append_assoc]; rfl
theorem MostGoInv.skip {k : Nat} {l : List Nat} (hg : goodE n es) (hn : n ≤ 10) (hf : f < 2 ^ n) (hk : k < es.length) (h : MostGoInv n es k f l) (h1 : f &&& (2 ^ eA es k ||| 2 ^ eB es k) = 2 ^ eA es k ||| 2 ^ eB es k → ¬ 1 + mF n es (diffW f (2 ^ eA es k ||| 2 ^ eB es k)) = mF n es f) :
    MostGoInv n es (k + 1) f l := by
  unfold MostGoInv at h ⊢
  unfold mF at h1
  rw [cmpW_with hg hn hf hk] at h1
  rw [h, show es.length - k = (es.length - (k + 1)) + 1 by omega]
  conv => lhs; rw [gndL]
  rw [if_neg fun hh => h1 ((free_ends hg hf hk).2 hh.1) hh.2]
theorem MostGoInv.done {l : List Nat} (h : MostGoInv n es es.length f l) : l = bndL es es.length 0 0 := by
  unfold MostGoInv at h
  rw [Nat.sub_self] at h
  rw [← gndL_all, h]; simp [gndL]
end

/-! ### Odd parts -/
section
variable {n : Nat} {es : List E3} {T : Nat → Bool} {lab : Nat → Nat}
/-- The word of a part grows: the nodes of part are done, those of found not yet. -/
structure PartInv (n : Nat) (es : List E3) (lab : Nat → Nat) (R v part found : Nat) : Prop where
  pin : ∀ i, part.testBit i = true → R.testBit i = true ∧ lab i = lab v
  fin : ∀ i, found.testBit i = true → R.testBit i = true ∧ lab i = lab v
  out : ∀ i, found.testBit i = true → part.testBit i = false
  has : part.testBit v = true ∨ found.testBit v = true
  shut : ∀ i j, part.testBit i = true → adjE es i j = true → R.testBit j = true → part.testBit j = true ∨ found.testBit j = true
variable {R v part found : Nat}
theorem PartInv.start (hR : R.testBit v = true) : PartInv n es lab R v 0 (2 ^ v) := by
  refine ⟨fun i h => by simp at h, fun i h => ?_, fun i _ => Nat.zero_testBit i, .inr (by rw [Nat.testBit_two_pow]; simp), fun i j h => by simp at h⟩
  rw [Nat.testBit_two_pow] at h
  have : v = i := by simpa using h
  subst this; exact ⟨hR, rfl⟩
/-- What is linked with a node of a set that is shut is in it. -/
theorem lnk_shut {P : Nat → Prop} (hP : ∀ i j, i < n → j < n → P i → adjE es i j = true → T j = true → P j) : ∀ {k a b : Nat}, b < n → T b = true → lnkS (adjE es) n T k a b → P a → P b
  | 0, a, b, _, _, h, ha => by cases h; exact ha
  | k + 1, a, b, hb, hT, ⟨t, h1, h2, h3, h4⟩, ha => hP t b h1 hb (lnk_shut hP h1 h2 h3 ha) h4 hT
def nextF (es : List E3) (R part found : Nat) : Nat := diffW ((found ||| nbW es (Lib.ctz 32 found)) &&& R) (part ||| 2 ^ Lib.ctz 32 found)
theorem PartInv.next (hg : goodE n es) (hn : n ≤ 10) (hL : LabOK (adjE es) n T lab) (hRT : ∀ i, R.testBit i = true → T i = true) (hR : R < 2 ^ n) (hp : part < 2 ^ n) (hf : found < 2 ^ n) (h0 : found ≠ 0) (h : PartInv n es lab R v part found) :
    PartInv n es lab R v (part ||| 2 ^ Lib.ctz 32 found) (nextF es R part found) := by
  have hc := low_lt hn hf h0
  have hcb := low_bit hn hf h0
  have h1024 : 2 ^ n ≤ 1024 := by rw [show 1024 = 2 ^ 10 from rfl]; exact Nat.pow_le_pow_right (by decide) hn
  have hpow : 2 ^ Lib.ctz 32 found < 2 ^ n := Nat.pow_lt_pow_right (by decide) hc
  have hnb : nbW es (Lib.ctz 32 found) < 2 ^ n := by have := nbW_lt hg (Lib.ctz 32 found) es.length; rwa [List.take_length] at this
  have hpb : ∀ i, (part ||| 2 ^ Lib.ctz 32 found).testBit i = true ↔ part.testBit i = true ∨ i = Lib.ctz 32 found := fun i => by
    rw [Nat.testBit_or, Nat.testBit_two_pow, Bool.or_eq_true, decide_eq_true_eq]
    exact or_congr Iff.rfl ⟨Eq.symm, Eq.symm⟩
  have hnx : ∀ i, (nextF es R part found).testBit i = true ↔ ((found.testBit i = true ∨ adjE es (Lib.ctz 32 found) i = true) ∧ R.testBit i = true) ∧ ¬ (part.testBit i = true ∨ i = Lib.ctz 32 found) := fun i => by
    unfold nextF
    have h1 := Nat.and_lt_two_pow (n := n) (found ||| nbW es (Lib.ctz 32 found)) hR
    have h2 := Nat.or_lt_two_pow hp hpow
    rw [diffW_testBit _ _ _ (by omega) (by omega), Bool.and_eq_true, Nat.testBit_and, Bool.and_eq_true, Nat.testBit_or, Bool.or_eq_true, nbW_adj hg, ← hpb i]
    simp
  refine ⟨fun i hi => ?_, fun i hi => ?_, fun i hi => ?_, ?_, fun i j hi hij hj => ?_⟩
  · rcases (hpb i).1 hi with h1 | h1
    · exact h.pin i h1
    · subst h1; exact h.fin _ hcb
  · obtain ⟨⟨h1, h2⟩, _⟩ := (hnx i).1 hi
    rcases h1 with h1 | h1
    · exact h.fin i h1
    · refine ⟨h2, ?_⟩
      have h3 := h.fin _ hcb
      rw [← h3.2]
      exact (hL.near _ _ hc (bit_lt hR h2) (hRT _ h3.1) (hRT _ h2) h1).symm
  · have := ((hnx i).1 hi).2
    cases hb : (part ||| 2 ^ Lib.ctz 32 found).testBit i with
    | false => rfl
    | true => exact absurd ((hpb i).1 hb) this
  · by_cases hv : part.testBit v = true ∨ v = Lib.ctz 32 found
    · exact .inl ((hpb v).2 hv)
    · right
      rcases h.has with h1 | h1
      · exact absurd (.inl h1) hv
      · exact (hnx v).2 ⟨⟨.inl h1, (h.fin v h1).1⟩, hv⟩
  · by_cases hjp : part.testBit j = true ∨ j = Lib.ctz 32 found
    · exact .inl ((hpb j).2 hjp)
    · right
      rcases (hpb i).1 hi with h1 | h1
      · rcases h.shut i j h1 hij hj with h2 | h2
        · exact absurd (.inl h2) hjp
        · exact (hnx j).2 ⟨⟨.inl h2, hj⟩, hjp⟩
      · subst h1
        exact (hnx j).2 ⟨⟨.inr hij, hj⟩, hjp⟩
theorem PartInv.grow (hn : n ≤ 10) (hf : found < 2 ^ n) (h0 : found ≠ 0) (h : PartInv n es lab R v part found) : part < part ||| 2 ^ Lib.ctz 32 found := by
  have h1 := h.out _ (low_bit hn hf h0)
  rcases Nat.lt_or_eq_of_le (show part ≤ part ||| 2 ^ Lib.ctz 32 found from Nat.left_le_or) with h2 | h2
  · exact h2
  · exfalso
    have h3 : (part ||| 2 ^ Lib.ctz 32 found).testBit (Lib.ctz 32 found) = true := by rw [Nat.testBit_or, Nat.testBit_two_pow]; simp
    rw [← h2, h1] at h3; cases h3
/-- What is left is whole parts. -/
def Whole (n : Nat) (lab : Nat → Nat) (T : Nat → Bool) (R : Nat) : Prop := R < 2 ^ n ∧ (∀ i, R.testBit i = true → T i = true) ∧ ∀ i j, i < n → j < n → T i = true → T j = true → lab i = lab j → R.testBit i = true → R.testBit j = true
/-- The word of a part is all that the least node of it is linked with. -/
theorem PartInv.done (hL : LabOK (adjE es) n T lab) (hW : Whole n lab T R) (hv : R.testBit v = true) (h : PartInv n es lab R v part 0) (i : Nat) : part.testBit i = (R.testBit i && decide (lab i = lab v)) := by
  rw [Bool.eq_iff_iff, Bool.and_eq_true, decide_eq_true_eq]
  refine ⟨fun hi => h.pin i hi, fun ⟨h1, h2⟩ => ?_⟩
  have hvn := bit_lt hW.1 hv
  have hin := bit_lt hW.1 h1
  obtain ⟨k, hk⟩ := hL.far v i hvn hin (hW.2.1 v hv) (hW.2.1 i h1) h2.symm
  have hpv : part.testBit v = true := by
    rcases h.has with h3 | h3
    · exact h3
    · simp at h3
  have hP : ∀ a b, a < n → b < n → part.testBit a = true → adjE es a b = true → T b = true → part.testBit b = true := fun a b ha hb h3 h4 h5 => by
    obtain ⟨h6, h7⟩ := h.pin a h3
    have h8 : R.testBit b = true := hW.2.2 a b ha hb (hW.2.1 a h6) h5 (hL.near a b ha hb (hW.2.1 a h6) h5 h4) h6
    rcases h.shut a b h3 h4 h8 with h9 | h9
    · exact h9
    · simp at h9
  exact lnk_shut (P := fun x => part.testBit x = true) hP hin (hW.2.1 i h1) hk hpv
/-- How many of the word have the name i. -/
def inPart (n : Nat) (lab : Nat → Nat) (R i : Nat) : Nat := sizeP (fun j => R.testBit j && decide (lab j = i)) n
theorem sumTo_two {f g : Nat → Nat} {i c : Nat} (hne : ∀ j, j ≠ i → f j = g j) (hi : f i = g i + c) : ∀ n, i < n → sumTo f n = sumTo g n + c
  | 0, h => absurd h (by omega)
  | n + 1, h => by
    show sumTo f n + f n = sumTo g n + g n + c
    by_cases hin : i = n
    · subst hin
      rw [sumTo_congr i fun j hj => hne j (by omega), hi]; omega
    · rw [sumTo_two hne hi n (by omega), hne n fun e => hin e.symm]; omega
/-- A part less: its own share less. -/
theorem odd_part (hn : n ≤ 10) (hL : LabOK (adjE es) n T lab) (hW : Whole n lab T R) (hv : R.testBit v = true) (hp : part < 2 ^ n) (hpart : ∀ i, part.testBit i = (R.testBit i && decide (lab i = lab v))) :
    Whole n lab T (diffW R part) ∧ oddS n lab (fun i => R.testBit i) = oddS n lab (fun i => (diffW R part).testBit i) + sizeP (fun i => part.testBit i) n % 2 := by
  have h1024 : 2 ^ n ≤ 1024 := by rw [show 1024 = 2 ^ 10 from rfl]; exact Nat.pow_le_pow_right (by decide) hn
  have hR := hW.1
  have hb : ∀ i, (diffW R part).testBit i = (R.testBit i && !decide (lab i = lab v)) := fun i => by
    rw [diffW_testBit _ _ _ (by omega) (by omega), hpart]
    cases R.testBit i <;> simp
  refine ⟨⟨diffW_sub hn hR (by omega), fun i hi => ?_, fun i j hi hj hTi hTj hl hRi => ?_⟩, ?_⟩
  · rw [hb, Bool.and_eq_true] at hi; exact hW.2.1 i hi.1
  · rw [hb, Bool.and_eq_true] at hRi ⊢
    exact ⟨hW.2.2 i j hi hj hTi hTj hl hRi.1, by rw [← hl]; exact hRi.2⟩
  · unfold oddS
    refine sumTo_two (i := lab v) (fun j hj => ?_) ?_ n (hL.lt v (bit_lt hR hv) (hW.2.1 v hv))
    · congr 1
      refine sizeP_congr n fun i _ => ?_
      show (R.testBit i && decide (lab i = j)) = ((diffW R part).testBit i && decide (lab i = j))
      rw [hb]
      by_cases h : lab i = j
      · have : ¬ lab i = lab v := fun e => hj (by rw [← h, e])
        simp [this]
      · simp [h]
    · have h1 : sizeP (fun j => (diffW R part).testBit j && decide (lab j = lab v)) n = 0 := sizeP_none fun i _ => by
        rw [hb]; cases R.testBit i <;> simp
      have h2 : sizeP (fun j => R.testBit j && decide (lab j = lab v)) n = sizeP (fun i => part.testBit i) n := sizeP_congr n fun i _ => (hpart i).symm
      rw [h1, h2]; simp
theorem odd_none : oddS n lab (fun i => (0 : Nat).testBit i) = 0 := by
  unfold oddS
  refine sumTo_zero n fun i _ => ?_
  rw [sizeP_none fun j _ => by simp]
theorem odd_le : ∀ (T : Nat → Bool), oddS n lab T ≤ n := fun T => by
  unfold oddS
  have : ∀ (g : Nat → Nat) k, (∀ i, g i ≤ 1) → sumTo g k ≤ k := fun g k hg => by
    induction k with
    | zero => exact Nat.le_refl _
    | succ k ih => show sumTo g k + g k ≤ k + 1; have := hg k; omega
  exact this _ n fun i => by omega
theorem ones_size (hn : n ≤ 10) {x : Nat} (hx : x < 2 ^ n) : ones x = sizeP (fun i => x.testBit i) n := by
  have h1 : ∀ k, (List.range k).countP (fun i => x.testBit i) = sizeP (fun i => x.testBit i) k := fun k => by
    induction k with
    | zero => rfl
    | succ k ih =>
      rw [List.range_succ, List.countP_append, ih, sizeP_succ]
      simp [List.countP_cons]
  unfold ones
  rw [h1]
  have h2 : ∀ k, n ≤ k → sizeP (fun i => x.testBit i) k = sizeP (fun i => x.testBit i) n := fun k hk => by
    induction k with
    | zero => rw [show n = 0 by omega]
    | succ k ih =>
      rcases Nat.lt_or_ge n (k + 1) with h | h
      · rw [sizeP_succ, ih (by omega), Nat.testBit_lt_two_pow (Nat.lt_of_lt_of_le hx (Nat.pow_le_pow_right (by decide) (by omega)))]; simp
      · rw [show n = k + 1 by omega]
  exact h2 10 hn
end
end Go.Proofs.YthfgbgmkiggjmacDoor
