/- Plain facts and small walks that the others lean on, in one text: Plain, Good, Walks, Adj, Floyd, GreedL, Ore, BestP, KonigP, Rch, MinR0, MinR1, TutteP, MatroidP, GossipP, BrooksP, CrowdP, AdjDeg, AllOf, NbP, EachB. No conditions. -/
import Derived.Test.YtpcealcghglopaaChecked
import Derived.NoCompiler
namespace Go.Proofs.Ytpcealcghglopaa

/-- An edge: its two nodes and its weight. -/
abbrev E3 := Int × Int × Int

/-- Do two edges join the same two nodes? -/
def sameB (e f : E3) : Bool := (f.1 == e.1 && f.2.1 == e.2.1) || (f.1 == e.2.1 && f.2.1 == e.1)
def isIn (n x : Int) : Bool := decide (0 ≤ x) && decide (x < n)
def metB (pre : List E3) (e : E3) : Bool := pre.any (sameB e)

/-- What is wrong with an edge behind others. -/
def edgeErr (n : Int) (pre : List E3) (e : E3) : Int :=
  if (!isIn n e.1 || !isIn n e.2.1) = true then 2
  else if (e.1 == e.2.1 || metB pre e) = true then 3
  else if (decide (e.2.2 < -1048576) || decide (1048576 < e.2.2)) = true then 4 else 0

def scan (n : Int) : List E3 → List E3 → Int
  | _, [] => 0
  | pre, e :: r => if (edgeErr n pre e == 0) = true then scan n (pre ++ [e]) r else edgeErr n pre e

def largeB (n : Int) (m : Nat) : Bool := decide (n < 0) || decide (10 < n) || decide (45 < m)
def gcheck (n : Int) (es : List E3) : Int := if largeB n es.length = true then 1 else scan n [] es

theorem scan_end (n : Int) (es : List E3) (k : Nat) (h : es.length ≤ k) : scan n (es.take k) (es.drop k) = 0 := by
  rw [List.drop_of_length_le h]; unfold scan; rfl
theorem scan_next (n : Int) (es : List E3) (k : Nat) (e : E3) (he : es[k]? = some e) (h0 : edgeErr n (es.take k) e = 0) :
    scan n (es.take k) (es.drop k) = scan n (es.take (k + 1)) (es.drop (k + 1)) := by
  obtain ⟨hk, rfl⟩ := List.getElem?_eq_some_iff.1 he
  rw [List.drop_eq_getElem_cons hk, List.take_succ_eq_append_getElem hk]
  conv => lhs; unfold scan
  rw [h0]; rfl
theorem scan_stop (n : Int) (es : List E3) (k : Nat) (e : E3) (he : es[k]? = some e) (h0 : edgeErr n (es.take k) e ≠ 0) :
    scan n (es.take k) (es.drop k) = edgeErr n (es.take k) e := by
  obtain ⟨hk, rfl⟩ := List.getElem?_eq_some_iff.1 he
  rw [List.drop_eq_getElem_cons hk]
  unfold scan
  rw [if_neg (by simpa using h0)]

theorem metB_next (es : List E3) (m : Nat) (f e : E3) (h : es[m]? = some f) : metB (es.take (m + 1)) e = (metB (es.take m) e || sameB e f) := by
  obtain ⟨hk, rfl⟩ := List.getElem?_eq_some_iff.1 h
  unfold metB
  rw [List.take_succ_eq_append_getElem hk, List.any_append]
  simp
theorem metB_mem (es : List E3) (m k : Nat) (f e : E3) (hmk : m < k) (h : es[m]? = some f) (hs : sameB e f = true) : metB (es.take k) e = true := by
  unfold metB
  rw [List.any_eq_true]
  exact ⟨f, List.mem_of_getElem? (by rw [List.getElem?_take, if_pos hmk]; exact h), hs⟩
theorem edgeErr_in (n : Int) (pre : List E3) (a b c : Int) (h0 : isIn n a = true) (h1 : isIn n b = true) : edgeErr n pre (a, b, c) =
    if (a == b || metB pre (a, b, c)) = true then 3 else if (decide (c < -1048576) || decide (1048576 < c)) = true then 4 else 0 := by
  unfold edgeErr
  rw [if_neg (by simp [h0, h1])]
theorem edgeErr_out (n : Int) (pre : List E3) (a b c : Int) (h : ¬ (isIn n a = true ∧ isIn n b = true)) : edgeErr n pre (a, b, c) = 2 := by
  unfold edgeErr
  rw [if_pos]
  simp only [Bool.or_eq_true, Bool.not_eq_true']
  by_cases h0 : isIn n a = true
  · right; simpa [h0] using h
  · left; simpa using h0
theorem edgeErr_form (n : Int) (pre : List E3) (a b c : Int) (h0 : isIn n a = true) (h1 : isIn n b = true) (h : (a == b || metB pre (a, b, c)) = true) : edgeErr n pre (a, b, c) = 3 := by
  rw [edgeErr_in n pre a b c h0 h1, if_pos h]
theorem edgeErr_range (n : Int) (pre : List E3) (a b c : Int) (h0 : isIn n a = true) (h1 : isIn n b = true) (h : (a == b || metB pre (a, b, c)) = false) (h2 : c < -1048576 ∨ 1048576 < c) : edgeErr n pre (a, b, c) = 4 := by
  rw [edgeErr_in n pre a b c h0 h1, if_neg (by simp [h]), if_pos (by simpa using h2)]
theorem edgeErr_ok (n : Int) (pre : List E3) (a b c : Int) (h0 : isIn n a = true) (h1 : isIn n b = true) (h : (a == b || metB pre (a, b, c)) = false) (h2 : -1048576 ≤ c) (h3 : c ≤ 1048576) : edgeErr n pre (a, b, c) = 0 := by
  rw [edgeErr_in n pre a b c h0 h1, if_neg (by simp [h]), if_neg (by simp; omega)]
theorem edgeErr_zero {n : Int} {pre : List E3} {e : E3} (h : edgeErr n pre e = 0) : (isIn n e.1 = true ∧ isIn n e.2.1 = true) ∧ metB pre e = false := by
  unfold edgeErr at h
  split at h
  · omega
  · rename_i h1
    split at h
    · omega
    · rename_i h2
      simp only [Bool.or_eq_true, Bool.not_eq_true', not_or, Bool.not_eq_false, Bool.not_eq_true] at h1 h2
      exact ⟨h1, h2.2⟩
theorem scan_err (n : Int) (es : List E3) (k : Nat) (e : E3) (v : Int) (he : es[k]? = some e) (hv : edgeErr n (es.take k) e = v) (h0 : v ≠ 0) : scan n (es.take k) (es.drop k) = v := by
  subst hv; exact scan_stop n es k e he h0

end Go.Proofs.Ytpcealcghglopaa

namespace Go.Proofs.Ytpcealcghglopaa

theorem largeB_false {n : Int} {m : Nat} (h : largeB n m = false) : 0 ≤ n ∧ n ≤ 10 ∧ m ≤ 45 := by
  simp [largeB] at h; omega
/-- What a graph without fault is. -/
def goodE (n : Int) (es : List E3) : Prop := ∀ k e, es[k]? = some e → edgeErr n (es.take k) e = 0
theorem scan_good (n : Int) : ∀ (r pre : List E3), scan n pre r = 0 → ∀ k e, r[k]? = some e → edgeErr n (pre ++ r.take k) e = 0
  | [], _, _, k, e, he => by simp at he
  | x :: r, pre, h, k, e, he => by
    unfold scan at h
    split at h
    · rename_i h0
      cases k with
      | zero =>
        simp only [List.getElem?_cons_zero, Option.some.injEq] at he
        subst he
        simpa using h0
      | succ k =>
        simp only [List.getElem?_cons_succ] at he
        have := scan_good n r (pre ++ [x]) h k e he
        simpa using this
    · rename_i h0
      rw [h] at h0
      simp at h0
theorem good_of_gcheck {n : Int} {es : List E3} (h : gcheck n es = 0) : 0 ≤ n ∧ n ≤ 10 ∧ es.length ≤ 45 ∧ goodE n es := by
  unfold gcheck at h
  split at h
  · omega
  · rename_i hL
    obtain ⟨h0, h1, h2⟩ := largeB_false (by simpa using hL)
    exact ⟨h0, h1, h2, fun k e he => by simpa using scan_good n es [] h k e he⟩
theorem edge_ok {n : Int} {pre : List E3} {e : E3} (h : edgeErr n pre e = 0) : 0 ≤ e.1 ∧ e.1 < n ∧ 0 ≤ e.2.1 ∧ e.2.1 < n ∧ e.1 ≠ e.2.1 ∧ metB pre e = false := by
  obtain ⟨⟨h0, h1⟩, h2⟩ := edgeErr_zero h
  have h3 : e.1 ≠ e.2.1 := fun hq => by
    obtain ⟨a, b, c⟩ := e
    rw [edgeErr_form n pre a b c h0 h1 (by simp at hq; simp [hq])] at h
    omega
  simp only [isIn, Bool.and_eq_true, decide_eq_true_eq] at h0 h1
  exact ⟨h0.1, h0.2, h1.1, h1.2, h3, h2⟩

def touchB (i : Int) (e : E3) : Bool := e.1 == i || e.2.1 == i
def degN (es : List E3) (i : Int) : Nat := (es.filter (touchB i)).length
theorem degN_le (es : List E3) (i : Int) : degN es i ≤ es.length := List.length_filter_le _ _
theorem degN_next (es : List E3) (k : Nat) (x : E3) (i : Int) (h : es[k]? = some x) : degN (es.take (k + 1)) i = degN (es.take k) i + (if touchB i x = true then 1 else 0) := by
  obtain ⟨hk, rfl⟩ := List.getElem?_eq_some_iff.1 h
  unfold degN
  rw [List.take_succ_eq_append_getElem hk, List.filter_append, List.length_append]
  by_cases ht : touchB i es[k] = true <;> simp [ht]
end Go.Proofs.Ytpcealcghglopaa

namespace Go.Proofs.Ytpcealcghglopaa

/-- A way of k edges from i to j. -/
def wk (adj : Nat → Nat → Bool) : Nat → Nat → Nat → Prop
  | 0, i, j => i = j
  | k + 1, i, j => ∃ x, wk adj k i x ∧ adj x j = true
theorem wk_trans {adj : Nat → Nat → Bool} {a : Nat} {i x : Nat} (h : wk adj a i x) : ∀ {b j : Nat}, wk adj b x j → wk adj (a + b) i j
  | 0, _, hb => by cases hb; exact h
  | b + 1, _, ⟨y, hy, hj⟩ => ⟨y, wk_trans h hy, hj⟩
theorem wk_one {adj : Nat → Nat → Bool} {i j : Nat} : wk adj 1 i j ↔ adj i j = true :=
  ⟨fun ⟨_, hx, h⟩ => by cases hx; exact h, fun h => ⟨i, rfl, h⟩⟩
theorem wk_symm {adj : Nat → Nat → Bool} (hs : ∀ i j, adj i j = adj j i) : ∀ {k i j : Nat}, wk adj k i j → wk adj k j i
  | 0, _, _, h => h.symm
  | k + 1, i, j, ⟨x, hx, hj⟩ => by
    have h1 : wk adj 1 j x := wk_one.2 (by rw [hs]; exact hj)
    have := wk_trans h1 (wk_symm hs hx)
    rwa [Nat.add_comm] at this

def IsDist (adj : Nat → Nat → Bool) (i j d : Nat) : Prop := wk adj d i j ∧ ∀ k, k < d → ¬ wk adj k i j
theorem least_of {p : Nat → Prop} : ∀ n, p n → ∃ d, d ≤ n ∧ p d ∧ ∀ k, k < d → ¬ p k := by
  intro n
  induction n using Nat.strongRecOn with
  | ind n ih =>
    intro h
    by_cases hk : ∃ k, k < n ∧ p k
    · obtain ⟨k, hkn, hp⟩ := hk
      obtain ⟨d, h1, h2, h3⟩ := ih k hkn hp
      exact ⟨d, by omega, h2, h3⟩
    · exact ⟨n, Nat.le_refl _, h, fun k hkn hp => hk ⟨k, hkn, hp⟩⟩
theorem dist_of_wk {adj : Nat → Nat → Bool} {i j k : Nat} (h : wk adj k i j) : ∃ d, d ≤ k ∧ IsDist adj i j d := by
  obtain ⟨d, h1, h2, h3⟩ := least_of (p := fun k => wk adj k i j) k h
  exact ⟨d, h1, h2, h3⟩
theorem dist_unique {adj : Nat → Nat → Bool} {i j d e : Nat} (h : IsDist adj i j d) (k : IsDist adj i j e) : d = e := by
  rcases Nat.lt_trichotomy d e with hlt | heq | hlt
  · exact absurd h.1 (k.2 d hlt)
  · exact heq
  · exact absurd k.1 (h.2 e hlt)
theorem dist_zero {adj : Nat → Nat → Bool} {i j : Nat} : IsDist adj i j 0 ↔ i = j := ⟨fun h => h.1, fun h => ⟨h, fun k hk => absurd hk (by omega)⟩⟩
theorem dist_pred {adj : Nat → Nat → Bool} {i j d : Nat} (h : IsDist adj i j (d + 1)) : ∃ x, IsDist adj i x d ∧ adj x j = true := by
  obtain ⟨x, hx, hj⟩ := h.1
  exact ⟨x, ⟨hx, fun k hk hw => h.2 (k + 1) (by omega) ⟨x, hw, hj⟩⟩, hj⟩
theorem dist_down {adj : Nat → Nat → Bool} {i : Nat} : ∀ {d j : Nat}, IsDist adj i j d → ∀ e, e ≤ d → ∃ x, IsDist adj i x e
  | 0, j, h, e, he => by
    have h0 : e = 0 := by omega
    subst h0
    exact ⟨j, h⟩
  | d + 1, j, h, e, he => by
    rcases Nat.lt_or_ge e (d + 1) with hlt | hge
    · obtain ⟨x, hx, _⟩ := dist_pred h
      exact dist_down hx e (by omega)
    · obtain rfl : e = d + 1 := by omega
      exact ⟨j, h⟩

open Classical in
/-- How far: -1, if there is no way. -/
noncomputable def distI (adj : Nat → Nat → Bool) (i j : Nat) : Int := if h : ∃ d, IsDist adj i j d then ((Classical.choose h : Nat) : Int) else -1
theorem distI_eq {adj : Nat → Nat → Bool} {i j d : Nat} (h : IsDist adj i j d) : distI adj i j = d := by
  have hex : ∃ d, IsDist adj i j d := ⟨d, h⟩
  unfold distI
  rw [dif_pos hex, dist_unique (Classical.choose_spec hex) h]
theorem distI_none {adj : Nat → Nat → Bool} {i j : Nat} (h : ∀ d, ¬ IsDist adj i j d) : distI adj i j = -1 := by
  unfold distI
  rw [dif_neg (fun ⟨d, hd⟩ => h d hd)]
theorem distI_cases (adj : Nat → Nat → Bool) (i j : Nat) : (∃ d : Nat, IsDist adj i j d ∧ distI adj i j = d) ∨ ((∀ d, ¬ IsDist adj i j d) ∧ distI adj i j = -1) := by
  by_cases h : ∃ d, IsDist adj i j d
  · obtain ⟨d, hd⟩ := h
    exact .inl ⟨d, hd, distI_eq hd⟩
  · exact .inr ⟨fun d hd => h ⟨d, hd⟩, distI_none (fun d hd => h ⟨d, hd⟩)⟩
theorem distI_nonneg {adj : Nat → Nat → Bool} {i j : Nat} : 0 ≤ distI adj i j ↔ ∃ k, wk adj k i j := by
  rcases distI_cases adj i j with ⟨d, hd, he⟩ | ⟨hn, he⟩
  · rw [he]; exact ⟨fun _ => ⟨d, hd.1⟩, fun _ => by omega⟩
  · rw [he]
    refine ⟨fun h => absurd h (by decide), fun ⟨k, hk⟩ => ?_⟩
    obtain ⟨d, _, hd⟩ := dist_of_wk hk
    exact absurd hd (hn d)

/-- What the law of distances says. -/
theorem distI_symm {adj : Nat → Nat → Bool} (hs : ∀ i j, adj i j = adj j i) (i j : Nat) : distI adj i j = distI adj j i := by
  have hd : ∀ d i j, IsDist adj i j d → IsDist adj j i d := fun d i j h => ⟨wk_symm hs h.1, fun k hk hw => h.2 k hk (wk_symm hs hw)⟩
  rcases distI_cases adj i j with ⟨d, h, he⟩ | ⟨hn, he⟩
  · rw [he, distI_eq (hd d i j h)]
  · rw [he, distI_none (fun d h => hn d (hd d j i h))]
theorem distI_zero {adj : Nat → Nat → Bool} (i j : Nat) : distI adj i j = 0 ↔ i = j := by
  refine ⟨fun h => ?_, fun h => by rw [distI_eq (dist_zero.2 h)]; rfl⟩
  rcases distI_cases adj i j with ⟨d, hd, he⟩ | ⟨_, he⟩
  · have : d = 0 := by omega
    subst this
    exact dist_zero.1 hd
  · omega
theorem distI_one {adj : Nat → Nat → Bool} (hr : ∀ i, adj i i = false) (i j : Nat) : distI adj i j = 1 ↔ adj i j = true := by
  refine ⟨fun h => ?_, fun h => ?_⟩
  · rcases distI_cases adj i j with ⟨d, hd, he⟩ | ⟨_, he⟩
    · have : d = 1 := by omega
      subst this
      exact wk_one.1 hd.1
    · omega
  · have hd : IsDist adj i j 1 := ⟨wk_one.2 h, fun k hk hw => by
      obtain rfl : k = 0 := by omega
      obtain rfl : i = j := hw
      rw [hr] at h
      cases h⟩
    rw [distI_eq hd]; rfl
theorem distI_tri {adj : Nat → Nat → Bool} (a b c : Nat) (h1 : 0 ≤ distI adj a b) (h2 : 0 ≤ distI adj b c) : 0 ≤ distI adj a c ∧ distI adj a c ≤ distI adj a b + distI adj b c := by
  rcases distI_cases adj a b with ⟨d, hd, he⟩ | ⟨_, he⟩
  · rcases distI_cases adj b c with ⟨e, hd2, he2⟩ | ⟨_, he2⟩
    · obtain ⟨x, hx, hxd⟩ := dist_of_wk (wk_trans hd.1 hd2.1)
      rw [distI_eq hxd, he, he2]
      omega
    · omega
  · omega
end Go.Proofs.Ytpcealcghglopaa

namespace Go.Proofs.Ytpcealcghglopaa

/-- Have two nodes an edge? -/
def adjE (es : List E3) (i j : Nat) : Bool := es.any fun e => (e.1 == (i : Int) && e.2.1 == (j : Int)) || (e.1 == (j : Int) && e.2.1 == (i : Int))
theorem adjE_symm (es : List E3) (i j : Nat) : adjE es i j = adjE es j i := by
  unfold adjE
  congr 1
  funext e
  rw [Bool.or_comm]

theorem any_snoc {α : Type} (p : α → Bool) (l : List α) (x : α) : (l ++ [x]).any p = (l.any p || p x) := by simp
theorem adjE_lt {m : Nat} {es : List E3} (hg : goodE m es) {i j : Nat} (h : adjE es i j = true) : i < m ∧ j < m ∧ i ≠ j := by
  unfold adjE at h
  rw [List.any_eq_true] at h
  obtain ⟨e, he, h⟩ := h
  obtain ⟨k, hk⟩ := List.getElem?_of_mem he
  obtain ⟨p0, p1, p2, p3, p4, _⟩ := edge_ok (hg k e hk)
  simp only [Bool.or_eq_true, Bool.and_eq_true, beq_iff_eq] at h
  omega
theorem wk_lt {m : Nat} {es : List E3} (hg : goodE m es) {s : Nat} (hs : s < m) : ∀ {k j : Nat}, wk (adjE es) k s j → j < m
  | 0, _, h => by cases h; exact hs
  | _ + 1, _, ⟨_, _, h⟩ => (adjE_lt hg h).2.1

end Go.Proofs.Ytpcealcghglopaa

namespace Go.Proofs.Ytpcealcghglopaa

/-- A way of n edges from i to j whose inner nodes are below k. -/
def wkI (adj : Nat → Nat → Bool) (k : Nat) : Nat → Nat → Nat → Prop
  | 0, i, j => i = j
  | n + 1, i, j => ∃ x, (n = 0 ∨ x < k) ∧ wkI adj k n i x ∧ adj x j = true
theorem wkI_one {adj : Nat → Nat → Bool} {k i j : Nat} (h : adj i j = true) : wkI adj k 1 i j := ⟨i, .inl rfl, rfl, h⟩
theorem wkI_split {adj : Nat → Nat → Bool} {k i : Nat} : ∀ {n j : Nat}, wkI adj (k + 1) n i j → wkI adj k n i j ∨ ∃ a b, a + b ≤ n ∧ wkI adj k a i k ∧ wkI adj k b k j
  | 0, _, h => .inl h
  | n + 1, j, ⟨x, hx, hw, ha⟩ => by
    rcases wkI_split hw with h | ⟨a, b, hab, h1, h2⟩
    · by_cases hk : n = 0 ∨ x < k
      · exact .inl ⟨x, hk, h, ha⟩
      · obtain rfl : x = k := by omega
        exact .inr ⟨n, 1, Nat.le_refl _, h, wkI_one ha⟩
    · by_cases hk : b = 0 ∨ x < k
      · exact .inr ⟨a, b + 1, by omega, h1, ⟨x, hk, h2, ha⟩⟩
      · obtain rfl : x = k := by omega
        exact .inr ⟨a, 1, by omega, h1, wkI_one ha⟩
theorem wkI_of {adj : Nat → Nat → Bool} {m i : Nat} (hin : ∀ x j, adj x j = true → x < m) : ∀ {n j : Nat}, wk adj n i j → wkI adj m n i j
  | 0, _, h => h
  | _ + 1, _, ⟨x, hx, ha⟩ => ⟨x, .inr (hin _ _ ha), wkI_of hin hx, ha⟩

def upd (D : Nat → Nat → Int) (i j : Nat) (v : Int) : Nat → Nat → Int := fun a b => if a = i ∧ b = j then v else D a b
theorem upd_same (D : Nat → Nat → Int) (i j : Nat) (v : Int) : upd D i j v i j = v := by simp [upd]
theorem upd_other {D : Nat → Nat → Int} {i j a b : Nat} {v : Int} (h : ¬ (a = i ∧ b = j)) : upd D i j v a b = D a b := by simp [upd, h]

/-- What is known in the middle of the detours: all is the length of a way; ways by nodes below k are no shorter; and those by k, too, as far as one came. -/
structure FwInv (adj : Nat → Nat → Bool) (m k i j : Nat) (D : Nat → Nat → Int) : Prop where
  way : ∀ a b, a < m → b < m → D a b = -1 ∨ ∃ n : Nat, D a b = n ∧ wk adj n a b
  diag : ∀ a, a < m → D a a = 0
  all : ∀ a b, a < m → b < m → D a b ≤ 2 ^ (k + 1)
  cross : ∀ a, a < m → k < m → D a k ≤ 2 ^ k ∧ D k a ≤ 2 ^ k
  best : ∀ a b n, a < m → b < m → wkI adj k n a b → 0 ≤ D a b ∧ D a b ≤ (n : Int)
  done : ∀ a b n, a < m → b < m → (a < i ∨ (a = i ∧ b < j)) → wkI adj (k + 1) n a b → 0 ≤ D a b ∧ D a b ≤ (n : Int)
def fwStart (adj : Nat → Nat → Bool) (i j : Nat) : Int := if i = j then 0 else if adj i j = true then 1 else -1
theorem fw_start (adj : Nat → Nat → Bool) (m : Nat) : FwInv adj m 0 0 0 (fwStart adj) where
  way a b _ _ := by
    unfold fwStart
    split
    · rename_i h; exact .inr ⟨0, rfl, h⟩
    · split
      · rename_i h; exact .inr ⟨1, rfl, wk_one.2 h⟩
      · exact .inl rfl
  diag a _ := by simp [fwStart]
  all a b _ _ := by unfold fwStart; split <;> (try split) <;> decide
  cross a _ _ := by unfold fwStart; constructor <;> split <;> (try split) <;> decide
  best a b n _ _ h := by
    cases n with
    | zero => obtain rfl : a = b := h; simp [fwStart]
    | succ n =>
      obtain ⟨x, hx, hw, ha⟩ := h
      obtain rfl : n = 0 := by omega
      obtain rfl : a = x := hw
      unfold fwStart
      rw [if_pos ha]
      split <;> simp
  done a b n _ _ h := by omega
theorem fw_step {adj : Nat → Nat → Bool} {m k i j : Nat} {D : Nat → Nat → Int} (h : FwInv adj m k i j D) (hk : k < m) (hi : i < m) (hj : j < m) (h1 : 0 ≤ D i k) (h2 : 0 ≤ D k j) (h3 : D i j < 0 ∨ D i k + D k j < D i j) :
    FwInv adj m k i (j + 1) (upd D i j (D i k + D k j)) := by
  have hik : i ≠ k := fun e => by subst e; have := h.diag i hi; omega
  have hjk : j ≠ k := fun e => by subst e; have := h.diag j hj; omega
  have hij : i ≠ j := fun e => by subst e; have := h.diag i hi; omega
  have mono : ∀ a b, 0 ≤ D a b → 0 ≤ upd D i j (D i k + D k j) a b ∧ upd D i j (D i k + D k j) a b ≤ D a b := fun a b h0 => by
    unfold upd
    split
    · rename_i e; obtain ⟨rfl, rfl⟩ := e; omega
    · exact ⟨h0, Int.le_refl _⟩
  have c1 := (h.cross i hi hk).1
  have c2 := (h.cross j hj hk).2
  have hp : (2 : Int) ^ (k + 1) = 2 ^ k + 2 ^ k := by rw [Int.pow_succ]; omega
  refine ⟨fun a b ha hb => ?_, fun a ha => ?_, fun a b ha hb => ?_, fun a ha _ => ?_, fun a b n ha hb hw => ?_, fun a b n ha hb hd hw => ?_⟩
  · unfold upd
    split
    · rename_i e
      obtain ⟨rfl, rfl⟩ := e
      right
      rcases h.way a k ha hk with e | ⟨x, ex, wx⟩
      · omega
      · rcases h.way k b hk hb with e | ⟨y, ey, wy⟩
        · omega
        · exact ⟨x + y, by rw [ex, ey]; simp, wk_trans wx wy⟩
    · exact h.way a b ha hb
  · rw [upd_other (by omega)]; exact h.diag a ha
  · unfold upd
    split
    · omega
    · exact h.all a b ha hb
  · rw [upd_other (by omega), upd_other (by omega)]; exact h.cross a ha hk
  · obtain ⟨q1, q2⟩ := h.best a b n ha hb hw
    have := mono a b q1
    omega
  · rcases Nat.lt_or_ge a i with hai | hai
    · obtain ⟨q1, q2⟩ := h.done a b n ha hb (.inl hai) hw
      have := mono a b q1
      omega
    · obtain rfl : a = i := by omega
      by_cases hbj : b = j
      · subst hbj
        rw [upd_same]
        refine ⟨by omega, ?_⟩
        rcases wkI_split hw with hw | ⟨x, y, hxy, w1, w2⟩
        · have := (h.best a b n ha hb hw); omega
        · have := (h.best a k x ha hk w1).2
          have := (h.best k b y hk hb w2).2
          omega
      · obtain ⟨q1, q2⟩ := h.done a b n ha hb (.inr ⟨rfl, by omega⟩) hw
        have := mono a b q1
        omega
theorem fw_stay {adj : Nat → Nat → Bool} {m k i j : Nat} {D : Nat → Nat → Int} (h : FwInv adj m k i j D) (hk : k < m) (hi : i < m) (hj : j < m) (h0 : D i k < 0 ∨ D k j < 0 ∨ (0 ≤ D i j ∧ D i j ≤ D i k + D k j)) :
    FwInv adj m k i (j + 1) D := by
  refine ⟨h.way, h.diag, h.all, h.cross, h.best, fun a b n ha hb hd hw => ?_⟩
  by_cases hbj : a = i ∧ b = j
  · obtain ⟨rfl, rfl⟩ := hbj
    rcases wkI_split hw with hw | ⟨x, y, hxy, w1, w2⟩
    · exact h.best a b n ha hb hw
    · have := h.best a k x ha hk w1
      have := h.best k b y hk hb w2
      omega
  · exact h.done a b n ha hb (by omega) hw
theorem fw_row {adj : Nat → Nat → Bool} {m k i : Nat} {D : Nat → Nat → Int} (h : FwInv adj m k i m D) : FwInv adj m k (i + 1) 0 D :=
  ⟨h.way, h.diag, h.all, h.cross, h.best, fun a b n ha hb hd hw => h.done a b n ha hb (by omega) hw⟩
theorem fw_phase {adj : Nat → Nat → Bool} {m k : Nat} {D : Nat → Nat → Int} (h : FwInv adj m k m 0 D) : FwInv adj m (k + 1) 0 0 D := by
  have hp : (2 : Int) ^ (k + 1 + 1) = 2 ^ (k + 1) + 2 ^ (k + 1) := by rw [Int.pow_succ]; omega
  have hq : (0 : Int) ≤ 2 ^ (k + 1) := Int.le_of_lt (Int.pow_pos (by decide))
  exact ⟨h.way, h.diag, fun a b ha hb => by have := h.all a b ha hb; omega, fun a ha hk => ⟨h.all a _ ha hk, h.all _ a hk ha⟩, fun a b n ha hb hw => h.done a b n ha hb (.inl ha) hw, fun a b n _ _ hd => by omega⟩
theorem fw_end {adj : Nat → Nat → Bool} {m : Nat} {D : Nat → Nat → Int} (h : FwInv adj m m 0 0 D) (hin : ∀ x j, adj x j = true → x < m) {i j : Nat} (hi : i < m) (hj : j < m) : D i j = distI adj i j := by
  rcases distI_cases adj i j with ⟨d, hd, he⟩ | ⟨hn, he⟩
  · rw [he]
    obtain ⟨q1, q2⟩ := h.best i j d hi hj (wkI_of hin hd.1)
    rcases h.way i j hi hj with e | ⟨n, e, hw⟩
    · omega
    · have : ¬ n < d := fun hlt => hd.2 n hlt hw
      omega
  · rw [he]
    rcases h.way i j hi hj with e | ⟨n, e, hw⟩
    · exact e
    · obtain ⟨d, _, hd⟩ := dist_of_wk hw
      exact absurd hd (hn d)
end Go.Proofs.Ytpcealcghglopaa

namespace Go.Proofs.Ytpcealcghglopaa

def usedB (adj : Nat → Nat → Bool) (l : List Nat) (col : Nat → Nat) (i c : Nat) : Bool := l.any fun j => adj i j && col j == c
def updN (f : Nat → Nat) (i c : Nat) : Nat → Nat := fun j => if j = i then c else f j
structure GreedL (adj : Nat → Nat → Bool) (o : List Nat) (k : Nat) (col : Nat → Nat) : Prop where
  mex : ∀ t i, t < k → o[t]? = some i → (∀ c, c < col i → usedB adj (o.take t) col i c = true) ∧ usedB adj (o.take t) col i (col i) = false
  rest : ∀ i, i ∉ o.take k → col i = 0
section
variable {adj : Nat → Nat → Bool} {o l : List Nat} {col col' : Nat → Nat} {i k c : Nat}
theorem used_congr (h : ∀ j ∈ l, col j = col' j) (i c : Nat) : usedB adj l col i c = usedB adj l col' i c := by
  unfold usedB
  rw [Bool.eq_iff_iff, List.any_eq_true, List.any_eq_true]
  constructor
  · rintro ⟨j, hj, e⟩
    exact ⟨j, hj, by rw [← h j hj]; exact e⟩
  · rintro ⟨j, hj, e⟩
    exact ⟨j, hj, by rw [h j hj]; exact e⟩
theorem GreedL.start : GreedL adj o 0 (fun _ => 0) := ⟨fun _ _ h => absurd h (by omega), fun _ _ => rfl⟩
theorem get_ahead (hn : o.Nodup) (hi : o[k]? = some i) {t : Nat} (ht : t ≤ k) : i ∉ o.take t := fun hm => by
  obtain ⟨q, hq⟩ := List.getElem?_of_mem hm
  rw [List.getElem?_take] at hq
  split at hq
  · rename_i hqt
    have h1 := (List.getElem?_eq_some_iff.1 hq).1
    have h2 := (List.getElem?_eq_some_iff.1 hi).1
    have e : o[q] = o[k] := by
      rw [(List.getElem?_eq_some_iff.1 hq).2, (List.getElem?_eq_some_iff.1 hi).2]
    exact List.pairwise_iff_getElem.1 hn q k h1 h2 (by omega) e
  · cases hq
theorem GreedL.step (hn : o.Nodup) (h : GreedL adj o k col) (hi : o[k]? = some i) (h1 : ∀ c', c' < c → usedB adj (o.take k) col i c' = true) (h2 : usedB adj (o.take k) col i c = false) : GreedL adj o (k + 1) (updN col i c) := by
  have hsame : ∀ t, t ≤ k → ∀ j ∈ o.take t, updN col i c j = col j := fun t ht j hj => by
    unfold updN
    rw [if_neg]
    rintro rfl
    exact get_ahead hn hi ht hj
  refine ⟨fun t x ht hx => ?_, fun x hx => ?_⟩
  · have hu : ∀ c', usedB adj (o.take t) (updN col i c) x c' = usedB adj (o.take t) col x c' := fun c' => used_congr (fun j hj => hsame t (by omega) j hj) x c'
    by_cases e : t = k
    · subst e
      rw [hi] at hx
      injection hx with hx
      subst hx
      have e2 : updN col i c i = c := if_pos rfl
      rw [e2]
      exact ⟨fun c' hc => by rw [hu]; exact h1 c' hc, by rw [hu]; exact h2⟩
    · have hne : x ≠ i := by
        rintro rfl
        refine get_ahead hn hi (Nat.le_refl k) (List.mem_of_getElem? (i := t) ?_)
        rw [List.getElem?_take, if_pos (by omega)]; exact hx
      have e2 : updN col i c x = col x := if_neg hne
      rw [e2]
      obtain ⟨g1, g2⟩ := h.mex t x (by omega) hx
      exact ⟨fun c' hc => by rw [hu]; exact g1 c' hc, by rw [hu]; exact g2⟩
  · obtain ⟨hk, hk2⟩ := List.getElem?_eq_some_iff.1 hi
    rw [List.take_succ_eq_append_getElem hk, hk2, List.mem_append, List.mem_singleton, not_or] at hx
    unfold updN
    rw [if_neg hx.2]
    exact h.rest x hx.1
/-- There is only one such colouring. -/
theorem GreedL.one (h : GreedL adj o k col) (h' : GreedL adj o k col') (x : Nat) : col x = col' x := by
  have key : ∀ t, t ≤ k → ∀ j ∈ o.take t, col j = col' j := fun t => by
    induction t with
    | zero => intro _ j hj; simp at hj
    | succ t ih =>
      intro ht j hj
      by_cases hl : t < o.length
      · rw [List.take_succ_eq_append_getElem hl, List.mem_append, List.mem_singleton] at hj
        rcases hj with hj | rfl
        · exact ih (by omega) j hj
        · have hx : o[t]? = some o[t] := List.getElem?_eq_getElem hl
          obtain ⟨a1, a2⟩ := h.mex t _ (by omega) hx
          obtain ⟨b1, b2⟩ := h'.mex t _ (by omega) hx
          have hu : ∀ c, usedB adj (o.take t) col o[t] c = usedB adj (o.take t) col' o[t] c := used_congr (ih (by omega)) _
          rcases Nat.lt_trichotomy (col o[t]) (col' o[t]) with h3 | h3 | h3
          · have := b1 _ h3
            rw [← hu, a2] at this
            cases this
          · exact h3
          · have := a1 _ h3
            rw [hu, b2] at this
            cases this
      · rw [List.take_of_length_le (by omega)] at hj
        refine ih (by omega) j ?_
        rw [List.take_of_length_le (by omega)]; exact hj
  by_cases hx : x ∈ o.take k
  · exact key k (Nat.le_refl _) x hx
  · rw [h.rest x hx, h'.rest x hx]
/-- Not all numbers up to that of those ahead are used. -/
theorem used_lt (h : ∀ c', c' ≤ c → usedB adj l col i c' = true) : c < l.length := by
  have hall : ∀ x, x < c + 1 → x ∈ l.map col := fun x hx => by
    have h1 := h x (by omega)
    unfold usedB at h1
    rw [List.any_eq_true] at h1
    obtain ⟨j, hj, e⟩ := h1
    rw [Bool.and_eq_true, beq_iff_eq] at e
    exact List.mem_map.2 ⟨j, hj, e.2⟩
  have key : ∀ (n : Nat) (l : List Nat), (∀ x, x < n → x ∈ l) → n ≤ l.length := fun n => by
    induction n with
    | zero => exact fun _ _ => Nat.zero_le _
    | succ n ih =>
      intro l h
      have h1 := ih (l.filter fun x => x != n) fun x hx => by
        rw [List.mem_filter]
        exact ⟨h x (by omega), by simp; omega⟩
      have h2 : (l.filter fun x => x != n).length < l.length := by
        rw [List.length_filter_lt_length_iff_exists]
        exact ⟨n, h n (by omega), by simp⟩
      omega
  have := key (c + 1) _ hall
  rw [List.length_map] at this
  omega
theorem GreedL.lt (h : GreedL adj o k col) {t : Nat} (ht : t < k) (hi : o[t]? = some i) : col i ≤ t := by
  obtain ⟨h1, _⟩ := h.mex t i ht hi
  rcases Nat.eq_zero_or_pos (col i) with h0 | h0
  · omega
  · have h2 := used_lt (c := col i - 1) (fun c' hc => h1 c' (by omega))
    rw [List.length_take] at h2
    omega
end
end Go.Proofs.Ytpcealcghglopaa

namespace Go.Proofs.Ytpcealcghglopaa

/-- The greatest of some numbers, and a first one. -/
def maxTo (f : Nat → Nat) : Nat → Nat → Nat
  | 0, a => a
  | n + 1, a => max (maxTo f n a) (f n)
theorem maxTo_ge (f : Nat → Nat) (a : Nat) : ∀ n, a ≤ maxTo f n a
  | 0 => Nat.le_refl _
  | n + 1 => Nat.le_trans (maxTo_ge f a n) (Nat.le_max_left _ _)
theorem maxTo_mem (f : Nat → Nat) (a : Nat) {j : Nat} : ∀ n, j < n → f j ≤ maxTo f n a
  | n + 1, h => by
    rcases Nat.lt_or_ge j n with h1 | h1
    · exact Nat.le_trans (maxTo_mem f a n h1) (Nat.le_max_left _ _)
    · obtain rfl : j = n := by omega
      exact Nat.le_max_right _ _
theorem maxTo_le {f : Nat → Nat} {a b : Nat} (ha : a ≤ b) : ∀ n, (∀ j, j < n → f j ≤ b) → maxTo f n a ≤ b
  | 0, _ => ha
  | n + 1, h => Nat.max_le.2 ⟨maxTo_le ha n fun j hj => h j (by omega), h n (by omega)⟩
theorem maxTo_congr {f g : Nat → Nat} {a : Nat} : ∀ n, (∀ j, j < n → f j = g j) → maxTo f n a = maxTo g n a
  | 0, _ => rfl
  | n + 1, h => by simp only [maxTo]; rw [maxTo_congr n fun j hj => h j (by omega), h n (by omega)]
def sumTo (f : Nat → Nat) : Nat → Nat
  | 0 => 0
  | n + 1 => sumTo f n + f n
theorem sumTo_le {f g : Nat → Nat} : ∀ n, (∀ j, j < n → f j ≤ g j) → sumTo f n ≤ sumTo g n
  | 0, _ => Nat.le_refl _
  | n + 1, h => Nat.add_le_add (sumTo_le n fun j hj => h j (by omega)) (h n (by omega))
theorem sumTo_congr {f g : Nat → Nat} : ∀ n, (∀ j, j < n → f j = g j) → sumTo f n = sumTo g n
  | 0, _ => rfl
  | n + 1, h => by simp only [sumTo]; rw [sumTo_congr n fun j hj => h j (by omega), h n (by omega)]
theorem sumTo_add (f g : Nat → Nat) : ∀ n, sumTo (fun j => f j + g j) n = sumTo f n + sumTo g n
  | 0 => rfl
  | n + 1 => by simp only [sumTo]; rw [sumTo_add f g n]; omega
theorem sumTo_zero {f : Nat → Nat} : ∀ n, (∀ j, j < n → f j = 0) → sumTo f n = 0
  | 0, _ => rfl
  | n + 1, h => by simp only [sumTo]; rw [sumTo_zero n fun j hj => h j (by omega), h n (by omega)]
theorem sumTo_one {f g : Nat → Nat} {i : Nat} (hfg : ∀ j, j ≠ i → f j ≤ g j) (hi : f i + 1 ≤ g i) : ∀ n, i < n → sumTo f n + 1 ≤ sumTo g n
  | n + 1, h => by
    simp only [sumTo]
    rcases Nat.lt_or_ge i n with h1 | h1
    · have := sumTo_one hfg hi n h1
      have := hfg n (by omega)
      omega
    · obtain rfl : i = n := by omega
      have := sumTo_le (f := f) (g := g) i fun j hj => hfg j (by omega)
      omega

/-- One place less. -/
def decC (c : Nat → Nat) (j : Nat) : Nat → Nat := fun x => if x = j then c x - 1 else c x
section
variable (near : Nat → Nat → Bool) (n : Nat)
/-- How many of r, from i on, can have a place. -/
def mxR : Nat → Nat → (Nat → Nat) → Nat
  | 0, _, _ => 0
  | r + 1, i, c => maxTo (fun j => if near i j = true ∧ 0 < c j then 1 + mxR r (i + 1) (decC c j) else 0) n (mxR r (i + 1) c)
/-- How many of r, from i on, are in a set. -/
def cntS (S : Nat → Bool) (i r : Nat) : Nat := sumTo (fun t => if S (i + t) = true then 1 else 0) r
/-- Is one on the right a friend of somebody in a set? -/
def nbS (S : Nat → Bool) (i r j : Nat) : Prop := ∃ t, t < r ∧ S (i + t) = true ∧ near (i + t) j = true
/-- The room of all friends of a set. -/
noncomputable def roomS (S : Nat → Bool) (i r : Nat) (c : Nat → Nat) : Nat := sumTo (fun j => @ite _ (nbS near S i r j) (Classical.propDecidable _) (c j) 0) n
end
section
variable {near : Nat → Nat → Bool} {n : Nat}
theorem sumTo_front (f : Nat → Nat) : ∀ r, sumTo f (r + 1) = f 0 + sumTo (fun t => f (t + 1)) r
  | 0 => by simp [sumTo]
  | r + 1 => by
    have := sumTo_front f r
    simp only [sumTo] at this ⊢
    omega
theorem cntS_succ (S : Nat → Bool) (i r : Nat) : cntS S i (r + 1) = (if S i = true then 1 else 0) + cntS S (i + 1) r := by
  unfold cntS
  rw [sumTo_front]
  congr 1
  exact sumTo_congr r fun t _ => by rw [show i + (t + 1) = i + 1 + t by omega]
theorem nbS_succ {S : Nat → Bool} {i r j : Nat} : nbS near S i (r + 1) j ↔ (S i = true ∧ near i j = true) ∨ nbS near S (i + 1) r j := by
  constructor
  · rintro ⟨t, ht, h1, h2⟩
    rcases Nat.eq_zero_or_pos t with rfl | h0
    · exact .inl ⟨h1, h2⟩
    · exact .inr ⟨t - 1, by omega, by rw [show i + 1 + (t - 1) = i + t by omega]; exact h1, by rw [show i + 1 + (t - 1) = i + t by omega]; exact h2⟩
  · rintro (⟨h1, h2⟩ | ⟨t, ht, h1, h2⟩)
    · exact ⟨0, by omega, h1, h2⟩
    · exact ⟨t + 1, by omega, by rw [show i + (t + 1) = i + 1 + t by omega]; exact h1, by rw [show i + (t + 1) = i + 1 + t by omega]; exact h2⟩
theorem cntS_le (S : Nat → Bool) (i : Nat) : ∀ r, cntS S i r ≤ r
  | 0 => Nat.le_refl _
  | r + 1 => by
    have := cntS_le S i r
    unfold cntS at this ⊢
    simp only [sumTo]
    split <;> omega
theorem roomS_mono {S T : Nat → Bool} {i r i' r' : Nat} {c d : Nat → Nat} (h : ∀ j, j < n → nbS near S i r j → nbS near T i' r' j) (hc : ∀ j, j < n → c j ≤ d j) : roomS near n S i r c ≤ roomS near n T i' r' d := by
  refine sumTo_le n fun j hj => ?_
  by_cases h1 : nbS near S i r j
  · rw [if_pos h1, if_pos (h j hj h1)]; exact hc j hj
  · rw [if_neg h1]; exact Nat.zero_le _
theorem decC_le (c : Nat → Nat) (j x : Nat) : decC c j x ≤ c x := by unfold decC; split <;> omega
theorem roomS_dec {S : Nat → Bool} {i r j : Nat} {c : Nat → Nat} (hj : j < n) (hn : nbS near S i r j) (hc : 0 < c j) : roomS near n S i r (decC c j) + 1 ≤ roomS near n S i r c := by
  refine sumTo_one (i := j) (fun x _ => ?_) ?_ n hj
  · by_cases h1 : nbS near S i r x
    · rw [if_pos h1, if_pos h1]; exact decC_le c j x
    · rw [if_neg h1, if_neg h1]; exact Nat.le_refl _
  · rw [if_pos hn, if_pos hn]
    unfold decC
    rw [if_pos rfl]
    omega
theorem roomS_dec_not {S : Nat → Bool} {i r j : Nat} {c : Nat → Nat} (hn : ¬ nbS near S i r j) : roomS near n S i r (decC c j) = roomS near n S i r c := by
  refine sumTo_congr n fun x _ => ?_
  by_cases h1 : nbS near S i r x
  · rw [if_pos h1, if_pos h1]
    unfold decC
    rw [if_neg fun e : x = j => hn (e ▸ h1)]
  · rw [if_neg h1, if_neg h1]

/-- Whoever lacks room: as many are left over, at least. -/
theorem mxR_le (S : Nat → Bool) : ∀ (r i : Nat) (c : Nat → Nat), mxR near n r i c + cntS S i r ≤ r + roomS near n S i r c
  | 0, i, c => by simp [mxR, cntS, sumTo]
  | r + 1, i, c => by
    rw [cntS_succ]
    have h0 := mxR_le S r (i + 1) c
    have hm : roomS near n S (i + 1) r c ≤ roomS near n S i (r + 1) c := roomS_mono (fun j _ h => nbS_succ.2 (.inr h)) fun j _ => Nat.le_refl _
    suffices hs : mxR near n (r + 1) i c ≤ (r + 1 + roomS near n S i (r + 1) c) - ((if S i = true then 1 else 0) + cntS S (i + 1) r) by
      have hcl := cntS_le S (i + 1) r
      have : (if S i = true then 1 else 0) ≤ 1 := by split <;> omega
      omega
    have hcl := cntS_le S (i + 1) r
    have hif : (if S i = true then 1 else 0) ≤ 1 := by split <;> omega
    refine maxTo_le (by omega) n fun j hj => ?_
    by_cases h : near i j = true ∧ 0 < c j
    · rw [if_pos h]
      have h1 := mxR_le S r (i + 1) (decC c j)
      by_cases hs : S i = true
      · rw [if_pos hs]
        have hd := roomS_dec (n := n) (S := S) (c := c) hj (nbS_succ.2 (.inl ⟨hs, h.1⟩) : nbS near S i (r + 1) j) h.2
        have hm2 : roomS near n S (i + 1) r (decC c j) ≤ roomS near n S i (r + 1) (decC c j) := roomS_mono (fun j _ h => nbS_succ.2 (.inr h)) fun j _ => Nat.le_refl _
        omega
      · rw [if_neg hs]
        have hm2 : roomS near n S (i + 1) r (decC c j) ≤ roomS near n S (i + 1) r c := roomS_mono (fun j _ h => h) fun x _ => decC_le c j x
        omega
    · rw [if_neg h]; omega
/-- A set that lacks just as much as are left over. -/
def Tight (near : Nat → Nat → Bool) (n : Nat) (S : Nat → Bool) (r i : Nat) (c : Nat → Nat) : Prop := mxR near n r i c + cntS S i r = r + roomS near n S i r c
theorem Tight.or {S T : Nat → Bool} {r i : Nat} {c : Nat → Nat} (h1 : Tight near n S r i c) (h2 : Tight near n T r i c) : Tight near n (fun x => S x || T x) r i c := by
  have a := mxR_le (near := near) (n := n) (fun x => S x || T x) r i c
  have b := mxR_le (near := near) (n := n) (fun x => S x && T x) r i c
  have hc : cntS (fun x => S x || T x) i r + cntS (fun x => S x && T x) i r = cntS S i r + cntS T i r := by
    unfold cntS
    rw [← sumTo_add, ← sumTo_add]
    refine sumTo_congr r fun t _ => ?_
    show (if (S (i + t) || T (i + t)) = true then 1 else 0) + (if (S (i + t) && T (i + t)) = true then 1 else 0) = _
    cases S (i + t) <;> cases T (i + t) <;> rfl
  have hr : roomS near n (fun x => S x || T x) i r c + roomS near n (fun x => S x && T x) i r c ≤ roomS near n S i r c + roomS near n T i r c := by
    unfold roomS
    rw [← sumTo_add, ← sumTo_add]
    refine sumTo_le n fun j _ => ?_
    have ho : nbS near (fun x => S x || T x) i r j → nbS near S i r j ∨ nbS near T i r j := by
      rintro ⟨t, ht, h1, h2⟩
      simp only [Bool.or_eq_true] at h1
      rcases h1 with h1 | h1
      · exact .inl ⟨t, ht, h1, h2⟩
      · exact .inr ⟨t, ht, h1, h2⟩
    have ha : nbS near (fun x => S x && T x) i r j → nbS near S i r j ∧ nbS near T i r j := by
      rintro ⟨t, ht, h1, h2⟩
      simp only [Bool.and_eq_true] at h1
      exact ⟨⟨t, ht, h1.1, h2⟩, ⟨t, ht, h1.2, h2⟩⟩
    by_cases p : nbS near S i r j <;> by_cases q : nbS near T i r j
    · rw [if_pos p, if_pos q]
      split <;> split <;> omega
    · rw [if_pos p, if_neg q, if_neg (fun h => q (ha h).2)]
      split <;> omega
    · rw [if_neg p, if_pos q, if_neg (fun h => p (ha h).1)]
      split <;> omega
    · rw [if_neg p, if_neg q, if_neg (fun h => p (ha h).1), if_neg (fun h => (ho h).elim p q)]; exact Nat.le_refl _
  unfold Tight at *
  omega
/-- Over all places of one at once. -/
theorem tight_all {r i : Nat} {c : Nat → Nat} {S0 : Nat → Bool} (h0 : Tight near n S0 r i c) {want : Nat → Prop} : ∀ m, (∀ j, j < m → want j → ∃ S, Tight near n S r i c ∧ nbS near S i r j) → ∃ S, Tight near n S r i c ∧ ∀ j, j < m → want j → nbS near S i r j
  | 0, _ => ⟨S0, h0, fun j hj => by omega⟩
  | m + 1, h => by
    obtain ⟨S, h1, h2⟩ := tight_all h0 m fun j hj => h j (by omega)
    by_cases hw : want m
    · obtain ⟨T, h3, t, ht, h4, h5⟩ := h m (by omega) hw
      refine ⟨_, h1.or h3, fun j hj hwj => ?_⟩
      rcases Nat.lt_or_ge j m with hjm | hjm
      · obtain ⟨u, hu, h6, h7⟩ := h2 j hjm hwj
        exact ⟨u, hu, by simp [h6], h7⟩
      · obtain rfl : j = m := by omega
        exact ⟨t, ht, by simp [h4], h5⟩
    · exact ⟨S, h1, fun j hj hwj => h2 j (by
        rcases Nat.lt_or_ge j m with hjm | hjm
        · exact hjm
        · obtain rfl : j = m := by omega
          exact absurd hwj hw) hwj⟩
theorem mxR_tail (r i : Nat) (c : Nat → Nat) : mxR near n r (i + 1) c ≤ mxR near n (r + 1) i c := maxTo_ge _ _ _
theorem mxR_take {r i j : Nat} {c : Nat → Nat} (hj : j < n) (h : near i j = true) (hc : 0 < c j) : 1 + mxR near n r (i + 1) (decC c j) ≤ mxR near n (r + 1) i c := by
  have := maxTo_mem (fun j => if near i j = true ∧ 0 < c j then 1 + mxR near n r (i + 1) (decC c j) else 0) (mxR near n r (i + 1) c) n hj
  rw [if_pos ⟨h, hc⟩] at this
  exact this
theorem cntS_congr {S T : Nat → Bool} {i r : Nat} (h : ∀ x, i ≤ x → S x = T x) : cntS S i r = cntS T i r := sumTo_congr r fun t _ => by rw [h (i + t) (by omega)]
theorem nbS_congr {S T : Nat → Bool} {i r j : Nat} (h : ∀ x, i ≤ x → S x = T x) : nbS near S i r j ↔ nbS near T i r j := by
  constructor
  · rintro ⟨t, ht, h1, h2⟩; exact ⟨t, ht, by rw [← h (i + t) (by omega)]; exact h1, h2⟩
  · rintro ⟨t, ht, h1, h2⟩; exact ⟨t, ht, by rw [h (i + t) (by omega)]; exact h1, h2⟩
theorem roomS_iff {S T : Nat → Bool} {i r i' r' : Nat} {c : Nat → Nat} (h : ∀ j, j < n → 0 < c j → (nbS near S i r j ↔ nbS near T i' r' j)) : roomS near n S i r c = roomS near n T i' r' c := by
  refine sumTo_congr n fun j hj => ?_
  rcases Nat.eq_zero_or_pos (c j) with h0 | h0
  · rw [h0]; split <;> split <;> rfl
  · by_cases p : nbS near S i r j
    · rw [if_pos p, if_pos ((h j hj h0).1 p)]
    · rw [if_neg p, if_neg fun q => p ((h j hj h0).2 q)]
/-- HALL, ORE: there is a set that lacks just as much as are left over. -/
theorem tight_ex : ∀ (r i : Nat) (c : Nat → Nat), ∃ S, Tight near n S r i c
  | 0, i, c => ⟨fun _ => false, by
    unfold Tight roomS
    rw [sumTo_zero n fun j _ => if_neg fun ⟨t, ht, _⟩ => by omega]
    rfl⟩
  | r + 1, i, c => by
    obtain ⟨S0, h0⟩ := tight_ex r (i + 1) c
    by_cases hmore : mxR near n (r + 1) i c = mxR near n r (i + 1) c
    · have hall : ∀ j, j < n → (near i j = true ∧ 0 < c j) → ∃ S, Tight near n S r (i + 1) c ∧ nbS near S (i + 1) r j := fun j hj hw => by
        obtain ⟨S, hS⟩ := tight_ex r (i + 1) (decC c j)
        have h1 := mxR_take (r := r) (c := c) hj hw.1 hw.2
        have h2 := mxR_le (near := near) (n := n) S r (i + 1) c
        unfold Tight at hS
        by_cases hn : nbS near S (i + 1) r j
        · have h3 := roomS_dec (n := n) hj hn hw.2
          refine ⟨S, ?_, hn⟩
          unfold Tight
          have h4 : roomS near n S (i + 1) r c ≤ roomS near n S (i + 1) r (decC c j) + 1 := by
            unfold roomS
            have : ∀ m, sumTo (fun x => @ite _ (nbS near S (i + 1) r x) (Classical.propDecidable _) (c x) 0) m ≤ sumTo (fun x => @ite _ (nbS near S (i + 1) r x) (Classical.propDecidable _) (decC c j x) 0) m + (if j < m then 1 else 0) := fun m => by
              induction m with
              | zero => simp [sumTo]
              | succ m ih =>
                simp only [sumTo]
                by_cases hx : nbS near S (i + 1) r m
                · rw [if_pos hx, if_pos hx]
                  unfold decC
                  by_cases hm : m = j
                  · subst hm
                    rw [if_pos rfl, if_pos (by omega)]
                    rw [if_neg (by omega)] at ih
                    unfold decC at ih
                    omega
                  · rw [if_neg hm]
                    unfold decC at ih
                    by_cases hlt : j < m
                    · rw [if_pos hlt] at ih; rw [if_pos (by omega)]; omega
                    · rw [if_neg hlt] at ih; rw [if_neg (by omega)]; omega
                · rw [if_neg hx, if_neg hx]
                  by_cases hlt : j < m
                  · rw [if_pos hlt] at ih; rw [if_pos (by omega)]; omega
                  · rw [if_neg hlt] at ih; split <;> omega
            have := this n
            rw [if_pos hj] at this
            exact this
          omega
        · rw [roomS_dec_not hn] at hS
          omega
      obtain ⟨T, hT, hTn⟩ := tight_all h0 n hall
      refine ⟨fun x => if x = i then true else T x, ?_⟩
      unfold Tight at *
      rw [cntS_succ, if_pos (by simp), hmore]
      have e1 : cntS (fun x => if x = i then true else T x) (i + 1) r = cntS T (i + 1) r := cntS_congr fun x hx => if_neg (by omega)
      have e2 : roomS near n (fun x => if x = i then true else T x) i (r + 1) c = roomS near n T (i + 1) r c := roomS_iff fun j hj hc => by
        rw [nbS_succ, nbS_congr (S := fun x => if x = i then true else T x) (T := T) (i := i + 1) fun x hx => if_neg (by omega)]
        constructor
        · rintro (⟨_, h⟩ | h)
          · exact hTn j hj ⟨h, hc⟩
          · exact h
        · exact .inr
      rw [e1, e2]
      omega
    · have h1 := mxR_tail (near := near) (n := n) r i c
      have h2 : mxR near n (r + 1) i c ≤ mxR near n r (i + 1) c + 1 := by
        have h3 := mxR_le (near := near) (n := n) (fun x => if x = i then false else S0 x) (r + 1) i c
        rw [cntS_succ, if_neg (by simp)] at h3
        have e1 : cntS (fun x => if x = i then false else S0 x) (i + 1) r = cntS S0 (i + 1) r := cntS_congr fun x hx => if_neg (by omega)
        have e2 : roomS near n (fun x => if x = i then false else S0 x) i (r + 1) c = roomS near n S0 (i + 1) r c := roomS_iff fun j hj hc => by
          rw [nbS_succ, nbS_congr (S := fun x => if x = i then false else S0 x) (T := S0) (i := i + 1) fun x hx => if_neg (by omega)]
          simp
        rw [e1, e2] at h3
        unfold Tight at h0
        omega
      refine ⟨fun x => if x = i then false else S0 x, ?_⟩
      unfold Tight at *
      rw [cntS_succ, if_neg (by simp)]
      have e1 : cntS (fun x => if x = i then false else S0 x) (i + 1) r = cntS S0 (i + 1) r := cntS_congr fun x hx => if_neg (by omega)
      have e2 : roomS near n (fun x => if x = i then false else S0 x) i (r + 1) c = roomS near n S0 (i + 1) r c := roomS_iff fun j hj hc => by
        rw [nbS_succ, nbS_congr (S := fun x => if x = i then false else S0 x) (T := S0) (i := i + 1) fun x hx => if_neg (by omega)]
        simp
      rw [e1, e2]
      omega
end
end Go.Proofs.Ytpcealcghglopaa

namespace Go.Proofs.Ytpcealcghglopaa

section
variable (near : Nat → Nat → Bool) (n : Nat)
/-- Is a list, from i on, a pairing? -/
def okP : Nat → (Nat → Nat) → List Int → Prop
  | _, _, [] => True
  | i, c, x :: l => (x = -1 ∧ okP (i + 1) c l) ∨ ∃ j : Nat, x = (j : Int) ∧ j < n ∧ near i j = true ∧ 0 < c j ∧ okP (i + 1) (decC c j) l
/-- May one be given this place, so that no fewer have one? -/
def fitP (r i : Nat) (c : Nat → Nat) (j : Nat) : Bool := near i j && decide (0 < c j) && decide (1 + mxR near n r (i + 1) (decC c j) = mxR near n (r + 1) i c)
def bestP : Nat → Nat → (Nat → Nat) → List Int
  | 0, _, _ => []
  | r + 1, i, c => match (List.range n).find? (fitP near n r i c) with
    | some j => (j : Int) :: bestP r (i + 1) (decC c j)
    | none => -1 :: bestP r (i + 1) c
end
/-- How many have one. -/
def pairedL (l : List Int) : Nat := l.countP fun x => x != -1
section
variable {near : Nat → Nat → Bool} {n : Nat}
theorem pairedL_none (l : List Int) : pairedL (-1 :: l) = pairedL l := by simp [pairedL]
theorem pairedL_some (j : Nat) (l : List Int) : pairedL ((j : Int) :: l) = pairedL l + 1 := by
  unfold pairedL
  rw [List.countP_cons, if_pos (by simp)]
/-- BERGE: no pairing has more. -/
theorem okP_le : ∀ (l : List Int) (i : Nat) (c : Nat → Nat), okP near n i c l → pairedL l ≤ mxR near n l.length i c
  | [], _, _, _ => Nat.zero_le _
  | x :: l, i, c, h => by
    rcases h with ⟨rfl, h⟩ | ⟨j, rfl, hj, hn, hc, h⟩
    · rw [pairedL_none]
      exact Nat.le_trans (okP_le l (i + 1) c h) (mxR_tail _ _ _)
    · rw [pairedL_some]
      have h1 := okP_le l (i + 1) (decC c j) h
      have h2 := mxR_take (r := l.length) (c := c) hj hn hc
      show _ ≤ mxR near n (l.length + 1) i c
      omega
theorem fitP_iff {r i j : Nat} {c : Nat → Nat} : fitP near n r i c j = true ↔ near i j = true ∧ 0 < c j ∧ 1 + mxR near n r (i + 1) (decC c j) = mxR near n (r + 1) i c := by
  unfold fitP; simp [and_assoc]
theorem maxTo_at (f : Nat → Nat) (a : Nat) : ∀ n, maxTo f n a = a ∨ ∃ j, j < n ∧ f j = maxTo f n a
  | 0 => .inl rfl
  | n + 1 => by
    simp only [maxTo]
    rcases Nat.le_total (maxTo f n a) (f n) with h | h
    · exact .inr ⟨n, by omega, by rw [Nat.max_eq_right h]⟩
    · rw [Nat.max_eq_left h]
      rcases maxTo_at f a n with h1 | ⟨j, hj, h1⟩
      · exact .inl h1
      · exact .inr ⟨j, by omega, h1⟩
/-- Where none fits, one goes without, and no fewer have a place. -/
theorem none_fits {r i : Nat} {c : Nat → Nat} (h : ∀ j, j < n → fitP near n r i c j = false) : mxR near n (r + 1) i c = mxR near n r (i + 1) c := by
  rcases maxTo_at (fun j => if near i j = true ∧ 0 < c j then 1 + mxR near n r (i + 1) (decC c j) else 0) (mxR near n r (i + 1) c) n with h1 | ⟨j, hj, h1⟩
  · exact h1
  · have h2 : mxR near n (r + 1) i c = maxTo (fun j => if near i j = true ∧ 0 < c j then 1 + mxR near n r (i + 1) (decC c j) else 0) n (mxR near n r (i + 1) c) := rfl
    by_cases hw : near i j = true ∧ 0 < c j
    · rw [if_pos hw] at h1
      have := h j hj
      rw [Bool.eq_false_iff] at this
      exact absurd (fitP_iff.2 ⟨hw.1, hw.2, h1.trans h2.symm⟩) this
    · rw [if_neg hw] at h1
      have h3 := mxR_tail (near := near) (n := n) r i c
      omega
theorem bestP_len : ∀ (r i : Nat) (c : Nat → Nat), (bestP near n r i c).length = r
  | 0, _, _ => rfl
  | r + 1, i, c => by
    simp only [bestP]
    split
    · rw [List.length_cons, bestP_len r]
    · rw [List.length_cons, bestP_len r]
theorem find_some {p : Nat → Bool} {n j : Nat} (h : (List.range n).find? p = some j) : j < n ∧ p j = true ∧ ∀ k, k < j → p k = false := by
  refine ⟨List.mem_range.1 (List.mem_of_find?_eq_some h), List.find?_some h, fun k hk => ?_⟩
  obtain ⟨_, as_, bs, he, hf⟩ := List.find?_eq_some_iff_append.1 h
  have hl : as_.length = j := by
    have h1 : (List.range n)[as_.length]? = some j := by rw [he]; simp
    rw [List.getElem?_range] at h1
    · injection h1
    · have := congrArg List.length he
      simp at this
      omega
  have hk2 : as_[k]? = some k := by
    have h1 : (List.range n)[k]? = some k := List.getElem?_range (by have := congrArg List.length he; simp at this; omega)
    rw [he, List.getElem?_append_left (by omega)] at h1
    exact h1
  have := hf k (List.mem_of_getElem? hk2)
  simpa using this
theorem find_none {p : Nat → Bool} {n : Nat} (h : (List.range n).find? p = none) : ∀ j, j < n → p j = false := fun j hj => by
  have := List.find?_eq_none.1 h j (List.mem_range.2 hj)
  simpa using this
/-- The first of the best is a pairing, and none has more. -/
theorem bestP_ok : ∀ (r i : Nat) (c : Nat → Nat), okP near n i c (bestP near n r i c) ∧ pairedL (bestP near n r i c) = mxR near n r i c
  | 0, _, _ => ⟨trivial, rfl⟩
  | r + 1, i, c => by
    simp only [bestP]
    split
    · rename_i j hj
      obtain ⟨h1, h2, _⟩ := find_some hj
      obtain ⟨h3, h4, h5⟩ := fitP_iff.1 h2
      obtain ⟨h6, h7⟩ := bestP_ok r (i + 1) (decC c j)
      refine ⟨.inr ⟨j, rfl, h1, h3, h4, h6⟩, ?_⟩
      rw [pairedL_some, h7]
      omega
    · rename_i hj
      obtain ⟨h6, h7⟩ := bestP_ok r (i + 1) c
      refine ⟨.inl ⟨rfl, h6⟩, ?_⟩
      rw [pairedL_none, h7, none_fits (find_none hj)]
/-- Of all the best ones it is the first: where another one first differs, it has none, or a greater place. -/
theorem bestP_first : ∀ (r i : Nat) (c : Nat → Nat) (l : List Int), l.length = r → okP near n i c l → pairedL l = mxR near n r i c →
    l = bestP near n r i c ∨ ∃ k : Nat, k < r ∧ l.take k = (bestP near n r i c).take k ∧ ∃ j : Nat, (bestP near n r i c)[k]? = some (j : Int) ∧ (l[k]? = some (-1) ∨ ∃ j' : Nat, l[k]? = some (j' : Int) ∧ j < j')
  | 0, _, _, l, hl, _, _ => .inl (List.length_eq_zero_iff.1 hl)
  | r + 1, i, c, [], hl, _, _ => by simp at hl
  | r + 1, i, c, x :: l, hl, ho, hp => by
    have hl' : l.length = r := by simpa using hl
    have lift : ∀ (y : Int) (m : List Int), (l = m ∨ ∃ k : Nat, k < r ∧ l.take k = m.take k ∧ ∃ j : Nat, m[k]? = some (j : Int) ∧ (l[k]? = some (-1) ∨ ∃ j' : Nat, l[k]? = some (j' : Int) ∧ j < j')) →
        (y :: l = y :: m ∨ ∃ k : Nat, k < r + 1 ∧ (y :: l).take k = (y :: m).take k ∧ ∃ j : Nat, (y :: m)[k]? = some (j : Int) ∧ ((y :: l)[k]? = some (-1) ∨ ∃ j' : Nat, (y :: l)[k]? = some (j' : Int) ∧ j < j')) := by
      rintro y m (rfl | ⟨k, hk, h1, j, h2, h3⟩)
      · exact .inl rfl
      · exact .inr ⟨k + 1, by omega, by simp [h1], j, by simpa using h2, by simpa using h3⟩
    simp only [bestP]
    split
    · rename_i j hj
      obtain ⟨h1, h2, h3⟩ := find_some hj
      rcases ho with ⟨rfl, ho⟩ | ⟨j', rfl, hj', hn, hc, ho⟩
      · exact .inr ⟨0, by omega, rfl, j, rfl, .inl rfl⟩
      · have hfit : fitP near n r i c j' = true := fitP_iff.2 ⟨hn, hc, by
          rw [pairedL_some] at hp
          have h4 := okP_le l (i + 1) (decC c j') ho
          have h5 := mxR_take (r := r) (c := c) hj' hn hc
          rw [hl'] at h4
          omega⟩
        rcases Nat.lt_trichotomy j' j with h | h | h
        · rw [h3 j' h] at hfit; cases hfit
        · subst h
          refine lift _ _ (bestP_first r (i + 1) (decC c j') l hl' ho ?_)
          rw [pairedL_some] at hp
          have := (fitP_iff.1 h2).2.2
          omega
        · exact .inr ⟨0, by omega, rfl, j, rfl, .inr ⟨j', rfl, h⟩⟩
    · rename_i hj
      have hno := find_none hj
      rcases ho with ⟨rfl, ho⟩ | ⟨j', rfl, hj', hn, hc, ho⟩
      · refine lift _ _ (bestP_first r (i + 1) c l hl' ho ?_)
        rw [pairedL_none] at hp
        rw [hp, none_fits hno]
      · exfalso
        have hfit : fitP near n r i c j' = true := fitP_iff.2 ⟨hn, hc, by
          rw [pairedL_some] at hp
          have h4 := okP_le l (i + 1) (decC c j') ho
          have h5 := mxR_take (r := r) (c := c) hj' hn hc
          rw [hl'] at h4
          omega⟩
        rw [hno j' hj'] at hfit
        cases hfit
end
end Go.Proofs.Ytpcealcghglopaa

namespace Go.Proofs.Ytpcealcghglopaa

section
variable {near : Nat → Nat → Bool} {n : Nat}
/-- Do some on the left and some on the right cover? -/
def CoverP (near : Nat → Nat → Bool) (n k : Nat) (L R : Nat → Bool) : Prop := ∀ i j, i < k → j < n → near i j = true → L i = true ∨ R j = true
def sizeP (S : Nat → Bool) (k : Nat) : Nat := sumTo (fun t => if S t = true then 1 else 0) k
theorem sizeP_cnt (S : Nat → Bool) (k : Nat) : cntS S 0 k = sizeP S k := sumTo_congr k fun t _ => by rw [Nat.zero_add]
theorem sizeP_le (S : Nat → Bool) (k : Nat) : sizeP S k ≤ k := by rw [← sizeP_cnt]; exact cntS_le S 0 k
theorem sizeP_succ (S : Nat → Bool) (k : Nat) : sizeP S (k + 1) = sizeP S k + (if S k = true then 1 else 0) := rfl
theorem sizeP_not (S : Nat → Bool) : ∀ k, sizeP (fun t => !S t) k + sizeP S k = k
  | 0 => rfl
  | k + 1 => by
    have ih := sizeP_not S k
    rw [sizeP_succ, sizeP_succ]
    by_cases h : S k = true
    · rw [if_pos h, if_neg (by simp [h])]; omega
    · rw [if_neg h, if_pos (by simpa using h)]; omega
theorem sizeP_congr {S T : Nat → Bool} (k : Nat) (h : ∀ i, i < k → S i = T i) : sizeP S k = sizeP T k := sumTo_congr k fun t ht => by rw [h t ht]
/-- No cover has fewer. -/
theorem cover_ge {k : Nat} {L R : Nat → Bool} (h : CoverP near n k L R) : mxR near n k 0 (fun _ => 1) ≤ sizeP L k + sizeP R n := by
  have h1 := mxR_le (near := near) (n := n) (fun t => !L t) k 0 (fun _ => 1)
  rw [sizeP_cnt] at h1
  have h2 := sizeP_not L k
  have h3 : roomS near n (fun t => !L t) 0 k (fun _ => 1) ≤ sizeP R n := sumTo_le n fun j hj => by
    by_cases hn : nbS near (fun t => !L t) 0 k j
    · rw [if_pos hn]
      obtain ⟨t, ht, h4, h5⟩ := hn
      rw [Nat.zero_add] at h4 h5
      rcases h t j ht hj h5 with h6 | h6
      · simp [h6] at h4
      · rw [if_pos h6]; exact Nat.le_refl _
    · rw [if_neg hn]; exact Nat.zero_le _
  omega
/-- And one has no more. -/
theorem cover_ex (k : Nat) : ∃ L R : Nat → Bool, CoverP near n k L R ∧ sizeP L k + sizeP R n = mxR near n k 0 (fun _ => 1) := by
  obtain ⟨S, hS⟩ := tight_ex (near := near) (n := n) k 0 (fun _ => 1)
  refine ⟨fun t => !S t, fun j => @decide (nbS near S 0 k j) (Classical.propDecidable _), fun i j hi hj hn => ?_, ?_⟩
  · cases hs : S i with
    | false => exact .inl (by simp [hs])
    | true => exact .inr (@decide_eq_true _ (Classical.propDecidable _) ⟨i, hi, by rw [Nat.zero_add]; exact hs, by rw [Nat.zero_add]; exact hn⟩)
  · unfold Tight at hS
    rw [sizeP_cnt] at hS
    have h2 := sizeP_not S k
    have h3 : roomS near n S 0 k (fun _ => 1) = sizeP (fun j => @decide (nbS near S 0 k j) (Classical.propDecidable _)) n := sumTo_congr n fun j _ => by
      by_cases hn : nbS near S 0 k j
      · rw [if_pos hn, if_pos (by simp [hn])]
      · rw [if_neg hn, if_neg (by simp [hn])]
    omega
/-- A set lacks no more than are left over. -/
theorem lack_le (S : Nat → Bool) (k : Nat) (c : Nat → Nat) : (sizeP S k : Int) - (roomS near n S 0 k c : Int) ≤ (k : Int) - (mxR near n k 0 c : Int) := by
  have h1 := mxR_le (near := near) (n := n) S k 0 c
  rw [sizeP_cnt] at h1
  omega
/-- And one lacks just as many. -/
theorem lack_ex (k : Nat) (c : Nat → Nat) : ∃ S : Nat → Bool, (sizeP S k : Int) - (roomS near n S 0 k c : Int) = (k : Int) - (mxR near n k 0 c : Int) := by
  obtain ⟨S, hS⟩ := tight_ex (near := near) (n := n) k 0 c
  unfold Tight at hS
  rw [sizeP_cnt] at hS
  exact ⟨S, by omega⟩
theorem mxR_le_len : ∀ (r i : Nat) (c : Nat → Nat), mxR near n r i c ≤ r
  | 0, _, _ => Nat.le_refl _
  | r + 1, i, c => by
    refine maxTo_le (Nat.le_trans (mxR_le_len r (i + 1) c) (by omega)) n fun j _ => ?_
    split
    · have := mxR_le_len r (i + 1) (decC c j); omega
    · omega
/-- With more room no fewer have a place. -/
theorem mxR_mono : ∀ (r i : Nat) (c d : Nat → Nat), (∀ j, c j ≤ d j) → mxR near n r i c ≤ mxR near n r i d
  | 0, _, _, _, _ => Nat.le_refl _
  | r + 1, i, c, d, h => by
    refine maxTo_le (Nat.le_trans (mxR_mono r (i + 1) c d h) (mxR_tail _ _ _)) n fun j hj => ?_
    split
    · rename_i hw
      have h1 := mxR_mono r (i + 1) (decC c j) (decC d j) fun x => by
        unfold decC
        split
        · have := h x; omega
        · exact h x
      have h2 := mxR_take (near := near) (n := n) (r := r) (c := d) hj hw.1 (Nat.lt_of_lt_of_le hw.2 (h j))
      omega
    · exact Nat.zero_le _
theorem mxR_congr : ∀ (r i : Nat) (c d : Nat → Nat), (∀ j, j < n → c j = d j) → mxR near n r i c = mxR near n r i d
  | 0, _, _, _, _ => rfl
  | r + 1, i, c, d, h => by
    simp only [mxR]
    rw [mxR_congr r (i + 1) c d h]
    refine maxTo_congr n fun j hj => ?_
    rw [h j hj, mxR_congr r (i + 1) (decC c j) (decC d j) fun x hx => by unfold decC; rw [h x hx]]
end
end Go.Proofs.Ytpcealcghglopaa

namespace Go.Proofs.Ytpcealcghglopaa

/-- Is there a way? -/
def Rch (es : List E3) (i j : Nat) : Prop := ∃ k, wk (adjE es) k i j
theorem Rch.refl (es : List E3) (i : Nat) : Rch es i i := ⟨0, rfl⟩
theorem Rch.symm {es : List E3} {i j : Nat} (h : Rch es i j) : Rch es j i := by obtain ⟨k, hk⟩ := h; exact ⟨k, wk_symm (adjE_symm es) hk⟩
theorem Rch.trans {es : List E3} {i j x : Nat} (h : Rch es i x) (h2 : Rch es x j) : Rch es i j := by
  obtain ⟨k, hk⟩ := h
  obtain ⟨l, hl⟩ := h2
  exact ⟨k + l, wk_trans hk hl⟩
theorem Rch.step {es : List E3} {i j x : Nat} (h : Rch es i x) (h2 : adjE es x j = true) : Rch es i j := h.trans ⟨1, wk_one.2 h2⟩

theorem Rch.lt {m : Nat} {es : List E3} (hg : goodE m es) {i j : Nat} (hi : i < m) (h : Rch es i j) : j < m := by obtain ⟨k, hk⟩ := h; exact wk_lt hg hi hk
def Root (es : List E3) (i : Nat) : Prop := ∀ j, j < i → ¬ Rch es i j
theorem rch_add {es : List E3} {a b : Nat} {c : Int} {i : Nat} : ∀ {n j : Nat}, wk (adjE (es ++ [((a : Int), (b : Int), c)])) n i j → Rch es i j ∨ (Rch es i a ∧ Rch es b j) ∨ (Rch es i b ∧ Rch es a j)
  | 0, _, h => by cases h; exact .inl (Rch.refl es i)
  | n + 1, j, ⟨x, hx, hj⟩ => by
    have hadj : adjE es x j = true ∨ (x = a ∧ j = b) ∨ (x = b ∧ j = a) := by
      unfold adjE at hj ⊢
      rw [any_snoc, Bool.or_eq_true] at hj
      rcases hj with h | h
      · exact .inl h
      · right
        simp only [Bool.or_eq_true, Bool.and_eq_true, beq_iff_eq] at h
        omega
    rcases rch_add hx with h | ⟨h1, h2⟩ | ⟨h1, h2⟩
    · rcases hadj with he | ⟨rfl, rfl⟩ | ⟨rfl, rfl⟩
      · exact .inl (h.step he)
      · exact .inr (.inl ⟨h, Rch.refl es _⟩)
      · exact .inr (.inr ⟨h, Rch.refl es _⟩)
    · rcases hadj with he | ⟨rfl, rfl⟩ | ⟨rfl, rfl⟩
      · exact .inr (.inl ⟨h1, h2.step he⟩)
      · exact .inr (.inl ⟨h1, Rch.refl es _⟩)
      · exact .inl h1
    · rcases hadj with he | ⟨rfl, rfl⟩ | ⟨rfl, rfl⟩
      · exact .inr (.inr ⟨h1, h2.step he⟩)
      · exact .inl h1
      · exact .inr (.inr ⟨h1, Rch.refl es _⟩)

open Classical in
noncomputable def rootsN (m : Nat) (es : List E3) : Nat := (List.range m).countP fun i => decide (Root es i)
theorem countP_one {p q : Nat → Bool} (x : Nat) : ∀ l : List Nat, l.Nodup → (∀ i ∈ l, i ≠ x → p i = true → q i = true) → l.countP p ≤ l.countP q + 1
  | [], _, _ => by simp
  | a :: l, hn, h => by
    rw [List.nodup_cons] at hn
    have hall : ∀ (l : List Nat), (∀ i ∈ l, p i = true → q i = true) → l.countP p ≤ l.countP q := fun l hl => List.countP_mono_left hl
    by_cases hax : a = x
    · have h1 := hall l (fun i hi hp => h i (List.mem_cons_of_mem _ hi) (fun e => hn.1 (by rw [hax, ← e]; exact hi)) hp)
      simp only [List.countP_cons]
      split <;> split <;> omega
    · have ih := countP_one x l hn.2 (fun i hi hne hp => h i (List.mem_cons_of_mem _ hi) hne hp)
      have ha := h a (List.mem_cons_self) hax
      simp only [List.countP_cons]
      by_cases hp : p a = true
      · rw [if_pos hp, if_pos (ha hp)]; omega
      · rw [if_neg hp]; split <;> omega
theorem rootsN_add (m : Nat) (es : List E3) (a b : Nat) (c : Int) : rootsN m es ≤ rootsN m (es ++ [((a : Int), (b : Int), c)]) + 1 := by
  unfold rootsN
  -- the two that may be lost: the roots of a and of b; not both
  by_cases hex : ∃ x, Root es x ∧ ¬ Root (es ++ [((a : Int), (b : Int), c)]) x
  · obtain ⟨x, hx, hnx⟩ := hex
    refine countP_one x _ List.nodup_range (fun i _ hne hp => ?_)
    simp only [decide_eq_true_eq] at hp ⊢
    apply Classical.byContradiction
    intro hni
    have key : ∀ y, Root es y → ¬ Root (es ++ [((a : Int), (b : Int), c)]) y → (Rch es y a ∧ ∃ z, z < y ∧ Rch es b z) ∨ (Rch es y b ∧ ∃ z, z < y ∧ Rch es a z) := fun y hy hny => by
      have : ∃ j, j < y ∧ Rch (es ++ [((a : Int), (b : Int), c)]) y j := by
        apply Classical.byContradiction
        intro hno
        exact hny (fun j hj hr => hno ⟨j, hj, hr⟩)
      obtain ⟨j, hj, k, hk⟩ := this
      rcases rch_add hk with h | ⟨h1, h2⟩ | ⟨h1, h2⟩
      · exact absurd h (hy j hj)
      · exact .inl ⟨h1, j, hj, h2⟩
      · exact .inr ⟨h1, j, hj, h2⟩
    have one : ∀ y y', Root es y → Root es y' → Rch es y y' → y = y' := fun y y' hy hy' hr => by
      rcases Nat.lt_trichotomy y y' with h | h | h
      · exact absurd hr.symm (hy' y h)
      · exact h
      · exact absurd hr (hy y' h)
    rcases key x hx hnx with ⟨xa, z, hz, bz⟩ | ⟨xb, z, hz, az⟩
    · rcases key i hp hni with ⟨ia, _⟩ | ⟨ib, z', hz', az'⟩
      · exact hne (one i x hp hx (ia.trans xa.symm))
      · -- i is the root of b, x that of a: i ≤ z < x ≤ z' < i
        have h1 : ¬ z < i := fun hlt => hp z hlt (ib.trans bz)
        have h2 : ¬ z' < x := fun hlt => hx z' hlt (xa.trans az')
        omega
    · rcases key i hp hni with ⟨ia, z', hz', bz'⟩ | ⟨ib, _⟩
      · have h1 : ¬ z < i := fun hlt => hp z hlt (ia.trans az)
        have h2 : ¬ z' < x := fun hlt => hx z' hlt (xb.trans bz')
        omega
      · exact hne (one i x hp hx (ib.trans xb.symm))
  · refine Nat.le_trans (List.countP_mono_left (fun i _ hp => ?_)) (Nat.le_succ _)
    simp only [decide_eq_true_eq] at hp ⊢
    apply Classical.byContradiction
    intro hni
    exact hex ⟨i, hp, hni⟩
theorem rootsN_nil (m : Nat) : rootsN m [] = m := by
  unfold rootsN
  have : ∀ i ∈ List.range m, (@decide (Root [] i) (Classical.propDecidable _)) = true := fun i _ => by
    simp only [decide_eq_true_eq]
    rintro j hj ⟨k, hk⟩
    cases k with
    | zero => cases hk; omega
    | succ k => obtain ⟨x, _, h⟩ := hk; simp [adjE] at h
  rw [List.countP_eq_length.2 this, List.length_range]
theorem rootsN_take {m : Nat} {es : List E3} (hg : goodE m es) : ∀ k, k ≤ es.length → m ≤ rootsN m (es.take k) + k
  | 0, _ => by rw [List.take_zero, rootsN_nil]; omega
  | k + 1, hk => by
    have ih := rootsN_take hg k (by omega)
    have hx : es[k]? = some es[k] := List.getElem?_eq_getElem (by omega)
    obtain ⟨p0, _, p2, _, _, _⟩ := edge_ok (hg k _ hx)
    rw [List.take_succ_eq_append_getElem (by omega)]
    generalize es[k] = e at p0 p2
    obtain ⟨a, b, c⟩ := e
    simp only at p0 p2
    obtain ⟨a, rfl⟩ := Int.eq_ofNat_of_zero_le p0
    obtain ⟨b, rfl⟩ := Int.eq_ofNat_of_zero_le p2
    have := rootsN_add m (es.take k) a b c
    omega
theorem rootsN_ge {m : Nat} {es : List E3} (hg : goodE m es) : m ≤ rootsN m es + es.length := by
  have := rootsN_take hg es.length (Nat.le_refl _)
  rwa [List.take_length] at this

end Go.Proofs.Ytpcealcghglopaa

namespace Go.Proofs.Ytpcealcghglopaa

theorem least_root (F : List E3) (a : Nat) : ∃ r, r ≤ a ∧ Rch F a r ∧ Root F r := by
  obtain ⟨r, h1, h2, h3⟩ := least_of (p := fun r => Rch F a r) a (Rch.refl F a)
  exact ⟨r, h1, h2, fun j hj hr => h3 j hj (h2.trans hr)⟩
noncomputable def minR (F : List E3) (a : Nat) : Nat := (least_root F a).choose
section
variable {F G : List E3} {a b : Nat}
theorem minR_le : minR F a ≤ a := (least_root F a).choose_spec.1
theorem minR_rch : Rch F a (minR F a) := (least_root F a).choose_spec.2.1
theorem minR_root : Root F (minR F a) := (least_root F a).choose_spec.2.2
theorem minR_least (h : Rch F a b) : minR F a ≤ b := by
  rcases Nat.lt_or_ge b (minR F a) with h1 | h1
  · exact absurd (minR_rch.symm.trans h) (minR_root b h1)
  · exact h1
theorem minR_eq : minR F a = minR F b ↔ Rch F a b := by
  constructor
  · intro h
    have h1 : Rch F a (minR F a) := minR_rch
    rw [h] at h1
    exact h1.trans minR_rch.symm
  · intro h
    exact Nat.le_antisymm (minR_least (h.trans minR_rch)) (minR_least (h.symm.trans minR_rch))
theorem root_minR : Root F a ↔ minR F a = a := by
  constructor
  · intro h
    rcases Nat.lt_or_ge (minR F a) a with h1 | h1
    · exact absurd minR_rch (h _ h1)
    · exact Nat.le_antisymm minR_le h1
  · intro h
    have h1 : Root F (minR F a) := minR_root
    rwa [h] at h1
theorem minR_congr (h : ∀ i j, Rch F i j ↔ Rch G i j) : minR F a = minR G a :=
  Nat.le_antisymm (minR_least ((h _ _).2 minR_rch)) (minR_least ((h _ _).1 minR_rch))
end
end Go.Proofs.Ytpcealcghglopaa

namespace Go.Proofs.Ytpcealcghglopaa

noncomputable def partsR (m : Nat) (F : List E3) : List Int := (List.range m).map fun i => (minR F i : Int)
theorem partsR_len (m : Nat) (F : List E3) : (partsR m F).length = m := by simp [partsR]
theorem partsR_get {m : Nat} {F : List E3} {k : Nat} (hk : k < m) : (partsR m F)[k]? = some (minR F k : Int) := by simp [partsR, hk]
theorem partsR_push {m k : Nat} {F : List E3} (hk : k < m) : ((partsR m F).take (k + 1)).map (Value.int .i64) = ((partsR m F).take k).map (Value.int .i64) ++ [.int .i64 (minR F k : Int)] := by
  have h := @partsR_get m F k hk
  obtain ⟨h1, h2⟩ := List.getElem?_eq_some_iff.1 h
  rw [List.take_succ_eq_append_getElem h1, h2, List.map_append]
  rfl
end Go.Proofs.Ytpcealcghglopaa

namespace Go.Proofs.Ytpcealcghglopaa

section
variable {n : Nat} {A B : Nat → Bool}
theorem sizeP_sub : ∀ {n : Nat}, (∀ i, i < n → A i = true → B i = true) → sizeP A n ≤ sizeP B n := fun {n} h => sumTo_le n fun j hj => by
  by_cases ha : A j = true
  · rw [if_pos ha, if_pos (h j hj ha)]; exact Nat.le_refl _
  · rw [if_neg ha]; exact Nat.zero_le _
theorem sizeP_lt (h : ∀ i, A i = true → B i = true) {u : Nat} (hu : u < n) (h1 : A u = false) (h2 : B u = true) : sizeP A n < sizeP B n := by
  refine sumTo_one (i := u) (fun j _ => ?_) ?_ n hu
  · by_cases ha : A j = true
    · rw [if_pos ha, if_pos (h j ha)]; exact Nat.le_refl _
    · rw [if_neg ha]; exact Nat.zero_le _
  · rw [if_neg (by simp [h1]), if_pos h2]; exact Nat.le_refl _
/-- Without one. -/
def delB (A : Nat → Bool) (i : Nat) : Nat → Bool := fun x => A x && !decide (x = i)
theorem delB_iff {i x : Nat} : delB A i x = true ↔ A x = true ∧ x ≠ i := by simp [delB]
theorem sizeP_del {i : Nat} (ha : A i = true) : ∀ {n : Nat}, i < n → sizeP A n = sizeP (delB A i) n + 1
  | n + 1, h => by
    rw [sizeP_succ, sizeP_succ]
    by_cases hin : i = n
    · subst hin
      have e : sizeP (delB A i) i = sizeP A i := sizeP_congr i fun j hj => by simp [delB, show j ≠ i by omega]
      rw [e, if_pos ha, if_neg (by simp [delB])]
    · have ih := sizeP_del ha (show i < n by omega)
      rw [ih]
      have e : delB A i n = A n := by simp [delB, show n ≠ i from fun e => hin e.symm]
      rw [e]; omega
theorem sizeP_pos : ∀ {n : Nat}, 0 < sizeP A n → ∃ i, i < n ∧ A i = true
  | 0, h => absurd h (by simp [sizeP, sumTo])
  | n + 1, h => by
    rw [sizeP_succ] at h
    by_cases ha : A n = true
    · exact ⟨n, by omega, ha⟩
    · rw [if_neg ha] at h
      obtain ⟨i, h1, h2⟩ := sizeP_pos (show 0 < sizeP A n by omega)
      exact ⟨i, by omega, h2⟩
theorem sizeP_none (h : ∀ i, i < n → A i = false) : sizeP A n = 0 := sumTo_zero n fun j hj => if_neg (by simp [h j hj])
theorem sizeP_two {t : Nat} (h : 2 ≤ sizeP A n) : ∃ x, x < n ∧ A x = true ∧ x ≠ t := by
  by_cases ht : t < n ∧ A t = true
  · have := sizeP_del ht.2 ht.1
    obtain ⟨x, h1, h2⟩ := sizeP_pos (show 0 < sizeP (delB A t) n by omega)
    obtain ⟨h3, h4⟩ := delB_iff.1 h2
    exact ⟨x, h1, h3, h4⟩
  · obtain ⟨x, h1, h2⟩ := sizeP_pos (show 0 < sizeP A n by omega)
    exact ⟨x, h1, h2, fun e => ht (by subst e; exact ⟨h1, h2⟩)⟩
theorem sizeP_part (A B : Nat → Bool) : ∀ n, sizeP A n = sizeP (fun i => A i && B i) n + sizeP (fun i => A i && !B i) n
  | 0 => rfl
  | n + 1 => by
    rw [sizeP_succ, sizeP_succ, sizeP_succ, sizeP_part A B n]
    cases ha : A n <;> cases hb : B n <;> simp <;> omega
/-- An injection. -/
theorem sizeP_inj : ∀ (c : Nat) {A B : Nat → Bool} {m : Nat → Nat}, sizeP A n = c → (∀ i, i < n → A i = true → m i < n ∧ B (m i) = true) → (∀ i j, i < n → j < n → A i = true → A j = true → m i = m j → i = j) → sizeP A n ≤ sizeP B n
  | 0, A, B, m, hc, _, _ => by rw [hc]; exact Nat.zero_le _
  | c + 1, A, B, m, hc, h1, h2 => by
    obtain ⟨i, hi, ha⟩ := sizeP_pos (show 0 < sizeP A n by omega)
    obtain ⟨g1, g2⟩ := h1 i hi ha
    have e1 := sizeP_del ha hi
    have e2 := sizeP_del g2 g1
    have := sizeP_inj c (A := delB A i) (B := delB B (m i)) (m := m) (by omega) (fun j hj hA => by
      obtain ⟨k1, k2⟩ := delB_iff.1 hA
      obtain ⟨k3, k4⟩ := h1 j hj k1
      exact ⟨k3, delB_iff.2 ⟨k4, fun e => k2 (h2 j i hj hi k1 ha e)⟩⟩) fun a b ha' hb' hA hB e => h2 a b ha' hb' (delB_iff.1 hA).1 (delB_iff.1 hB).1 e
    omega
/-- A set whose members are in pairs is even. -/
theorem even_pairs : ∀ (c : Nat) {A : Nat → Bool} {m : Nat → Nat}, sizeP A n ≤ c → (∀ i, i < n → A i = true → m i < n ∧ A (m i) = true ∧ m (m i) = i ∧ m i ≠ i) → sizeP A n % 2 = 0
  | 0, A, m, hc, _ => by rw [show sizeP A n = 0 by omega]
  | c + 1, A, m, hc, h => by
    rcases Nat.eq_zero_or_pos (sizeP A n) with h0 | h0
    · rw [h0]
    · obtain ⟨i, hi, ha⟩ := sizeP_pos h0
      obtain ⟨g1, g2, g3, g4⟩ := h i hi ha
      have e1 := sizeP_del ha hi
      have e2 := sizeP_del (A := delB A i) (delB_iff.2 ⟨g2, g4⟩) g1
      have := even_pairs c (A := delB (delB A i) (m i)) (m := m) (by omega) fun j hj hA => by
        obtain ⟨k1, k2⟩ := delB_iff.1 hA
        obtain ⟨k3, k4⟩ := delB_iff.1 k1
        obtain ⟨q1, q2, q3, q4⟩ := h j hj k3
        refine ⟨q1, delB_iff.2 ⟨delB_iff.2 ⟨q2, fun e => k2 (by rw [← q3, e])⟩, fun e => k4 (by rw [← q3, e, g3])⟩, q3, q4⟩
      omega
theorem sumTo_ind (v : Nat) : ∀ N, sumTo (fun i => if v = i then 1 else 0) N = if v < N then 1 else 0
  | 0 => rfl
  | N + 1 => by
    simp only [sumTo]
    rw [sumTo_ind v N]
    by_cases h1 : v < N
    · rw [if_pos h1, if_neg (by omega), if_pos (by omega)]
    · by_cases h2 : v = N
      · rw [if_neg h1, if_pos h2, if_pos (by omega)]
      · rw [if_neg h1, if_neg h2, if_neg (by omega)]
/-- A set by its parts. -/
theorem sizeP_parts {N : Nat} {lab : Nat → Nat} : ∀ k, (∀ j, j < k → A j = true → lab j < N) → sumTo (fun i => sizeP (fun j => A j && decide (lab j = i)) k) N = sizeP A k
  | 0, _ => sumTo_zero N fun _ _ => rfl
  | k + 1, h => by
    have ih := sizeP_parts k fun j hj => h j (by omega)
    have e : sumTo (fun i => sizeP (fun j => A j && decide (lab j = i)) (k + 1)) N = sumTo (fun i => sizeP (fun j => A j && decide (lab j = i)) k + (if (A k && decide (lab k = i)) = true then 1 else 0)) N := sumTo_congr N fun i _ => sizeP_succ _ k
    rw [e, sumTo_add, ih, sizeP_succ]
    congr 1
    by_cases hA : A k = true
    · rw [if_pos hA]
      have e2 : sumTo (fun i => if (A k && decide (lab k = i)) = true then 1 else 0) N = sumTo (fun i => if lab k = i then 1 else 0) N := sumTo_congr N fun i _ => by simp [hA]
      rw [e2, sumTo_ind, if_pos (h k (by omega) hA)]
    · rw [if_neg hA]
      exact sumTo_zero N fun i _ => if_neg (by simp [hA])
end

/-- Whom each node of a set is bound to: itself, if to nobody. -/
structure Mat (adj : Nat → Nat → Bool) (n : Nat) (S : Nat → Bool) (m : Nat → Nat) : Prop where
  in_ : ∀ i, i < n → S i = true → m i < n ∧ S (m i) = true
  inv : ∀ i, i < n → S i = true → m (m i) = i
  adj_ : ∀ i, i < n → S i = true → m i ≠ i → adj i (m i) = true
/-- Who is left over. -/
def fixB (S : Nat → Bool) (m : Nat → Nat) : Nat → Bool := fun i => S i && decide (m i = i)
theorem fixB_iff {S : Nat → Bool} {m : Nat → Nat} {i : Nat} : fixB S m i = true ↔ S i = true ∧ m i = i := by simp [fixB]
/-- Linked within a set by so many steps. -/
def lnkS (adj : Nat → Nat → Bool) (n : Nat) (S : Nat → Bool) : Nat → Nat → Nat → Prop
  | 0, u, v => u = v
  | k + 1, u, v => ∃ t, t < n ∧ S t = true ∧ lnkS adj n S k u t ∧ adj t v = true
/-- Names of the parts within a set. -/
structure LabOK (adj : Nat → Nat → Bool) (n : Nat) (T : Nat → Bool) (lab : Nat → Nat) : Prop where
  lt : ∀ a, a < n → T a = true → lab a < n
  near : ∀ a b, a < n → b < n → T a = true → T b = true → adj a b = true → lab a = lab b
  far : ∀ a b, a < n → b < n → T a = true → T b = true → lab a = lab b → ∃ k, lnkS adj n T k a b
/-- How many parts are odd. -/
def oddS (n : Nat) (lab : Nat → Nat) (T : Nat → Bool) : Nat := sumTo (fun i => sizeP (fun j => T j && decide (lab j = i)) n % 2) n
section
variable {adj : Nat → Nat → Bool} {n : Nat} {S : Nat → Bool} {m : Nat → Nat}
theorem Mat.par (H : Mat adj n S m) : sizeP S n % 2 = sizeP (fixB S m) n % 2 := by
  have h1 := sizeP_part S (fun i => decide (m i = i)) n
  have h2 : sizeP (fun i => S i && !decide (m i = i)) n % 2 = 0 := even_pairs _ (m := m) (Nat.le_refl _) fun i hi hA => by
    simp only [Bool.and_eq_true, Bool.not_eq_true', decide_eq_false_iff_not] at hA ⊢
    obtain ⟨g1, g2⟩ := H.in_ i hi hA.1
    have g3 := H.inv i hi hA.1
    exact ⟨g1, ⟨g2, fun e => hA.2 (by rw [g3] at e; exact e.symm)⟩, g3, hA.2⟩
  have e : sizeP (fun i => S i && decide (m i = i)) n = sizeP (fixB S m) n := rfl
  omega
/-- BERGE: behind no wall more parts are odd than are left over, and than the wall has. -/
theorem berge_le {T : Nat → Bool} {lab : Nat → Nat} (H : Mat adj n (fun _ => true) m) (hlt : ∀ a, a < n → T a = true → lab a < n) (hnear : ∀ a b, a < n → b < n → T a = true → T b = true → adj a b = true → lab a = lab b) :
    oddS n lab T + sizeP T n ≤ n + sizeP (fixB (fun _ => true) m) n := by
  have hbad : oddS n lab T ≤ sumTo (fun i => sizeP (fun j => (T j && (decide (m j = j) || !T (m j))) && decide (lab j = i)) n) n := sumTo_le n fun i _ => by
    rcases Nat.eq_zero_or_pos (sizeP (fun j => (T j && (decide (m j = j) || !T (m j))) && decide (lab j = i)) n) with h0 | h0
    · rw [h0]
      have hno : ∀ j, j < n → T j = true → lab j = i → m j ≠ j ∧ T (m j) = true := fun j hj h1 h2 => by
        have hz : (T j && (decide (m j = j) || !T (m j)) && decide (lab j = i)) = false := by
          cases hb : (T j && (decide (m j = j) || !T (m j)) && decide (lab j = i)) with
          | false => rfl
          | true =>
            have := sizeP_del (A := fun j => (T j && (decide (m j = j) || !T (m j))) && decide (lab j = i)) hb hj
            omega
        rw [h1, decide_eq_true h2] at hz
        simp at hz
        exact ⟨hz.1, hz.2⟩
      rw [even_pairs _ (m := m) (Nat.le_refl _) fun j hj hA => ?_]
      · exact Nat.le_refl _
      · simp only [Bool.and_eq_true, decide_eq_true_eq] at hA ⊢
        obtain ⟨g1, g2⟩ := hno j hj hA.1 hA.2
        obtain ⟨g3, _⟩ := H.in_ j hj rfl
        have g4 := hnear j (m j) hj g3 hA.1 g2 (H.adj_ j hj rfl g1)
        exact ⟨g3, ⟨g2, by rw [← g4]; exact hA.2⟩, H.inv j hj rfl, g1⟩
    · have := Nat.mod_lt (sizeP (fun j => T j && decide (lab j = i)) n) (show 0 < 2 by omega)
      omega
  rw [sizeP_parts (A := fun j => T j && (decide (m j = j) || !T (m j))) n (fun j hj hA => hlt j hj (by simp only [Bool.and_eq_true] at hA; exact hA.1))] at hbad
  have h1 := sizeP_part (fun j => T j && (decide (m j = j) || !T (m j))) (fun j => decide (m j = j)) n
  have h2 : sizeP (fun i => (T i && (decide (m i = i) || !T (m i))) && decide (m i = i)) n ≤ sizeP (fixB (fun _ => true) m) n := sizeP_sub fun i _ h => by
    simp only [Bool.and_eq_true] at h
    exact fixB_iff.2 ⟨rfl, by simpa using h.2⟩
  have h3 : sizeP (fun i => (T i && (decide (m i = i) || !T (m i))) && !decide (m i = i)) n ≤ sizeP (fun i => !T i) n := sizeP_inj _ (m := m) rfl (fun i hi h => by
    simp only [Bool.and_eq_true, Bool.or_eq_true, decide_eq_true_eq, Bool.not_eq_true', decide_eq_false_iff_not] at h ⊢
    exact ⟨(H.in_ i hi rfl).1, h.1.2.resolve_left h.2⟩) fun i j hi hj _ _ e => by rw [← H.inv i hi rfl, ← H.inv j hj rfl, e]
  have h4 := sizeP_not T n
  omega
/-- One with the least left over. -/
def Least (adj : Nat → Nat → Bool) (n : Nat) (S : Nat → Bool) (m : Nat → Nat) : Prop := Mat adj n S m ∧ ∀ m', Mat adj n S m' → sizeP (fixB S m) n ≤ sizeP (fixB S m') n
theorem mat_id : Mat adj n S id := ⟨fun _i hi h => ⟨hi, h⟩, fun _ _ _ => rfl, fun _i _ _ h => absurd rfl h⟩
theorem least_ex : ∃ m, Least adj n S m := by
  have : ∀ c m, Mat adj n S m → sizeP (fixB S m) n ≤ c → ∃ m, Least adj n S m := fun c => by
    induction c with
    | zero => exact fun m hm h0 => ⟨m, hm, fun m' _ => by omega⟩
    | succ c ih =>
      intro m hm hc
      by_cases h : ∃ m', Mat adj n S m' ∧ sizeP (fixB S m') n ≤ c
      · obtain ⟨m', h1, h2⟩ := h
        exact ih m' h1 h2
      · exact ⟨m, hm, fun m' h1 => by
          have : ¬ sizeP (fixB S m') n ≤ c := fun h2 => h ⟨m', h1, h2⟩
          omega⟩
  exact this _ id mat_id (Nat.le_refl _)
/-- Among those that leave t over, one that agrees with m the most. -/
theorem agree_ex {t : Nat} (h : ∃ N, Least adj n S N ∧ N t = t) : ∃ N, Least adj n S N ∧ N t = t ∧ ∀ N', Least adj n S N' → N' t = t → sizeP (fun i => S i && decide (m i = N' i)) n ≤ sizeP (fun i => S i && decide (m i = N i)) n := by
  have : ∀ c N, Least adj n S N → N t = t → n ≤ sizeP (fun i => S i && decide (m i = N i)) n + c → ∃ N, Least adj n S N ∧ N t = t ∧ ∀ N', Least adj n S N' → N' t = t → sizeP (fun i => S i && decide (m i = N' i)) n ≤ sizeP (fun i => S i && decide (m i = N i)) n := fun c => by
    induction c with
    | zero => exact fun N h1 h2 h3 => ⟨N, h1, h2, fun N' _ _ => by have := sizeP_le (fun i => S i && decide (m i = N' i)) n; omega⟩
    | succ c ih =>
      intro N h1 h2 h3
      by_cases hb : ∃ N', Least adj n S N' ∧ N' t = t ∧ sizeP (fun i => S i && decide (m i = N i)) n < sizeP (fun i => S i && decide (m i = N' i)) n
      · obtain ⟨N', g1, g2, g3⟩ := hb
        exact ih N' g1 g2 (by omega)
      · exact ⟨N, h1, h2, fun N' g1 g2 => by
          have : ¬ sizeP (fun i => S i && decide (m i = N i)) n < sizeP (fun i => S i && decide (m i = N' i)) n := fun g3 => hb ⟨N', g1, g2, g3⟩
          omega⟩
  obtain ⟨N, h1, h2⟩ := h
  exact this n N h1 h2 (by omega)
variable (hsym : ∀ a b, adj a b = adj b a)
include hsym
/-- Two that have an edge are not both left over. -/
theorem no_aug (H : Least adj n S m) {u v : Nat} (hu : u < n) (hv : v < n) (hSu : S u = true) (hSv : S v = true) (huv : u ≠ v) (ha : adj u v = true) : ¬ (m u = u ∧ m v = v) := by
  rintro ⟨h1, h2⟩
  have hne : ∀ i, i < n → S i = true → i ≠ u → i ≠ v → m i ≠ u ∧ m i ≠ v := fun i hi hSi hiu hiv => by
    have := H.1.inv i hi hSi
    exact ⟨fun e => hiu (by rw [← this, e, h1]), fun e => hiv (by rw [← this, e, h2])⟩
  have hM : Mat adj n S (fun i => if i = u then v else if i = v then u else m i) := by
    refine ⟨fun i hi hSi => ?_, fun i hi hSi => ?_, fun i hi hSi hi2 => ?_⟩
    · by_cases e1 : i = u
      · simp only [if_pos e1]; exact ⟨hv, hSv⟩
      · by_cases e2 : i = v
        · simp only [if_neg e1, if_pos e2]; exact ⟨hu, hSu⟩
        · simp only [if_neg e1, if_neg e2]; exact H.1.in_ i hi hSi
    · by_cases e1 : i = u
      · simp only [if_pos e1, if_neg (Ne.symm huv), if_true]; exact e1.symm
      · by_cases e2 : i = v
        · simp only [if_neg e1, if_pos e2, if_true]; exact e2.symm
        · obtain ⟨g1, g2⟩ := hne i hi hSi e1 e2
          simp only [if_neg e1, if_neg e2, if_neg g1, if_neg g2]; exact H.1.inv i hi hSi
    · by_cases e1 : i = u
      · simp only [if_pos e1]; rw [e1]; exact ha
      · by_cases e2 : i = v
        · simp only [if_neg e1, if_pos e2]; rw [e2, hsym]; exact ha
        · simp only [if_neg e1, if_neg e2] at hi2 ⊢; exact H.1.adj_ i hi hSi hi2
  have := H.2 _ hM
  have hlt : sizeP (fixB S (fun i => if i = u then v else if i = v then u else m i)) n < sizeP (fixB S m) n := sizeP_lt (u := u) (fun i hi => by
    obtain ⟨g1, g2⟩ := fixB_iff.1 hi
    refine fixB_iff.2 ⟨g1, ?_⟩
    by_cases e1 : i = u
    · rw [e1]; exact h1
    · by_cases e2 : i = v
      · rw [e2]; exact h2
      · simp only [if_neg e1, if_neg e2] at g2; exact g2) hu (by
      cases hb : fixB S (fun i => if i = u then v else if i = v then u else m i) u with
      | false => rfl
      | true =>
        have := (fixB_iff.1 hb).2
        simp only [if_true] at this
        exact absurd this.symm huv) (fixB_iff.2 ⟨hSu, h1⟩)
  omega
/-- GALLAI: where each one is left over by some best one, no two that are linked are left over by the same. -/
theorem gallai (hall : ∀ t, t < n → S t = true → ∃ N, Least adj n S N ∧ N t = t) : ∀ (k u v : Nat) (M : Nat → Nat), u < n → v < n → S u = true → S v = true → lnkS adj n S k u v → u ≠ v → Least adj n S M → ¬ (M u = u ∧ M v = v)
  | 0, u, v, M, _, _, _, _, hl, huv, _ => absurd hl huv
  | k + 1, u, v, M, hu, hv, hSu, hSv, ⟨t, ht, hSt, hl, hta⟩, huv, HM => by
    rintro ⟨hMu, hMv⟩
    by_cases htu : t = u
    · subst htu
      exact no_aug hsym HM hu hv hSu hSv huv hta ⟨hMu, hMv⟩
    by_cases htv : t = v
    · subst htv
      exact gallai hall k u t M hu hv hSu hSv hl huv HM ⟨hMu, hMv⟩
    have hMt : M t ≠ t := fun e => no_aug hsym HM ht hv hSt hSv htv hta ⟨e, hMv⟩
    obtain ⟨N, HN, hNt, hmax⟩ := agree_ex (m := M) (hall t ht hSt)
    have hNu : N u ≠ u := fun e => gallai hall k u t N hu ht hSu hSt hl (Ne.symm htu) HN ⟨e, hNt⟩
    have hNv : N v ≠ v := fun e => no_aug hsym HN ht hv hSt hSv htv hta ⟨hNt, e⟩
    -- two at least are left over by M and not by N, so two by N and not by M
    have hfe : sizeP (fixB S M) n = sizeP (fixB S N) n := Nat.le_antisymm (HM.2 N HN.1) (HN.2 M HM.1)
    have p1 := sizeP_part (fixB S M) (fixB S N) n
    have p2 := sizeP_part (fixB S N) (fixB S M) n
    have p3 : sizeP (fun i => fixB S M i && fixB S N i) n = sizeP (fun i => fixB S N i && fixB S M i) n := sizeP_congr n fun i _ => Bool.and_comm _ _
    have hb : ∀ x, S x = true → M x = x → N x ≠ x → (fixB S M x && !fixB S N x) = true := fun x h1 h2 h3 => by
      rw [fixB_iff.2 ⟨h1, h2⟩]
      cases hx : fixB S N x with
      | false => rfl
      | true => exact absurd (fixB_iff.1 hx).2 h3
    have e1 := sizeP_del (A := fun i => fixB S M i && !fixB S N i) (hb u hSu hMu hNu) hu
    have e2 := sizeP_del (A := delB (fun i => fixB S M i && !fixB S N i) u) (delB_iff.2 ⟨hb v hSv hMv hNv, Ne.symm huv⟩) hv
    obtain ⟨x, hx, hxb, hxt⟩ := sizeP_two (t := t) (show 2 ≤ sizeP (fun i => fixB S N i && !fixB S M i) n by omega)
    simp only [Bool.and_eq_true, Bool.not_eq_true'] at hxb
    obtain ⟨hSx, hNx⟩ := fixB_iff.1 hxb.1
    have hMx : M x ≠ x := fun e => by
      have := fixB_iff.2 ⟨hSx, e⟩
      rw [hxb.2] at this; cases this
    obtain ⟨hy, hSy⟩ := HM.1.in_ x hx hSx
    have hMy : M (M x) = x := HM.1.inv x hx hSx
    have hxy : adj x (M x) = true := HM.1.adj_ x hx hSx hMx
    generalize hye : M x = y at hMx hy hSy hMy hxy
    have hyx : y ≠ x := hMx
    have hNy : N y ≠ y := fun e => no_aug hsym HN hx hy hSx hSy (Ne.symm hyx) hxy ⟨hNx, e⟩
    obtain ⟨hz, hSz⟩ := HN.1.in_ y hy hSy
    have hNz : N (N y) = y := HN.1.inv y hy hSy
    generalize hze : N y = z at hNy hz hSz hNz
    have hzx : z ≠ x := fun e => by rw [e, hNx] at hNz; exact hyx hNz.symm
    have hty : t ≠ y := fun e => by rw [← e, hNt] at hze; exact hNy (by rw [← hze, e])
    have htz : t ≠ z := fun e => by rw [← e, hNt] at hNz; exact hty hNz
    -- the other one
    have hne : ∀ i, i < n → S i = true → i ≠ x → i ≠ y → i ≠ z → N i ≠ x ∧ N i ≠ y ∧ N i ≠ z := fun i hi hSi a1 a2 a3 => by
      have h := HN.1.inv i hi hSi
      refine ⟨fun e => a1 ?_, fun e => a3 ?_, fun e => a2 ?_⟩
      · rw [← h, e, hNx]
      · rw [← h, e, hze]
      · rw [← h, e, hNz]
    have hM2 : Mat adj n S (fun i => if i = x then y else if i = y then x else if i = z then z else N i) := by
      refine ⟨fun i hi hSi => ?_, fun i hi hSi => ?_, fun i hi hSi hi2 => ?_⟩
      · by_cases a1 : i = x
        · simp only [if_pos a1]; exact ⟨hy, hSy⟩
        · by_cases a2 : i = y
          · simp only [if_neg a1, if_pos a2]; exact ⟨hx, hSx⟩
          · by_cases a3 : i = z
            · simp only [if_neg a1, if_neg a2, if_pos a3]; exact ⟨hz, hSz⟩
            · simp only [if_neg a1, if_neg a2, if_neg a3]; exact HN.1.in_ i hi hSi
      · by_cases a1 : i = x
        · simp only [if_pos a1, if_neg hyx, if_true]; exact a1.symm
        · by_cases a2 : i = y
          · simp only [if_neg a1, if_pos a2, if_true]; exact a2.symm
          · by_cases a3 : i = z
            · simp only [if_neg a1, if_neg a2, if_pos a3, if_neg hzx, if_neg hNy, if_true]; exact a3.symm
            · obtain ⟨b1, b2, b3⟩ := hne i hi hSi a1 a2 a3
              simp only [if_neg a1, if_neg a2, if_neg a3, if_neg b1, if_neg b2, if_neg b3]; exact HN.1.inv i hi hSi
      · by_cases a1 : i = x
        · simp only [if_pos a1]; rw [a1]; exact hxy
        · by_cases a2 : i = y
          · simp only [if_neg a1, if_pos a2]; rw [a2, hsym]; exact hxy
          · by_cases a3 : i = z
            · simp only [if_neg a1, if_neg a2, if_pos a3] at hi2; exact absurd a3.symm hi2
            · simp only [if_neg a1, if_neg a2, if_neg a3] at hi2 ⊢; exact HN.1.adj_ i hi hSi hi2
    have hfix : sizeP (fixB S (fun i => if i = x then y else if i = y then x else if i = z then z else N i)) n ≤ sizeP (fixB S N) n := by
      have q1 := sizeP_del (A := fixB S N) (fixB_iff.2 ⟨hSx, hNx⟩) hx
      have q2 := sizeP_del (A := fixB S (fun i => if i = x then y else if i = y then x else if i = z then z else N i)) (i := z) (fixB_iff.2 ⟨hSz, by simp only [if_neg hzx, if_neg hNy, if_true]⟩) hz
      have q3 : sizeP (delB (fixB S (fun i => if i = x then y else if i = y then x else if i = z then z else N i)) z) n ≤ sizeP (delB (fixB S N) x) n := sizeP_sub fun i _ hi => by
        obtain ⟨c1, c2⟩ := delB_iff.1 hi
        obtain ⟨c3, c4⟩ := fixB_iff.1 c1
        by_cases a1 : i = x
        · simp only [if_pos a1] at c4; exact absurd (c4.trans a1) hyx
        · by_cases a2 : i = y
          · simp only [if_neg a1, if_pos a2] at c4; exact absurd c4.symm a1
          · simp only [if_neg a1, if_neg a2, if_neg c2] at c4
            exact delB_iff.2 ⟨fixB_iff.2 ⟨c3, c4⟩, a1⟩
      omega
    have hL2 : Least adj n S (fun i => if i = x then y else if i = y then x else if i = z then z else N i) := ⟨hM2, fun m' hm' => Nat.le_trans hfix (HN.2 m' hm')⟩
    have hag := hmax _ hL2 (by simp only [if_neg (Ne.symm hxt), if_neg hty, if_neg htz]; exact hNt)
    have hlt : sizeP (fun i => S i && decide (M i = N i)) n < sizeP (fun i => S i && decide (M i = (fun i => if i = x then y else if i = y then x else if i = z then z else N i) i)) n := sizeP_lt (u := x) (fun i hi => by
      simp only [Bool.and_eq_true, decide_eq_true_eq] at hi ⊢
      refine ⟨hi.1, ?_⟩
      have a1 : i ≠ x := fun e => by rw [e, hye, hNx] at hi; exact hyx hi.2
      have a2 : i ≠ y := fun e => by rw [e, hMy, hze] at hi; exact hzx hi.2.symm
      have a3 : i ≠ z := fun e => by
        rw [e, hNz] at hi
        have : M (M z) = M y := by rw [hi.2]
        rw [HM.1.inv z hz hSz, hMy] at this
        exact hzx this
      rw [if_neg a1, if_neg a2, if_neg a3]; exact hi.2) hx (by
        cases hb : (S x && decide (M x = N x)) with
        | false => rfl
        | true =>
          simp only [Bool.and_eq_true, decide_eq_true_eq] at hb
          rw [hye, hNx] at hb
          exact absurd hb.2 hyx) (by simp only [if_true, Bool.and_eq_true, decide_eq_true_eq]; exact ⟨hSx, hye⟩)
    exact Nat.not_le_of_lt hlt hag
/-- TUTTE, BERGE: behind some wall (T: what is not of it) as many parts are odd as are left over by a best one, and as the wall has. -/
theorem tutte_ex : ∀ (c : Nat) (S : Nat → Bool), sizeP S n = c → ∃ (T : Nat → Bool) (m : Nat → Nat), (∀ i, T i = true → S i = true) ∧ Mat adj n S m ∧ ∀ lab, LabOK adj n T lab → sizeP (fixB S m) n + sizeP S n ≤ oddS n lab T + sizeP T n
  | c, S, hc => by
    by_cases hall : ∀ t, t < n → S t = true → ∃ N, Least adj n S N ∧ N t = t
    · obtain ⟨m, hm⟩ := least_ex (adj := adj) (n := n) (S := S)
      refine ⟨S, m, fun i h => h, hm.1, fun lab hL => ?_⟩
      have hparts := sizeP_parts (A := fixB S m) (N := n) (lab := lab) n fun j hj h => hL.lt j hj (fixB_iff.1 h).1
      have : sumTo (fun i => sizeP (fun j => fixB S m j && decide (lab j = i)) n) n ≤ oddS n lab S := sumTo_le n fun i _ => by
        -- one at most is left over in each part
        have h1 : sizeP (fun j => fixB S m j && decide (lab j = i)) n ≤ 1 := by
          apply Nat.le_of_not_lt
          intro h2
          obtain ⟨x, hx, hxb⟩ := sizeP_pos (show 0 < sizeP (fun j => fixB S m j && decide (lab j = i)) n by omega)
          obtain ⟨y, hy, hyb, hyx⟩ := sizeP_two (t := x) (show 2 ≤ sizeP (fun j => fixB S m j && decide (lab j = i)) n by omega)
          simp only [Bool.and_eq_true, decide_eq_true_eq] at hxb hyb
          obtain ⟨a1, a2⟩ := fixB_iff.1 hxb.1
          obtain ⟨b1, b2⟩ := fixB_iff.1 hyb.1
          obtain ⟨k, hk⟩ := hL.far x y hx hy a1 b1 (by rw [hxb.2, hyb.2])
          exact gallai hsym hall k x y m hx hy a1 b1 hk (Ne.symm hyx) hm ⟨a2, b2⟩
        have h2 := sizeP_part (fun j => S j && decide (lab j = i)) (fun j => decide (m j = j)) n
        have h3 : sizeP (fun j => (S j && decide (lab j = i)) && !decide (m j = j)) n % 2 = 0 := even_pairs _ (m := m) (Nat.le_refl _) fun j hj hA => by
          simp only [Bool.and_eq_true, Bool.not_eq_true', decide_eq_true_eq, decide_eq_false_iff_not] at hA ⊢
          obtain ⟨g1, g2⟩ := hm.1.in_ j hj hA.1.1
          have g3 := hm.1.inv j hj hA.1.1
          have g4 := hL.near j (m j) hj g1 hA.1.1 g2 (hm.1.adj_ j hj hA.1.1 hA.2)
          exact ⟨g1, ⟨⟨g2, by rw [← g4]; exact hA.1.2⟩, fun e => hA.2 (by rw [g3] at e; exact e.symm)⟩, g3, hA.2⟩
        have h4 : sizeP (fun j => (S j && decide (lab j = i)) && decide (m j = j)) n = sizeP (fun j => fixB S m j && decide (lab j = i)) n := sizeP_congr n fun j _ => by
          unfold fixB
          cases S j <;> cases decide (lab j = i) <;> cases decide (m j = j) <;> rfl
        omega
      omega
    · obtain ⟨v, hv, hSv, hno⟩ : ∃ v, v < n ∧ S v = true ∧ ¬ ∃ N, Least adj n S N ∧ N v = v := by
        apply Classical.byContradiction
        intro h
        exact hall fun t ht hSt => Classical.byContradiction fun h2 => h ⟨t, ht, hSt, h2⟩
      have hd := sizeP_del hSv hv
      obtain ⟨T, m', h1, h2, h3⟩ := tutte_ex (c - 1) (delB S v) (by omega)
      obtain ⟨m, hm⟩ := least_ex (adj := adj) (n := n) (S := S)
      refine ⟨T, m, fun i hi => (delB_iff.1 (h1 i hi)).1, hm.1, fun lab hL => ?_⟩
      have h4 := h3 lab hL
      -- the other one, with v left over
      have hnv : ∀ i, i < n → delB S v i = true → m' i ≠ v := fun i hi hS e => by
        have := (h2.in_ i hi hS).2
        rw [e] at this
        exact (delB_iff.1 this).2 rfl
      have hM : Mat adj n S (fun i => if i = v then v else m' i) := by
        have hS : ∀ i, S i = true → i ≠ v → delB S v i = true := fun i h1 h2 => delB_iff.2 ⟨h1, h2⟩
        refine ⟨fun i hi hSi => ?_, fun i hi hSi => ?_, fun i hi hSi hi2 => ?_⟩
        · by_cases e : i = v
          · simp only [if_pos e]; exact ⟨hv, hSv⟩
          · simp only [if_neg e]
            obtain ⟨g1, g2⟩ := h2.in_ i hi (hS i hSi e)
            exact ⟨g1, (delB_iff.1 g2).1⟩
        · by_cases e : i = v
          · simp only [if_pos e, if_true]; exact e.symm
          · simp only [if_neg e, if_neg (hnv i hi (hS i hSi e))]; exact h2.inv i hi (hS i hSi e)
        · by_cases e : i = v
          · simp only [if_pos e] at hi2; exact absurd e.symm hi2
          · simp only [if_neg e] at hi2 ⊢; exact h2.adj_ i hi (hS i hSi e) hi2
      have hf : sizeP (fixB S (fun i => if i = v then v else m' i)) n = sizeP (fixB (delB S v) m') n + 1 := by
        rw [sizeP_del (i := v) (A := fixB S (fun i => if i = v then v else m' i)) (fixB_iff.2 ⟨hSv, if_pos rfl⟩) hv]
        congr 1
        refine sizeP_congr n fun i _ => ?_
        unfold delB fixB
        by_cases e : i = v
        · simp [e]
        · simp [e]
      have p1 := hm.1.par
      have p2 := h2.par
      have hge : sizeP (fixB S m) n < sizeP (fixB (delB S v) m') n + 1 := by
        apply Nat.lt_of_not_le
        intro hle
        exact hno ⟨_, ⟨hM, fun m'' hm'' => by rw [hf]; exact Nat.le_trans hle (hm.2 m'' hm'')⟩, if_pos rfl⟩
      omega
  termination_by c S _hc => c
  decreasing_by
    have := sizeP_del hSv hv
    omega
end
end Go.Proofs.Ytpcealcghglopaa

namespace Go.Proofs.Ytpcealcghglopaa

abbrev BS := Nat → Bool
def subB (n : Nat) (S T : BS) : Prop := ∀ i, i < n → S i = true → T i = true
def insB (S : BS) (x : Nat) : BS := fun i => S i || decide (i = x)
theorem insB_iff {S : BS} {x i : Nat} : insB S x i = true ↔ S i = true ∨ i = x := by simp [insB]
def capB (S T : BS) : BS := fun i => S i && T i
def cupB (S T : BS) : BS := fun i => S i || T i
def difB (S T : BS) : BS := fun i => S i && !T i
section
variable {n : Nat} {S T : BS}
theorem sizeP_ins {x : Nat} (hx : x < n) (h : S x = false) : sizeP (insB S x) n = sizeP S n + 1 := by
  rw [sizeP_del (A := insB S x) (i := x) (insB_iff.2 (.inr rfl)) hx]
  congr 1
  refine sizeP_congr n fun i _ => ?_
  rw [Bool.eq_iff_iff, delB_iff, insB_iff]
  constructor
  · rintro ⟨h1 | h1, h2⟩
    · exact h1
    · exact absurd h1 h2
  · intro h1
    exact ⟨.inl h1, fun e => by rw [e, h] at h1; cases h1⟩
theorem size_cup_cap (S T : BS) : ∀ n, sizeP (cupB S T) n + sizeP (capB S T) n = sizeP S n + sizeP T n
  | 0 => rfl
  | n + 1 => by
    have ih := size_cup_cap S T n
    rw [sizeP_succ, sizeP_succ, sizeP_succ, sizeP_succ]
    have e1 : cupB S T n = (S n || T n) := rfl
    have e2 : capB S T n = (S n && T n) := rfl
    rw [e1, e2]
    cases S n <;> cases T n <;> simp <;> omega
theorem sub_eq (h : subB n S T) (hs : sizeP T n ≤ sizeP S n) : ∀ i, i < n → S i = T i := fun i hi => by
  cases hS : S i with
  | true => exact (h i hi hS).symm
  | false =>
    cases hT : T i with
    | false => rfl
    | true =>
      exfalso
      have h1 := sizeP_del hT hi
      have h2 : sizeP S n ≤ sizeP (delB T i) n := sizeP_sub fun x hx hx2 => delB_iff.2 ⟨h x hx hx2, fun e => by rw [e, hS] at hx2; cases hx2⟩
      omega
end
/-- What may be free. -/
structure Mtd (n : Nat) (F : BS → Prop) : Prop where
  none_ : F fun _ => false
  sub : ∀ S T, F S → subB n T S → F T
  swap : ∀ S T, F S → F T → sizeP S n < sizeP T n → ∃ i, i < n ∧ T i = true ∧ S i = false ∧ F (insB S i)
section
variable {n : Nat} {F : BS → Prop} (M : Mtd n F)
include M
/-- Anything free can be made as large as can be. -/
theorem Mtd.grow {X J : BS} (hJ : F J) (hJX : subB n J X) : ∃ I, F I ∧ subB n I X ∧ subB n J I ∧ ∀ K, F K → subB n K X → sizeP K n ≤ sizeP I n := by
  have : ∀ c J, F J → subB n J X → n ≤ sizeP J n + c → ∃ I, F I ∧ subB n I X ∧ subB n J I ∧ ∀ K, F K → subB n K X → sizeP K n ≤ sizeP I n := fun c => by
    induction c with
    | zero => exact fun J h1 h2 h3 => ⟨J, h1, h2, fun _ _ h => h, fun K _ _ => by have := sizeP_le K n; omega⟩
    | succ c ih =>
      intro J h1 h2 h3
      by_cases hK : ∃ K, F K ∧ subB n K X ∧ sizeP J n < sizeP K n
      · obtain ⟨K, k1, k2, k3⟩ := hK
        obtain ⟨i, hi, g1, g2, g3⟩ := M.swap J K h1 k1 k3
        have hsz := sizeP_ins hi g2
        obtain ⟨I, q1, q2, q3, q4⟩ := ih (insB J i) g3 (fun x hx hh => by
          rcases insB_iff.1 hh with h | h
          · exact h2 x hx h
          · rw [h]; exact k2 i hi g1) (by omega)
        exact ⟨I, q1, q2, fun x hx h => q3 x hx (insB_iff.2 (.inl h)), q4⟩
      · exact ⟨J, h1, h2, fun _ _ h => h, fun K k1 k2 => by
          have : ¬ sizeP J n < sizeP K n := fun h => hK ⟨K, k1, k2, h⟩
          omega⟩
  exact this n J hJ hJX (by omega)
theorem Mtd.base (X : BS) : ∃ I, F I ∧ subB n I X ∧ ∀ K, F K → subB n K X → sizeP K n ≤ sizeP I n := by
  obtain ⟨I, h1, h2, _, h4⟩ := M.grow (X := X) M.none_ fun i _ h => by cases h
  exact ⟨I, h1, h2, h4⟩
end
/-- How many of some are free at the most, as a number of its own. -/
structure RkF (n : Nat) (r : BS → Nat) : Prop where
  zero : r (fun _ => false) = 0
  mono : ∀ S T, subB n S T → r S ≤ r T
  one : ∀ S x, r (insB S x) ≤ r S + 1
  subm : ∀ S T, r (cupB S T) + r (capB S T) ≤ r S + r T
theorem RkF.congr {n : Nat} {r : BS → Nat} (H : RkF n r) {S T : BS} (h : ∀ i, i < n → S i = T i) : r S = r T :=
  Nat.le_antisymm (H.mono S T fun i hi hS => by rw [← h i hi]; exact hS) (H.mono T S fun i hi hT => by rw [h i hi]; exact hT)
/-- WHITNEY: the rank of what may be free. -/
theorem rank_ex {n : Nat} {F : BS → Prop} (M : Mtd n F) : ∃ r : BS → Nat, RkF n r ∧ (∀ X, ∃ I, F I ∧ subB n I X ∧ sizeP I n = r X) ∧ ∀ X K, F K → subB n K X → sizeP K n ≤ r X := by
  have hb : ∀ X, ∃ c, (∃ I, F I ∧ subB n I X ∧ sizeP I n = c) ∧ ∀ K, F K → subB n K X → sizeP K n ≤ c := fun X => by
    obtain ⟨I, h1, h2, h3⟩ := M.base X
    exact ⟨sizeP I n, ⟨I, h1, h2, rfl⟩, h3⟩
  obtain ⟨r, hr⟩ := Classical.axiomOfChoice hb
  refine ⟨r, ⟨?_, fun S T h => ?_, fun S x => ?_, fun S T => ?_⟩, fun X => (hr X).1, fun X => (hr X).2⟩
  · obtain ⟨I, _, h2, h3⟩ := (hr fun _ => false).1
    rw [← h3]
    exact sizeP_none fun i hi => by
      cases hI : I i with
      | false => rfl
      | true => exact absurd (h2 i hi hI) (by simp)
  · obtain ⟨I, h1, h2, h3⟩ := (hr S).1
    rw [← h3]
    exact (hr T).2 I h1 fun i hi hI => h i hi (h2 i hi hI)
  · obtain ⟨I, h1, h2, h3⟩ := (hr (insB S x)).1
    rw [← h3]
    have h4 := (hr S).2 (delB I x) (M.sub I _ h1 fun i _ h => (delB_iff.1 h).1) fun i hi h => by
      obtain ⟨a, b⟩ := delB_iff.1 h
      exact (insB_iff.1 (h2 i hi a)).resolve_right b
    by_cases hx : x < n ∧ I x = true
    · have := sizeP_del hx.2 hx.1
      omega
    · have : sizeP I n = sizeP (delB I x) n := sizeP_congr n fun i hi => by
        rw [Bool.eq_iff_iff, delB_iff]
        exact ⟨fun h => ⟨h, fun e => hx (by subst e; exact ⟨hi, h⟩)⟩, fun h => h.1⟩
      omega
  · obtain ⟨I, h1, h2, h3⟩ := (hr (capB S T)).1
    obtain ⟨J, j1, j2, j3, j4⟩ := M.grow (X := cupB S T) h1 fun i hi h => by
      have := h2 i hi h
      simp only [capB, Bool.and_eq_true] at this
      simp [cupB, this.1]
    obtain ⟨B, b1, b2, b3⟩ := (hr (cupB S T)).1
    have h5 := j4 B b1 b2
    have h6 := (hr S).2 (capB J S) (M.sub J _ j1 fun i _ h => by simp only [capB, Bool.and_eq_true] at h; exact h.1) fun i _ h => by simp only [capB, Bool.and_eq_true] at h; exact h.2
    have h7 := (hr T).2 (capB J T) (M.sub J _ j1 fun i _ h => by simp only [capB, Bool.and_eq_true] at h; exact h.1) fun i _ h => by simp only [capB, Bool.and_eq_true] at h; exact h.2
    have h8 := size_cup_cap (capB J S) (capB J T) n
    have h9 : sizeP J n ≤ sizeP (cupB (capB J S) (capB J T)) n := sizeP_sub fun i hi h => by
      have := j2 i hi h
      simp only [cupB, capB, Bool.or_eq_true, Bool.and_eq_true] at this ⊢
      exact this.imp (fun t => ⟨h, t⟩) fun t => ⟨h, t⟩
    have h10 : sizeP I n ≤ sizeP (capB (capB J S) (capB J T)) n := sizeP_sub fun i hi h => by
      have a := h2 i hi h
      simp only [capB, Bool.and_eq_true] at a ⊢
      exact ⟨⟨j3 i hi h, a.1⟩, j3 i hi h, a.2⟩
    omega
/-- With one thing always taken. -/
theorem RkF.with_ {n : Nat} {r : BS → Nat} (H : RkF n r) {e : Nat} (he : r (insB (fun _ => false) e) = 1) : RkF n fun X => r (insB X e) - 1 := by
  have hge : ∀ X, 1 ≤ r (insB X e) := fun X => by
    rw [← he]
    exact H.mono _ _ fun i _ h => insB_iff.2 (.inr ((insB_iff.1 h).resolve_left (by simp)))
  refine ⟨by show r (insB (fun _ => false) e) - 1 = 0; omega, fun S T h => ?_, fun S x => ?_, fun S T => ?_⟩
  · have := H.mono (insB S e) (insB T e) fun i hi hh => insB_iff.2 ((insB_iff.1 hh).imp (h i hi) id)
    omega
  · have h1 := H.one (insB S e) x
    have h2 : r (insB (insB S x) e) = r (insB (insB S e) x) := H.congr fun i _ => by
      simp only [insB]
      cases S i <;> cases decide (i = x) <;> cases decide (i = e) <;> rfl
    show r (insB (insB S x) e) - 1 ≤ r (insB S e) - 1 + 1
    omega
  · have h1 := H.subm (insB S e) (insB T e)
    have h2 : r (cupB (insB S e) (insB T e)) = r (insB (cupB S T) e) := H.congr fun i _ => by
      simp only [cupB, insB]
      cases S i <;> cases T i <;> cases decide (i = e) <;> rfl
    have h3 : r (capB (insB S e) (insB T e)) = r (insB (capB S T) e) := H.congr fun i _ => by
      simp only [capB, insB]
      cases S i <;> cases T i <;> cases decide (i = e) <;> rfl
    have := hge (cupB S T)
    have := hge (capB S T)
    have := hge S
    have := hge T
    show r (insB (cupB S T) e) - 1 + (r (insB (capB S T) e) - 1) ≤ r (insB S e) - 1 + (r (insB T e) - 1)
    omega
/-- EDMONDS: as many are free by two at once as the least of what is free of some by the one, and of the others by the other one. -/
theorem edmonds {n : Nat} : ∀ (m : Nat) (E : BS) (r1 r2 : BS → Nat) (k : Nat), sizeP E n = m → RkF n r1 → RkF n r2 → (∀ S, subB n S E → k ≤ r1 S + r2 (difB E S)) → ∃ I, subB n I E ∧ sizeP I n = k ∧ r1 I = k ∧ r2 I = k
  | m, E, r1, r2, k, hm, H1, H2, hk => by
    rcases Nat.eq_zero_or_pos k with h0 | h0
    · subst h0
      exact ⟨fun _ => false, (fun i _ h => by cases h), sizeP_none fun _ _ => rfl, H1.zero, H2.zero⟩
    · -- one thing that is something by both
      obtain ⟨e, hen, heE, he1, he2⟩ : ∃ e, e < n ∧ E e = true ∧ r1 (insB (fun _ => false) e) = 1 ∧ r2 (insB (fun _ => false) e) = 1 := by
        apply Classical.byContradiction
        intro hno
        have hone : ∀ (r : BS → Nat), RkF n r → ∀ e, r (insB (fun _ => false) e) = 0 ∨ r (insB (fun _ => false) e) = 1 := fun r H e => by
          have := H.one (fun _ => false) e
          rw [H.zero] at this
          omega
        -- those that are nothing together are nothing
        have hnil : ∀ (r : BS → Nat), RkF n r → ∀ X : BS, (∀ i, i < n → X i = true → r (insB (fun _ => false) i) = 0) → r X = 0 := fun r H X hX => by
          have : ∀ c, ∀ Y : BS, sizeP Y n ≤ c → subB n Y X → r Y = 0 := fun c => by
            induction c with
            | zero =>
              intro Y hc _
              have : r Y = r (fun _ => false) := H.congr fun i hi => by
                cases hY : Y i with
                | false => rfl
                | true => have := sizeP_del hY hi; omega
              rw [this, H.zero]
            | succ c ih =>
              intro Y hc hYX
              rcases Nat.eq_zero_or_pos (sizeP Y n) with h1 | h1
              · exact ih Y (by omega) hYX
              · obtain ⟨i, hi, hYi⟩ := sizeP_pos h1
                have hdel := sizeP_del hYi hi
                have h2 := ih (delB Y i) (by omega) fun x hx h => hYX x hx (delB_iff.1 h).1
                have h3 := H.subm (delB Y i) (insB (fun _ => false) i)
                have h4 : r (cupB (delB Y i) (insB (fun _ => false) i)) = r Y := H.congr fun x _ => by
                  rw [Bool.eq_iff_iff]
                  simp only [cupB, Bool.or_eq_true, delB_iff, insB_iff]
                  constructor
                  · rintro (h | h | h)
                    · exact h.1
                    · cases h
                    · rw [h]; exact hYi
                  · intro h
                    by_cases e : x = i
                    · exact .inr (.inr e)
                    · exact .inl ⟨h, e⟩
                have h5 := hX i hi (hYX i hi hYi)
                omega
          exact this _ X (Nat.le_refl _) fun _ _ h => h
        have hS := hk (fun i => E i && decide (r1 (insB (fun _ => false) i) = 0)) fun i _ h => by simp only [Bool.and_eq_true] at h; exact h.1
        have z1 := hnil r1 H1 (fun i => E i && decide (r1 (insB (fun _ => false) i) = 0)) fun i _ h => by simp only [Bool.and_eq_true, decide_eq_true_eq] at h; exact h.2
        have z2 := hnil r2 H2 (difB E fun i => E i && decide (r1 (insB (fun _ => false) i) = 0)) fun i hi h => by
          simp only [difB, Bool.and_eq_true, Bool.not_eq_true', Bool.and_eq_false_iff, decide_eq_false_iff_not] at h
          obtain ⟨h1, h2⟩ := h
          rcases hone r2 H2 i with h3 | h3
          · exact h3
          · exfalso
            rcases h2 with h2 | h2
            · rw [h1] at h2; cases h2
            · exact hno ⟨i, hi, h1, (hone r1 H1 i).resolve_left h2, h3⟩
        omega
      have hdel := sizeP_del heE hen
      by_cases hA : ∀ S, subB n S (delB E e) → k ≤ r1 S + r2 (difB (delB E e) S)
      · -- without it
        obtain ⟨I, h1, h2⟩ := edmonds (m - 1) (delB E e) r1 r2 k (by omega) H1 H2 hA
        exact ⟨I, fun i hi h => (delB_iff.1 (h1 i hi h)).1, h2⟩
      · obtain ⟨A, hAE, hAk⟩ : ∃ A, subB n A (delB E e) ∧ r1 A + r2 (difB (delB E e) A) < k := by
          apply Classical.byContradiction
          intro hno
          exact hA fun S hS => Nat.le_of_not_lt fun h => hno ⟨S, hS, h⟩
        have hge : ∀ (r : BS → Nat), RkF n r → r (insB (fun _ => false) e) = 1 → ∀ X, 1 ≤ r (insB X e) := fun r H he X => by
          rw [← he]
          exact H.mono _ _ fun i _ h => insB_iff.2 (.inr ((insB_iff.1 h).resolve_left (by simp)))
        by_cases hB : ∀ S, subB n S (delB E e) → k - 1 ≤ (r1 (insB S e) - 1) + (r2 (insB (difB (delB E e) S) e) - 1)
        · -- with it
          obtain ⟨I, h1, h2, h3, h4⟩ := edmonds (m - 1) (delB E e) (fun X => r1 (insB X e) - 1) (fun X => r2 (insB X e) - 1) (k - 1) (by omega) (H1.with_ he1) (H2.with_ he2) hB
          have hIe : I e = false := by
            cases hI : I e with
            | false => rfl
            | true => exact absurd rfl (delB_iff.1 (h1 e hen hI)).2
          have g1 := hge r1 H1 he1 I
          have g2 := hge r2 H2 he2 I
          refine ⟨insB I e, fun i hi h => ?_, by rw [sizeP_ins hen hIe]; omega, by omega, by omega⟩
          rcases insB_iff.1 h with h | h
          · exact (delB_iff.1 (h1 i hi h)).1
          · rw [h]; exact heE
        · exfalso
          obtain ⟨B, hBE, hBk⟩ : ∃ B, subB n B (delB E e) ∧ (r1 (insB B e) - 1) + (r2 (insB (difB (delB E e) B) e) - 1) < k - 1 := by
            apply Classical.byContradiction
            intro hno
            exact hB fun S hS => Nat.le_of_not_lt fun h => hno ⟨S, hS, h⟩
          have g1 := hge r1 H1 he1 B
          have g2 := hge r2 H2 he2 (difB (delB E e) B)
          have s1 := H1.subm A (insB B e)
          have s2 := H2.subm (difB (delB E e) A) (insB (difB (delB E e) B) e)
          have hAe : ∀ i, i < n → A i = true → i ≠ e ∧ E i = true := fun i hi h => ⟨(delB_iff.1 (hAE i hi h)).2, (delB_iff.1 (hAE i hi h)).1⟩
          have hBe : ∀ i, i < n → B i = true → i ≠ e ∧ E i = true := fun i hi h => ⟨(delB_iff.1 (hBE i hi h)).2, (delB_iff.1 (hBE i hi h)).1⟩
          have q1 := hk (cupB A (insB B e)) fun i hi h => by
            simp only [cupB, Bool.or_eq_true] at h
            rcases h with h | h
            · exact (hAe i hi h).2
            · rcases insB_iff.1 h with h | h
              · exact (hBe i hi h).2
              · rw [h]; exact heE
          have q2 := hk (capB A (insB B e)) fun i hi h => by
            simp only [capB, Bool.and_eq_true] at h
            exact (hAe i hi h.1).2
          have t1 : r2 (difB E (cupB A (insB B e))) = r2 (capB (difB (delB E e) A) (insB (difB (delB E e) B) e)) := H2.congr fun i hi => by
            simp only [difB, cupB, capB, insB, delB]
            by_cases he : i = e
            · simp [he]
            · simp [he]
              cases E i <;> cases A i <;> cases B i <;> rfl
          have t2 : r2 (difB E (capB A (insB B e))) = r2 (cupB (difB (delB E e) A) (insB (difB (delB E e) B) e)) := H2.congr fun i hi => by
            simp only [difB, cupB, capB, insB, delB]
            by_cases he : i = e
            · have hA0 : A e = false := by
                cases hh : A e with
                | false => rfl
                | true => exact absurd rfl (hAe e hen hh).1
              simp [he, heE, hA0]
            · simp [he]
              cases E i <;> cases A i <;> cases B i <;> rfl
          omega
  termination_by m => m
  decreasing_by all_goals omega
end Go.Proofs.Ytpcealcghglopaa

namespace Go.Proofs.Ytpcealcghglopaa

/-- Who knows the thing of i, behind the first t calls (a call of one with himself is none). -/
def Kn (a b : Nat → Nat) : Nat → Nat → Nat → Prop
  | 0, i, j => i = j
  | t + 1, i, j => Kn a b t i j ∨ ((j = a t ∨ j = b t) ∧ (Kn a b t i (a t) ∨ Kn a b t i (b t)))
/-- Whose things as they are ahead of the last d calls come to x. -/
def Bk (a b : Nat → Nat) (K x : Nat) : Nat → Nat → Prop
  | 0, j => j = x
  | d + 1, j => Bk a b K x d j ∨ ((j = a (K - 1 - d) ∨ j = b (K - 1 - d)) ∧ (Bk a b K x d (a (K - 1 - d)) ∨ Bk a b K x d (b (K - 1 - d))))
/-- People, and calls among them. -/
structure Phone (n : Nat) (S : BS) (a b : Nat → Nat) (K : Nat) : Prop where
  lt : ∀ i, S i = true → i < n
  in_ : ∀ t, t < K → a t ≠ b t → S (a t) = true ∧ S (b t) = true
  all : ∀ i j, S i = true → S j = true → Kn a b K i j
def realB (a b : Nat → Nat) : BS := fun t => decide (a t ≠ b t)
section
variable {n K : Nat} {S : BS} {a b : Nat → Nat}
theorem kn_more {t i j : Nat} (h : Kn a b t i j) : Kn a b (t + 1) i j := .inl h
theorem kn_in (H : Phone n S a b K) {i : Nat} (hi : S i = true) : ∀ {t j : Nat}, t ≤ K → Kn a b t i j → S j = true
  | 0, j, _, h => by cases h; exact hi
  | t + 1, j, ht, h => by
    rcases h with h | ⟨h1, h2⟩
    · exact kn_in H hi (by omega) h
    · by_cases e : a t = b t
      · rcases h2 with h2 | h2
        · have h3 := kn_in H hi (by omega) h2
          rcases h1 with h1 | h1
          · rw [h1]; exact h3
          · rw [h1, ← e]; exact h3
        · have h3 := kn_in H hi (by omega) h2
          rcases h1 with h1 | h1
          · rw [h1, e]; exact h3
          · rw [h1]; exact h3
      · obtain ⟨g1, g2⟩ := H.in_ t (by omega) e
        rcases h1 with h1 | h1
        · rw [h1]; exact g1
        · rw [h1]; exact g2
open Classical in
noncomputable def knB (a b : Nat → Nat) (t x : Nat) : BS := fun j => decide (Kn a b t x j)
theorem knB_iff {t x j : Nat} : knB a b t x j = true ↔ Kn a b t x j := by simp [knB]
/-- The calls by which the thing of x comes to one more. -/
noncomputable def outB (a b : Nat → Nat) (x : Nat) : BS := fun t => knB a b t x (a t) != knB a b t x (b t)
theorem out_size {x : Nat} : ∀ K, sizeP (knB a b K x) n ≤ 1 + sizeP (outB a b x) K
  | 0 => by
    have h1 : sizeP (knB a b 0 x) n ≤ 1 := by
      rcases Nat.lt_or_ge x n with h | h
      · have e := sizeP_del (A := knB a b 0 x) (i := x) (knB_iff.2 rfl) h
        have : sizeP (delB (knB a b 0 x) x) n = 0 := sizeP_none fun i _ => by
          cases hh : delB (knB a b 0 x) x i with
          | false => rfl
          | true =>
            obtain ⟨h2, h3⟩ := delB_iff.1 hh
            exact absurd (knB_iff.1 h2).symm h3
        omega
      · have : sizeP (knB a b 0 x) n = 0 := sizeP_none fun i hi => by
          cases hh : knB a b 0 x i with
          | false => rfl
          | true => have h2 : x = i := knB_iff.1 hh; omega
        omega
    omega
  | t + 1 => by
    have ih := out_size (x := x) t
    rw [sizeP_succ]
    by_cases ho : outB a b x t = true
    · rw [if_pos ho]
      -- one more at the most
      have hex : ∃ c, ∀ j, knB a b (t + 1) x j = true → knB a b t x j = true ∨ j = c := by
        unfold outB at ho
        cases hA : knB a b t x (a t) with
        | true =>
          refine ⟨b t, fun j hj => ?_⟩
          rcases knB_iff.1 hj with h | ⟨h1 | h1, _⟩
          · exact .inl (knB_iff.2 h)
          · exact .inl (by rw [h1]; exact hA)
          · exact .inr h1
        | false =>
          rw [hA] at ho
          have hB : knB a b t x (b t) = true := by simpa using ho
          refine ⟨a t, fun j hj => ?_⟩
          rcases knB_iff.1 hj with h | ⟨h1 | h1, _⟩
          · exact .inl (knB_iff.2 h)
          · exact .inr h1
          · exact .inl (by rw [h1]; exact hB)
      obtain ⟨c, hc⟩ := hex
      have h1 : sizeP (knB a b (t + 1) x) n ≤ sizeP (insB (knB a b t x) c) n := sizeP_sub fun j _ hj => insB_iff.2 (hc j hj)
      have h2 : sizeP (insB (knB a b t x) c) n ≤ sizeP (knB a b t x) n + 1 := by
        by_cases hcn : c < n ∧ knB a b t x c = false
        · rw [sizeP_ins hcn.1 hcn.2]; exact Nat.le_refl _
        · refine Nat.le_trans (sizeP_sub fun j hj h => ?_) (Nat.le_succ _)
          rcases insB_iff.1 h with h | h
          · exact h
          · cases hk : knB a b t x j with
            | true => rfl
            | false => exact absurd ⟨by omega, by rw [← h]; exact hk⟩ hcn
      omega
    · rw [if_neg ho]
      have h1 : sizeP (knB a b (t + 1) x) n ≤ sizeP (knB a b t x) n := sizeP_sub fun j _ hj => by
        rcases knB_iff.1 hj with h | ⟨h1, h2⟩
        · exact knB_iff.2 h
        · unfold outB at ho
          have he : knB a b t x (a t) = knB a b t x (b t) := by simpa using ho
          have hA : knB a b t x (a t) = true := by
            rcases h2 with h2 | h2
            · exact knB_iff.2 h2
            · rw [he]; exact knB_iff.2 h2
          rcases h1 with h1 | h1
          · rw [h1]; exact hA
          · rw [h1, ← he]; exact hA
      omega
open Classical in
noncomputable def bkB (a b : Nat → Nat) (K x d : Nat) : BS := fun j => decide (Bk a b K x d j)
theorem bkB_iff {x d j : Nat} : bkB a b K x d j = true ↔ Bk a b K x d j := by simp [bkB]
/-- The calls by which one more's thing comes to x. -/
noncomputable def inB (a b : Nat → Nat) (K x : Nat) : BS := fun t => bkB a b K x (K - 1 - t) (a t) != bkB a b K x (K - 1 - t) (b t)
theorem in_size {x : Nat} : ∀ d, d ≤ K → sizeP (bkB a b K x d) n ≤ 1 + sizeP (fun e => inB a b K x (K - 1 - e)) d
  | 0, _ => by
    have h1 : sizeP (bkB a b K x 0) n ≤ 1 := by
      rcases Nat.lt_or_ge x n with h | h
      · have e := sizeP_del (A := bkB a b K x 0) (i := x) (bkB_iff.2 rfl) h
        have : sizeP (delB (bkB a b K x 0) x) n = 0 := sizeP_none fun i _ => by
          cases hh : delB (bkB a b K x 0) x i with
          | false => rfl
          | true =>
            obtain ⟨h2, h3⟩ := delB_iff.1 hh
            exact absurd (bkB_iff.1 h2) h3
        omega
      · have : sizeP (bkB a b K x 0) n = 0 := sizeP_none fun i hi => by
          cases hh : bkB a b K x 0 i with
          | false => rfl
          | true => have h2 : i = x := bkB_iff.1 hh; omega
        omega
    omega
  | d + 1, hd => by
    have ih := in_size (x := x) d (by omega)
    rw [sizeP_succ]
    have hK : K - 1 - (K - 1 - d) = d := by omega
    by_cases ho : inB a b K x (K - 1 - d) = true
    · rw [if_pos ho]
      have hex : ∃ c, ∀ j, bkB a b K x (d + 1) j = true → bkB a b K x d j = true ∨ j = c := by
        unfold inB at ho
        rw [hK] at ho
        cases hA : bkB a b K x d (a (K - 1 - d)) with
        | true =>
          refine ⟨b (K - 1 - d), fun j hj => ?_⟩
          rcases bkB_iff.1 hj with h | ⟨h1 | h1, _⟩
          · exact .inl (bkB_iff.2 h)
          · exact .inl (by rw [h1]; exact hA)
          · exact .inr h1
        | false =>
          rw [hA] at ho
          have hB : bkB a b K x d (b (K - 1 - d)) = true := by simpa using ho
          refine ⟨a (K - 1 - d), fun j hj => ?_⟩
          rcases bkB_iff.1 hj with h | ⟨h1 | h1, _⟩
          · exact .inl (bkB_iff.2 h)
          · exact .inr h1
          · exact .inl (by rw [h1]; exact hB)
      obtain ⟨c, hc⟩ := hex
      have h1 : sizeP (bkB a b K x (d + 1)) n ≤ sizeP (insB (bkB a b K x d) c) n := sizeP_sub fun j _ hj => insB_iff.2 (hc j hj)
      have h2 : sizeP (insB (bkB a b K x d) c) n ≤ sizeP (bkB a b K x d) n + 1 := by
        by_cases hcn : c < n ∧ bkB a b K x d c = false
        · rw [sizeP_ins hcn.1 hcn.2]; exact Nat.le_refl _
        · refine Nat.le_trans (sizeP_sub fun j hj h => ?_) (Nat.le_succ _)
          rcases insB_iff.1 h with h | h
          · exact h
          · cases hk : bkB a b K x d j with
            | true => rfl
            | false => exact absurd ⟨by omega, by rw [← h]; exact hk⟩ hcn
      omega
    · rw [if_neg ho]
      have h1 : sizeP (bkB a b K x (d + 1)) n ≤ sizeP (bkB a b K x d) n := sizeP_sub fun j _ hj => by
        rcases bkB_iff.1 hj with h | ⟨h1, h2⟩
        · exact bkB_iff.2 h
        · unfold inB at ho
          rw [hK] at ho
          have he : bkB a b K x d (a (K - 1 - d)) = bkB a b K x d (b (K - 1 - d)) := by simpa using ho
          have hA : bkB a b K x d (a (K - 1 - d)) = true := by
            rcases h2 with h2 | h2
            · exact bkB_iff.2 h2
            · rw [he]; exact bkB_iff.2 h2
          rcases h1 with h1 | h1
          · rw [h1]; exact hA
          · rw [h1, ← he]; exact hA
      omega
theorem kn_bk {i x : Nat} (h : Kn a b K i x) : ∀ d, d ≤ K → ∃ j, Kn a b (K - d) i j ∧ Bk a b K x d j
  | 0, _ => ⟨x, h, rfl⟩
  | d + 1, hd => by
    obtain ⟨j, h1, h2⟩ := kn_bk h d (by omega)
    have e : K - d = (K - 1 - d) + 1 := by omega
    rw [e] at h1
    rw [show K - (d + 1) = K - 1 - d by omega]
    rcases h1 with h1 | ⟨h3, h4⟩
    · exact ⟨j, h1, .inl h2⟩
    · have hb : Bk a b K x d (a (K - 1 - d)) ∨ Bk a b K x d (b (K - 1 - d)) := by
        rcases h3 with h3 | h3
        · exact .inl (h3 ▸ h2)
        · exact .inr (h3 ▸ h2)
      rcases h4 with h4 | h4
      · exact ⟨_, h4, .inr ⟨.inl rfl, hb⟩⟩
      · exact ⟨_, h4, .inr ⟨.inr rfl, hb⟩⟩
/-- The other way round, a count is the same. -/
theorem sizeP_rev (A : BS) : ∀ K, sizeP (fun e => A (K - 1 - e)) K = sizeP A K := fun K => by
  apply Nat.le_antisymm
  · exact sizeP_inj _ (m := fun e => K - 1 - e) rfl (fun e he h => ⟨by omega, h⟩) fun e f he hf _ _ h => by
      have h : K - 1 - e = K - 1 - f := h
      omega
  · exact sizeP_inj _ (m := fun e => K - 1 - e) rfl (fun e he h => ⟨by omega, by
      show A (K - 1 - (K - 1 - e)) = true
      rw [show K - 1 - (K - 1 - e) = e by omega]; exact h⟩) fun e f he hf _ _ h => by
      have h : K - 1 - e = K - 1 - f := h
      omega
/-- One hears his own thing. -/
def Hears (a b : Nat → Nat) (K x : Nat) : Prop := ∃ s y, s < K ∧ y ≠ x ∧ ((a s = x ∧ b s = y) ∨ (a s = y ∧ b s = x)) ∧ Kn a b s x y
theorem hears_of {x : Nat} : ∀ (d c : Nat), d ≤ K → c ≠ x → Kn a b (K - d) x c → Bk a b K x d c → Hears a b K x
  | 0, c, _, hc, _, h => absurd h hc
  | d + 1, c, hd, hc, hk, h => by
    have e1 : K - (d + 1) = K - 1 - d := by omega
    have e2 : K - d = (K - 1 - d) + 1 := by omega
    rw [e1] at hk
    rcases h with h | ⟨h1, h2⟩
    · exact hears_of d c (by omega) hc (by rw [e2]; exact .inl hk) h
    · have hknow : Kn a b (K - 1 - d) x (a (K - 1 - d)) ∨ Kn a b (K - 1 - d) x (b (K - 1 - d)) := by
        rcases h1 with h1 | h1
        · exact .inl (h1 ▸ hk)
        · exact .inr (h1 ▸ hk)
      rcases h2 with h2 | h2
      · by_cases hx : a (K - 1 - d) = x
        · rcases h1 with h1 | h1
          · exact absurd (h1.trans hx) hc
          · exact ⟨K - 1 - d, c, by omega, hc, .inl ⟨hx, h1.symm⟩, hk⟩
        · exact hears_of d _ (by omega) hx (by rw [e2]; exact .inr ⟨.inl rfl, hknow⟩) h2
      · by_cases hx : b (K - 1 - d) = x
        · rcases h1 with h1 | h1
          · exact ⟨K - 1 - d, c, by omega, hc, .inr ⟨h1.symm, hx⟩, hk⟩
          · exact absurd (h1.trans hx) hc
        · exact hears_of d _ (by omega) hx (by rw [e2]; exact .inr ⟨.inr rfl, hknow⟩) h2
/-- The calls of one. -/
def ownB (a b : Nat → Nat) (x : Nat) : BS := fun t => decide (a t ≠ b t) && (decide (a t = x) || decide (b t = x))
/-- Who does not hear his own thing has so many calls. -/
theorem calls_ge (H : Phone n S a b K) {x : Nat} (hx : S x = true) (hno : ¬ Hears a b K x) : 2 * (sizeP S n - 1) ≤ sizeP (realB a b) K + sizeP (ownB a b x) K := by
  have h1 := out_size (n := n) (a := a) (b := b) (x := x) K
  have h2 := in_size (n := n) (K := K) (a := a) (b := b) (x := x) K (Nat.le_refl _)
  rw [sizeP_rev (inB a b K x) K] at h2
  have h3 : sizeP S n ≤ sizeP (knB a b K x) n := sizeP_sub fun i _ hi => knB_iff.2 (H.all x i hx hi)
  have h4 : sizeP S n ≤ sizeP (bkB a b K x K) n := sizeP_sub fun i _ hi => by
    obtain ⟨j, g1, g2⟩ := kn_bk (H.all i x hi hx) K (Nat.le_refl _)
    rw [Nat.sub_self] at g1
    have g1 : i = j := g1
    rw [bkB_iff, g1]; exact g2
  have h5 := size_cup_cap (outB a b x) (inB a b K x) K
  have h6 : sizeP (cupB (outB a b x) (inB a b K x)) K ≤ sizeP (realB a b) K := sizeP_sub fun t _ ht => by
    simp only [realB, decide_eq_true_eq]
    intro e
    simp only [cupB, outB, inB, Bool.or_eq_true, bne_iff_ne, ne_eq] at ht
    rcases ht with ht | ht
    · exact ht (by rw [e])
    · exact ht (by rw [e])
  have h7 : sizeP (capB (outB a b x) (inB a b K x)) K ≤ sizeP (ownB a b x) K := sizeP_sub fun t htK ht => by
    simp only [capB, outB, inB, Bool.and_eq_true, bne_iff_ne, ne_eq] at ht
    obtain ⟨ho, hi⟩ := ht
    have hab : a t ≠ b t := fun e => ho (by rw [e])
    cases hown : ownB a b x t with
    | true => rfl
    | false =>
      exfalso
      simp only [ownB, Bool.and_eq_false_iff, decide_eq_false_iff_not, Bool.or_eq_false_iff] at hown
      have hxx : a t ≠ x ∧ b t ≠ x := hown.resolve_left (fun h => h hab)
      -- behind it both know the thing of x, and one of them brings it to x
      have hk : Kn a b t x (a t) ∨ Kn a b t x (b t) := by
        cases hA : knB a b t x (a t) with
        | true => exact .inl (knB_iff.1 hA)
        | false =>
          cases hB : knB a b t x (b t) with
          | true => exact .inr (knB_iff.1 hB)
          | false => rw [hA, hB] at ho; exact absurd rfl ho
      have hb : Bk a b K x (K - 1 - t) (a t) ∨ Bk a b K x (K - 1 - t) (b t) := by
        cases hA : bkB a b K x (K - 1 - t) (a t) with
        | true => exact .inl (bkB_iff.1 hA)
        | false =>
          cases hB : bkB a b K x (K - 1 - t) (b t) with
          | true => exact .inr (bkB_iff.1 hB)
          | false => rw [hA, hB] at hi; exact absurd rfl hi
      have e : K - (K - 1 - t) = t + 1 := by omega
      rcases hb with hb | hb
      · exact hno (hears_of (K - 1 - t) (a t) (by omega) hxx.1 (by rw [e]; exact .inr ⟨.inl rfl, hk⟩) hb)
      · exact hno (hears_of (K - 1 - t) (b t) (by omega) hxx.2 (by rw [e]; exact .inr ⟨.inr rfl, hk⟩) hb)
  omega
theorem sumTo_swap (F : Nat → Nat → Nat) (b : Nat) : ∀ a, sumTo (fun x => sumTo (fun y => F x y) b) a = sumTo (fun y => sumTo (fun x => F x y) a) b
  | 0 => (sumTo_zero b fun _ _ => rfl).symm
  | a + 1 => by
    simp only [sumTo]
    rw [sumTo_swap F b a, ← sumTo_add]
theorem own_sum (n : Nat) : sumTo (fun x => sizeP (ownB a b x) K) n ≤ 2 * sizeP (realB a b) K := by
  unfold sizeP
  rw [sumTo_swap (fun x t => if ownB a b x t = true then 1 else 0) K n]
  have : ∀ K, sumTo (fun t => sumTo (fun x => if ownB a b x t = true then 1 else 0) n) K ≤ 2 * sumTo (fun t => if realB a b t = true then 1 else 0) K := fun K => by
    induction K with
    | zero => exact Nat.le_refl _
    | succ K ih =>
      simp only [sumTo]
      by_cases hr : a K = b K
      · have e : sumTo (fun x => if ownB a b x K = true then 1 else 0) n = 0 := sumTo_zero n fun x _ => by simp [ownB, hr]
        rw [e]; omega
      · have e : sumTo (fun x => if ownB a b x K = true then 1 else 0) n ≤ sumTo (fun x => (if a K = x then 1 else 0) + if b K = x then 1 else 0) n := sumTo_le n fun x _ => by
          by_cases h1 : a K = x
          · rw [if_pos h1]; split <;> first | omega | (split <;> omega)
          · by_cases h2 : b K = x
            · rw [if_pos h2]; split <;> first | omega | (split <;> omega)
            · rw [if_neg (by simp [ownB, h1, h2])]; exact Nat.zero_le _
        rw [sumTo_add, sumTo_ind, sumTo_ind] at e
        rw [if_pos (show realB a b K = true by simp [realB, hr])]
        have : (if a K < n then 1 else 0) ≤ 1 := by split <;> omega
        have : (if b K < n then 1 else 0) ≤ 1 := by split <;> omega
        omega
  exact this K
/-- Along whom the thing of x went till it came to y. -/
structure Chain (a b : Nat → Nat) (S : BS) (x t0 s : Nat) (σ : Nat → Nat) : Prop where
  lt : t0 < s
  fst : (a t0 = x ∧ b t0 = σ t0) ∨ (a t0 = σ t0 ∧ b t0 = x)
  ne : ∀ t, σ t ≠ x
  mem : ∀ t, S (σ t) = true
  on : ∀ t, σ (t + 1) = σ t ∨ (a t = σ t ∧ b t = σ (t + 1)) ∨ (a t = σ (t + 1) ∧ b t = σ t)
theorem chain_ex (H : Phone n S a b K) {x : Nat} (hx : S x = true) : ∀ (s y : Nat), s ≤ K → y ≠ x → Kn a b s x y → ∃ t0 σ, Chain a b S x t0 s σ ∧ σ s = y
  | 0, y, _, hy, h => absurd h.symm hy
  | s + 1, y, hs, hy, h => by
    have hSy := kn_in H hx hs h
    -- one goes on, by nothing or by a call
    have hgo : ∀ z, z ≠ x → Kn a b s x z → (y = z ∨ (a s = z ∧ b s = y) ∨ (a s = y ∧ b s = z)) → ∃ t0 σ, Chain a b S x t0 (s + 1) σ ∧ σ (s + 1) = y := fun z hz hk hst => by
      obtain ⟨t0, σ, hC, hσ⟩ := chain_ex H hx s z (by omega) hz hk
      refine ⟨t0, fun t => if t ≤ s then σ t else y, ⟨by have := hC.lt; omega, ?_, fun t => ?_, fun t => ?_, fun t => ?_⟩, if_neg (by omega)⟩
      · have := hC.lt
        simp only [if_pos (show t0 ≤ s by omega)]
        exact hC.fst
      · by_cases ht : t ≤ s
        · simp only [if_pos ht]; exact hC.ne t
        · simp only [if_neg ht]; exact hy
      · by_cases ht : t ≤ s
        · simp only [if_pos ht]; exact hC.mem t
        · simp only [if_neg ht]; exact hSy
      · rcases Nat.lt_trichotomy t s with ht | ht | ht
        · simp only [if_pos (show t + 1 ≤ s by omega), if_pos (show t ≤ s by omega)]
          exact hC.on t
        · subst ht
          simp only [if_neg (show ¬ t + 1 ≤ t by omega), if_pos (Nat.le_refl t), hσ]
          exact hst
        · simp only [if_neg (show ¬ t + 1 ≤ s by omega), if_neg (show ¬ t ≤ s by omega)]
          exact .inl trivial
    rcases h with h | ⟨h1, h2⟩
    · exact hgo y hy h (.inl rfl)
    · have hfirst : (a s = x ∧ b s = y) ∨ (a s = y ∧ b s = x) → ∃ t0 σ, Chain a b S x t0 (s + 1) σ ∧ σ (s + 1) = y := fun hf =>
        ⟨s, fun _ => y, ⟨by omega, hf, fun _ => hy, fun _ => hSy, fun _ => .inl rfl⟩, rfl⟩
      rcases h1 with h1 | h1 <;> rcases h2 with h2 | h2
      · exact hgo _ (fun e => hy (h1.trans e)) h2 (.inl h1)
      · by_cases hb : b s = x
        · exact hfirst (.inr ⟨h1.symm, hb⟩)
        · exact hgo _ hb h2 (.inr (.inr ⟨h1.symm, rfl⟩))
      · by_cases ha : a s = x
        · exact hfirst (.inl ⟨ha, h1.symm⟩)
        · exact hgo _ ha h2 (.inr (.inl ⟨rfl, h1.symm⟩))
      · exact hgo _ (fun e => hy (h1.trans e)) h2 (.inl h1)
/-- Who hears his own thing can be left out, and two calls with him. -/
theorem leave_out (H : Phone n S a b K) {x : Nat} (hx : S x = true) (hh : Hears a b K x) : ∃ a' b', Phone n (delB S x) a' b' K ∧ sizeP (realB a' b') K + 2 ≤ sizeP (realB a b) K := by
  obtain ⟨s, y, hs, hy, hc, hk⟩ := hh
  obtain ⟨t0, σ, hC, hσ⟩ := chain_ex H hx s y (by omega) hy hk
  have hcs : (a s = x ∧ b s = σ s) ∨ (a s = σ s ∧ b s = x) := by rw [hσ]; exact hc
  -- whoever carries it speaks for x
  let a' : Nat → Nat := fun t => if a t = x then σ t else a t
  let b' : Nat → Nat := fun t => if b t = x then σ t else b t
  have hstay : ∀ t, a t = x ∨ b t = x → σ (t + 1) = σ t := fun t h => by
    rcases hC.on t with h1 | ⟨h1, h2⟩ | ⟨h1, h2⟩
    · exact h1
    · rcases h with h | h
      · exact absurd (h1.symm.trans h) (hC.ne t)
      · exact absurd (h2.symm.trans h) (hC.ne (t + 1))
    · rcases h with h | h
      · exact absurd (h1.symm.trans h) (hC.ne (t + 1))
      · exact absurd (h2.symm.trans h) (hC.ne t)
  have hmain : ∀ i, i ≠ x → ∀ t, (∀ j, j ≠ x → Kn a b t i j → Kn a' b' t i j) ∧ (Kn a b t i x → Kn a' b' t i (σ t)) := fun i hi t => by
    induction t with
    | zero => exact ⟨fun j _ h => h, fun h => absurd h hi⟩
    | succ t ih =>
      obtain ⟨ih1, ih2⟩ := ih
      -- whom one who knows hands it on to
      have hca : Kn a b t i (a t) → Kn a' b' t i (a' t) := fun h => by
        show Kn a' b' t i (if a t = x then σ t else a t)
        by_cases e : a t = x
        · rw [if_pos e]; exact ih2 (e ▸ h)
        · rw [if_neg e]; exact ih1 _ e h
      have hcb : Kn a b t i (b t) → Kn a' b' t i (b' t) := fun h => by
        show Kn a' b' t i (if b t = x then σ t else b t)
        by_cases e : b t = x
        · rw [if_pos e]; exact ih2 (e ▸ h)
        · rw [if_neg e]; exact ih1 _ e h
      have hor : Kn a b t i (a t) ∨ Kn a b t i (b t) → Kn a' b' t i (a' t) ∨ Kn a' b' t i (b' t) := Or.imp hca hcb
      refine ⟨fun j hj h => ?_, fun h => ?_⟩
      · rcases h with h | ⟨h1, h2⟩
        · exact .inl (ih1 j hj h)
        · refine .inr ⟨?_, hor h2⟩
          rcases h1 with h1 | h1
          · left
            show j = if a t = x then σ t else a t
            rw [if_neg (fun e => hj (h1.trans e))]; exact h1
          · right
            show j = if b t = x then σ t else b t
            rw [if_neg (fun e => hj (h1.trans e))]; exact h1
      · rcases h with h | ⟨h1, h2⟩
        · have h3 := ih2 h
          rcases hC.on t with h4 | ⟨h4, h5⟩ | ⟨h4, h5⟩
          · rw [h4]; exact .inl h3
          · have ea : a' t = σ t := by show (if a t = x then σ t else a t) = σ t; rw [if_neg (fun e => hC.ne t (h4.symm.trans e))]; exact h4
            have eb : b' t = σ (t + 1) := by show (if b t = x then σ t else b t) = _; rw [if_neg (fun e => hC.ne (t + 1) (h5.symm.trans e))]; exact h5
            exact .inr ⟨.inr eb.symm, .inl (by rw [ea]; exact h3)⟩
          · have ea : a' t = σ (t + 1) := by show (if a t = x then σ t else a t) = _; rw [if_neg (fun e => hC.ne (t + 1) (h4.symm.trans e))]; exact h4
            have eb : b' t = σ t := by show (if b t = x then σ t else b t) = σ t; rw [if_neg (fun e => hC.ne t (h5.symm.trans e))]; exact h5
            exact .inr ⟨.inl ea.symm, .inr (by rw [eb]; exact h3)⟩
        · rw [hstay t (h1.imp Eq.symm Eq.symm)]
          refine .inr ⟨?_, hor h2⟩
          rcases h1 with h1 | h1
          · left; show σ t = if a t = x then σ t else a t; rw [if_pos h1.symm]
          · right; show σ t = if b t = x then σ t else b t; rw [if_pos h1.symm]
  refine ⟨a', b', ⟨fun i hi => H.lt i (delB_iff.1 hi).1, fun t ht hab => ?_, fun i j hi hj => ?_⟩, ?_⟩
  · have hab0 : a t ≠ b t := fun e => hab (by show (if a t = x then σ t else a t) = if b t = x then σ t else b t; rw [e])
    obtain ⟨g1, g2⟩ := H.in_ t ht hab0
    constructor
    · show delB S x (if a t = x then σ t else a t) = true
      by_cases e : a t = x
      · rw [if_pos e]; exact delB_iff.2 ⟨hC.mem t, hC.ne t⟩
      · rw [if_neg e]; exact delB_iff.2 ⟨g1, e⟩
    · show delB S x (if b t = x then σ t else b t) = true
      by_cases e : b t = x
      · rw [if_pos e]; exact delB_iff.2 ⟨hC.mem t, hC.ne t⟩
      · rw [if_neg e]; exact delB_iff.2 ⟨g2, e⟩
  · obtain ⟨i1, i2⟩ := delB_iff.1 hi
    obtain ⟨j1, j2⟩ := delB_iff.1 hj
    exact (hmain i i2 K).1 j j2 (H.all i j i1 j1)
  · have hnull : ∀ t, (a t = x ∧ b t = σ t) ∨ (a t = σ t ∧ b t = x) → realB a b t = true ∧ realB a' b' t = false := fun t h => by
      have e1 : a' t = b' t := by
        show (if a t = x then σ t else a t) = if b t = x then σ t else b t
        rcases h with ⟨h1, h2⟩ | ⟨h1, h2⟩
        · rw [if_pos h1, if_neg (fun e => hC.ne t (h2.symm.trans e)), h2]
        · rw [if_pos h2, if_neg (fun e => hC.ne t (h1.symm.trans e)), h1]
      refine ⟨?_, by simp [realB, e1]⟩
      simp only [realB, decide_eq_true_eq]
      rcases h with ⟨h1, h2⟩ | ⟨h1, h2⟩
      · rw [h1, h2]; exact (hC.ne t).symm
      · rw [h1, h2]; exact hC.ne t
    obtain ⟨p1, p2⟩ := hnull t0 hC.fst
    obtain ⟨q1, q2⟩ := hnull s hcs
    have hlt := hC.lt
    have d1 := sizeP_del p1 (show t0 < K by omega)
    have d2 := sizeP_del (A := delB (realB a b) t0) (delB_iff.2 ⟨q1, by omega⟩) hs
    have hsub : sizeP (realB a' b') K ≤ sizeP (delB (delB (realB a b) t0) s) K := sizeP_sub fun t _ ht => by
      refine delB_iff.2 ⟨delB_iff.2 ⟨?_, fun e => by rw [e, p2] at ht; cases ht⟩, fun e => by rw [e, q2] at ht; cases ht⟩
      simp only [realB, decide_eq_true_eq] at ht ⊢
      intro e
      exact ht (by show (if a t = x then σ t else a t) = if b t = x then σ t else b t; rw [e])
    omega
/-- How many calls there must be. -/
def fewC (m : Nat) : Nat := if m ≤ 1 then 0 else if m = 2 then 1 else if m = 3 then 3 else 2 * m - 4
/-- The theorem of the telephones, for up to nine. -/
theorem phones : ∀ (m : Nat) (S : BS) (a b : Nat → Nat), sizeP S n = m → m ≤ 9 → Phone n S a b K → fewC m ≤ sizeP (realB a b) K
  | m, S, a, b, hm, h9, H => by
    by_cases hh : ∃ x, S x = true ∧ Hears a b K x
    · obtain ⟨x, hx, hx2⟩ := hh
      obtain ⟨a', b', H', h1⟩ := leave_out H hx hx2
      have hdel := sizeP_del hx (H.lt x hx)
      have ih := phones (m - 1) (delB S x) a' b' (by omega) (by omega) H'
      unfold fewC at ih ⊢
      split at ih <;> split <;> (try split at ih) <;> (try split) <;> (try split at ih) <;> (try split) <;> omega
    · -- nobody hears his own
      have hge : ∀ x, S x = true → 2 * (m - 1) ≤ sizeP (realB a b) K + sizeP (ownB a b x) K := fun x hx => by
        have := calls_ge H hx fun h => hh ⟨x, hx, h⟩
        rw [hm] at this
        exact this
      have hsum : m * (2 * (m - 1)) ≤ m * sizeP (realB a b) K + sumTo (fun x => sizeP (ownB a b x) K) n := by
        have : ∀ k, k ≤ n → sizeP S k * (2 * (m - 1)) ≤ sizeP S k * sizeP (realB a b) K + sumTo (fun x => sizeP (ownB a b x) K) k := fun k => by
          induction k with
          | zero => intro _; simp [sizeP, sumTo]
          | succ k ih =>
            intro hk
            have ih := ih (by omega)
            rw [sizeP_succ]
            simp only [sumTo]
            by_cases hS : S k = true
            · have h1 := hge k hS
              rw [if_pos hS, Nat.add_mul, Nat.add_mul, Nat.one_mul, Nat.one_mul]
              omega
            · rw [if_neg hS, Nat.add_zero]; omega
        have h := this n (Nat.le_refl n)
        rw [hm] at h
        exact h
      have hown := own_sum (a := a) (b := b) (K := K) n
      generalize sizeP (realB a b) K = k at *
      generalize sumTo (fun x => sizeP (ownB a b x) K) n = z at *
      rcases (show m = 0 ∨ m = 1 ∨ m = 2 ∨ m = 3 ∨ m = 4 ∨ m = 5 ∨ m = 6 ∨ m = 7 ∨ m = 8 ∨ m = 9 by omega) with rfl | rfl | rfl | rfl | rfl | rfl | rfl | rfl | rfl | rfl <;> simp [fewC] <;> omega
  termination_by m => m
  decreasing_by omega
end
end Go.Proofs.Ytpcealcghglopaa

namespace Go.Proofs.Ytpcealcghglopaa

/-- How many neighbours one has in a set. -/
def degS (adj : Nat → Nat → Bool) (n : Nat) (S : Nat → Bool) (v : Nat) : Nat := sizeP (fun u => S u && adj v u) n
/-- A colouring of a set, by d colours. -/
structure ColP (adj : Nat → Nat → Bool) (n d : Nat) (P : Nat → Bool) (c : Nat → Nat) : Prop where
  lt : ∀ i, i < n → P i = true → c i < d
  ne : ∀ i j, i < n → j < n → P i = true → P j = true → adj i j = true → c i ≠ c j
def addB (P : Nat → Bool) (x : Nat) : Nat → Bool := fun i => P i || decide (i = x)
theorem addB_iff {P : Nat → Bool} {x i : Nat} : addB P x i = true ↔ P i = true ∨ i = x := by simp [addB]
def updC (c : Nat → Nat) (x v : Nat) : Nat → Nat := fun i => if i = x then v else c i
section
variable {adj : Nat → Nat → Bool} {n d : Nat} {S P : Nat → Bool} {c : Nat → Nat}
theorem sizeP_below : ∀ (n : Nat) {d : Nat}, d ≤ n → sizeP (fun x => decide (x < d)) n = d
  | 0, d, h => by rw [show d = 0 by omega]; rfl
  | n + 1, d, h => by
    rw [sizeP_succ]
    rcases Nat.lt_or_ge n d with h1 | h1
    · have e : sizeP (fun x => decide (x < d)) n = sizeP (fun x => decide (x < n)) n := sizeP_congr n fun i hi => by rw [decide_eq_true (show i < d by omega), decide_eq_true hi]
      rw [e, sizeP_below n (Nat.le_refl n), if_pos (by simpa using h1)]; omega
    · rw [sizeP_below n h1, if_neg (by simp; omega)]; rfl
/-- A colour that no neighbour has: one neighbour has none yet, or two have one. -/
theorem free_col (hdn : d ≤ n) {x : Nat} (_hx : x < n) (hdeg : degS adj n S x ≤ d) (hPS : ∀ i, P i = true → S i = true)
    (h : (∃ y, y < n ∧ S y = true ∧ adj x y = true ∧ P y = false) ∨ ∃ u w, u < n ∧ w < n ∧ u ≠ w ∧ P u = true ∧ P w = true ∧ adj x u = true ∧ adj x w = true ∧ c u = c w) :
    ∃ k, k < d ∧ ∀ j, j < n → P j = true → adj x j = true → c j ≠ k := by
  apply Classical.byContradiction
  intro hno
  have hall : ∀ k, ∃ j, k < d → j < n ∧ P j = true ∧ adj x j = true ∧ c j = k := fun k => by
    by_cases hk : k < d
    · apply Classical.byContradiction
      intro h2
      exact hno ⟨k, hk, fun j hj hP ha e => h2 ⟨j, fun _ => ⟨hj, hP, ha, e⟩⟩⟩
    · exact ⟨0, fun h => absurd h hk⟩
  obtain ⟨f, hf⟩ := Classical.axiomOfChoice hall
  have hinj : ∀ i j, i < n → j < n → decide (i < d) = true → decide (j < d) = true → f i = f j → i = j := fun i j _ _ h1 h2 e => by
    have a := (hf i (by simpa using h1)).2.2.2
    have b := (hf j (by simpa using h2)).2.2.2
    rw [← a, ← b, e]
  have hlt : ∀ z, z < n → S z = true → adj x z = true → (∀ k, k < d → f k ≠ z) → False := fun z hz hSz haz hne => by
    have h1 := sizeP_inj (n := n) _ (A := fun k => decide (k < d)) (B := delB (fun u => S u && adj x u) z) (m := f) rfl (fun k _ hk => by
      obtain ⟨a1, a2, a3, _⟩ := hf k (by simpa using hk)
      exact ⟨a1, delB_iff.2 ⟨by simp [hPS _ a2, a3], hne k (by simpa using hk)⟩⟩) hinj
    have h2 := sizeP_del (A := fun u => S u && adj x u) (i := z) (by simp [hSz, haz]) hz
    rw [sizeP_below n hdn] at h1
    unfold degS at hdeg
    omega
  rcases h with ⟨y, hy, hSy, hay, hPy⟩ | ⟨u, w, hu, hw, huw, hPu, hPw, hau, haw, he⟩
  · refine hlt y hy hSy hay fun k hk e => ?_
    have := (hf k hk).2.1
    rw [e, hPy] at this; cases this
  · by_cases hk : ∃ k, k < d ∧ f k = u
    · obtain ⟨k, hk, e⟩ := hk
      refine hlt w hw (hPS w hPw) haw fun k' hk' e' => huw ?_
      have h1 := (hf k hk).2.2.2
      have h2 := (hf k' hk').2.2.2
      rw [e] at h1; rw [e'] at h2
      have : k = k' := by omega
      rw [← e, ← e', this]
    · exact hlt u hu (hPS u hPu) hau fun k hk' e => hk ⟨k, hk', e⟩
theorem col_add (hsym : ∀ a b, adj a b = adj b a) (hirr : ∀ a, adj a a = false) (H : ColP adj n d P c) {x k : Nat} (hk : k < d) (hno : ∀ j, j < n → P j = true → adj x j = true → c j ≠ k) (hxP : P x = false) : ColP adj n d (addB P x) (updC c x k) := by
  have hne : ∀ i, P i = true → i ≠ x := fun i hi e => by rw [e, hxP] at hi; cases hi
  refine ⟨fun i hi hP => ?_, fun i j hi hj hPi hPj ha => ?_⟩
  · unfold updC
    split
    · exact hk
    · rename_i e; exact H.lt i hi ((addB_iff.1 hP).resolve_right e)
  · unfold updC
    rcases addB_iff.1 hPi with h1 | h1 <;> rcases addB_iff.1 hPj with h2 | h2
    · rw [if_neg (hne i h1), if_neg (hne j h2)]; exact H.ne i j hi hj h1 h2 ha
    · rw [if_neg (hne i h1), if_pos h2]
      exact hno i hi h1 (by rw [hsym, ← h2]; exact ha)
    · rw [if_pos h1, if_neg (hne j h2)]
      exact fun e => hno j hj h2 (by rw [← h1]; exact ha) e.symm
    · rw [h1, h2, hirr] at ha; cases ha
/-- One after the other, each with a neighbour that has no colour yet. -/
theorem col_seq (hdn : d ≤ n) (hsym : ∀ a b, adj a b = adj b a) (hirr : ∀ a, adj a a = false) (hdeg : ∀ x, x < n → S x = true → degS adj n S x ≤ d) (hPS : ∀ i, P i = true → S i = true) (H : ColP adj n d P c) (q : Nat → Nat) : ∀ k,
    (∀ t, t < k → q t < n ∧ S (q t) = true ∧ P (q t) = false ∧ (∀ t', t' < t → q t' ≠ q t) ∧ ∃ y, y < n ∧ S y = true ∧ adj (q t) y = true ∧ P y = false ∧ ∀ t', t' ≤ t → y ≠ q t') →
    ∃ c', ColP adj n d (fun i => P i || (List.range k).any fun t => decide (i = q t)) c' ∧ ∀ i, P i = true → c' i = c i
  | 0, _ => ⟨c, ⟨fun i hi h => H.lt i hi (by simpa using h), fun i j hi hj h1 h2 => H.ne i j hi hj (by simpa using h1) (by simpa using h2)⟩, fun _ _ => rfl⟩
  | k + 1, hq => by
    obtain ⟨c1, h1, h2⟩ := col_seq hdn hsym hirr hdeg hPS H q k fun t ht => hq t (by omega)
    obtain ⟨a1, a2, a3, a4, y, b1, b2, b3, b4, b5⟩ := hq k (by omega)
    have hmem : ∀ i, ((List.range k).any fun t => decide (i = q t)) = true ↔ ∃ t, t < k ∧ i = q t := fun i => by
      rw [List.any_eq_true]
      exact ⟨fun ⟨t, ht, e⟩ => ⟨t, List.mem_range.1 ht, by simpa using e⟩, fun ⟨t, ht, e⟩ => ⟨t, List.mem_range.2 ht, by simpa using e⟩⟩
    have hnk : (P (q k) || (List.range k).any fun t => decide (q k = q t)) = false := by
      rw [a3, Bool.false_or, Bool.eq_false_iff]
      intro h
      obtain ⟨t, ht, e⟩ := (hmem _).1 h
      exact a4 t ht e.symm
    obtain ⟨col, g1, g2⟩ := free_col (adj := adj) (n := n) (S := S) (P := fun i => P i || (List.range k).any fun t => decide (i = q t)) (c := c1) hdn a1 (hdeg _ a1 a2) (fun i hi => by
      simp only [Bool.or_eq_true] at hi
      rcases hi with hi | hi
      · exact hPS i hi
      · obtain ⟨t, ht, e⟩ := (hmem i).1 hi
        rw [e]; exact (hq t (by omega)).2.1) (.inl ⟨y, b1, b2, b3, by
          show (P y || _) = false
          rw [b4, Bool.false_or, Bool.eq_false_iff]
          intro h
          obtain ⟨t, ht, e⟩ := (hmem _).1 h
          exact b5 t (by omega) e⟩)
    have h3 := col_add hsym hirr h1 g1 g2 hnk
    refine ⟨_, ⟨fun i hi h => h3.lt i hi ?_, fun i j hi hj hh1 hh2 => h3.ne i j hi hj ?_ ?_⟩, fun i hi => ?_⟩
    · rw [List.range_succ, List.any_append, List.any_cons, List.any_nil, Bool.or_false, ← Bool.or_assoc] at h; exact h
    · rw [List.range_succ, List.any_append, List.any_cons, List.any_nil, Bool.or_false, ← Bool.or_assoc] at hh1; exact hh1
    · rw [List.range_succ, List.any_append, List.any_cons, List.any_nil, Bool.or_false, ← Bool.or_assoc] at hh2; exact hh2
    · unfold updC
      rw [if_neg (fun e => by rw [e, a3] at hi; cases hi)]
      exact h2 i hi
/-- A row of so many, each with an edge to the next, none twice. -/
structure RowP (adj : Nat → Nat → Bool) (n : Nat) (S : Nat → Bool) (r : Nat) (p : Nat → Nat) : Prop where
  in_ : ∀ t, t < r → p t < n ∧ S (p t) = true
  adj_ : ∀ t, t + 1 < r → adj (p t) (p (t + 1)) = true
  one : ∀ a b, a < r → b < r → p a = p b → a = b
theorem RowP.le {r : Nat} {p : Nat → Nat} (H : RowP adj n S r p) : r ≤ n := by
  rcases Nat.lt_or_ge n r with h | h
  · have h1 := sizeP_inj (n := r) _ (A := fun _ => true) (B := fun x => decide (x < n)) (m := p) rfl (fun i hi _ => ⟨by have := (H.in_ i hi).1; omega, by simpa using (H.in_ i hi).1⟩) fun i j hi hj _ _ e => H.one i j hi hj e
    rw [sizeP_below r (by omega)] at h1
    have h2 : sizeP (fun _ : Nat => false) r + sizeP (fun _ : Nat => true) r = r := sizeP_not (fun _ : Nat => true) r
    have h3 : sizeP (fun _ : Nat => false) r = 0 := sizeP_none fun _ _ => rfl
    omega
  · exact h
/-- The longest row with a given beginning: all neighbours of its last one are of it. -/
theorem row_max : ∀ (k r : Nat) (p : Nat → Nat), n ≤ r + k → 0 < r → RowP adj n S r p → ∃ r' p', r ≤ r' ∧ RowP adj n S r' p' ∧ (∀ t, t < r → p' t = p t) ∧ ∀ y, y < n → S y = true → adj (p' (r' - 1)) y = true → ∃ t, t < r' ∧ p' t = y
  | k, r, p, hk, hr, H => by
    by_cases hex : ∃ y, y < n ∧ S y = true ∧ adj (p (r - 1)) y = true ∧ ∀ t, t < r → p t ≠ y
    · obtain ⟨y, h1, h2, h3, h4⟩ := hex
      have H' : RowP adj n S (r + 1) (fun t => if t < r then p t else y) := by
        refine ⟨fun t ht => ?_, fun t ht => ?_, fun a b ha hb e => ?_⟩
        · by_cases h : t < r
          · simp only [if_pos h]; exact H.in_ t h
          · simp only [if_neg h]; exact ⟨h1, h2⟩
        · by_cases h : t + 1 < r
          · simp only [if_pos (show t < r by omega), if_pos h]; exact H.adj_ t h
          · simp only [if_pos (show t < r by omega), if_neg h]
            rw [show t = r - 1 by omega]; exact h3
        · by_cases ha' : a < r <;> by_cases hb' : b < r
          · simp only [if_pos ha', if_pos hb'] at e; exact H.one a b ha' hb' e
          · simp only [if_pos ha', if_neg hb'] at e; exact absurd e (h4 a ha')
          · simp only [if_neg ha', if_pos hb'] at e; exact absurd e.symm (h4 b hb')
          · omega
      have hle := H'.le
      cases k with
      | zero => omega
      | succ k =>
        obtain ⟨r', p', g1, g2, g3, g4⟩ := row_max k (r + 1) _ (by omega) (by omega) H'
        exact ⟨r', p', by omega, g2, fun t ht => by rw [g3 t (by omega), if_pos ht], g4⟩
    · refine ⟨r, p, Nat.le_refl _, H, fun _ _ => rfl, fun y h1 h2 h3 => Classical.byContradiction fun hno => hex ⟨y, h1, h2, h3, fun t ht e => hno ⟨t, ht, e⟩⟩⟩
/-- All of a ring but one: each has a neighbour that has no colour yet; and the last one two of one colour. -/
theorem ring_col (hdn : d ≤ n) (hsym : ∀ a b, adj a b = adj b a) (hirr : ∀ a, adj a a = false) (hdeg : ∀ x, x < n → S x = true → degS adj n S x ≤ d) (hPS : ∀ i, P i = true → S i = true) (H : ColP adj n d P c) {L : Nat} {w : Nat → Nat} (hL : 2 ≤ L)
    (hin : ∀ t, t < L → w t < n ∧ S (w t) = true ∧ P (w t) = false) (hadj : ∀ t, t + 1 < L → adj (w t) (w (t + 1)) = true) (hlast : adj (w (L - 1)) (w 0) = true) (hone : ∀ a b, a < L → b < L → w a = w b → a = b)
    {u : Nat} (hu : u < n) (hPu : P u = true) (hua : adj (w (L - 1)) u = true) (h0 : ∀ j, j < n → P j = true → adj (w 0) j = false) :
    ∃ c', ColP adj n d (fun i => P i || (List.range L).any fun t => decide (i = w t)) c' := by
  obtain ⟨a1, a2, a3⟩ := hin 0 (by omega)
  -- the first one: as the one outside
  have H1 : ColP adj n d (addB P (w 0)) (updC c (w 0) (c u)) := col_add hsym hirr H (H.lt u hu hPu) (fun j hj hP ha => by rw [h0 j hj hP] at ha; cases ha) a3
  have hPS1 : ∀ i, addB P (w 0) i = true → S i = true := fun i hi => by
    rcases addB_iff.1 hi with h | h
    · exact hPS i h
    · rw [h]; exact a2
  obtain ⟨c2, h2, h3⟩ := col_seq hdn hsym hirr hdeg hPS1 H1 (fun t => w (t + 1)) (L - 2) fun t ht => by
    obtain ⟨b1, b2, b3⟩ := hin (t + 1) (by omega)
    obtain ⟨d1, d2, d3⟩ := hin (t + 2) (by omega)
    have hn : ∀ s, s < L → s ≠ 0 → P (w s) = false → addB P (w 0) (w s) = false := fun s hs hs0 hP => by
      rw [Bool.eq_false_iff]
      intro h
      rcases addB_iff.1 h with h | h
      · rw [hP] at h; cases h
      · exact hs0 (hone s 0 hs (by omega) h)
    exact ⟨b1, b2, hn _ (by omega) (by omega) b3, fun t' ht' e => by have := hone _ _ (by omega) (by omega) e; omega, w (t + 2), d1, d2, hadj (t + 1) (by omega), hn _ (by omega) (by omega) d3, fun t' ht' e => by have := hone _ _ (by omega) (by omega) e; omega⟩
  have hmem : ∀ i k, ((List.range k).any fun t => decide (i = w (t + 1))) = true ↔ ∃ t, t < k ∧ i = w (t + 1) := fun i k => by
    rw [List.any_eq_true]
    exact ⟨fun ⟨t, ht, e⟩ => ⟨t, List.mem_range.1 ht, by simpa using e⟩, fun ⟨t, ht, e⟩ => ⟨t, List.mem_range.2 ht, by simpa using e⟩⟩
  obtain ⟨l1, l2, l3⟩ := hin (L - 1) (by omega)
  have hne0 : w (L - 1) ≠ w 0 := fun e => by have := hone _ _ (by omega) (by omega) e; omega
  have hnl : (addB P (w 0) (w (L - 1)) || (List.range (L - 2)).any fun t => decide (w (L - 1) = w (t + 1))) = false := by
    rw [Bool.eq_false_iff]
    intro h
    rcases Bool.or_eq_true _ _ |>.mp h with h | h
    · rcases addB_iff.1 h with h | h
      · rw [l3] at h; cases h
      · exact hne0 h
    · obtain ⟨t, ht, e⟩ := (hmem _ _).1 h
      have := hone _ _ (by omega) (by omega) e
      omega
  have hPu1 : addB P (w 0) u = true := addB_iff.2 (.inl hPu)
  have hP01 : addB P (w 0) (w 0) = true := addB_iff.2 (.inr rfl)
  have hu0 : u ≠ w 0 := fun e => by rw [e, a3] at hPu; cases hPu
  have hcol : c2 u = c2 (w 0) := by
    rw [h3 u hPu1, h3 _ hP01]
    unfold updC
    rw [if_neg hu0, if_pos rfl]
  obtain ⟨col, g1, g2⟩ := free_col (adj := adj) (n := n) (S := S) (P := fun i => addB P (w 0) i || (List.range (L - 2)).any fun t => decide (i = w (t + 1))) (c := c2) hdn l1 (hdeg _ l1 l2) (fun i hi => by
    rcases Bool.or_eq_true _ _ |>.mp hi with hi | hi
    · exact hPS1 i hi
    · obtain ⟨t, ht, e⟩ := (hmem _ _).1 hi
      rw [e]; exact (hin _ (by omega)).2.1) (.inr ⟨u, w 0, hu, a1, hu0, by simp [hPu1], by simp [hP01], hua, hlast, hcol⟩)
  have h4 := col_add hsym hirr h2 g1 g2 hnl
  have hall : ∀ i, (P i || (List.range L).any fun t => decide (i = w t)) = true → addB (fun i => addB P (w 0) i || (List.range (L - 2)).any fun t => decide (i = w (t + 1))) (w (L - 1)) i = true := fun i hi => by
    rw [addB_iff]
    rcases Bool.or_eq_true _ _ |>.mp hi with hi | hi
    · left; simp [addB_iff.2 (.inl hi)]
    · rw [List.any_eq_true] at hi
      obtain ⟨t, ht, e⟩ := hi
      have ht := List.mem_range.1 ht
      have e : i = w t := by simpa using e
      rcases Nat.eq_zero_or_pos t with h5 | h5
      · left; rw [e, h5]; simp [hP01]
      · rcases Nat.lt_or_ge t (L - 1) with h6 | h6
        · left
          rw [Bool.or_eq_true]
          exact .inr ((hmem i (L - 2)).2 ⟨t - 1, by omega, by rw [show t - 1 + 1 = t by omega]; exact e⟩)
        · right; rw [e, show t = L - 1 by omega]
  exact ⟨_, ⟨fun i hi h => h4.lt i hi (hall i h), fun i j hi hj p1 p2 => h4.ne i j hi hj (hall i p1) (hall j p2)⟩⟩
/-- No so many nodes have all edges. -/
def NoClique (adj : Nat → Nat → Bool) (n k : Nat) (S : Nat → Bool) : Prop := ∀ K : Nat → Bool, (∀ i, i < n → K i = true → S i = true) → (∀ i j, i < n → j < n → K i = true → K j = true → i ≠ j → adj i j = true) → sizeP K n ≠ k
/-- BROOKS. -/
theorem brooks (hdn : d ≤ n) (hd : 3 ≤ d) (hsym : ∀ a b, adj a b = adj b a) (hirr : ∀ a, adj a a = false) : ∀ (m : Nat) (S : Nat → Bool), sizeP S n = m → (∀ x, x < n → S x = true → degS adj n S x ≤ d) → NoClique adj n (d + 1) S → ∃ c, ColP adj n d S c
  | m, S, hm, hdeg, hcl => by
    have hsub : ∀ T : Nat → Bool, (∀ i, i < n → T i = true → S i = true) → (∀ x, x < n → T x = true → degS adj n T x ≤ d) ∧ NoClique adj n (d + 1) T := fun T hT =>
      ⟨fun x hx hTx => Nat.le_trans (sizeP_sub fun i hi h => by
        simp only [Bool.and_eq_true] at h ⊢
        exact ⟨hT i hi h.1, h.2⟩) (hdeg x hx (hT x hx hTx)), fun K h1 h2 => hcl K (fun i hi h => hT i hi (h1 i hi h)) h2⟩
    by_cases hlow : ∃ x, x < n ∧ S x = true ∧ degS adj n S x < d
    · -- one with fewer neighbours goes last
      obtain ⟨x, hx, hSx, hdx⟩ := hlow
      have hdel := sizeP_del hSx hx
      obtain ⟨h1, h2⟩ := hsub (delB S x) fun i _ h => (delB_iff.1 h).1
      obtain ⟨c, hc⟩ := brooks hdn hd hsym hirr (m - 1) (delB S x) (by omega) h1 h2
      have hfree : ∃ k, k < d ∧ ∀ j, j < n → delB S x j = true → adj x j = true → c j ≠ k := by
        apply Classical.byContradiction
        intro hno
        have hall : ∀ k, ∃ j, k < d → j < n ∧ delB S x j = true ∧ adj x j = true ∧ c j = k := fun k => by
          by_cases hk : k < d
          · apply Classical.byContradiction
            intro h2
            exact hno ⟨k, hk, fun j hj hP ha e => h2 ⟨j, fun _ => ⟨hj, hP, ha, e⟩⟩⟩
          · exact ⟨0, fun h => absurd h hk⟩
        obtain ⟨f, hf⟩ := Classical.axiomOfChoice hall
        have h1 := sizeP_inj (n := n) _ (A := fun k => decide (k < d)) (B := fun u => S u && adj x u) (m := f) rfl (fun k _ hk => by
          obtain ⟨a1, a2, a3, _⟩ := hf k (by simpa using hk)
          exact ⟨a1, by simp [(delB_iff.1 a2).1, a3]⟩) fun i j _ _ h1 h2 e => by
            have a := (hf i (by simpa using h1)).2.2.2
            have b := (hf j (by simpa using h2)).2.2.2
            rw [← a, ← b, e]
        rw [sizeP_below n hdn] at h1
        unfold degS at hdx
        omega
      obtain ⟨k, g1, g2⟩ := hfree
      have h3 := col_add hsym hirr hc g1 g2 (by simp [delB])
      have hS : ∀ i, S i = true → addB (delB S x) x i = true := fun i hi => by
        rw [addB_iff, delB_iff]
        by_cases e : i = x
        · exact .inr e
        · exact .inl ⟨hi, e⟩
      exact ⟨_, ⟨fun i hi h => h3.lt i hi (hS i h), fun i j hi hj p1 p2 => h3.ne i j hi hj (hS i p1) (hS j p2)⟩⟩
    · have hreg : ∀ x, x < n → S x = true → degS adj n S x = d := fun x hx hSx => by
        have h1 := hdeg x hx hSx
        have h2 : ¬ degS adj n S x < d := fun h => hlow ⟨x, hx, hSx, h⟩
        omega
      rcases Nat.eq_zero_or_pos (sizeP S n) with h0 | h0
      · have hno : ∀ i, i < n → S i = true → False := fun i hi h => by have := sizeP_del h hi; omega
        exact ⟨fun _ => 0, ⟨fun i hi h => (hno i hi h).elim, fun i _ hi _ h => (hno i hi h).elim⟩⟩
      · obtain ⟨v, hv, hSv⟩ := sizeP_pos h0
        -- two neighbours without an edge
        obtain ⟨x, y, hx, hy, hSx, hSy, hvx, hvy, hxy, hnxy⟩ : ∃ x y, x < n ∧ y < n ∧ S x = true ∧ S y = true ∧ adj v x = true ∧ adj v y = true ∧ x ≠ y ∧ adj x y = false := by
          apply Classical.byContradiction
          intro hno
          have hK : ∀ i j, i < n → j < n → addB (fun u => S u && adj v u) v i = true → addB (fun u => S u && adj v u) v j = true → i ≠ j → adj i j = true := fun i j hi hj h1 h2 hij => by
            rw [addB_iff] at h1 h2
            simp only [Bool.and_eq_true] at h1 h2
            rcases h1 with h1 | h1 <;> rcases h2 with h2 | h2
            · cases ha : adj i j with
              | true => rfl
              | false => exact absurd ⟨i, j, hi, hj, h1.1, h2.1, h1.2, h2.2, hij, ha⟩ hno
            · rw [h2, hsym]; exact h1.2
            · rw [h1]; exact h2.2
            · exact absurd (h1.trans h2.symm) hij
          refine hcl _ (fun i _ h => ?_) hK ?_
          · rw [addB_iff] at h
            simp only [Bool.and_eq_true] at h
            rcases h with h | h
            · exact h.1
            · rw [h]; exact hSv
          · rw [sizeP_del (A := addB (fun u => S u && adj v u) v) (i := v) (addB_iff.2 (.inr rfl)) hv]
            have e : sizeP (delB (addB (fun u => S u && adj v u) v) v) n = degS adj n S v := sizeP_congr n fun i _ => by
              rw [Bool.eq_iff_iff, delB_iff, addB_iff]
              constructor
              · rintro ⟨h1 | h1, h2⟩
                · exact h1
                · exact absurd h1 h2
              · intro h1
                refine ⟨.inl h1, fun e => ?_⟩
                simp only [Bool.and_eq_true] at h1
                rw [e, hirr] at h1
                cases h1.2
            rw [e, hreg v hv hSv]
        have hvx' : v ≠ x := fun e => by rw [e, hirr] at hvx; cases hvx
        have hvy' : v ≠ y := fun e => by rw [e, hirr] at hvy; cases hvy
        -- the longest row that begins with them
        have H3 : RowP adj n S 3 (fun t => if t = 0 then x else if t = 1 then v else y) := by
          refine ⟨fun t ht => ?_, fun t ht => ?_, fun a b ha hb e => ?_⟩
          · rcases (show t = 0 ∨ t = 1 ∨ t = 2 by omega) with rfl | rfl | rfl
            · exact ⟨hx, hSx⟩
            · exact ⟨hv, hSv⟩
            · exact ⟨hy, hSy⟩
          · rcases (show t = 0 ∨ t = 1 by omega) with rfl | rfl
            · show adj x v = true; rw [hsym]; exact hvx
            · exact hvy
          · rcases (show a = 0 ∨ a = 1 ∨ a = 2 by omega) with rfl | rfl | rfl <;> rcases (show b = 0 ∨ b = 1 ∨ b = 2 by omega) with rfl | rfl | rfl <;> first | rfl | exact absurd e hvx' | exact absurd e.symm hvx' | exact absurd e hvy' | exact absurd e.symm hvy' | exact absurd e hxy | exact absurd e.symm hxy
        obtain ⟨r, p, hr3, HR, hbeg, hmax⟩ := row_max n 3 _ (by omega) (by omega) H3
        have hp0 : p 0 = x := hbeg 0 (by omega)
        have hp1 : p 1 = v := hbeg 1 (by omega)
        have hp2 : p 2 = y := hbeg 2 (by omega)
        obtain ⟨hzn, hzS⟩ := HR.in_ (r - 1) (by omega)
        -- the first one of it that has an edge with the last
        have hexj : ∃ j, j < r ∧ adj (p (r - 1)) (p j) = true := by
          have : adj (p (r - 2)) (p (r - 2 + 1)) = true := HR.adj_ (r - 2) (by omega)
          rw [show r - 2 + 1 = r - 1 by omega] at this
          exact ⟨r - 2, by omega, by rw [hsym]; exact this⟩
        obtain ⟨j, hjr, hja, hjleast⟩ : ∃ j, j < r ∧ adj (p (r - 1)) (p j) = true ∧ ∀ i, i < j → adj (p (r - 1)) (p i) = false := by
          obtain ⟨j0, h1, h2⟩ := hexj
          have : ∀ k j, j ≤ k → j < r → adj (p (r - 1)) (p j) = true → ∃ j, j < r ∧ adj (p (r - 1)) (p j) = true ∧ ∀ i, i < j → adj (p (r - 1)) (p i) = false := fun k => by
            induction k with
            | zero => exact fun j hj hr h => ⟨j, hr, h, fun i hi => by omega⟩
            | succ k ih =>
              intro j hj hr h
              by_cases hh : ∃ i, i < j ∧ adj (p (r - 1)) (p i) = true
              · obtain ⟨i, hi, h'⟩ := hh
                exact ih i (by omega) (by omega) h'
              · exact ⟨j, hr, h, fun i hi => by
                  cases ha : adj (p (r - 1)) (p i) with
                  | false => rfl
                  | true => exact absurd ⟨i, hi, ha⟩ hh⟩
          exact this j0 j0 (Nat.le_refl _) h1 h2
        have hjr1 : j ≠ r - 1 := fun e => by rw [e, hirr] at hja; cases hja
        -- the ring at the end
        obtain ⟨L, hL⟩ : ∃ L, r = j + L := ⟨r - j, by omega⟩
        have hL2 : 2 ≤ L := by omega
        let inC : Nat → Bool := fun i => (List.range L).any fun t => decide (i = p (j + t))
        have hinC : ∀ i, inC i = true ↔ ∃ t, t < L ∧ i = p (j + t) := fun i => by
          show ((List.range L).any fun t => decide (i = p (j + t))) = true ↔ _
          rw [List.any_eq_true]
          exact ⟨fun ⟨t, ht, e⟩ => ⟨t, List.mem_range.1 ht, by simpa using e⟩, fun ⟨t, ht, e⟩ => ⟨t, List.mem_range.2 ht, by simpa using e⟩⟩
        have hCS : ∀ i, inC i = true → i < n ∧ S i = true := fun i hi => by
          obtain ⟨t, ht, e⟩ := (hinC i).1 hi
          rw [e]; exact HR.in_ _ (by omega)
        have hCpos : 0 < sizeP inC n := by
          have := sizeP_del (A := inC) (i := p j) ((hinC _).2 ⟨0, by omega, rfl⟩) (HR.in_ j hjr).1
          omega
        have hlastC : ∀ z, z < n → S z = true → adj (p (r - 1)) z = true → inC z = true := fun z hz hSz ha => by
          obtain ⟨t, ht, e⟩ := hmax z hz hSz ha
          refine (hinC z).2 ⟨t - j, ?_, ?_⟩
          · rcases Nat.lt_or_ge t j with h | h
            · have := hjleast t h; rw [e, ha] at this; cases this
            · omega
          · rcases Nat.lt_or_ge t j with h | h
            · have := hjleast t h; rw [e, ha] at this; cases this
            · rw [show j + (t - j) = t by omega]; exact e.symm
        have hout : sizeP (fun i => S i && !inC i) n < m := by
          have h1 := sizeP_part S inC n
          have h2 : sizeP (fun i => S i && inC i) n = sizeP inC n := sizeP_congr n fun i _ => by
            cases hc : inC i with
            | false => simp
            | true => simp [(hCS i hc).2]
          omega
        obtain ⟨hd1, hd2⟩ := hsub (fun i => S i && !inC i) fun i _ h => by simp only [Bool.and_eq_true] at h; exact h.1
        obtain ⟨c, hc⟩ := brooks hdn hd hsym hirr (sizeP (fun i => S i && !inC i) n) (fun i => S i && !inC i) rfl hd1 hd2
        by_cases hB : ∃ t u, t < L ∧ u < n ∧ S u = true ∧ inC u = false ∧ adj (p (j + t)) u = true
        · -- the last one of the ring that has a neighbour outside
          obtain ⟨t, u, htL, hu, hSu, huC, hua, htop⟩ : ∃ t u, t + 1 < L ∧ u < n ∧ S u = true ∧ inC u = false ∧ adj (p (j + t)) u = true ∧ ∀ z, z < n → S z = true → inC z = false → adj (p (j + (t + 1))) z = false := by
            have hlast : ∀ z, z < n → S z = true → inC z = false → adj (p (j + (L - 1))) z = false := fun z hz hSz hzC => by
              cases ha : adj (p (j + (L - 1))) z with
              | false => rfl
              | true =>
                rw [show j + (L - 1) = r - 1 by omega] at ha
                rw [hlastC z hz hSz ha] at hzC; cases hzC
            have : ∀ k t u, t + k + 1 = L → u < n → S u = true → inC u = false → adj (p (j + t)) u = true → ∃ t u, t + 1 < L ∧ u < n ∧ S u = true ∧ inC u = false ∧ adj (p (j + t)) u = true ∧ ∀ z, z < n → S z = true → inC z = false → adj (p (j + (t + 1))) z = false := fun k => by
              induction k with
              | zero =>
                intro t u h1 h2 h3 h4 h5
                rw [show t = L - 1 by omega, hlast u h2 h3 h4] at h5; cases h5
              | succ k ih =>
                intro t u h1 h2 h3 h4 h5
                by_cases hh : ∃ z, z < n ∧ S z = true ∧ inC z = false ∧ adj (p (j + (t + 1))) z = true
                · obtain ⟨z, z1, z2, z3, z4⟩ := hh
                  exact ih (t + 1) z (by omega) z1 z2 z3 z4
                · exact ⟨t, u, by omega, h2, h3, h4, h5, fun z z1 z2 z3 => by
                    cases ha : adj (p (j + (t + 1))) z with
                    | false => rfl
                    | true => exact absurd ⟨z, z1, z2, z3, ha⟩ hh⟩
            obtain ⟨t, u, h1, h2, h3, h4, h5⟩ := hB
            exact this (L - 1 - t) t u (by omega) h2 h3 h4 h5
          -- round from the next one
          have hidx : ∀ s, s < L → ∃ q, q < L ∧ (if t + 1 + s < L then t + 1 + s else t + 1 + s - L) = q := fun s hs => ⟨_, by split <;> omega, rfl⟩
          obtain ⟨c', hc'⟩ := ring_col (S := S) (P := fun i => S i && !inC i) (c := c) (L := L) (w := fun s => p (j + (if t + 1 + s < L then t + 1 + s else t + 1 + s - L))) (u := u) hdn hsym hirr hdeg (fun i hi => by simp only [Bool.and_eq_true] at hi; exact hi.1) hc hL2
            (fun s hs => by
              obtain ⟨q, hq, e⟩ := hidx s hs
              rw [e]
              have hqC : inC (p (j + q)) = true := (hinC _).2 ⟨q, hq, rfl⟩
              exact ⟨(hCS _ hqC).1, (hCS _ hqC).2, by simp [hqC]⟩)
            (fun s hs => by
              by_cases h1 : t + 1 + (s + 1) < L
              · simp only [if_pos (show t + 1 + s < L by omega), if_pos h1]
                exact HR.adj_ (j + (t + 1 + s)) (by omega)
              · by_cases h2 : t + 1 + s < L
                · simp only [if_pos h2, if_neg h1]
                  rw [show j + (t + 1 + s) = r - 1 by omega, show j + (t + 1 + (s + 1) - L) = j by omega]
                  exact hja
                · simp only [if_neg h2, if_neg h1]
                  rw [show j + (t + 1 + (s + 1) - L) = j + (t + 1 + s - L) + 1 by omega]
                  exact HR.adj_ _ (by omega))
            (by
              simp only [if_neg (show ¬ t + 1 + (L - 1) < L by omega), if_pos (show t + 1 + 0 < L by omega)]
              rw [show j + (t + 1 + (L - 1) - L) = j + t by omega, show j + (t + 1 + 0) = j + t + 1 by omega]
              exact HR.adj_ _ (by omega))
            (fun a b ha hb e => by
              have h1 := HR.one _ _ (by split <;> omega) (by split <;> omega) e
              split at h1 <;> split at h1 <;> omega)
            hu (by simp [hSu, huC])
            (by
              simp only [if_neg (show ¬ t + 1 + (L - 1) < L by omega)]
              rw [show j + (t + 1 + (L - 1) - L) = j + t by omega]
              exact hua)
            (fun z hz hzP => by
              simp only [Bool.and_eq_true, Bool.not_eq_true'] at hzP
              simp only [if_pos (show t + 1 + 0 < L by omega)]
              rw [show j + (t + 1 + 0) = j + (t + 1) by omega]
              exact htop z hz hzP.1 hzP.2)
          have hS : ∀ i, S i = true → ((S i && !inC i) || (List.range L).any fun s => decide (i = p (j + (if t + 1 + s < L then t + 1 + s else t + 1 + s - L)))) = true := fun i hi => by
            cases hiC : inC i with
            | false => simp [hi]
            | true =>
              obtain ⟨q, hq, e⟩ := (hinC i).1 hiC
              rw [Bool.or_eq_true]
              right
              rw [List.any_eq_true]
              refine ⟨if t + 1 ≤ q then q - (t + 1) else q + L - (t + 1), List.mem_range.2 (by split <;> omega), ?_⟩
              rw [decide_eq_true_eq, e]
              congr 2
              split <;> split <;> omega
          exact ⟨c', ⟨fun i hi h => hc'.lt i hi (hS i h), fun i k hi hk p1 p2 => hc'.ne i k hi hk (hS i p1) (hS k p2)⟩⟩
        · have hclosed : ∀ i z, inC i = true → z < n → S z = true → adj i z = true → inC z = true := fun i z hi hz hSz ha => by
            obtain ⟨t, ht, e⟩ := (hinC i).1 hi
            cases hzC : inC z with
            | true => rfl
            | false => exact absurd ⟨t, z, ht, hz, hSz, hzC, by rw [← e]; exact ha⟩ hB
          by_cases hCall : sizeP inC n < m
          · -- apart
            obtain ⟨e1, e2⟩ := hsub inC fun i _ h => (hCS i h).2
            obtain ⟨c2, hc2⟩ := brooks hdn hd hsym hirr (sizeP inC n) inC rfl e1 e2
            refine ⟨fun i => if inC i = true then c2 i else c i, ⟨fun i hi h => ?_, fun i k hi hk p1 p2 ha => ?_⟩⟩
            · by_cases h1 : inC i = true
              · simp only [if_pos h1]; exact hc2.lt i hi h1
              · simp only [if_neg h1]; exact hc.lt i hi (by simp [h, h1])
            · by_cases h1 : inC i = true <;> by_cases h2 : inC k = true
              · simp only [if_pos h1, if_pos h2]; exact hc2.ne i k hi hk h1 h2 ha
              · exact absurd (hclosed i k h1 hk p2 ha) h2
              · exact absurd (hclosed k i h2 hi p1 (by rw [hsym]; exact ha)) h1
              · simp only [if_neg h1, if_neg h2]; exact hc.ne i k hi hk (by simp [p1, h1]) (by simp [p2, h2]) ha
          · -- the row has all
            have hall : ∀ i, i < n → S i = true → inC i = true := fun i hi hSi => by
              cases hiC : inC i with
              | true => rfl
              | false =>
                have h1 : sizeP inC n < sizeP S n := sizeP_lt (u := i) (fun z hz => (hCS z hz).2) hi hiC hSi
                omega
            have hj0 : j = 0 := by
              obtain ⟨t, ht, e⟩ := (hinC x).1 (hall x hx hSx)
              have := HR.one 0 (j + t) (by omega) (by omega) (by rw [hp0]; exact e)
              omega
            subst hj0
            have hrow : ∀ i, i < n → S i = true → ∃ t, t < r ∧ i = p t := fun i hi hSi => by
              obtain ⟨t, ht, e⟩ := (hinC i).1 (hall i hi hSi)
              rw [Nat.zero_add] at e
              exact ⟨t, by omega, e⟩
            -- a third neighbour of the second
            obtain ⟨k, hk3, hkr, hka⟩ : ∃ k, 3 ≤ k ∧ k < r ∧ adj v (p k) = true := by
              have hdv := hreg v hv hSv
              have e1 := sizeP_del (A := fun u => S u && adj v u) (i := x) (by simp [hSx, hvx]) hx
              have e2 := sizeP_del (A := delB (fun u => S u && adj v u) x) (i := y) (delB_iff.2 ⟨by simp [hSy, hvy], Ne.symm hxy⟩) hy
              unfold degS at hdv
              obtain ⟨z, hz, hzb⟩ := sizeP_pos (show 0 < sizeP (delB (delB (fun u => S u && adj v u) x) y) n by omega)
              obtain ⟨z1, z2⟩ := delB_iff.1 hzb
              obtain ⟨z3, z4⟩ := delB_iff.1 z1
              simp only [Bool.and_eq_true] at z3
              obtain ⟨k, hk, e⟩ := hrow z hz z3.1
              refine ⟨k, ?_, hk, by rw [← e]; exact z3.2⟩
              apply Nat.le_of_not_lt
              intro hlt
              rcases (show k = 0 ∨ k = 1 ∨ k = 2 by omega) with rfl | rfl | rfl
              · exact z4 (e.trans hp0)
              · rw [e, hp1, hirr] at z3; cases z3.2
              · exact z2 (e.trans hp2)
            -- the first and the third
            have hne : ∀ a b, a < r → b < r → a ≠ b → p a ≠ p b := fun a b ha hb hab e => hab (HR.one a b ha hb e)
            have H1 : ColP adj n d (addB (addB (fun _ => false) (p 0)) (p 2)) (fun _ => 0) := by
              refine ⟨fun i hi _ => by omega, fun i z hi hz p1 p2 ha => ?_⟩
              rw [addB_iff, addB_iff] at p1 p2
              exfalso
              have q1 : i = x ∨ i = y := p1.elim (fun h => h.elim (fun h => by cases h) fun h => .inl (h.trans hp0)) fun h => .inr (h.trans hp2)
              have q2 : z = x ∨ z = y := p2.elim (fun h => h.elim (fun h => by cases h) fun h => .inl (h.trans hp0)) fun h => .inr (h.trans hp2)
              rcases q1 with rfl | rfl <;> rcases q2 with rfl | rfl
              · rw [hirr] at ha; cases ha
              · rw [hnxy] at ha; cases ha
              · rw [hsym, hnxy] at ha; cases ha
              · rw [hirr] at ha; cases ha
            have hPS1 : ∀ i, addB (addB (fun _ => false) (p 0)) (p 2) i = true → S i = true := fun i hi => by
              rw [addB_iff, addB_iff] at hi
              rcases hi with (h | h) | h
              · cases h
              · rw [h]; exact (HR.in_ 0 (by omega)).2
              · rw [h]; exact (HR.in_ 2 (by omega)).2
            have hnP : ∀ a, a < r → a ≠ 0 → a ≠ 2 → addB (addB (fun _ => false) (p 0)) (p 2) (p a) = false := fun a ha h0 h2 => by
              rw [Bool.eq_false_iff]
              intro h
              rw [addB_iff, addB_iff] at h
              rcases h with (h | h) | h
              · cases h
              · exact hne a 0 ha (by omega) h0 h
              · exact hne a 2 ha (by omega) h2 h
            -- then those up to the third neighbour, and those behind it from the last one on, it itself: q
            let q : Nat → Nat := fun t => if t + 3 < k then t + 3 else if t + 3 < r then r - 1 - (t + 3 - k) else r
            have hq : ∀ t, t + 3 < r → 3 ≤ q t ∧ q t < r ∧ (∀ t', t' < t → q t' ≠ q t) ∧ ∃ z, z < r ∧ z ≠ 0 ∧ z ≠ 2 ∧ adj (p (q t)) (p z) = true ∧ ∀ t', t' ≤ t → z ≠ q t' := fun t ht => by
              have hqv : ∀ t', t' + 3 < r → q t' = if t' + 3 < k then t' + 3 else r - 1 - (t' + 3 - k) := fun t' h => by
                show (if t' + 3 < k then t' + 3 else if t' + 3 < r then r - 1 - (t' + 3 - k) else r) = _
                rw [if_pos h]
              refine ⟨by rw [hqv t ht]; split <;> omega, by rw [hqv t ht]; split <;> omega, fun t' ht' => by rw [hqv t ht, hqv t' (by omega)]; split <;> split <;> omega, ?_⟩
              by_cases h1 : t + 3 < k
              · refine ⟨t + 4, by omega, by omega, by omega, ?_, fun t' ht' => by rw [hqv t' (by omega), if_pos (by omega)]; omega⟩
                rw [hqv t ht, if_pos h1]
                exact HR.adj_ (t + 3) (by omega)
              · by_cases h2 : t + 4 < r
                · refine ⟨r - 2 - (t + 3 - k), by omega, by omega, by omega, ?_, fun t' ht' => by rw [hqv t' (by omega)]; split <;> omega⟩
                  rw [hqv t ht, if_neg h1]
                  have := HR.adj_ (r - 2 - (t + 3 - k)) (by omega)
                  rw [show r - 2 - (t + 3 - k) + 1 = r - 1 - (t + 3 - k) by omega] at this
                  rw [hsym]; exact this
                · refine ⟨1, by omega, by omega, by omega, ?_, fun t' ht' => by rw [hqv t' (by omega)]; split <;> omega⟩
                  rw [hqv t ht, if_neg h1, show r - 1 - (t + 3 - k) = k by omega, hp1, hsym]
                  exact hka
            obtain ⟨c3, h3, h4⟩ := col_seq hdn hsym hirr hdeg hPS1 H1 (fun t => p (q t)) (r - 3) fun t ht => by
              obtain ⟨b1, b2, b3, z, z1, z2, z3, z4, z5⟩ := hq t (by omega)
              obtain ⟨g1, g2⟩ := HR.in_ (q t) b2
              obtain ⟨g3, g4⟩ := HR.in_ z z1
              refine ⟨g1, g2, hnP _ b2 (by omega) (by omega), fun t' ht' e => b3 t' ht' (HR.one _ _ ((hq t' (by omega)).2.1) b2 e), p z, g3, g4, z4, hnP z z1 z2 z3, fun t' ht' e => z5 t' ht' (HR.one _ _ z1 ((hq t' (by omega)).2.1) e)⟩
            -- at last the second
            have hmem : ∀ i, ((List.range (r - 3)).any fun t => decide (i = p (q t))) = true ↔ ∃ t, t < r - 3 ∧ i = p (q t) := fun i => by
              rw [List.any_eq_true]
              exact ⟨fun ⟨t, ht, e⟩ => ⟨t, List.mem_range.1 ht, by simpa using e⟩, fun ⟨t, ht, e⟩ => ⟨t, List.mem_range.2 ht, by simpa using e⟩⟩
            have hn1 : (addB (addB (fun _ => false) (p 0)) (p 2) (p 1) || (List.range (r - 3)).any fun t => decide (p 1 = p (q t))) = false := by
              rw [hnP 1 (by omega) (by omega) (by omega), Bool.false_or, Bool.eq_false_iff]
              intro h
              obtain ⟨t, ht, e⟩ := (hmem _).1 h
              obtain ⟨b1, b2, _⟩ := hq t (by omega)
              have := HR.one _ _ (by omega) b2 e
              omega
            have h0P : addB (addB (fun _ => false) (p 0)) (p 2) (p 0) = true := addB_iff.2 (.inl (addB_iff.2 (.inr rfl)))
            have h2P : addB (addB (fun _ => false) (p 0)) (p 2) (p 2) = true := addB_iff.2 (.inr rfl)
            obtain ⟨col, g1, g2⟩ := free_col (adj := adj) (n := n) (S := S) (P := fun i => addB (addB (fun _ => false) (p 0)) (p 2) i || (List.range (r - 3)).any fun t => decide (i = p (q t))) (c := c3) hdn (HR.in_ 1 (by omega)).1 (hdeg _ (HR.in_ 1 (by omega)).1 (HR.in_ 1 (by omega)).2) (fun i hi => by
              rcases Bool.or_eq_true _ _ |>.mp hi with hi | hi
              · exact hPS1 i hi
              · obtain ⟨t, ht, e⟩ := (hmem _).1 hi
                rw [e]; exact (HR.in_ _ (hq t (by omega)).2.1).2) (.inr ⟨p 0, p 2, (HR.in_ 0 (by omega)).1, (HR.in_ 2 (by omega)).1, hne 0 2 (by omega) (by omega) (by omega), by simp [h0P], by simp [h2P], by rw [hp1, hp0]; exact hvx, by rw [hp1, hp2]; exact hvy, by rw [h4 _ h0P, h4 _ h2P]⟩)
            have h5 := col_add hsym hirr h3 g1 g2 hn1
            have hfin : ∀ i, i < n → S i = true → addB (fun i => addB (addB (fun _ => false) (p 0)) (p 2) i || (List.range (r - 3)).any fun t => decide (i = p (q t))) (p 1) i = true := fun i hi hSi => by
              obtain ⟨a, ha, e⟩ := hrow i hi hSi
              rw [addB_iff]
              by_cases a1 : a = 1
              · right; rw [e, a1]
              · left
                rw [Bool.or_eq_true]
                by_cases a0 : a = 0
                · left; rw [e, a0]; exact h0P
                · by_cases a2 : a = 2
                  · left; rw [e, a2]; exact h2P
                  · right
                    refine (hmem i).2 ⟨if a < k then a - 3 else k - 3 + (r - 1 - a), by split <;> omega, ?_⟩
                    rw [e]
                    congr 1
                    show a = (if (if a < k then a - 3 else k - 3 + (r - 1 - a)) + 3 < k then _ else _)
                    by_cases hak : a < k
                    · rw [if_pos hak, if_pos (by omega)]; omega
                    · rw [if_neg hak, if_neg (by omega), if_pos (by omega)]; omega
            exact ⟨_, ⟨fun i hi h => h5.lt i hi (hfin i hi h), fun i z hi hz p1 p2 => h5.ne i z hi hz (hfin i hi p1) (hfin z hz p2)⟩⟩
  termination_by m => m
  decreasing_by all_goals omega
end
end Go.Proofs.Ytpcealcghglopaa

namespace Go.Proofs.Ytpcealcghglopaa

def ClqB (adj : Nat → Nat → Bool) (K : BS) : Prop := ∀ i j, K i = true → K j = true → i ≠ j → adj i j = true
def LseB (adj : Nat → Nat → Bool) (K : BS) : Prop := ∀ i j, K i = true → K j = true → adj i j = false
/-- All that some have together. -/
def sumA (A : BS) (f : Nat → Nat) (n : Nat) : Nat := sumTo (fun i => if A i = true then f i else 0) n
section
variable {n : Nat} {A B K : BS} {f g : Nat → Nat} {adj : Nat → Nat → Bool}
theorem sumA_part (A B : BS) (f : Nat → Nat) (n : Nat) : sumA A f n = sumA (fun i => A i && B i) f n + sumA (fun i => A i && !B i) f n := by
  unfold sumA
  rw [← sumTo_add]
  refine sumTo_congr n fun i _ => ?_
  show _ = (if (A i && B i) = true then f i else 0) + (if (A i && !B i) = true then f i else 0)
  cases A i <;> cases B i <;> simp
theorem sumA_le (h : ∀ i, i < n → A i = true → f i ≤ g i) : sumA A f n ≤ sumA A g n := sumTo_le n fun i hi => by
  by_cases ha : A i = true
  · rw [if_pos ha, if_pos ha]; exact h i hi ha
  · rw [if_neg ha, if_neg ha]; exact Nat.le_refl _
theorem sumA_const (A : BS) (c : Nat) : ∀ n, sumA A (fun _ => c) n = sizeP A n * c
  | 0 => by simp [sumA, sizeP, sumTo]
  | n + 1 => by
    have ih := sumA_const A c n
    rw [sizeP_succ]
    unfold sumA at ih ⊢
    simp only [sumTo]
    rw [ih]
    by_cases ha : A n = true
    · rw [if_pos ha, if_pos ha, Nat.add_mul, Nat.one_mul]
    · rw [if_neg ha, if_neg ha]; rfl
theorem sumA_congr (h : ∀ i, i < n → A i = B i) : sumA A f n = sumA B f n := sumTo_congr n fun i hi => by rw [h i hi]
theorem sumA_swap (hsym : ∀ i j, adj i j = adj j i) (A B : BS) (n : Nat) : sumA A (degS adj n B) n = sumA B (degS adj n A) n := by
  have e : ∀ A B : BS, sumA A (degS adj n B) n = sumTo (fun i => sumTo (fun j => if (A i && (B j && adj i j)) = true then 1 else 0) n) n := fun A B => by
    unfold sumA degS sizeP
    refine sumTo_congr n fun i _ => ?_
    cases A i with
    | false => simp only [Bool.false_and, Bool.false_eq_true, if_false]; exact (sumTo_zero n fun _ _ => rfl).symm
    | true => simp only [Bool.true_and, if_true]
  rw [e, e, sumTo_swap (fun i j => if (A i && (B j && adj i j)) = true then 1 else 0) n n]
  refine sumTo_congr n fun i _ => sumTo_congr n fun j _ => ?_
  rw [hsym j i]
  cases A j <;> cases B i <;> simp
theorem arg_min {P : Nat → Prop} (f : Nat → Nat) : ∀ (m v : Nat), f v ≤ m → P v → ∃ w, P w ∧ ∀ u, P u → f w ≤ f u
  | 0, v, hm, hv => ⟨v, hv, fun u _ => by omega⟩
  | m + 1, v, hm, hv => by
    by_cases h : ∃ u, P u ∧ f u < f v
    · obtain ⟨u, hu, hlt⟩ := h
      exact arg_min f m u (by omega) hu
    · exact ⟨v, hv, fun u hu => Nat.le_of_not_lt fun hl => h ⟨u, hu, hl⟩⟩
theorem deg_mono (h : ∀ i, A i = true → B i = true) (v : Nat) : degS adj n A v ≤ degS adj n B v := sizeP_sub fun i _ hi => by
  rw [Bool.and_eq_true] at hi ⊢; exact ⟨h i hi.1, hi.2⟩
/-- CARO, WEI. -/
theorem wei (hsym : ∀ i j, adj i j = adj j i) (hirr : ∀ i, adj i i = false) (L : Nat) : ∀ (c : Nat) (A : BS), sizeP A n ≤ c → (∀ i, A i = true → i < n) →
    ∃ I : BS, (∀ i, I i = true → A i = true) ∧ LseB adj I ∧ sumA A (fun i => L / (degS adj n A i + 1)) n ≤ L * sizeP I n := fun c => by
  induction c with
  | zero =>
    intro A hc hA
    have hno : ∀ i, i < n → A i = false := fun i hi => by
      cases h : A i with
      | false => rfl
      | true => have := sizeP_del h hi; omega
    refine ⟨fun _ => false, fun i hi => (by cases hi), fun i j hi => (by cases hi), ?_⟩
    rw [show sumA A (fun i => L / (degS adj n A i + 1)) n = 0 from sumTo_zero n fun i hi => if_neg (by simp [hno i hi])]
    exact Nat.zero_le _
  | succ c ih =>
    intro A hc hA
    by_cases hex : ∃ v, A v = true
    case neg =>
      have hno : ∀ i, i < n → A i = false := fun i hi => by
        cases h : A i with
        | false => rfl
        | true => exact absurd ⟨i, h⟩ hex
      refine ⟨fun _ => false, fun i hi => (by cases hi), fun i j hi => (by cases hi), ?_⟩
      rw [show sumA A (fun i => L / (degS adj n A i + 1)) n = 0 from sumTo_zero n fun i hi => if_neg (by simp [hno i hi])]
      exact Nat.zero_le _
    obtain ⟨v0, hv0⟩ := hex
    obtain ⟨v, hv, hmin⟩ := arg_min (P := fun v => A v = true) (degS adj n A) _ v0 (Nat.le_refl _) hv0
    have hvn := hA v hv
    let N : BS := fun j => decide (j = v) || adj v j
    let C : BS := fun j => A j && N j
    let D : BS := fun j => A j && !N j
    have hsC : sizeP C n = degS adj n A v + 1 := by
      rw [sizeP_del (A := C) (i := v) (by show (A v && (decide (v = v) || adj v v)) = true; simp [hv]) hvn]
      congr 1
      refine sizeP_congr n fun j _ => ?_
      show (A j && (decide (j = v) || adj v j) && !decide (j = v)) = (A j && adj v j)
      by_cases hj : j = v
      · subst hj; simp [hirr]
      · simp [hj]
    have hpart := sizeP_part A N n
    have hDA : ∀ i, D i = true → A i = true := fun i hi => by
      change (A i && !N i) = true at hi
      rw [Bool.and_eq_true] at hi; exact hi.1
    obtain ⟨I, hI, hl, hs⟩ := ih D (by show sizeP (fun j => A j && !N j) n ≤ c; have : sizeP (fun j => A j && N j) n = _ := hsC; omega) (fun i hi => hA i (hDA i hi))
    have hID : ∀ i, I i = true → adj v i = false ∧ i ≠ v := fun i hi => by
      have h := hI i hi
      change (A i && !(decide (i = v) || adj v i)) = true at h
      simp at h
      exact ⟨h.2.2, h.2.1⟩
    have hIv : I v = false := by
      cases h : I v with
      | false => rfl
      | true => exact absurd rfl (hID v h).2
    refine ⟨insB I v, fun i hi => ?_, fun i j hi hj => ?_, ?_⟩
    · rcases insB_iff.1 hi with h | rfl
      · exact hDA i (hI i h)
      · exact hv
    · rcases insB_iff.1 hi with h | rfl <;> rcases insB_iff.1 hj with h' | rfl
      · exact hl i j h h'
      · rw [hsym]; exact (hID i h).1
      · exact (hID j h').1
      · exact hirr _
    · rw [sizeP_ins hvn hIv, Nat.mul_add, Nat.mul_one, sumA_part A N]
      have h1 : sumA (fun i => A i && N i) (fun i => L / (degS adj n A i + 1)) n ≤ L := by
        refine Nat.le_trans (sumA_le (g := fun _ => L / (degS adj n A v + 1)) fun i _ hi => ?_) ?_
        · refine Nat.div_le_div_left ?_ (by omega)
          have := hmin i (by rw [Bool.and_eq_true] at hi; exact hi.1)
          omega
        · rw [sumA_const, show sizeP (fun i => A i && N i) n = _ from hsC]
          exact Nat.mul_div_le L (degS adj n A v + 1)
      have h2 : sumA (fun i => A i && !N i) (fun i => L / (degS adj n A i + 1)) n ≤ sumA D (fun i => L / (degS adj n D i + 1)) n := sumA_le fun i _ _ => by
        refine Nat.div_le_div_left ?_ (by omega)
        have := deg_mono (adj := adj) (n := n) hDA i
        omega
      omega
theorem turan_num (r m x D S t : Nat) (hm : m = t + x) (hS : S ≤ D + 2 * (t * x)) (hD : D * (r + 1) ≤ r * (x * x)) : S * (r + 2) ≤ (r + 1) * (m * m) := by
  subst hm
  have h1 : S * (r + 2) * (r + 1) ≤ (D + 2 * (t * x)) * (r + 2) * (r + 1) := Nat.mul_le_mul_right _ (Nat.mul_le_mul_right _ hS)
  have h2 : D * (r + 1) * (r + 2) ≤ r * (x * x) * (r + 2) := Nat.mul_le_mul_right _ hD
  have h3 : 2 * (x * ((r + 1) * t)) ≤ x * x + (r + 1) * t * ((r + 1) * t) := by
    generalize (r + 1) * t = y
    rcases Nat.le_total x y with h | h
    · obtain ⟨k, rfl⟩ := Nat.exists_eq_add_of_le h
      have : (0 : Nat) ≤ k * k := Nat.zero_le _
      grind
    · obtain ⟨k, rfl⟩ := Nat.exists_eq_add_of_le h
      have : (0 : Nat) ≤ k * k := Nat.zero_le _
      grind
  refine Nat.le_of_mul_le_mul_right (c := r + 1) ?_ (by omega)
  grind
/-- TURAN, MANTEL. -/
theorem turan (hsym : ∀ i j, adj i j = adj j i) (hirr : ∀ i, adj i i = false) : ∀ (r : Nat) (A : BS), (∀ i, A i = true → i < n) → (∀ K, (∀ i, K i = true → A i = true) → ClqB adj K → sizeP K n ≤ r) →
    sumA A (degS adj n A) n * r ≤ (r - 1) * (sizeP A n * sizeP A n) := fun r => by
  induction r with
  | zero => intro A _ _; simp
  | succ r ih =>
    intro A hA hK
    by_cases hex : ∃ v, A v = true
    case neg =>
      rw [show sumA A (degS adj n A) n = 0 from sumTo_zero n fun i hi => if_neg fun h => hex ⟨i, h⟩]
      simp
    obtain ⟨v0, hv0⟩ := hex
    obtain ⟨v, hv, hmax'⟩ := arg_min (P := fun v => A v = true) (fun v => n - degS adj n A v) _ v0 (Nat.le_refl _) hv0
    have hdn : ∀ u, degS adj n A u ≤ n := fun u => sizeP_le _ _
    have hmax : ∀ u, A u = true → degS adj n A u ≤ degS adj n A v := fun u hu => by
      have := hmax' u hu
      have := hdn u
      have := hdn v
      omega
    have hvn := hA v hv
    let B : BS := fun j => A j && adj v j
    have hBA : ∀ i, B i = true → A i = true := fun i hi => by
      change (A i && adj v i) = true at hi
      rw [Bool.and_eq_true] at hi; exact hi.1
    have hsB : sizeP B n = degS adj n A v := rfl
    have hKB : ∀ K, (∀ i, K i = true → B i = true) → ClqB adj K → sizeP K n ≤ r := fun K h1 h2 => by
      have hKv : K v = false := by
        cases h : K v with
        | false => rfl
        | true =>
          have := h1 v h
          change (A v && adj v v) = true at this
          rw [hirr] at this; simp at this
      have hva : ∀ i, K i = true → adj v i = true := fun i hi => by
        have := h1 i hi
        change (A i && adj v i) = true at this
        rw [Bool.and_eq_true] at this; exact this.2
      have := hK (insB K v) (fun i hi => by
        rcases insB_iff.1 hi with h | rfl
        · exact hBA i (h1 i h)
        · exact hv) (fun i j hi hj hij => by
        rcases insB_iff.1 hi with h | rfl <;> rcases insB_iff.1 hj with h' | rfl
        · exact h2 i j h h' hij
        · rw [hsym]; exact hva i h
        · exact hva j h'
        · exact absurd rfl hij)
      rw [sizeP_ins hvn hKv] at this
      omega
    have hB := ih B (fun i hi => hA i (hBA i hi)) hKB
    -- degrees of the others, twice
    have hpart := sizeP_part A B n
    have hAB : sizeP (fun i => A i && B i) n = degS adj n A v := by
      rw [← hsB]
      refine sizeP_congr n fun i _ => ?_
      show (A i && (A i && adj v i)) = (A i && adj v i)
      cases A i <;> rfl
    have hABs : sumA (fun i => A i && B i) (degS adj n A) n = sumA B (degS adj n A) n := sumA_congr fun i _ => by
      show (A i && (A i && adj v i)) = (A i && adj v i)
      cases A i <;> rfl
    have hadd : sumA B (degS adj n A) n = sumA B (degS adj n B) n + sumA B (degS adj n (fun i => A i && !B i)) n := by
      unfold sumA
      rw [← sumTo_add]
      refine sumTo_congr n fun i _ => ?_
      by_cases hb : B i = true
      · rw [if_pos hb, if_pos hb, if_pos hb]
        have := sizeP_part (fun u => A u && adj i u) B n
        unfold degS
        rw [this]
        congr 1
        · refine sizeP_congr n fun j _ => ?_
          show (A j && adj i j && (A j && adj v j)) = (A j && adj v j && adj i j)
          cases A j <;> cases adj i j <;> cases adj v j <;> rfl
        · refine sizeP_congr n fun j _ => ?_
          show (A j && adj i j && !(A j && adj v j)) = (A j && !(A j && adj v j) && adj i j)
          cases A j <;> cases adj i j <;> cases adj v j <;> rfl
      · rw [if_neg hb, if_neg hb, if_neg hb]
    have hsw : sumA B (degS adj n (fun i => A i && !B i)) n ≤ sumA (fun i => A i && !B i) (degS adj n A) n := by
      rw [sumA_swap hsym]
      exact sumA_le fun i _ _ => deg_mono hBA i
    have hrest : sumA (fun i => A i && !B i) (degS adj n A) n ≤ sizeP (fun i => A i && !B i) n * degS adj n A v := by
      rw [← sumA_const]
      exact sumA_le fun i _ hi => hmax i (by rw [Bool.and_eq_true] at hi; exact hi.1)
    have hall := sumA_part A B (degS adj n A) n
    rw [hABs, hadd] at hall
    rw [hAB] at hpart
    cases r with
    | zero =>
      have hz : ∀ i, i < n → B i = false := fun i hi => by
        cases h : B i with
        | false => rfl
        | true =>
          have := hKB (fun j => decide (j = i)) (fun j hj => by rw [of_decide_eq_true hj]; exact h) (fun a b ha hb hab => absurd ((of_decide_eq_true ha).trans (of_decide_eq_true hb).symm) hab)
          have h2 := sizeP_del (A := fun j => decide (j = i)) (i := i) (by simp) hi
          omega
      have h0 : degS adj n A v = 0 := by rw [← hsB]; exact sizeP_none hz
      have h1 : sumA A (degS adj n A) n ≤ sizeP A n * degS adj n A v := by
        rw [← sumA_const]; exact sumA_le fun i _ hi => hmax i hi
      rw [h0] at h1
      simp at h1 ⊢
      exact h1
    | succ r =>
      exact turan_num r (sizeP A n) (degS adj n A v) (sumA B (degS adj n B) n) (sumA A (degS adj n A) n) (sizeP (fun i => A i && !B i) n) (by omega) (by omega) (by rw [hsB] at hB; exact hB)
/-- All pairs are two by two. -/
theorem even_sum {F : Nat → Nat → Nat} (hs : ∀ i j, F i j = F j i) (hz : ∀ i, F i i = 0) : ∀ n, sumTo (fun i => sumTo (F i) n) n % 2 = 0
  | 0 => rfl
  | n + 1 => by
    have ih := even_sum hs hz n
    have e : sumTo (fun i => sumTo (F i) (n + 1)) (n + 1) = sumTo (fun i => sumTo (F i) n) n + sumTo (fun i => F i n) n + (sumTo (F n) n + F n n) := by
      simp only [sumTo]
      rw [sumTo_add]
    have e2 : sumTo (fun i => F i n) n = sumTo (F n) n := sumTo_congr n fun i _ => hs i n
    rw [e, e2, hz]
    omega
theorem hands_even (hsym : ∀ i j, adj i j = adj j i) (hirr : ∀ i, adj i i = false) (A : BS) (n : Nat) : sumA A (degS adj n A) n % 2 = 0 := by
  have := even_sum (F := fun i j => if (A i && (A j && adj i j)) = true then 1 else 0) (fun i j => by rw [hsym j i]; cases A i <;> cases A j <;> simp) (fun i => by rw [hirr]; simp) n
  rw [← this]
  congr 1
  unfold sumA degS sizeP
  refine sumTo_congr n fun i _ => ?_
  cases A i with
  | false => simp only [Bool.false_and, Bool.false_eq_true, if_false]; exact (sumTo_zero n fun _ _ => rfl).symm
  | true => simp only [Bool.true_and, if_true]
end
section
variable {n : Nat} {A : BS} {R Q : Nat → Nat → Bool}
/-- Of some there are so many of whom each two have it. -/
def Has (R : Nat → Nat → Bool) (n : Nat) (A : BS) (r : Nat) : Prop := ∃ T, (∀ i, T i = true → A i = true) ∧ ClqB R T ∧ r ≤ sizeP T n
theorem has_up {B : BS} {r : Nat} (h : ∀ i, A i = true → B i = true) (H : Has R n A r) : Has R n B r := by
  obtain ⟨T, h1, h2, h3⟩ := H
  exact ⟨T, fun i hi => h i (h1 i hi), h2, h3⟩
theorem has_step (hsym : ∀ i j, R i j = R j i) (hA : ∀ i, A i = true → i < n) {v r : Nat} (hv : A v = true) (H : Has R n (fun j => A j && (!decide (j = v) && R v j)) r) : Has R n A (r + 1) := by
  obtain ⟨T, h1, h2, h3⟩ := H
  have hm : ∀ i, T i = true → A i = true ∧ i ≠ v ∧ R v i = true := fun i hi => by
    have := h1 i hi
    simp at this
    exact this
  have hTv : T v = false := by
    cases h : T v with
    | false => rfl
    | true => exact absurd rfl (hm v h).2.1
  refine ⟨insB T v, fun i hi => ?_, fun i j hi hj hij => ?_, ?_⟩
  · rcases insB_iff.1 hi with h | rfl
    · exact (hm i h).1
    · exact hv
  · rcases insB_iff.1 hi with h | rfl <;> rcases insB_iff.1 hj with h' | rfl
    · exact h2 i j h h' hij
    · rw [hsym]; exact (hm i h).2.2
    · exact (hm j h').2.2
    · exact absurd rfl hij
  · rw [sizeP_ins (hA v hv) hTv]; omega
theorem has_two (hor : ∀ i j, i ≠ j → R i j = true ∨ Q i j = true) (hsym : ∀ i j, R i j = R j i) (hA : ∀ i, A i = true → i < n) {k : Nat} (hk : k ≤ sizeP A n) : Has R n A 2 ∨ Has Q n A k := by
  by_cases h : ∃ i j, A i = true ∧ A j = true ∧ i ≠ j ∧ R i j = true
  · obtain ⟨i, j, hi, hj, hij, hr⟩ := h
    left
    refine has_step hsym hA hi ⟨fun x => decide (x = j), fun x hx => ?_, fun a b ha hb hab => absurd ((of_decide_eq_true ha).trans (of_decide_eq_true hb).symm) hab, ?_⟩
    · rw [of_decide_eq_true hx]; simp [hj, hr, Ne.symm hij]
    · have := sizeP_del (A := fun x => decide (x = j)) (i := j) (by simp) (hA j hj)
      omega
  · right
    exact ⟨A, fun _ h => h, fun i j hi hj hij => (hor i j hij).resolve_left fun hr => h ⟨i, j, hi, hj, hij, hr⟩, hk⟩
/-- Those with whom one has the one or the other are all but him. -/
theorem has_both (hor : ∀ i j, i ≠ j → R i j = true ∨ Q i j = true) (hA : ∀ i, A i = true → i < n) {v : Nat} (hv : A v = true) :
    sizeP A n ≤ sizeP (fun j => A j && (!decide (j = v) && R v j)) n + sizeP (fun j => A j && (!decide (j = v) && Q v j)) n + 1 := by
  rw [sizeP_del hv (hA v hv), sizeP_part (delB A v) (R v) n]
  have h1 : sizeP (fun i => delB A v i && R v i) n = sizeP (fun j => A j && (!decide (j = v) && R v j)) n := sizeP_congr n fun i _ => by
    unfold delB; rw [Bool.and_assoc]
  have h2 : sizeP (fun i => delB A v i && !R v i) n ≤ sizeP (fun j => A j && (!decide (j = v) && Q v j)) n := sizeP_sub fun i _ hi => by
    unfold delB at hi
    simp at hi ⊢
    refine ⟨hi.1.1, hi.1.2, ?_⟩
    rcases hor v i (Ne.symm hi.1.2) with h | h
    · rw [hi.2] at h; cases h
    · exact h
  omega
theorem nei_lt {v : Nat} (hA : ∀ i, A i = true → i < n) : ∀ i, (fun j => A j && (!decide (j = v) && R v j)) i = true → i < n := fun i hi => hA i (by
  simp at hi; exact hi.1)
theorem nei_in {v : Nat} : ∀ i, (fun j => A j && (!decide (j = v) && R v j)) i = true → A i = true := fun i hi => by
  simp at hi; exact hi.1
theorem ramsey33 (hor : ∀ i j, i ≠ j → R i j = true ∨ Q i j = true) (hR : ∀ i j, R i j = R j i) (hQ : ∀ i j, Q i j = Q j i) (hA : ∀ i, A i = true → i < n) (h6 : 6 ≤ sizeP A n) : Has R n A 3 ∨ Has Q n A 3 := by
  obtain ⟨v, _, hv⟩ := sizeP_pos (A := A) (n := n) (by omega)
  have hb := has_both hor hA hv
  rcases Nat.lt_or_ge (sizeP (fun j => A j && (!decide (j = v) && R v j)) n) 3 with h | h
  · have h3 : 3 ≤ sizeP (fun j => A j && (!decide (j = v) && Q v j)) n := by omega
    rcases has_two (R := Q) (Q := R) (fun i j h => (hor i j h).symm) hQ (nei_lt hA) h3 with h' | h'
    · exact .inr (has_step hQ hA hv h')
    · exact .inl (has_up nei_in h')
  · rcases has_two hor hR (nei_lt hA) h with h' | h'
    · exact .inl (has_step hR hA hv h')
    · exact .inr (has_up nei_in h')
theorem ramsey34 (hor : ∀ i j, i ≠ j → R i j = true ∨ Q i j = true) (hR : ∀ i j, R i j = R j i) (hQ : ∀ i j, Q i j = Q j i) (hirr : ∀ i, R i i = false) (hA : ∀ i, A i = true → i < n) (h9 : 9 ≤ sizeP A n) : Has R n A 3 ∨ Has Q n A 4 := by
  by_cases h4 : ∃ v, A v = true ∧ 4 ≤ sizeP (fun j => A j && (!decide (j = v) && R v j)) n
  · obtain ⟨v, hv, h4⟩ := h4
    rcases has_two hor hR (nei_lt hA) h4 with h' | h'
    · exact .inl (has_step hR hA hv h')
    · exact .inr (has_up nei_in h')
  by_cases h6 : ∃ v, A v = true ∧ 6 ≤ sizeP (fun j => A j && (!decide (j = v) && Q v j)) n
  · obtain ⟨v, hv, h6⟩ := h6
    rcases ramsey33 hor hR hQ (nei_lt hA) h6 with h' | h'
    · exact .inl (has_up nei_in h')
    · exact .inr (has_step hQ hA hv h')
  have h3 : ∀ v, A v = true → degS R n A v = 3 ∧ sizeP A n = 9 := fun v hv => by
    have hb := has_both hor hA hv
    have h1 : sizeP (fun j => A j && (!decide (j = v) && R v j)) n < 4 := Nat.lt_of_not_le fun h => h4 ⟨v, hv, h⟩
    have h2 : sizeP (fun j => A j && (!decide (j = v) && Q v j)) n < 6 := Nat.lt_of_not_le fun h => h6 ⟨v, hv, h⟩
    have e : degS R n A v = sizeP (fun j => A j && (!decide (j = v) && R v j)) n := sizeP_congr n fun j _ => by
      by_cases hj : j = v
      · subst hj; simp [hirr]
      · simp [hj]
    omega
  obtain ⟨v, _, hv⟩ := sizeP_pos (A := A) (n := n) (by omega)
  have he := hands_even hR hirr A n
  have hs : sumA A (degS R n A) n = sumA A (fun _ => 3) n := sumTo_congr n fun i _ => by
    by_cases hi : A i = true
    · rw [if_pos hi, if_pos hi]; exact (h3 i hi).1
    · rw [if_neg hi, if_neg hi]
  rw [hs, sumA_const, (h3 v hv).2] at he
  omega
end
end Go.Proofs.Ytpcealcghglopaa

namespace Go.Proofs.Ytpcealcghglopaa

theorem adj_deg (m : Nat) (i : Nat) : ∀ es : List E3, sizeP (adjE es i) m ≤ degN es i
  | [] => by rw [show sizeP (adjE [] i) m = 0 from sizeP_none fun j _ => rfl]; exact Nat.zero_le _
  | e :: r => by
    have ih := adj_deg m i r
    have hcons : ∀ j, adjE (e :: r) i j = true ↔ ((e.1 = (i : Int) ∧ e.2.1 = (j : Int)) ∨ (e.1 = (j : Int) ∧ e.2.1 = (i : Int))) ∨ adjE r i j = true := fun j => by
      unfold adjE
      rw [List.any_cons, Bool.or_eq_true]
      simp
    have hd : degN (e :: r) i = degN r i + (if touchB i e = true then 1 else 0) := by
      unfold degN
      rw [List.filter_cons]
      split <;> simp
    by_cases ht : touchB i e = true
    · rw [hd, if_pos ht]
      obtain ⟨j0, hj0⟩ : ∃ j0 : Int, ∀ j : Nat, ((e.1 = (i : Int) ∧ e.2.1 = (j : Int)) ∨ (e.1 = (j : Int) ∧ e.2.1 = (i : Int))) → (j : Int) = j0 := by
        by_cases h : e.1 = (i : Int)
        · exact ⟨e.2.1, fun j hj => by omega⟩
        · exact ⟨e.1, fun j hj => by omega⟩
      have h1 : sizeP (adjE (e :: r) i) m ≤ sizeP (fun j => decide ((j : Int) = j0)) m + sizeP (adjE r i) m := by
        have hp := sizeP_part (adjE (e :: r) i) (adjE r i) m
        have ha : sizeP (fun j => adjE (e :: r) i j && adjE r i j) m ≤ sizeP (adjE r i) m := sizeP_sub fun j _ h => by
          rw [Bool.and_eq_true] at h; exact h.2
        have hb : sizeP (fun j => adjE (e :: r) i j && !adjE r i j) m ≤ sizeP (fun j => decide ((j : Int) = j0)) m := sizeP_sub fun j _ h => by
          rw [Bool.and_eq_true, Bool.not_eq_true'] at h
          rcases (hcons j).1 h.1 with h2 | h2
          · exact decide_eq_true (hj0 j h2)
          · rw [h2] at h; cases h.2
        omega
      have h2 : sizeP (fun j => decide ((j : Int) = j0)) m ≤ 1 := by
        have h := sizeP_inj (n := m) (A := fun j => decide ((j : Int) = j0)) (B := fun j => decide (j = 0)) (m := fun _ => 0)
        rcases Nat.lt_or_ge 1 (sizeP (fun j => decide ((j : Int) = j0)) m) with h3 | h3
        · obtain ⟨x, hx, hxj, _⟩ := sizeP_two (t := j0.toNat) (show 2 ≤ sizeP (fun j => decide ((j : Int) = j0)) m by omega)
          have := of_decide_eq_true hxj
          omega
        · exact h3
      omega
    · rw [hd, if_neg ht]
      have h1 : sizeP (adjE (e :: r) i) m ≤ sizeP (adjE r i) m := sizeP_sub fun j _ h => by
        rcases (hcons j).1 h with h2 | h2
        · exfalso
          apply ht
          unfold touchB
          rw [Bool.or_eq_true, beq_iff_eq, beq_iff_eq]
          omega
        · exact h2
      omega
end Go.Proofs.Ytpcealcghglopaa

namespace Go.Proofs.Ytpcealcghglopaa

theorem left_some : ∀ (n : Nat) (l : List Nat), l.length < n → ∃ i, i < n ∧ i ∉ l := fun n l hl => by
  apply Classical.byContradiction
  intro hc
  have hall : ∀ i, i < n → i ∈ l := fun i hi => Classical.byContradiction fun h => hc ⟨i, hi, h⟩
  have key : ∀ (n : Nat) (l : List Nat), (∀ i, i < n → i ∈ l) → n ≤ l.length := fun n => by
    induction n with
    | zero => exact fun _ _ => Nat.zero_le _
    | succ n ih =>
      intro l h
      have h1 := ih (l.filter fun x => x != n) fun i hi => by
        rw [List.mem_filter]
        exact ⟨h i (by omega), by simp; omega⟩
      have h2 : (l.filter fun x => x != n).length < l.length := by
        rw [List.length_filter_lt_length_iff_exists]
        exact ⟨n, h n (by omega), by simp⟩
      omega
  have := key n l hall
  omega
theorem all_of_nodup : ∀ (n : Nat) (l : List Nat), l.Nodup → (∀ x ∈ l, x < n) → n ≤ l.length → ∀ i, i < n → i ∈ l := fun n l hn hl hlen i hi => by
  apply Classical.byContradiction
  intro hc
  have key : ∀ (n : Nat) (l : List Nat), l.Nodup → (∀ x ∈ l, x < n) → l.length ≤ n := fun n => by
    induction n with
    | zero =>
      intro l _ h
      cases l with
      | nil => exact Nat.le_refl _
      | cons x l => exact absurd (h x (List.mem_cons_self ..)) (by omega)
    | succ n ih =>
      intro l hn h
      by_cases hm : n ∈ l
      · have h1 := ih (l.erase n) (hn.erase _) fun x hx => by
          have hx1 := h x (List.mem_of_mem_erase hx)
          have hx2 : x ≠ n := fun e => by
            subst e
            exact (List.Nodup.not_mem_erase hn) hx
          omega
        have h2 := List.length_erase_of_mem hm
        have h3 := List.length_pos_of_mem hm
        omega
      · have h1 := ih l hn fun x hx => by
          have hx1 := h x hx
          have hx2 : x ≠ n := fun e => by subst e; exact hm hx
          omega
        omega
  have h1 := key n (i :: l) (List.nodup_cons.2 ⟨hc, hn⟩) fun x hx => by
    rcases List.mem_cons.1 hx with rfl | hx
    · exact hi
    · exact hl x hx
  simp only [List.length_cons] at h1
  omega
end Go.Proofs.Ytpcealcghglopaa

namespace Go.Proofs.Ytpcealcghglopaa

def Words (m : Nat) (ar : List Nat) : Prop := ∀ i, ar.getD i 0 < 2 ^ m
def nbStep (i : Nat) (acc : Nat) (e : E3) : Nat := if e.1 = (i : Int) then acc ||| 2 ^ e.2.1.toNat else if e.2.1 = (i : Int) then acc ||| 2 ^ e.1.toNat else acc
def nbW (es : List E3) (i : Nat) : Nat := es.foldl (nbStep i) 0
def nbL (m : Nat) (es : List E3) : List Nat := (List.range m).map (nbW es)
theorem nbL_length (m : Nat) (es : List E3) : (nbL m es).length = m := by simp [nbL]
theorem nbL_get {m : Nat} (es : List E3) {i : Nat} (h : i < m) : (nbL m es)[i]? = some (nbW es i) := by simp [nbL, h]
theorem nbL_nil (m : Nat) : nbL m [] = List.replicate m 0 := by
  apply List.ext_getElem
  · simp [nbL]
  · intro i h1 h2
    simp [nbL, nbW]
theorem nbW_next (es : List E3) (k i : Nat) (x : E3) (h : es[k]? = some x) : nbW (es.take (k + 1)) i = nbStep i (nbW (es.take k) i) x := by
  obtain ⟨hk, rfl⟩ := List.getElem?_eq_some_iff.1 h
  unfold nbW
  rw [List.take_succ_eq_append_getElem hk, List.foldl_append]
  rfl
theorem nbL_next (m : Nat) (es : List E3) (k i j : Nat) (c : Int) (hij : i ≠ j) (h : es[k]? = some ((i : Int), (j : Int), c)) :
    ((nbL m (es.take k)).set i (nbW (es.take k) i ||| 2 ^ j)).set j (nbW (es.take k) j ||| 2 ^ i) = nbL m (es.take (k + 1)) := by
  apply List.ext_getElem
  · simp [nbL]
  · intro x h1 h2
    simp only [List.length_set, nbL_length] at h1
    rw [List.getElem_set, List.getElem_set]
    simp only [nbL, List.getElem_map, List.getElem_range]
    rw [nbW_next es k x _ h]
    by_cases hx : j = x
    · subst hx
      have : ¬ ((i : Int) = (j : Int)) := by omega
      simp [nbStep, this]
    · by_cases hx2 : i = x
      · subst hx2; simp [nbStep, hx]
      · have e1 : ¬ ((i : Int) = (x : Int)) := by omega
        have e2 : ¬ ((j : Int) = (x : Int)) := by omega
        simp [nbStep, hx, hx2, e1, e2]
theorem nbW_lt {m : Nat} {es : List E3} (hg : goodE m es) (i : Nat) : ∀ k, nbW (es.take k) i < 2 ^ m
  | 0 => by simp [nbW]; exact Nat.two_pow_pos m
  | k + 1 => by
    have ih := nbW_lt hg i k
    rcases Nat.lt_or_ge k es.length with hk | hk
    · have hx : es[k]? = some es[k] := List.getElem?_eq_getElem hk
      obtain ⟨p0, p1, p2, p3, _, _⟩ := edge_ok (hg k _ hx)
      rw [nbW_next es k i _ hx]
      unfold nbStep
      split
      · exact Nat.or_lt_two_pow ih (Nat.pow_lt_pow_right (by decide) (by omega))
      · split
        · exact Nat.or_lt_two_pow ih (Nat.pow_lt_pow_right (by decide) (by omega))
        · exact ih
    · rw [List.take_of_length_le (by omega)]
      rw [List.take_of_length_le (by omega)] at ih
      exact ih
theorem nbL_words {m : Nat} {es : List E3} (hg : goodE m es) : Words m (nbL m es) := fun i => by
  rw [List.getD_eq_getElem?_getD]
  rcases Nat.lt_or_ge i m with hi | hi
  · rw [nbL_get es hi]
    have := nbW_lt hg i es.length
    rw [List.take_length] at this
    exact this
  · rw [List.getElem?_eq_none (by rw [nbL_length]; omega)]
    exact Nat.two_pow_pos m

theorem nbW_bit {m : Nat} {es : List E3} (hg : goodE m es) (i j : Nat) : ∀ k, (nbW (es.take k) i).testBit j = adjE (es.take k) i j
  | 0 => by simp [nbW, adjE]
  | k + 1 => by
    have ih := nbW_bit hg i j k
    rcases Nat.lt_or_ge k es.length with hk | hk
    · have hx : es[k]? = some es[k] := List.getElem?_eq_getElem hk
      obtain ⟨p0, p1, p2, p3, p4, _⟩ := edge_ok (hg k _ hx)
      rw [nbW_next es k i _ hx, List.take_succ_eq_append_getElem hk]
      generalize es[k] = e at hx p0 p1 p2 p3 p4
      obtain ⟨a, b, c⟩ := e
      simp only at p0 p1 p2 p3 p4
      obtain ⟨a, rfl⟩ := Int.eq_ofNat_of_zero_le p0
      obtain ⟨b, rfl⟩ := Int.eq_ofNat_of_zero_le p2
      unfold adjE at ih ⊢
      rw [any_snoc, ← ih]
      unfold nbStep
      simp only [Int.toNat_natCast]
      by_cases h1 : (a : Int) = (i : Int)
      · rw [if_pos h1, Nat.testBit_or, Nat.testBit_two_pow]
        congr 1
        rw [Bool.eq_iff_iff]
        simp
        omega
      · rw [if_neg h1]
        by_cases h2 : (b : Int) = (i : Int)
        · rw [if_pos h2, Nat.testBit_or, Nat.testBit_two_pow]
          congr 1
          rw [Bool.eq_iff_iff]
          simp
          omega
        · rw [if_neg h2]
          have : (((a : Int) == (i : Int) && (b : Int) == (j : Int)) || ((a : Int) == (j : Int) && (b : Int) == (i : Int))) = false := by simp; omega
          simp only [this, Bool.or_false]
    · rw [List.take_of_length_le (by omega)]
      rw [List.take_of_length_le (by omega)] at ih
      exact ih
theorem nbL_bit {m : Nat} {es : List E3} (hg : goodE m es) {i : Nat} (hi : i < m) (j : Nat) : ((nbL m es).getD i 0).testBit j = adjE es i j := by
  rw [List.getD_eq_getElem?_getD, nbL_get es hi]
  have := nbW_bit hg i j es.length
  rw [List.take_length] at this
  exact this
end Go.Proofs.Ytpcealcghglopaa

namespace Go.Proofs.Ytpcealcghglopaa

def eachB (n : Nat) (xs : List Int) : Bool := decide (xs.Nodup ∧ ∀ x ∈ xs, 0 ≤ x ∧ x < (n : Int))
theorem eachB_iff {n : Nat} {xs : List Int} : eachB n xs = true ↔ xs.Nodup ∧ ∀ x ∈ xs, 0 ≤ x ∧ x < (n : Int) := by unfold eachB; rw [decide_eq_true_iff]
/-- A word says which ones there were. -/
structure EachTo (n : Nat) (ys : List Int) (s : Nat) : Prop where
  nd : ys.Nodup
  rng : ∀ x ∈ ys, 0 ≤ x ∧ x < (n : Int)
  bit : ∀ v : Nat, s.testBit v = true ↔ (v : Int) ∈ ys
theorem EachTo.next {n s v : Nat} {ys : List Int} (h : EachTo n ys s) (hv : v < n) (hb : s.testBit v = false) : EachTo n (ys ++ [(v : Int)]) (s ||| 2 ^ v) := by
  refine ⟨?_, fun x hx => ?_, fun u => ?_⟩
  · rw [List.nodup_append]
    refine ⟨h.nd, by simp, fun a ha b hb' => ?_⟩
    rw [List.mem_singleton.1 hb']
    rintro rfl
    rw [(h.bit v).2 ha] at hb; cases hb
  · rcases List.mem_append.1 hx with hx | hx
    · exact h.rng x hx
    · rw [List.mem_singleton.1 hx]; omega
  · rw [Nat.testBit_or, Nat.testBit_two_pow, Bool.or_eq_true, h.bit u, List.mem_append, List.mem_singleton, decide_eq_true_iff]
    exact or_congr Iff.rfl ⟨fun e => by omega, fun e => by omega⟩
theorem eachB_false {n k s : Nat} {xs : List Int} {x : Int} (h : EachTo n (xs.take k) s) (hx : xs[k]? = some x) (hb : x < 0 ∨ (n : Int) ≤ x ∨ ∃ v : Nat, x = (v : Int) ∧ s.testBit v = true) : eachB n xs = false := by
  rw [Bool.eq_false_iff, Ne, eachB_iff]
  rintro ⟨h1, h2⟩
  have hr := h2 x (List.mem_of_getElem? hx)
  rcases hb with hb | hb | ⟨v, rfl, hb⟩
  · omega
  · omega
  · have hm := (h.bit v).1 hb
    obtain ⟨h3, h4⟩ := List.getElem?_eq_some_iff.1 hx
    have h5 : (xs.take (k + 1)).Nodup := h1.sublist (List.take_sublist _ _)
    rw [List.take_succ_eq_append_getElem h3, h4, List.nodup_append] at h5
    exact h5.2.2 _ hm _ (List.mem_singleton.2 rfl) rfl
end Go.Proofs.Ytpcealcghglopaa
