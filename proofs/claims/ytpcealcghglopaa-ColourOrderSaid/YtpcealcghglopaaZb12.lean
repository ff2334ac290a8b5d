/- Plain facts and small walks that the others lean on, in one text: SpanPlain, MinR. No conditions. -/
import Derived.Test.YtpcealcghglopaaZb1
import Derived.Test.YtpcealcghglopaaZRefDist
namespace Go.Proofs.Ytpcealcghglopaa

/-! Who is linked, and how many parts there are, of any list of edges. -/
theorem adjE_mem {F : List E3} {i j : Nat} : adjE F i j = true ↔ ∃ e ∈ F, (e.1 = (i : Int) ∧ e.2.1 = (j : Int)) ∨ (e.1 = (j : Int) ∧ e.2.1 = (i : Int)) := by
  unfold adjE
  rw [List.any_eq_true]
  simp
theorem Rch.lift {F G : List E3} (h : ∀ e ∈ F, ∀ a b : Nat, e.1 = (a : Int) → e.2.1 = (b : Int) → Rch G a b) {i j : Nat} (hr : Rch F i j) : Rch G i j := by
  obtain ⟨k, hk⟩ := hr
  induction k generalizing j with
  | zero => cases hk; exact Rch.refl G _
  | succ k ih =>
    obtain ⟨x, hx, ha⟩ := hk
    obtain ⟨e, he, h1⟩ := adjE_mem.1 ha
    refine (ih hx).trans ?_
    rcases h1 with ⟨p, q⟩ | ⟨p, q⟩
    · exact h e he _ _ p q
    · exact (h e he _ _ p q).symm
theorem Rch.edge {G : List E3} {e : E3} (he : e ∈ G) {a b : Nat} (h1 : e.1 = (a : Int)) (h2 : e.2.1 = (b : Int)) : Rch G a b := ⟨1, wk_one.2 (adjE_mem.2 ⟨e, he, .inl ⟨h1, h2⟩⟩)⟩
theorem Rch.sub {F G : List E3} (h : ∀ e ∈ F, e ∈ G) {i j : Nat} (hr : Rch F i j) : Rch G i j := hr.lift fun e he _ _ h1 h2 => Rch.edge (h e he) h1 h2
theorem Root.anti {F G : List E3} (h : ∀ i j, Rch F i j → Rch G i j) {i : Nat} (hr : Root G i) : Root F i := fun j hj hr' => hr j hj (h i j hr')
theorem rootsN_mono {F G : List E3} (m : Nat) (h : ∀ i j, Rch F i j → Rch G i j) : rootsN m G ≤ rootsN m F := by
  unfold rootsN
  refine List.countP_mono_left fun i _ hp => ?_
  simp only [decide_eq_true_eq] at hp ⊢
  exact Root.anti h hp
theorem rootsN_congr {F G : List E3} (m : Nat) (h : ∀ i j, Rch F i j ↔ Rch G i j) : rootsN m F = rootsN m G :=
  Nat.le_antisymm (rootsN_mono m fun i j => (h i j).2) (rootsN_mono m fun i j => (h i j).1)
theorem countP_lt {p q : Nat → Bool} {l : List Nat} {x : Nat} (hx : x ∈ l) (h : ∀ i ∈ l, p i = true → q i = true) (hp : p x = false) (hq : q x = true) : l.countP p < l.countP q := by
  induction l with
  | nil => simp at hx
  | cons a l ih =>
    have hm : l.countP p ≤ l.countP q := List.countP_mono_left fun i hi => h i (List.mem_cons_of_mem _ hi)
    simp only [List.countP_cons]
    rcases List.mem_cons.1 hx with rfl | hx
    · rw [if_neg (by simp [hp]), if_pos hq]; omega
    · have := ih hx (fun i hi => h i (List.mem_cons_of_mem _ hi))
      have ha := h a (List.mem_cons_self ..)
      by_cases hpa : p a = true
      · rw [if_pos hpa, if_pos (ha hpa)]; omega
      · rw [if_neg hpa]; split <;> omega
/-- An edge between two parts makes one of them. -/
theorem rootsN_link {F : List E3} {m a b : Nat} {c : Int} (ha : a < m) (hb : b < m) (h : ¬ Rch F a b) : rootsN m (F ++ [((a : Int), (b : Int), c)]) + 1 = rootsN m F := by
  have h1 := rootsN_add m F a b c
  obtain ⟨ra, la, lra, rra⟩ := least_root F a
  obtain ⟨rb, lb, lrb, rrb⟩ := least_root F b
  have hne : ra ≠ rb := fun e => h (lra.trans (by rw [e]; exact lrb.symm))
  have hsub : ∀ i j, Rch F i j → Rch (F ++ [((a : Int), (b : Int), c)]) i j := fun i j hr => hr.sub fun e he => List.mem_append_left _ he
  have hab : Rch (F ++ [((a : Int), (b : Int), c)]) ra rb := ((hsub _ _ lra).symm.trans (Rch.edge (List.mem_append_right _ (List.mem_singleton.2 rfl)) rfl rfl)).trans (hsub _ _ lrb)
  have h2 : rootsN m (F ++ [((a : Int), (b : Int), c)]) < rootsN m F := by
    unfold rootsN
    have key : ∀ x, x < m → Root F x → ¬ Root (F ++ [((a : Int), (b : Int), c)]) x → (List.range m).countP (fun i => @decide (Root (F ++ [((a : Int), (b : Int), c)]) i) (Classical.propDecidable _)) < (List.range m).countP (fun i => @decide (Root F i) (Classical.propDecidable _)) := fun x hx h1 h2 =>
      countP_lt (x := x) (List.mem_range.2 hx) (fun i _ hp => by
        simp only [decide_eq_true_eq] at hp ⊢
        exact Root.anti hsub hp) (by simpa using h2) (by simpa using h1)
    rcases Nat.lt_or_ge ra rb with hlt | hge
    · exact key rb (by omega) rrb (fun hr => hr ra hlt hab.symm)
    · exact key ra (by omega) rra (fun hr => hr rb (by omega) hab)
  omega
theorem InE.nats {m : Nat} {e : E3} (h : 0 ≤ e.1 ∧ e.1 < (m : Int) ∧ 0 ≤ e.2.1 ∧ e.2.1 < (m : Int)) : ∃ (a b : Nat) (c : Int), e = ((a : Int), (b : Int), c) ∧ a < m ∧ b < m := by
  obtain ⟨x, y, c⟩ := e
  obtain ⟨h0, h1, h2, h3⟩ := h
  simp only at h0 h1 h2 h3
  obtain ⟨a, rfl⟩ := Int.eq_ofNat_of_zero_le h0
  obtain ⟨b, rfl⟩ := Int.eq_ofNat_of_zero_le h2
  exact ⟨a, b, c, rfl, by omega, by omega⟩
/-- With more edges there are no more parts; with so many fewer edges at most so many more. -/
theorem rootsN_more {m : Nat} (F : List E3) : ∀ G : List E3, InE m G → rootsN m F ≤ rootsN m (F ++ G) + G.length
  | [], _ => by simp
  | e :: G, h => by
    obtain ⟨a, b, c, rfl, ha, hb⟩ := InE.nats (h e (List.mem_cons_self ..))
    have ih := rootsN_more (F ++ [((a : Int), (b : Int), c)]) G (fun e he => h e (List.mem_cons_of_mem _ he))
    have h1 := rootsN_add m F a b c
    rw [List.append_assoc] at ih
    simp only [List.length_cons]
    show rootsN m F ≤ rootsN m (F ++ ([((a : Int), (b : Int), c)] ++ G)) + _
    omega
theorem rootsN_all {m : Nat} {F : List E3} (h : InE m F) : m ≤ rootsN m F + F.length := by
  have := rootsN_more [] F h
  rw [rootsN_nil] at this
  simpa using this

/-! Places of edges. -/
def edgeAt (es : List E3) (i : Nat) : E3 := es.getD i (0, 0, 0)
def wAt (es : List E3) (i : Nat) : Int := (edgeAt es i).2.2
/-- Is one edge ahead of another one? -/
def aheadB (es : List E3) (j i : Nat) : Bool := decide (wAt es j < wAt es i) || (wAt es j == wAt es i && decide (j < i))
theorem ahead_iff {es : List E3} {j i : Nat} : aheadB es j i = true ↔ wAt es j < wAt es i ∨ (wAt es j = wAt es i ∧ j < i) := by simp [aheadB]
theorem ahead_trans {es : List E3} {i j k : Nat} (h1 : aheadB es i j = true) (h2 : aheadB es j k = true) : aheadB es i k = true := by
  rw [ahead_iff] at *; omega
theorem ahead_irr {es : List E3} {i : Nat} : aheadB es i i = false := by
  cases h : aheadB es i i with
  | false => rfl
  | true => rw [ahead_iff] at h; omega
theorem ahead_total {es : List E3} {i j : Nat} (h : i ≠ j) : aheadB es i j = true ∨ aheadB es j i = true := by
  rw [ahead_iff, ahead_iff]; omega
/-- The edges at some places. -/
def eg (es : List E3) (S : List Nat) : List E3 := S.map (edgeAt es)
theorem eg_len (es : List E3) (S : List Nat) : (eg es S).length = S.length := by simp [eg]
theorem eg_sub {es : List E3} {S T : List Nat} (h : ∀ i ∈ S, i ∈ T) : ∀ e ∈ eg es S, e ∈ eg es T := fun e he => by
  obtain ⟨i, hi, rfl⟩ := List.mem_map.1 he
  exact List.mem_map_of_mem (h i hi)
theorem edgeAt_mem {es : List E3} {i : Nat} (h : i < es.length) : edgeAt es i ∈ es := by
  unfold edgeAt
  rw [List.getD_eq_getElem?_getD, List.getElem?_eq_getElem h]
  exact List.getElem_mem h
theorem eg_in {m : Nat} {es : List E3} (hin : InE m es) {S : List Nat} (h : ∀ i ∈ S, i < es.length) : InE m (eg es S) := fun e he => by
  obtain ⟨i, hi, rfl⟩ := List.mem_map.1 he
  exact hin _ (edgeAt_mem (h i hi))
def allS (es : List E3) : List Nat := List.range es.length
theorem eg_all (es : List E3) : eg es (allS es) = es := by
  apply List.ext_getElem
  · simp [eg, allS]
  · intro i h1 h2
    simp [eg, allS, edgeAt, List.getD_eq_getElem?_getD, List.getElem?_eq_getElem h2]
/-- Those ahead of one. -/
def aheadS (es : List E3) (i : Nat) : List Nat := (allS es).filter fun j => aheadB es j i
theorem mem_aheadS {es : List E3} {i j : Nat} : j ∈ aheadS es i ↔ j < es.length ∧ aheadB es j i = true := by simp [aheadS, allS]
/-- Its nodes are not linked by those ahead of it. -/
def Kept (es : List E3) (i : Nat) : Prop := i < es.length ∧ ∀ a b : Nat, (edgeAt es i).1 = (a : Int) → (edgeAt es i).2.1 = (b : Int) → ¬ Rch (eg es (aheadS es i)) a b
open Classical in
noncomputable def keptS (es : List E3) : List Nat := (allS es).filter fun i => decide (Kept es i)
theorem mem_keptS {es : List E3} {i : Nat} : i ∈ keptS es ↔ Kept es i := by
  simp only [keptS, allS, List.mem_filter, List.mem_range, decide_eq_true_eq]
  exact ⟨fun h => h.2, fun h => ⟨h.1, h⟩⟩

theorem filter_len (p : Nat → Bool) (l : List Nat) : (l.filter p).length = l.countP p := (List.countP_eq_length_filter ..).symm
section
variable {m : Nat} {es : List E3}
theorem aheadS_lt {i j : Nat} (h : aheadB es j i = true) (hj : j < es.length) : (aheadS es j).length < (aheadS es i).length := by
  unfold aheadS
  rw [filter_len, filter_len]
  exact countP_lt (x := j) (List.mem_range.2 hj) (fun k _ hk => ahead_trans hk h) ahead_irr h
/-- An edge's nodes are linked by kept ones that are no later than it. -/
theorem kept_links (hin : InE m es) : ∀ (n i : Nat), (aheadS es i).length < n → i < es.length → ∀ a b : Nat, (edgeAt es i).1 = (a : Int) → (edgeAt es i).2.1 = (b : Int) → ∀ S : List Nat, (∀ j, Kept es j → (aheadB es j i = true ∨ j = i) → j ∈ S) → Rch (eg es S) a b
  | 0, _, h, _, _, _, _, _, _, _ => by omega
  | n + 1, i, hn, hi, a, b, ha, hb, S, hS => by
    by_cases hk : Kept es i
    · exact Rch.edge (List.mem_map_of_mem (hS i hk (.inr rfl))) ha hb
    · have hr : Rch (eg es (aheadS es i)) a b := by
        apply Classical.byContradiction
        intro hno
        exact hk ⟨hi, fun x y hx hy => by
          obtain rfl : x = a := by omega
          obtain rfl : y = b := by omega
          exact hno⟩
      refine hr.lift fun e he x y hx hy => ?_
      obtain ⟨j, hj, rfl⟩ := List.mem_map.1 he
      obtain ⟨hjl, hja⟩ := mem_aheadS.1 hj
      refine kept_links hin n j (by have := aheadS_lt hja hjl; omega) hjl x y hx hy S fun k hk hkj => hS k hk (.inl ?_)
      rcases hkj with h | rfl
      · exact ahead_trans h hja
      · exact hja
/-- The kept ones link whatever all do; those below a weight whatever all below it do. -/
theorem kept_span (hin : InE m es) {T : List Nat} (hT : ∀ i ∈ T, i < es.length) (hdown : ∀ i j, i ∈ T → j < es.length → aheadB es j i = true → j ∈ T) {S : List Nat} (hS : ∀ i, Kept es i → i ∈ T → i ∈ S) {i j : Nat} (h : Rch (eg es T) i j) : Rch (eg es S) i j := by
  refine h.lift fun e he x y hx hy => ?_
  obtain ⟨k, hk, rfl⟩ := List.mem_map.1 he
  refine kept_links hin _ k (Nat.lt_succ_self _) (hT k hk) x y hx hy S fun l hl hlk => hS l hl ?_
  rcases hlk with h | rfl
  · exact hdown k l hk hl.1 h
  · exact hk

/-- Some of a list is the last of it. -/
theorem last_of {S : List Nat} (h : S ≠ []) : ∃ i ∈ S, ∀ j ∈ S, j ≠ i → aheadB es j i = true := by
  induction S with
  | nil => exact absurd rfl h
  | cons x S ih =>
    by_cases hS : S = []
    · subst hS
      exact ⟨x, List.mem_cons_self .., fun j hj hne => by simp at hj; exact absurd hj hne⟩
    · obtain ⟨i, hi, hl⟩ := ih hS
      by_cases hxi : x = i
      · subst hxi
        exact ⟨x, List.mem_cons_self .., fun j hj hne => by
          rcases List.mem_cons.1 hj with rfl | hj
          · exact absurd rfl hne
          · exact hl j hj hne⟩
      · rcases ahead_total (es := es) hxi with h1 | h1
        · refine ⟨i, List.mem_cons_of_mem _ hi, fun j hj hne => ?_⟩
          rcases List.mem_cons.1 hj with rfl | hj
          · exact h1
          · exact hl j hj hne
        · refine ⟨x, List.mem_cons_self .., fun j hj hne => ?_⟩
          rcases List.mem_cons.1 hj with rfl | hj
          · exact absurd rfl hne
          · by_cases hji : j = i
            · rw [hji]; exact h1
            · exact ahead_trans (hl j hj hji) h1
theorem rch_perm {F G : List E3} (h : F.Perm G) (i j : Nat) : Rch F i j ↔ Rch G i j := ⟨fun hr => hr.sub fun _ he => h.mem_iff.1 he, fun hr => hr.sub fun _ he => h.mem_iff.2 he⟩
/-- Of kept ones each makes a part fewer. -/
theorem kept_count (hin : InE m es) : ∀ (n : Nat) (S : List Nat), S.length = n → S.Nodup → (∀ i ∈ S, Kept es i) → rootsN m (eg es S) + S.length = m
  | 0, S, hl, _, _ => by
    have : S = [] := List.length_eq_zero_iff.1 hl
    subst this
    simp [eg, rootsN_nil]
  | n + 1, S, hl, hn, hk => by
    obtain ⟨i, hi, hlast⟩ := last_of (es := es) (S := S) (fun h => by rw [h] at hl; simp at hl)
    have hp := List.perm_cons_erase hi
    have hlen : (S.erase i).length = n := by have := List.length_erase_of_mem hi; omega
    have ih := kept_count hin n (S.erase i) hlen (hn.erase i) (fun j hj => hk j (List.mem_of_mem_erase hj))
    obtain ⟨a, b, c, he, ha, hb⟩ := InE.nats (hin _ (edgeAt_mem (hk i hi).1))
    have hno : ¬ Rch (eg es (S.erase i)) a b := fun hr => by
      refine (hk i hi).2 a b (by rw [he]) (by rw [he]) (hr.sub (eg_sub fun j hj => ?_))
      have hjS := List.mem_of_mem_erase hj
      refine mem_aheadS.2 ⟨(hk j hjS).1, hlast j hjS fun e => ?_⟩
      subst e
      exact (hn.not_mem_erase) hj
    have h1 := rootsN_link (c := c) ha hb hno
    have h2 : rootsN m (eg es S) = rootsN m (eg es (S.erase i) ++ [((a : Int), (b : Int), c)]) := rootsN_congr m fun x y => by
      rw [rch_perm (F := eg es S) (G := eg es (S.erase i) ++ [((a : Int), (b : Int), c)])]
      have h3 : (eg es S).Perm (eg es (i :: S.erase i)) := hp.map _
      refine h3.trans ?_
      show (edgeAt es i :: eg es (S.erase i)).Perm _
      rw [he]
      exact (List.perm_append_singleton _ _).symm
    omega
/-- A list of edges that makes a part fewer each does so in part. -/
theorem acyc_sub {F G : List E3} (hin : InE m (F ++ G)) (h : rootsN m (F ++ G) + (F ++ G).length = m) : rootsN m F + F.length = m := by
  have h1 := rootsN_more F G (fun e he => hin e (List.mem_append_right _ he))
  have h2 := rootsN_all (m := m) (F := F) (fun e he => hin e (List.mem_append_left _ he))
  simp only [List.length_append] at h
  omega

/-- Numbers of which no fewer are small, as many in all, are together no more. -/
theorem sum_le {M : Nat} : ∀ (k : Nat) (xs ys : List Int), (∀ x ∈ xs, -(M : Int) ≤ x ∧ x ≤ -(M : Int) + k) → (∀ y ∈ ys, -(M : Int) ≤ y ∧ y ≤ -(M : Int) + k) → xs.length = ys.length → (∀ t : Int, ys.countP (fun y => decide (y ≤ t)) ≤ xs.countP (fun x => decide (x ≤ t))) → xs.sum ≤ ys.sum
  | 0, xs, ys, hx, hy, hl, _ => by
    have h1 : ∀ (l : List Int), (∀ x ∈ l, -(M : Int) ≤ x ∧ x ≤ -(M : Int) + (0 : Nat)) → l.sum = -(M : Int) * l.length := fun l => by
      induction l with
      | nil => intro _; simp
      | cons a l ih =>
        intro h
        have ha := h a (List.mem_cons_self ..)
        rw [List.sum_cons, ih fun x hx => h x (List.mem_cons_of_mem _ hx), List.length_cons]
        have : a = -(M : Int) := by omega
        rw [this]
        push_cast
        rw [Int.mul_add]
        omega
    rw [h1 xs hx, h1 ys hy, hl]
    omega
  | k + 1, xs, ys, hx, hy, hl, hc => by
    -- cut the topmost value down by one in both
    have cut : ∀ (l : List Int), (∀ x ∈ l, -(M : Int) ≤ x ∧ x ≤ -(M : Int) + ((k + 1 : Nat) : Int)) → l.sum = (l.map fun x => min x (-(M : Int) + k)).sum + (l.countP (fun x => decide (-(M : Int) + k < x)) : Int) ∧ (∀ x ∈ l.map fun x => min x (-(M : Int) + k), -(M : Int) ≤ x ∧ x ≤ -(M : Int) + k) := fun l => by
      induction l with
      | nil => intro _; simp
      | cons a l ih =>
        intro h
        obtain ⟨h1, h2⟩ := ih fun x hx => h x (List.mem_cons_of_mem _ hx)
        have ha := h a (List.mem_cons_self ..)
        refine ⟨?_, fun x hx => ?_⟩
        · rw [List.sum_cons, h1, List.map_cons, List.sum_cons, List.countP_cons]
          by_cases hlt : -(M : Int) + k < a
          · rw [if_pos (by simpa using hlt)]
            push_cast
            omega
          · rw [if_neg (by simpa using hlt)]
            push_cast
            omega
        · rw [List.map_cons] at hx
          rcases List.mem_cons.1 hx with rfl | hx
          · omega
          · exact h2 x hx
    obtain ⟨x1, x2⟩ := cut xs hx
    obtain ⟨y1, y2⟩ := cut ys hy
    have hcount : ∀ (l : List Int) (t : Int), (l.map fun x => min x (-(M : Int) + k)).countP (fun x => decide (x ≤ t)) = if -(M : Int) + k ≤ t then l.length else l.countP (fun x => decide (x ≤ t)) := fun l t => by
      rw [List.countP_map]
      by_cases ht : -(M : Int) + k ≤ t
      · rw [if_pos ht, List.countP_eq_length]
        intro x _
        simp
        omega
      · rw [if_neg ht]
        apply List.countP_congr
        intro x _
        simp
        omega
    have ih := sum_le k _ _ x2 y2 (by simp [hl]) (fun t => by
      rw [hcount, hcount]
      split
      · rw [hl]; exact Nat.le_refl _
      · exact hc t)
    have hcomp : ∀ (l : List Int), l.countP (fun x => decide (-(M : Int) + k < x)) + l.countP (fun x => decide (x ≤ -(M : Int) + k)) = l.length := fun l => by
      induction l with
      | nil => rfl
      | cons a l ih =>
        rw [List.countP_cons, List.countP_cons, List.length_cons]
        by_cases h : -(M : Int) + k < a
        · rw [if_pos (by simpa using h), if_neg (by simp; omega)]; omega
        · rw [if_neg (by simpa using h), if_pos (by simp; omega)]; omega
    have c1 := hcomp xs
    have c2 := hcomp ys
    have c3 := hc (-(M : Int) + k)
    omega
end

section
section
variable {m : Nat} {es : List E3}
theorem allS_nodup : (allS es).Nodup := List.nodup_range
theorem keptS_nodup : (keptS es).Nodup := allS_nodup.filter _
theorem keptS_lt {i : Nat} (h : i ∈ keptS es) : i < es.length := (mem_keptS.1 h).1
theorem kept_rch (hin : InE m es) (i j : Nat) : Rch (eg es (keptS es)) i j ↔ Rch es i j := by
  constructor
  · intro h
    have h2 : Rch (eg es (allS es)) i j := h.sub (eg_sub fun k hk => List.mem_range.2 (keptS_lt hk))
    rwa [eg_all] at h2
  · intro h
    rw [← eg_all es] at h
    exact kept_span hin (T := allS es) (fun k hk => List.mem_range.1 hk) (fun _ k _ hk _ => List.mem_range.2 hk) (S := keptS es) (fun k hk _ => mem_keptS.2 hk) h
theorem kept_forest (hin : InE m es) : rootsN m es + (keptS es).length = m := by
  have h1 := kept_count hin _ (keptS es) rfl keptS_nodup (fun i hi => mem_keptS.1 hi)
  rwa [rootsN_congr m (kept_rch hin)] at h1
def sumW (es : List E3) (S : List Nat) : Int := (S.map (wAt es)).sum

theorem part_of (p : Nat → Bool) : ∀ S : List Nat, (S.filter p ++ S.filter fun i => !p i).Perm S
  | [] => by simp
  | x :: S => by
    have ih := part_of p S
    by_cases h : p x = true
    · rw [List.filter_cons_of_pos h, List.filter_cons_of_neg (by simp [h]), List.cons_append]
      exact ih.cons x
    · rw [List.filter_cons_of_neg h, List.filter_cons_of_pos (by simpa using h)]
      exact List.perm_middle.trans (ih.cons x)
theorem kept_lightest (hin : InE m es) (hw : ∀ e ∈ es, -1048576 ≤ e.2.2 ∧ e.2.2 ≤ 1048576) {S : List Nat} (hS : ∀ i ∈ S, i < es.length) (hf : rootsN m (eg es S) + S.length = m) (hl : S.length = (keptS es).length) : sumW es (keptS es) ≤ sumW es S := by
  have bound : ∀ i, i < es.length → -((1048576 : Nat) : Int) ≤ wAt es i ∧ wAt es i ≤ -((1048576 : Nat) : Int) + (2097152 : Nat) := fun i hi => by
    have := hw _ (edgeAt_mem hi)
    unfold wAt
    omega
  refine sum_le (M := 1048576) 2097152 _ _ (fun x hx => ?_) (fun y hy => ?_) (by simp [hl]) (fun t => ?_)
  · obtain ⟨i, hi, rfl⟩ := List.mem_map.1 hx
    exact bound i (keptS_lt hi)
  · obtain ⟨i, hi, rfl⟩ := List.mem_map.1 hy
    exact bound i (hS i hi)
  · rw [List.countP_map, List.countP_map]
    let p : Nat → Bool := fun i => decide (wAt es i ≤ t)
    show S.countP p ≤ (keptS es).countP p
    rw [← filter_len, ← filter_len]
    have hp := part_of p S
    have h1 : rootsN m (eg es (S.filter p)) + (S.filter p).length = m := by
      have e1 : eg es (S.filter p) ++ eg es (S.filter fun i => !p i) = eg es (S.filter p ++ S.filter fun i => !p i) := by simp [eg]
      have hq : (eg es (S.filter p ++ S.filter fun i => !p i)).Perm (eg es S) := hp.map _
      have h := acyc_sub (m := m) (F := eg es (S.filter p)) (G := eg es (S.filter fun i => !p i)) (by
        rw [e1]
        exact eg_in hin fun i hi => hS i (hp.mem_iff.1 hi)) (by
        rw [e1, rootsN_congr m (rch_perm hq), hq.length_eq, eg_len]
        exact hf)
      rwa [eg_len] at h
    have h2 := kept_count hin _ ((keptS es).filter p) rfl (keptS_nodup.filter _) (fun i hi => mem_keptS.1 ((List.mem_filter.1 hi).1))
    have h3 : rootsN m (eg es ((keptS es).filter p)) ≤ rootsN m (eg es (S.filter p)) := by
      refine rootsN_mono m fun i j hr => ?_
      have hr2 : Rch (eg es ((allS es).filter p)) i j := hr.sub (eg_sub fun k hk => by
        obtain ⟨hk1, hk2⟩ := List.mem_filter.1 hk
        exact List.mem_filter.2 ⟨List.mem_range.2 (hS k hk1), hk2⟩)
      refine kept_span hin (T := (allS es).filter p) (fun k hk => List.mem_range.1 ((List.mem_filter.1 hk).1)) (fun k l hk hl hlk => ?_) (fun k hk hkT => ?_) hr2
      · refine List.mem_filter.2 ⟨List.mem_range.2 hl, ?_⟩
        have h4 := (List.mem_filter.1 hk).2
        simp only [p, decide_eq_true_eq] at h4 ⊢
        rw [ahead_iff] at hlk
        omega
      · exact List.mem_filter.2 ⟨mem_keptS.2 hk, (List.mem_filter.1 hkT).2⟩
    omega

/-- Some of a list is the first of it. -/
theorem first_of {S : List Nat} (h : S ≠ []) : ∃ i ∈ S, ∀ j ∈ S, j ≠ i → aheadB es i j = true := by
  induction S with
  | nil => exact absurd rfl h
  | cons x S ih =>
    by_cases hS : S = []
    · subst hS
      exact ⟨x, List.mem_cons_self .., fun j hj hne => by simp at hj; exact absurd hj hne⟩
    · obtain ⟨i, hi, hl⟩ := ih hS
      by_cases hxi : x = i
      · subst hxi
        exact ⟨x, List.mem_cons_self .., fun j hj hne => by
          rcases List.mem_cons.1 hj with rfl | hj
          · exact absurd rfl hne
          · exact hl j hj hne⟩
      · rcases ahead_total (es := es) hxi with h1 | h1
        · refine ⟨x, List.mem_cons_self .., fun j hj hne => ?_⟩
          rcases List.mem_cons.1 hj with rfl | hj
          · exact absurd rfl hne
          · by_cases hji : j = i
            · rw [hji]; exact h1
            · exact ahead_trans h1 (hl j hj hji)
        · refine ⟨i, List.mem_cons_of_mem _ hi, fun j hj hne => ?_⟩
          rcases List.mem_cons.1 hj with rfl | hj
          · exact h1
          · exact hl j hj hne
/-- Does an edge lead out of a set? -/
def crossB (c : Int → Bool) (e : E3) : Bool := c e.1 != c e.2.1
theorem rch_side {F : List E3} {c : Int → Bool} (h : ∀ e ∈ F, crossB c e = false) {i j : Nat} (hr : Rch F i j) : c (i : Int) = c (j : Int) := by
  obtain ⟨k, hk⟩ := hr
  induction k generalizing j with
  | zero => cases hk; rfl
  | succ k ih =>
    obtain ⟨x, hx, ha⟩ := hk
    rw [ih hx]
    obtain ⟨e, he, h1⟩ := adjE_mem.1 ha
    have h2 := h e he
    unfold crossB at h2
    rcases h1 with ⟨p, q⟩ | ⟨p, q⟩
    · rw [p, q] at h2; simpa using h2
    · rw [p, q] at h2
      have h3 : c (j : Int) = c (x : Int) := by simpa using h2
      exact h3.symm
theorem kept_cut (_hin : InE m es) (c : Int → Bool) {i0 : Nat} (hi : i0 < es.length) (hc : crossB c (edgeAt es i0) = true) (hmin : ∀ j, j < es.length → crossB c (edgeAt es j) = true → wAt es i0 ≤ wAt es j) : ∃ i, Kept es i ∧ crossB c (edgeAt es i) = true ∧ wAt es i = wAt es i0 := by
  obtain ⟨i, hiS, hfirst⟩ := first_of (es := es) (S := (allS es).filter fun j => crossB c (edgeAt es j)) (fun h => by
    have : i0 ∈ (allS es).filter fun j => crossB c (edgeAt es j) := List.mem_filter.2 ⟨List.mem_range.2 hi, hc⟩
    rw [h] at this
    simp at this)
  obtain ⟨hiA, hiC⟩ := List.mem_filter.1 hiS
  have hil := List.mem_range.1 hiA
  refine ⟨i, ⟨hil, fun a b ha hb hr => ?_⟩, hiC, ?_⟩
  · have hs := rch_side (c := c) (fun e he => ?_) hr
    · have h3 : crossB c (edgeAt es i) = false := by unfold crossB; rw [ha, hb, hs]; simp
      have h4 : crossB c (edgeAt es i) = true := hiC
      rw [h3] at h4
      cases h4
    · obtain ⟨j, hj, rfl⟩ := List.mem_map.1 he
      obtain ⟨hjl, hja⟩ := mem_aheadS.1 hj
      cases hcj : crossB c (edgeAt es j) with
      | false => rfl
      | true =>
        have hne : j ≠ i := fun e => by rw [e, ahead_irr] at hja; cases hja
        have h5 := hfirst j (List.mem_filter.2 ⟨List.mem_range.2 hjl, hcj⟩) hne
        have h6 := ahead_trans h5 hja
        rw [ahead_irr] at h6
        cases h6
  · have h1 := hmin i hil hiC
    by_cases hne : i0 = i
    · rw [hne]
    · have h2 := hfirst i0 (List.mem_filter.2 ⟨List.mem_range.2 hi, hc⟩) hne
      rw [ahead_iff] at h2
      omega
end
end
end Go.Proofs.Ytpcealcghglopaa

namespace Go.Proofs.Ytpcealcghglopaa

/-- What the reference's Parts tells. -/
theorem partsR_eq {m : Nat} {F G : List E3} : partsR m F = partsR m G ↔ ∀ i, i < m → minR F i = minR G i := by
  unfold partsR
  rw [List.map_inj_left]
  constructor
  · intro h i hi
    have := h i (List.mem_range.2 hi)
    omega
  · intro h i hi
    rw [h i (List.mem_range.1 hi)]
theorem rootsN_parts {m : Nat} {F G : List E3} (h : partsR m F = partsR m G) : rootsN m F = rootsN m G := by
  have h := partsR_eq.1 h
  unfold rootsN
  apply List.countP_congr
  intro i hi
  have hi := List.mem_range.1 hi
  simp only [decide_eq_true_eq]
  rw [root_minR, root_minR, h i hi]
/-- How many numbers there are, each counted once. -/
def unlikeT (xs : List Int) : Nat → Nat
  | 0 => 0
  | k + 1 => unlikeT xs k + (if xs.getD k 0 ∈ xs.take k then 0 else 1)
theorem unlikeT_le (xs : List Int) : ∀ k, unlikeT xs k ≤ k
  | 0 => Nat.le_refl _
  | k + 1 => by
    have := unlikeT_le xs k
    simp only [unlikeT]
    split <;> omega
theorem unlike_partsR {m : Nat} {F : List E3} : ∀ k, k ≤ m → unlikeT (partsR m F) k = rootsN k F
  | 0, _ => rfl
  | k + 1, hk => by
    have ih := unlike_partsR (m := m) (F := F) k (by omega)
    simp only [unlikeT]
    rw [ih]
    unfold rootsN
    rw [List.range_succ, List.countP_append]
    congr 1
    have hg : (partsR m F).getD k 0 = (minR F k : Int) := by rw [List.getD_eq_getElem?_getD, partsR_get (by omega)]; rfl
    rw [hg]
    have hm : (minR F k : Int) ∈ (partsR m F).take k ↔ ¬ Root F k := by
      unfold partsR
      rw [← List.map_take, List.take_range, Nat.min_eq_left (by omega), List.mem_map]
      constructor
      · rintro ⟨j, hj, he⟩ hr
        have hj := List.mem_range.1 hj
        have e : minR F j = minR F k := by omega
        exact hr j hj (minR_eq.1 e).symm
      · intro hr
        have h1 : minR F k ≠ k := fun h => hr (root_minR.2 h)
        have h2 : minR F k ≤ k := minR_le
        refine ⟨minR F k, List.mem_range.2 (by omega), ?_⟩
        rw [root_minR.1 minR_root]
    by_cases hr : Root F k
    · rw [if_neg fun h => hm.1 h hr]; simp [hr]
    · rw [if_pos (hm.2 hr)]; simp [hr]
theorem rootsN_le (m : Nat) (F : List E3) : rootsN m F ≤ m := by
  have := List.countP_le_length (p := fun i => @decide (Root F i) (Classical.propDecidable _)) (l := List.range m)
  simpa [rootsN] using this
end Go.Proofs.Ytpcealcghglopaa
