/- Plain facts and small walks that the others lean on, in one text: EdgesOwn, WallP, PartedP, OpenSet, Open. No conditions. -/
import Derived.Test.YtmelemjngnadpaaZb2
import Derived.Test.YtmelemjngnadpaaZb1
import Derived.Test.YtmelemjngnadpaaRows
import Derived.ProofKit
import Derived.Deep.Slices
import Derived.Deep.Strs
import Derived.Lib.SmallJoins
namespace Go.Proofs.Ytmelemjngnadpaa
open Go.RowKit

theorem infoEdge : (Try.prog.info? 59).map (fun i => (i.zero, i.size, i.bytes)) = some (some (.agg #[.int .i64 0, .int .i64 0, .int .i64 0]), 3, 24) := by kernel_rfl
def cells3 (e : E3) : List Value := [.int .i64 e.1, .int .i64 e.2.1, .int .i64 e.2.2]
def cellsE (es : List E3) : List Value := es.flatMap cells3
theorem cellsE_snoc (es : List E3) (e : E3) : cellsE (es ++ [e]) = cellsE es ++ cells3 e := by simp [cellsE]
theorem cellsE_length : ∀ es : List E3, (cellsE es).length = es.length * 3
  | [] => rfl
  | e :: es => by
    have ih := cellsE_length es
    show (cells3 e ++ cellsE es).length = _
    rw [List.length_append, ih, List.length_cons]
    show 3 + es.length * 3 = _
    omega
theorem cellsE_get : ∀ (es : List E3) (i : Nat) (e : E3), es[i]? = some e → (cellsE es)[i * 3]? = some (.int .i64 e.1) ∧ (cellsE es)[i * 3 + 1]? = some (.int .i64 e.2.1) ∧ (cellsE es)[i * 3 + 2]? = some (.int .i64 e.2.2)
  | [], i, e, h => by simp at h
  | x :: es, 0, e, h => by
    simp only [List.getElem?_cons_zero, Option.some.injEq] at h
    subst h
    simp [cellsE, cells3]
  | x :: es, i + 1, e, h => by
    simp only [List.getElem?_cons_succ] at h
    have ih := cellsE_get es i e h
    have hs : ∀ c, (cellsE (x :: es))[(i + 1) * 3 + c]? = (cellsE es)[i * 3 + c]? := fun c => by
      show (cells3 x ++ cellsE es)[(i + 1) * 3 + c]? = _
      rw [List.getElem?_append_right (by simp [cells3]; omega)]
      congr 1
      simp [cells3]
      omega
    have h0 := hs 0
    have h1 := hs 1
    have h2 := hs 2
    rw [Nat.add_zero, Nat.add_zero] at h0
    rw [h0, h1, h2]
    exact ih
theorem EdgesAt.of_own3 {w : World} {base n cap : Nat} {A : Option Addr} {es : List E3} (h : w.ownsRow base 59 3 (.slice A n cap) n (cellsE es)) : EdgesAt w w.heap.size A n es := by
  have hl : es.length = n := by have := h.1; rw [cellsE_length] at this; omega
  refine ⟨hl, fun hn => ?_⟩
  rcases h.2 with ⟨_, h0⟩ | ⟨g, cap', cur, hv, _, hg, _, _, _, htake⟩
  · omega
  · have hA : A = some ⟨g, 0, none⟩ := by injection hv
    subst hA
    have hlt : g < w.heap.size := (Array.getElem?_eq_some_iff.1 hg).1
    refine ⟨g, 0, rfl, hlt, fun i e he => ?_⟩
    obtain ⟨h0, h1, h2⟩ := cellsE_get es i e he
    have hi : i < n := by have := (List.getElem?_eq_some_iff.1 he).1; omega
    have key : ∀ c v, c < 3 → (cellsE es)[i * 3 + c]? = some v → w.cell? ⟨g, 0 + i * 3 + c, none⟩ = some v := fun c v hc hv => by
      rw [← htake, List.getElem?_take, if_pos (by omega)] at hv
      have : cur[i * 3 + c]? = some v := by simpa using hv
      simp [World.cell?, hg, this]
    exact ⟨key 0 _ (by omega) h0, key 1 _ (by omega) h1, key 2 _ (by omega) h2⟩
theorem erase_take_at (es : List E3) (k : Nat) : (es.take (k + 1)).eraseIdx k = (es.take k).eraseIdx k := by
  rw [List.eraseIdx_of_length_le (l := es.take k) (by simp; omega)]
  rcases Nat.lt_or_ge k es.length with h | h
  · rw [List.take_succ_eq_append_getElem h, List.eraseIdx_append_of_length_le (by simp; omega)]
    simp [Nat.min_eq_left (Nat.le_of_lt h)]
  · rw [List.take_of_length_le (by omega), List.take_of_length_le h, List.eraseIdx_of_length_le h]
theorem erase_take_ne (es : List E3) (k j : Nat) (e : E3) (h : j ≠ k) (he : es[j]? = some e) : (es.take (j + 1)).eraseIdx k = (es.take j).eraseIdx k ++ [e] := by
  obtain ⟨hj, rfl⟩ := List.getElem?_eq_some_iff.1 he
  rw [List.take_succ_eq_append_getElem hj]
  rcases Nat.lt_or_ge k j with hk | hk
  · rw [List.eraseIdx_append_of_lt_length (by simp; omega)]
  · rw [List.eraseIdx_of_length_le (by simp; omega), List.eraseIdx_of_length_le (by simp; omega)]
theorem erase_take_le (es : List E3) (k j : Nat) : ((es.take j).eraseIdx k).length ≤ j := by
  have h1 := List.length_eraseIdx_le (l := es.take j) (i := k)
  have h2 := List.length_take_le j es
  omega
theorem own_addr3 {w : World} {base : Nat} {t : TypeId} {A : Option Addr} {n m cap : Nat} {xs : List Value} (h : w.ownsRow base t 3 (.slice A n cap) m xs) : ∀ a, A = some a → base ≤ a.block ∧ ∃ cur, w.heap[a.block]? = some (.cells cur t (0, 0)) := fun a ha => by
  subst ha
  rcases h.2 with ⟨h0, _⟩ | ⟨g, cap', cur, hv, hb, hg, _⟩
  · cases h0
  · injection hv with hv
    injection hv with hv
    subst hv
    exact ⟨hb, cur, hg⟩
theorem EdgesAt.move {w w' : World} {B B' n : Nat} {A : Option Addr} {es : List E3} (h : EdgesAt w B A n es) (hb : ∀ a, A = some a → w'.heap[a.block]? = w.heap[a.block]?) (hB : B ≤ B') : EdgesAt w' B' A n es :=
  ⟨h.1, fun hn => by
    obtain ⟨b, off, e, hlt, hc⟩ := h.2 hn
    have hk : ∀ o, w'.cell? ⟨b, o, none⟩ = w.cell? ⟨b, o, none⟩ := fun o => World.cell?_of_block (a := ⟨b, o, none⟩) (hb ⟨b, off, none⟩ e)
    refine ⟨b, off, e, by omega, fun i x hx => ?_⟩
    obtain ⟨h0, h1, h2⟩ := hc i x hx
    exact ⟨(hk _).trans h0, (hk _).trans h1, (hk _).trans h2⟩⟩
theorem own_base3 {w : World} {base : Nat} {t : TypeId} {v : Value} {n : Nat} {xs : List Value} (h : w.ownsRow base t 3 v n xs) : ∀ g, v.ownBlock = some g → base ≤ g := fun g hg => (h.lt g hg).1
theorem own_form3 {w : World} {base : Nat} {t : TypeId} {v : Value} {n : Nat} {xs : List Value} (h : w.ownsRow base t 3 v n xs) : ∃ A cap, v = .slice A n cap := by
  rcases h.2 with ⟨rfl, rfl⟩ | ⟨g, cap, cur, rfl, _⟩
  · exact ⟨none, 0, rfl⟩
  · exact ⟨_, _, rfl⟩
theorem own_keep3 {w w' : World} {base : Nat} {t : TypeId} {v : Value} {n : Nat} {xs : List Value} (h : w.ownsRow base t 3 v n xs) (hb : ∀ g, base ≤ g → w'.heap[g]? = w.heap[g]?) : w'.ownsRow base t 3 v n xs := by
  refine ⟨h.1, ?_⟩
  rcases h.2 with h0 | ⟨g, cap, cur, hv, hg, hr, hrest⟩
  · exact .inl h0
  · exact .inr ⟨g, cap, cur, hv, hg, (hb g hg).trans hr, hrest⟩
/-- What a graph without one of its edges reads as. -/
def LessOut (m B : Nat) (es : List E3) (e : Ending) (w' : World) : Prop := ∃ A cap, e = .returned (.agg #[.int .i64 m, .slice A es.length cap]) ∧ EdgesAt w' w'.heap.size A es.length es ∧ ∀ a, A = some a → B ≤ a.block ∧ ∃ cur, w'.heap[a.block]? = some (.cells cur 59 (0, 0))
end Go.Proofs.Ytmelemjngnadpaa

namespace Go.Proofs.Ytmelemjngnadpaa

/-- What is not of a wall; the edges that do not meet it. -/
def offW (w : Nat) : Nat → Bool := fun i => !w.testBit i
def offE (w : Nat) (es : List E3) : List E3 := es.filter fun e => !w.testBit e.1.toNat && !w.testBit e.2.1.toNat
theorem adjE_off {n : Nat} {es : List E3} (hg : goodE n es) {w i j : Nat} : adjE (offE w es) i j = true ↔ adjE es i j = true ∧ offW w i = true ∧ offW w j = true := by
  unfold adjE offE offW
  rw [List.any_filter]
  simp only [List.any_eq_true]
  constructor
  · rintro ⟨e, he, h⟩
    obtain ⟨k, hk⟩ := List.getElem?_of_mem he
    obtain ⟨p0, _, p2, _, _, _⟩ := edge_ok (hg k e hk)
    simp only [Bool.and_eq_true, Bool.or_eq_true, beq_iff_eq, Bool.not_eq_true'] at h ⊢
    obtain ⟨⟨h1, h2⟩, h3⟩ := h
    refine ⟨⟨e, he, h3⟩, ?_⟩
    rcases h3 with ⟨h4, h5⟩ | ⟨h4, h5⟩
    · rw [h4, Int.toNat_natCast] at h1; rw [h5, Int.toNat_natCast] at h2; exact ⟨h1, h2⟩
    · rw [h4, Int.toNat_natCast] at h1; rw [h5, Int.toNat_natCast] at h2; exact ⟨h2, h1⟩
  · rintro ⟨⟨e, he, h3⟩, h1, h2⟩
    refine ⟨e, he, ?_⟩
    simp only [Bool.and_eq_true, Bool.or_eq_true, beq_iff_eq, Bool.not_eq_true'] at h1 h2 h3 ⊢
    refine ⟨?_, h3⟩
    rcases h3 with ⟨h4, h5⟩ | ⟨h4, h5⟩
    · rw [h4, h5, Int.toNat_natCast, Int.toNat_natCast]; exact ⟨h1, h2⟩
    · rw [h4, h5, Int.toNat_natCast, Int.toNat_natCast]; exact ⟨h2, h1⟩
theorem wk_off {n : Nat} {es : List E3} (hg : goodE n es) {w : Nat} : ∀ {k a b : Nat}, wk (adjE (offE w es)) k a b → lnkS (adjE es) n (offW w) k a b
  | 0, _, _, h => h
  | k + 1, a, b, ⟨x, h1, h2⟩ => by
    obtain ⟨h3, h4, _⟩ := (adjE_off hg).1 h2
    exact ⟨x, (adjE_lt hg h3).1, h4, wk_off hg h1, h3⟩
theorem lab_wall {n : Nat} {es : List E3} (hg : goodE n es) (w : Nat) : LabOK (adjE es) n (offW w) (minR (offE w es)) := by
  refine ⟨fun a ha _ => Nat.lt_of_le_of_lt minR_le ha, fun a b _ _ h1 h2 h3 => ?_, fun a b _ _ _ _ h => ?_⟩
  · exact minR_eq.2 ⟨1, wk_one.2 ((adjE_off hg).2 ⟨h3, h1, h2⟩)⟩
  · obtain ⟨k, hk⟩ := minR_eq.1 h
    exact ⟨k, wk_off hg hk⟩
/-- How many parts are odd behind a wall, and how many more they are than the wall has nodes. -/
noncomputable def oddW (n : Nat) (es : List E3) (w : Nat) : Nat := oddS n (minR (offE w es)) (offW w)
def szN (n w : Nat) : Nat := sizeP (fun i => w.testBit i) n
noncomputable def overW (n : Nat) (es : List E3) (w : Nat) : Int := (oddW n es w : Int) - (szN n w : Int)
theorem oddS_congr {n : Nat} {lab : Nat → Nat} {T T' : Nat → Bool} (h : ∀ i, i < n → T i = T' i) : oddS n lab T = oddS n lab T' := sumTo_congr n fun i _ => by
  rw [sizeP_congr n fun j hj => by rw [h j hj]]
theorem lnkS_congr {adj : Nat → Nat → Bool} {n : Nat} {T T' : Nat → Bool} (h : ∀ i, i < n → T i = T' i) : ∀ {k a b : Nat}, lnkS adj n T k a b → lnkS adj n T' k a b
  | 0, _, _, hl => hl
  | _ + 1, _, _, ⟨t, h1, h2, h3, h4⟩ => ⟨t, h1, by rw [← h t h1]; exact h2, lnkS_congr h h3, h4⟩
theorem lab_congr {adj : Nat → Nat → Bool} {n : Nat} {T T' : Nat → Bool} {lab : Nat → Nat} (h : ∀ i, i < n → T i = T' i) (H : LabOK adj n T lab) : LabOK adj n T' lab := by
  refine ⟨fun a ha h1 => H.lt a ha (by rw [h a ha]; exact h1), fun a b ha hb h1 h2 h3 => H.near a b ha hb (by rw [h a ha]; exact h1) (by rw [h b hb]; exact h2) h3, fun a b ha hb h1 h2 h3 => ?_⟩
  obtain ⟨k, hk⟩ := H.far a b ha hb (by rw [h a ha]; exact h1) (by rw [h b hb]; exact h2) h3
  exact ⟨k, lnkS_congr h hk⟩
/-- BERGE: behind no wall more is left over than by the best bond. -/
theorem wall_le {n : Nat} {es : List E3} (hg : goodE n es) (w : Nat) : overW n es w ≤ (n : Int) - 2 * (bN es es.length 0 0 : Int) := by
  obtain ⟨m, h1, h2⟩ := bond_least hg
  have hL := lab_wall hg w
  have h3 := berge_le h1.1 hL.lt hL.near
  have h4 : sizeP (offW w) n + szN n w = n := sizeP_not (fun i => w.testBit i) n
  unfold overW oddW
  omega
/-- TUTTE: and behind one as much is. -/
theorem wall_ex {n : Nat} {es : List E3} (hg : goodE n es) : ∃ w, w < 2 ^ n ∧ overW n es w = (n : Int) - 2 * (bN es es.length 0 0 : Int) := by
  obtain ⟨m, h1, h2⟩ := bond_least hg
  obtain ⟨T, m', _, h4, h5⟩ := tutte_ex (adj := adjE es) (n := n) (adjE_symm es) _ (fun _ => true) rfl
  obtain ⟨w, hw1, hw2⟩ := word_ex (fun i => !T i) n
  have hT : ∀ i, i < n → offW w i = T i := fun i hi => by unfold offW; rw [hw2 i hi]; simp
  refine ⟨w, hw1, Int.le_antisymm (wall_le hg w) ?_⟩
  have h6 := h5 _ (lab_congr hT (lab_wall hg w))
  have h7 := h1.2 _ h4
  have h8 : sizeP (offW w) n + szN n w = n := sizeP_not (fun i => w.testBit i) n
  have e1 : sizeP (offW w) n = sizeP T n := sizeP_congr n hT
  have e3 : oddW n es w = oddS n (minR (offE w es)) T := oddS_congr hT
  have e4 : sizeP (fun _ : Nat => true) n = n := by
    have h : sizeP (fun _ : Nat => false) n + sizeP (fun _ : Nat => true) n = n := sizeP_not (fun _ : Nat => true) n
    have e : sizeP (fun _ : Nat => false) n = 0 := sizeP_none fun _ _ => rfl
    omega
  unfold overW
  omega
/-- The first of the best walls leaves over just what the best bond does. -/
theorem wall_best {n a : Nat} {es : List E3} (hg : goodE n es) (h : FirstMax (overW n es) (2 ^ n) a) : overW n es a = (n : Int) - 2 * (bN es es.length 0 0 : Int) := by
  obtain ⟨w, h1, h2⟩ := wall_ex hg
  have h3 := (h.2 w h1).1
  have h4 := wall_le hg a
  omega

/-! ### The best bond of some nodes, node by node -/
section
variable {n : Nat} {es : List E3} {u v x k : Nat}
theorem avoid_more {u' : Nat} {l : List Nat} (h : Avoid es u' l) (hu : ∀ i, u.testBit i = true → u'.testBit i = true) : Avoid es u l := fun k hk => freeK_iff.2 fun i hi => by
  have := freeK_iff.1 (h k hk) i hi
  cases hb : u.testBit i with
  | false => rfl
  | true => rw [hu i hb] at this; cases this
theorem bN_mono {u' : Nat} (hu : ∀ i, u.testBit i = true → u'.testBit i = true) : bN es es.length 0 u' ≤ bN es es.length 0 u := by
  obtain ⟨h1, _, h3, h4⟩ := bndL_ok (es := es) es.length 0 u' (by omega)
  rw [← h4]
  exact bond_le _ _ _ _ (by omega) h1 (fun _ _ => Nat.zero_le _) (avoid_more h3 hu)
theorem bit_or_pow {s i j : Nat} : (s ||| 2 ^ i).testBit j = (s.testBit j || i == j) := by
  rw [Nat.testBit_or, Nat.testBit_two_pow]; rfl
theorem bN_leave : bN es es.length 0 (u ||| 2 ^ v) ≤ bN es es.length 0 u := bN_mono fun i h => by rw [bit_or_pow, h]; rfl
theorem bN_take (hg : goodE n es) (ha : adjE es v x = true) (hv : u.testBit v = false) (hx : u.testBit x = false) : 1 + bN es es.length 0 (u ||| 2 ^ v ||| 2 ^ x) ≤ bN es es.length 0 u := by
  obtain ⟨k, hk, hkk⟩ := (adjE_place hg).1 ha
  have ht : ∀ i, tchK es k i = true ↔ i = v ∨ i = x := fun i => by rw [tchK_iff]; constructor <;> intro h <;> omega
  obtain ⟨h1, _, h3, h4⟩ := bndL_ok (es := es) es.length 0 (u ||| 2 ^ v ||| 2 ^ x) (by omega)
  have hbit : ∀ i, (u ||| 2 ^ v ||| 2 ^ x).testBit i = true ↔ u.testBit i = true ∨ i = v ∨ i = x := fun i => by
    rw [bit_or_pow, bit_or_pow]
    simp only [Bool.or_eq_true, beq_iff_eq]
    constructor
    · rintro ((h | h) | h)
      · exact .inl h
      · exact .inr (.inl h.symm)
      · exact .inr (.inr h.symm)
    · rintro (h | h | h)
      · exact .inl (.inl h)
      · exact .inl (.inr h.symm)
      · exact .inr h.symm
  have hc : ∀ y ∈ bndL es es.length 0 (u ||| 2 ^ v ||| 2 ^ x), ¬ crsK es k y := fun y hy ⟨i, hi1, hi2⟩ => by
    have := freeK_iff.1 (h3 y hy) i hi2
    rw [(hbit i).2 (.inr ((ht i).1 hi1))] at this; cases this
  have hself : crsK es k k := ⟨eA es k, tchK_iff.2 (.inl rfl), tchK_iff.2 (.inl rfl)⟩
  obtain ⟨l', g1, g2⟩ := insert_bond h1 hk hc fun hm => hc k hm hself
  have := bond_le es.length 0 u l' (by omega) g1 (fun _ _ => Nat.zero_le _) fun y hy => by
    rcases List.mem_cons.1 (g2.mem_iff.1 hy) with rfl | hy
    · refine freeK_iff.2 fun i hi => ?_
      rcases (ht i).1 hi with rfl | rfl
      · exact hv
      · exact hx
    · refine freeK_iff.2 fun i hi => ?_
      have := freeK_iff.1 (h3 y hy) i hi
      cases hb : u.testBit i with
      | false => rfl
      | true => rw [(hbit i).2 (.inl hb)] at this; cases this
  rw [g2.length_eq, List.length_cons, h4] at this
  omega
theorem bond_erase : ∀ {l : List Nat}, BondL es l → BondL es (l.erase k)
  | [], h => h
  | y :: l, h => by
    obtain ⟨h1, h2, h3, h4⟩ := bond_cons.1 h
    rw [List.erase_cons]
    split
    · exact h2
    · exact bond_cons.2 ⟨h1, bond_erase h2, fun x hx => h3 x (List.mem_of_mem_erase hx), fun x hx => h4 x (List.mem_of_mem_erase hx)⟩
theorem bond_apart {l : List Nat} (h : BondL es l) {y : Nat} (hk : k ∈ l) (hy : y ∈ l) (hne : y ≠ k) : ¬ crsK es k y := by
  obtain ⟨p, hp1, hp2⟩ := List.getElem_of_mem hk
  obtain ⟨q, hq1, hq2⟩ := List.getElem_of_mem hy
  have hpa := List.pairwise_iff_getElem.1 h.apart
  rcases Nat.lt_trichotomy p q with h3 | h3 | h3
  · have := hpa p q hp1 hq1 h3
    rwa [hp2, hq2] at this
  · subst h3; exact absurd (hq2.symm.trans hp2) hne
  · have := hpa q p hq1 hp1 h3
    rw [hp2, hq2] at this
    exact fun ⟨i, a, b⟩ => this ⟨i, b, a⟩
/-- Either the node is left, or bound to some other one. -/
theorem bN_node (hg : goodE n es) (hv : u.testBit v = false) : bN es es.length 0 u = bN es es.length 0 (u ||| 2 ^ v) ∨ ∃ x, adjE es v x = true ∧ u.testBit x = false ∧ bN es es.length 0 u = 1 + bN es es.length 0 (u ||| 2 ^ v ||| 2 ^ x) := by
  obtain ⟨h1, _, h3, h4⟩ := bndL_ok (es := es) es.length 0 u (by omega)
  by_cases hc : covK es (bndL es es.length 0 u) v = true
  · obtain ⟨k, hk, ht⟩ := List.any_eq_true.1 hc
    have hkl := h1.lt k hk
    obtain ⟨_, _, _, _, hne, _⟩ := ends hg hkl
    have ho := (othK_iff (j := othK es k v) hg hkl ht).1 rfl
    have hax : adjE es v (othK es k v) = true := (adjE_place hg).2 ⟨k, hkl, by
      have a1 := tchK_iff.1 ht
      have a2 := tchK_iff.1 ho.1
      omega⟩
    have hxf := freeK_iff.1 (h3 k hk) _ ho.1
    refine .inr ⟨_, hax, hxf, Nat.le_antisymm ?_ (bN_take hg hax hv hxf)⟩
    have hlen := List.length_erase_of_mem hk
    have hpos := List.length_pos_of_mem hk
    have hnd : (bndL es es.length 0 u).Nodup := h1.rise.imp fun h => by omega
    have := bond_le es.length 0 (u ||| 2 ^ v ||| 2 ^ othK es k v) _ (by omega) (bond_erase (k := k) h1) (fun _ _ => Nat.zero_le _) fun y hy => by
      obtain ⟨hyk, hyl⟩ := hnd.mem_erase_iff.1 hy
      refine freeK_iff.2 fun i hi => ?_
      have hf := freeK_iff.1 (h3 y hyl) i hi
      rw [bit_or_pow, bit_or_pow, hf, Bool.false_or, Bool.or_eq_false_iff]
      have hap := bond_apart h1 hk hyl hyk
      refine ⟨?_, ?_⟩
      · rw [beq_eq_false_iff_ne]
        exact fun e => hap ⟨i, by rw [← e]; exact ht, hi⟩
      · rw [beq_eq_false_iff_ne]
        exact fun e => hap ⟨i, by rw [← e]; exact ho.1, hi⟩
    omega
  · refine .inl (Nat.le_antisymm ?_ bN_leave)
    rw [← h4]
    refine bond_le _ _ _ _ (by omega) h1 (fun _ _ => Nat.zero_le _) fun y hy => freeK_iff.2 fun i hi => ?_
    rw [bit_or_pow, freeK_iff.1 (h3 y hy) i hi, Bool.false_or, beq_eq_false_iff_ne]
    exact fun e => hc (List.any_eq_true.2 ⟨y, hy, by rw [e]; exact hi⟩)
end
end Go.Proofs.Ytmelemjngnadpaa

namespace Go.Proofs.Ytmelemjngnadpaa
section
variable {A : Nat → Nat → Bool}
theorem wk_fun : ∀ {k i j : Nat}, wk A k i j → ∃ p : Nat → Nat, p 0 = i ∧ p k = j ∧ ∀ t, t < k → A (p t) (p (t + 1)) = true
  | 0, i, _, h => ⟨fun _ => i, rfl, h, fun t ht => absurd ht (Nat.not_lt_zero t)⟩
  | k + 1, i, j, ⟨x, hx, hj⟩ => by
    obtain ⟨p, h0, h1, h2⟩ := wk_fun hx
    refine ⟨fun t => if t ≤ k then p t else j, by simp only [if_pos (Nat.zero_le k)]; exact h0, by simp only [if_neg (Nat.not_succ_le_self k)], fun t ht => ?_⟩
    by_cases e : t = k
    · subst e
      simp only [if_pos (Nat.le_refl t), if_neg (Nat.not_succ_le_self t)]
      rw [h1]; exact hj
    · simp only [if_pos (show t ≤ k by omega), if_pos (show t + 1 ≤ k by omega)]
      exact h2 t (by omega)
theorem fun_wk {p : Nat → Nat} : ∀ k, (∀ t, t < k → A (p t) (p (t + 1)) = true) → wk A k (p 0) (p k)
  | 0, _ => rfl
  | k + 1, h => ⟨p k, fun_wk k fun t ht => h t (by omega), h k (by omega)⟩
/-- A walk has a way. -/
theorem walk_way {k i j : Nat} (h : wk A k i j) : ∃ m p, WayU (fun x y => A x y = true) i j m p := by
  obtain ⟨m, hm, hle⟩ := arg_min (P := fun k => wk A k i j) (fun k => k) k k (Nat.le_refl _) h
  obtain ⟨p, h0, h1, h2⟩ := wk_fun hm
  have hcut : ∀ s t, s < t → t ≤ m → p s ≠ p t := fun s t hst htm e => by
    have w1 : wk A s i (p s) := h0 ▸ fun_wk s fun r hr => h2 r (by omega)
    have w2 : wk A (m - t) (p t) j := by
      have := fun_wk (A := A) (p := fun r => p (t + r)) (m - t) fun r hr => h2 (t + r) (by omega)
      simp only [Nat.add_zero, show t + (m - t) = m by omega] at this
      rwa [h1] at this
    rw [e] at w1
    have := hle _ (wk_trans w1 w2)
    omega
  refine ⟨m, p, h0, h1, h2, fun s t hs ht e => ?_⟩
  rcases Nat.lt_trichotomy s t with g | g | g
  · exact absurd e (hcut s t g ht)
  · exact g
  · exact absurd e.symm (hcut t s g hs)
end
section
variable {n a b u : Nat} {es : List E3}
/-- What parts two nodes is a wall. -/
theorem parted_wall (hg : goodE n es) (hu : u < 2 ^ n) (ha : u.testBit a = false) (hb : u.testBit b = false) : (¬ ∃ k, wk (adjE (offE u es)) k a b) ↔ WallP (adjE es) n a b (fun x => u.testBit x) := by
  have hoff : ∀ x, offW u x = true ↔ u.testBit x = false := fun x => by unfold offW; simp
  constructor
  · intro hno
    refine ⟨fun x hx => ⟨?_, fun e => ?_, fun e => ?_⟩, fun m p hp => ?_⟩
    · exact Nat.lt_of_not_le fun h => by
        rw [Nat.testBit_lt_two_pow (Nat.lt_of_lt_of_le hu (Nat.pow_le_pow_right (by omega) h))] at hx; cases hx
    · rw [e, ha] at hx; cases hx
    · rw [e, hb] at hx; cases hx
    · apply Classical.byContradiction
      intro h
      have hfree : ∀ t, t ≤ m → u.testBit (p t) = false := fun t ht => by
        by_cases e0 : t = 0
        · rw [e0, hp.src]; exact ha
        · by_cases e1 : t = m
          · rw [e1, hp.dst]; exact hb
          · cases g : u.testBit (p t) with
            | false => rfl
            | true => exact absurd ⟨t, by omega, by omega, g⟩ h
      refine hno ⟨m, ?_⟩
      rw [← hp.src, ← hp.dst]
      exact fun_wk m fun t ht => (adjE_off hg).2 ⟨hp.step t ht, (hoff _).2 (hfree t (by omega)), (hoff _).2 (hfree (t + 1) (by omega))⟩
  · rintro H ⟨k, hk⟩
    obtain ⟨m, p, hp⟩ := walk_way hk
    have hp' : WayU (fun i j => adjE es i j = true) a b m p := ⟨hp.src, hp.dst, fun t ht => ((adjE_off hg).1 (hp.step t ht)).1, hp.inj⟩
    obtain ⟨t, h0, ht, hW⟩ := H.meet m p hp'
    have := (hoff _).1 ((adjE_off hg).1 (hp.step t ht)).2.1
    rw [hW] at this; cases this
end
/-- A set has the other one's order: words of walls. -/
theorem WallP.congr {adj : Nat → Nat → Bool} {n a b : Nat} {W W' : Nat → Bool} (h : WallP adj n a b W) (he : ∀ x, W x = W' x) : WallP adj n a b W' :=
  ⟨fun x hx => h.mem x (by rw [he]; exact hx), fun m p hp => by
    obtain ⟨t, h0, h1, h2⟩ := h.meet m p hp
    exact ⟨t, h0, h1, by rw [← he]; exact h2⟩⟩
theorem WayU.back {A : Nat → Nat → Bool} (hs : ∀ i j, A i j = A j i) {a b m : Nat} {p : Nat → Nat} (h : WayU (fun i j => A i j = true) a b m p) : WayU (fun i j => A i j = true) b a m (fun t => p (m - t)) := by
  refine ⟨by simp only [Nat.sub_zero]; exact h.dst, by simp only [Nat.sub_self]; exact h.src, fun t ht => ?_, fun s t hs ht e => ?_⟩
  · have := h.step (m - (t + 1)) (by omega)
    rw [show m - (t + 1) + 1 = m - t by omega] at this
    rw [hs]; exact this
  · have := h.inj (m - s) (m - t) (by omega) (by omega) e
    omega
/-- A wall is one from either side. -/
theorem WallP.back {adj : Nat → Nat → Bool} (hs : ∀ i j, adj i j = adj j i) {n a b : Nat} {W : Nat → Bool} (h : WallP adj n a b W) : WallP adj n b a W :=
  ⟨fun x hx => ⟨(h.mem x hx).1, (h.mem x hx).2.2, (h.mem x hx).2.1⟩, fun m p hp => by
    obtain ⟨t, h0, h1, h2⟩ := h.meet m _ (hp.back hs)
    exact ⟨m - t, by omega, by omega, h2⟩⟩
/-- The neighbours of a are a wall. -/
theorem wall_near {adj : Nat → Nat → Bool} {n a b : Nat} (hab : a ≠ b) (hno : adj a b = false) (hfar : ∀ i j, adj i j = true → i < n ∧ j < n ∧ i ≠ j) : WallP adj n a b (adj a) :=
  ⟨fun x hx => ⟨(hfar a x hx).2.1, (hfar a x hx).2.2.symm, fun e => by rw [e, hno] at hx; cases hx⟩, fun m p hp => by
    have hm0 : m ≠ 0 := fun e => by subst e; exact hab (by rw [← hp.src, ← hp.dst])
    have h1 := hp.step 0 (by omega)
    rw [hp.src] at h1
    have hm1 : m ≠ 1 := fun e => by subst e; rw [hp.dst, hno] at h1; cases h1
    exact ⟨1, by omega, by omega, h1⟩⟩
/-- Ways apart are no more than a has edges. -/
theorem ways_near {adj : Nat → Nat → Bool} {n a b : Nat} (hab : a ≠ b) (hno : adj a b = false) (hfar : ∀ i j, adj i j = true → i < n ∧ j < n ∧ i ≠ j) {L : List (List Nat)} (hL : ∀ l, l ∈ L → WayL adj a b l) (hp : ApartL a b L) : L.length ≤ sizeP (adj a) n :=
  (wall_near hab hno hfar).ge hL hp
end Go.Proofs.Ytmelemjngnadpaa

namespace Go.Proofs.Ytmelemjngnadpaa
open Go.ChangeShapes Go.WideShapes Go.ChangeAt Go.RowKit Go.Joins Go.Deep

theorem ownK : ownKnob Try.prog.godebug = none := by kernel_rfl
theorem laidOutO : laidOutB Try.prog = true := by kernel_rfl
theorem cellsInt : Try.prog.cellsOf 3 = 1 := by kernel_rfl
end Go.Proofs.Ytmelemjngnadpaa

namespace Go.Proofs.Ytmelemjngnadpaa
open Go.ChangeShapes Go.WideShapes Go.ChangeAt Go.RowKit Go.Joins Go.Deep

theorem recGraph : Try.prog.readableRec 24 = true := by kernel_rfl
theorem rowGraph : (24 : TypeId) < Try.prog.types.size := of_decide_eq_true (by kernel_rfl)
theorem cellsGraph : Try.prog.cellsOf 24 = 2 := by kernel_rfl
theorem cellsEdge : Try.prog.cellsOf 59 = 3 := by kernel_rfl
theorem cellsInt64 : Try.prog.cellsOf 2 = 1 := by kernel_rfl

/-- Every number of an edge is an int64. -/
def WfE (e : E3) : Prop := (Lit.int .i64 e.1).wf = true ∧ (Lit.int .i64 e.2.1).wf = true ∧ (Lit.int .i64 e.2.2).wf = true

section
variable {H : Type} {enc : TypeId × Value → H} {W : World} {base : Nat} {spare : Nat → Bool} {held : Bool}

theorem edge_of {n : Nat} {cs : List Value} {x : DataW H × List MemPlace} (h : DataW.trod enc Try.prog W base spare held n 59 cs = some x) :
    ∃ e : E3, cs = [.int .i64 e.1, .int .i64 e.2.1, .int .i64 e.2.2] ∧ WfE e := by
  obtain ⟨y0, y1, y2, m, _, hlen, h0, h1, h2⟩ := trod_struct3 Try.underlying59 h
  rw [cellsEdge] at hlen
  match cs, hlen with
  | [c0, c1, c2], _ =>
    simp only [cellsInt, cellsInt64, List.drop_zero, List.take_succ_cons, List.take_zero, List.drop_succ_cons] at h0 h1 h2
    obtain ⟨a, e0, _, wa⟩ := DataW.trod_int Try.underlying3 h0
    obtain ⟨b, e1, _, wb⟩ := DataW.trod_int Try.underlying3 h1
    obtain ⟨c, e2, _, wc⟩ := DataW.trod_int Try.underlying2 h2
    simp only [List.cons.injEq, and_true] at e0 e1 e2
    subst e0 e1 e2
    exact ⟨(a, b, c), rfl, wa, wb, wc⟩

theorem edges_of {n : Nat} {v : Value} {x : DataW H × List MemPlace} (h : DataW.trod enc Try.prog W base spare held n 22 [v] = some x) :
    ∃ (A : Option Addr) (len cap : Nat) (es : List E3), v = .slice A len cap ∧ EdgesAt W W.heap.size A len es ∧ len ≤ cap ∧ ∀ e ∈ es, WfE e := by
  rcases open_slice Try.underlying22 h with ⟨h0, _⟩ | ⟨a, len, cap, m, k, D, Pl, hcs, _, hl, _, hmm, _, hi⟩
  · simp only [List.cons.injEq, and_true] at h0
    subst h0
    exact ⟨none, 0, 0, [], rfl, ⟨rfl, fun h => absurd h (by omega)⟩, Nat.le_refl _, by simp⟩
  · simp only [List.cons.injEq, and_true] at hcs
    subst hcs
    have hlm : len ≤ m := by rw [hmm]; split <;> omega
    have hall : ∀ i, ∃ e : E3, i < len → (∀ j, j < 3 → W.cell? (a.add (i * 3 + j)) = [Value.int .i64 e.1, .int .i64 e.2.1, .int .i64 e.2.2][j]?) ∧ WfE e := fun i => by
      by_cases hlt : i < len
      · obtain ⟨cs', hc, ht⟩ := hi i (by omega)
        obtain ⟨e, rfl, he⟩ := edge_of ht
        rw [cellsEdge] at hc
        obtain ⟨_, _, hat⟩ := World.cells?_some hc
        exact ⟨e, fun _ => ⟨fun j hj => by rw [← Go.Deep.add_add]; exact hat j hj, he⟩⟩
      · exact ⟨default, fun h => absurd h hlt⟩
    obtain ⟨f, hf⟩ := Classical.axiomOfChoice hall
    refine ⟨some a, len, cap, (List.range len).map f, rfl, ⟨by simp, fun hn => ?_⟩, hl, fun e he => ?_⟩
    · have hz := (hf 0 hn).1 0 (by omega)
      simp only [Nat.zero_mul, Nat.add_zero, List.getElem?_cons_zero] at hz
      obtain ⟨b, off, spot⟩ := a
      have hspot : spot = none := by simpa [Addr.add] using World.cell?_spot hz
      subst hspot
      have hb : b < W.heap.size := by
        rcases Nat.lt_or_ge b W.heap.size with h | h
        · exact h
        · simp [World.cell?, Addr.add, Array.getElem?_eq_none h] at hz
      refine ⟨b, off, rfl, hb, fun i e hie => ?_⟩
      obtain ⟨hil, hie⟩ := List.getElem?_eq_some_iff.1 hie
      simp only [List.length_map, List.length_range] at hil
      simp only [List.getElem_map, List.getElem_range] at hie
      subst hie
      have hc := (hf i hil).1
      refine ⟨?_, ?_, ?_⟩
      · have := hc 0 (by omega); rw [Go.WideShapes.add_plain] at this; simpa using this
      · have := hc 1 (by omega); rw [Go.WideShapes.add_plain] at this; simpa [Nat.add_assoc] using this
      · have := hc 2 (by omega); rw [Go.WideShapes.add_plain] at this; simpa [Nat.add_assoc] using this
    · simp only [List.mem_map, List.mem_range] at he
      obtain ⟨i, hi', rfl⟩ := he
      exact (hf i hi').2

theorem open_graph {r : Reach} {b0 : Nat} {v : Value} {d : DataW H} {p : List MemPlace} (hv : Value.okWide Try.prog W r b0 24 v) (h : DataW.Trod enc Try.prog W base spare held 24 v d p) :
    ∃ (n : Int) (A : Option Addr) (len cap : Nat) (es : List E3), v = .agg #[.int .i64 n, .slice A len cap] ∧ EdgesAt W W.heap.size A len es ∧ len ≤ cap ∧ (∀ e ∈ es, WfE e) ∧ (Lit.int .i64 n).wf = true := by
  obtain ⟨c0, c1, y0, y1, m, rfl, _, _, hy0, hy1⟩ := open_agg2 Try.underlying24 (by kernel_rfl) cellsGraph hv h
  obtain ⟨n, e0, _, wn⟩ := DataW.trod_int Try.underlying3 hy0
  simp only [List.cons.injEq, and_true] at e0
  subst e0
  obtain ⟨A, len, cap, es, rfl, hE, hl, hw⟩ := edges_of hy1
  exact ⟨n, A, len, cap, es, rfl, hE, hl, hw, wn⟩
end
end Go.Proofs.Ytmelemjngnadpaa
