/- The statement ColourZeroSaid, out of the law's walk. No conditions. -/
import Derived.Test.YtpcealcghglopaaCheckGo
import Derived.Test.YtpcealcghglopaaColourTop
import Derived.Test.YtpcealcghglopaaLooseP
import Derived.Test.YtpcealcghglopaaTallyP
import Derived.Test.YtpcealcghglopaaWordsAt
import Derived.Test.YtpcealcghglopaaNeigh
import Derived.Test.YtpcealcghglopaaMakesU
import Derived.Test.YtpcealcghglopaaMem
import Derived.Test.YtpcealcghglopaaLeastTop
import Derived.Deep.RegionHeld3
import Derived.IntWalk
import Derived.Laws.EntriesVeiled
import Derived.Test.YtpcealcghglopaaRows
import Derived.ProofKit
import Derived.Deep.Slices
import Derived.Deep.Strs
import Derived.Lib.SmallJoins
namespace Go.Proofs.Ytpcealcghglopaa
open Go.RowKit

set_option maxRecDepth 100000 in
set_option maxHeartbeats 400000 in
theorem good_any (n : Int) (A : Option Addr) (len cap : Nat) (es : List E3) (w : World) (hE : EdgesAt w w.heap.size A len es) (hcap : len ≤ cap) :
    Calls Try.prog 25 #[.agg #[.int .i64 n, .slice A len cap]] w fun e w' => e = .returned (.bool (gcheck n es == 0)) ∧ Below w.heap.size w w' := by
  have HE := Lib.hid (show EdgesAt (bx w n A len cap) (bx w n A len cap).heap.size A len es from (hE.alloc (Nat.le_refl _) _).more (by simp [bx]))
  clear hE
  go_enter Try.func25, Try.ntmps25
  go_wp2_with (go_at_call 16; refine (graphCheck_any n A len cap es _ (by exact HE.out) hcap).mono ?_; rintro e w2 ⟨rfl, hb2⟩)
  go_ret
  exact ⟨rfl, ((Below.refl _ _).alloc (Nat.le_refl _) _).trans (hb2.mono (by simp))⟩
set_option maxRecDepth 100000 in
theorem good_v (n : Int) (A : Option Addr) (len cap : Nat) (es : List E3) (v : Bool) (w : World) (hE : EdgesAt w w.heap.size A len es) (hcap : len ≤ cap) (hv : (gcheck n es == 0) = v) :
    Calls Try.prog 25 #[.agg #[.int .i64 n, .slice A len cap]] w fun e w' => e = .returned (.bool v) ∧ Below w.heap.size w w' := by
  subst hv; exact good_any n A len cap es w hE hcap

end Go.Proofs.Ytpcealcghglopaa

namespace Go.Proofs.Ytpcealcghglopaa
open Go.RowKit

theorem allW_bit (m i : Nat) : (2 ^ m - 1).testBit i = decide (i < m) := Nat.testBit_two_pow_sub_one m i
/-- A colouring by sets is one node by node. -/
theorem colW_iff {m k : Nat} {es : List E3} (hg : goodE m es) : (∃ c, ColW (looseE es) (2 ^ m - 1) k c) ↔ ∃ c : Nat → Nat, (∀ i, i < m → c i < k) ∧ ∀ i j, i < m → j < i → adjE es j i = true → c j ≠ c i := by
  constructor
  · rintro ⟨c, h1, h2⟩
    refine ⟨c, fun i hi => h1 i (by rw [allW_bit]; exact decide_eq_true hi), fun i j hi hj ha e => ?_⟩
    have hbit : ∀ x, (2 ^ i ||| 2 ^ j).testBit x = true ↔ x = i ∨ x = j := fun x => by
      rw [Nat.testBit_or, Nat.testBit_two_pow, Nat.testBit_two_pow, Bool.or_eq_true, decide_eq_true_iff, decide_eq_true_iff]
      constructor
      · rintro (h | h)
        · exact .inl h.symm
        · exact .inr h.symm
      · rintro (h | h)
        · exact .inl h.symm
        · exact .inr h.symm
    have hl := h2 (2 ^ i ||| 2 ^ j) (subQ_iff.2 fun x hx => by
      rw [allW_bit]
      rcases (hbit x).1 hx with h | h <;> exact decide_eq_true (by omega)) fun a b ha' hb' => by
        rcases (hbit a).1 ha' with h | h <;> rcases (hbit b).1 hb' with h' | h' <;> rw [h, h'] <;> first | rfl | exact e | exact e.symm
    unfold looseE at hl
    rw [List.all_eq_true] at hl
    unfold adjE at ha
    rw [List.any_eq_true] at ha
    obtain ⟨x, hx, hb⟩ := ha
    have h3 := hl x hx
    simp only [Bool.or_eq_true, Bool.and_eq_true, beq_iff_eq] at hb
    have hbi := (hbit i).2 (.inl rfl)
    have hbj := (hbit j).2 (.inr rfl)
    rcases hb with ⟨a, b⟩ | ⟨a, b⟩
    · simp only [bothE, a, b, Int.toNat_natCast, hbi, hbj] at h3
      cases h3
    · simp only [bothE, a, b, Int.toNat_natCast, hbi, hbj] at h3
      cases h3
  · rintro ⟨c, h1, h2⟩
    refine ⟨c, fun i hi => h1 i (by rw [allW_bit] at hi; exact of_decide_eq_true hi), fun s hs hc => ?_⟩
    unfold looseE
    rw [List.all_eq_true]
    intro e he
    obtain ⟨p0, p1, p2, p3⟩ := InE.of_good hg e he
    obtain ⟨x, hx⟩ := Int.eq_ofNat_of_zero_le p0
    obtain ⟨y, hy⟩ := Int.eq_ofNat_of_zero_le p2
    have ha : adjE es x y = true := by
      unfold adjE
      rw [List.any_eq_true]
      exact ⟨e, he, by simp [hx, hy]⟩
    obtain ⟨hxm, hym, hxy⟩ := adjE_lt hg ha
    simp only [bothE, hx, hy, Int.toNat_natCast, Bool.not_eq_true', Bool.and_eq_false_iff]
    cases hsx : s.testBit x with
    | false => exact .inl rfl
    | true =>
      cases hsy : s.testBit y with
      | false => exact .inr rfl
      | true =>
        exfalso
        have hcc := hc x y hsx hsy
        rcases Nat.lt_or_gt_of_ne hxy with h | h
        · exact h2 y x hym h ha hcc
        · exact h2 x y hxm h (by rw [adjE_symm]; exact ha) hcc.symm
/-- There is a colouring just if there are no fewer colours than the least number. -/
theorem pol_least {m k c : Nat} {es : List E3} {l : List Nat} {a : Nat → Int → Int} (hg : goodE m es) (ha : PolA m (looseE es) a) (hL : LeastC (adjE es) m c l) : 0 < a (2 ^ m - 1) (k : Int) ↔ c ≤ k := by
  have hpos := Nat.two_pow_pos m
  rw [pol_pos ha (looseE_zero es) loose_down k (2 ^ m - 1) (by omega), colW_iff hg]
  constructor
  · rintro ⟨col, h1, h2⟩
    exact hL.le h1 h2
  · intro h
    obtain ⟨hp, hl⟩ := hL.part
    exact ⟨fun i => l.getD i 0, fun i hi => by have := hp.lt i (by omega); show l.getD i 0 < k; omega, fun i j hi hj ha => hp.ne i j (by omega) hj ha⟩
set_option maxRecDepth 100000 in
set_option maxHeartbeats 4000000 in
theorem colourZero_of (n : Int) (A : Option Addr) (len cap : Nat) (es : List E3) (k : Int) (w : World) (hE : EdgesAt w w.heap.size A len es) (hcap : len ≤ cap)
    (HO : ∀ W, EdgesAt W W.heap.size A len es → Calls Try.prog 15 #[.agg #[.int .i64 n, .slice A len cap]] W (LeastTop W n es))
    (HP : ∀ k W, EdgesAt W W.heap.size A len es → Calls Try.prog 22 #[.agg #[.int .i64 n, .slice A len cap], .int .i64 k] W (CountTop W n es k)) :
    Calls Try.prog 13 #[.agg #[.int .i64 n, .slice A len cap], .int .i64 k] w fun e w' => e = .returned (.bool true) ∧ Below w.heap.size w w' := by
  have HX := Lib.hid (BoxG.start (n := n) (cap := cap) hE)
  have HOO := Lib.hid HO
  have HPP := Lib.hid HP
  obtain ⟨x, hx⟩ : ∃ x, gcheck n es = x := ⟨_, rfl⟩
  have HCX := Lib.hid hx
  have k0 := HX.out.c0
  have k1 := HX.out.c1
  have HLE : Hid (es.length = len) := Lib.hid hE.1
  clear hE HO HP
  by_cases h0 : x = 0
  · subst h0
    obtain ⟨hn0, hn1, hl, hg⟩ := good_of_gcheck hx
    obtain ⟨m, rfl⟩ := Int.eq_ofNat_of_zero_le hn0
    have hm10 : m ≤ 10 := by omega
    have HG := Lib.hid hg
    have HCK := Lib.hid (fun W hW => good_v (m : Int) A len cap es true W hW hcap (by rw [hx]; rfl))
    clear hx hg hl
    by_cases hk : k < 0 ∨ 12 < k
    · have HK := Lib.hid hk
      have hk2 : k < 0 ∨ (¬ k < 0 ∧ 11 < k) := by omega
      have hk12 : (k == 12) = false := by simp; omega
      rcases hk2 with hk2 | ⟨hk2, hk3⟩
      all_goals
        clear hk
        go_enter Try.func13, Try.ntmps13
        go_wp2_with fail
        refine (HPP.out k _ HX.out.edges).mono ?_
        rintro e w1 ⟨_, h2, _, hB⟩
        obtain rfl := h2 HCX.out HK.out
        have HX1 := Lib.hid (HX.out.next hB)
        have k0' := HX1.out.c0
        have k1' := HX1.out.c1
        clear h2 hB k0 k1
        go_wp2_with fail
        refine (HOO.out _ HX1.out.edges).mono ?_
        rintro e w2 ⟨_, h2, hB⟩
        obtain ⟨c, l, A1, c1, _, rfl, _, _⟩ := h2 HCX.out
        have HX2 := Lib.hid (HX1.out.next hB)
        have q0 := HX2.out.c0
        have q1 := HX2.out.c1
        clear h2 hB k0' k1'
        go_wp2_with fail
        refine (HCK.out _ HX2.out.edges).mono ?_
        rintro e w3 ⟨rfl, hB⟩
        have HX3 := Lib.hid (HX2.out.next hB)
        clear hB q0 q1
        go_wp2_with fail
        go_ret
        exact ⟨rfl, HX3.out.below⟩
    · have HK := Lib.hid hk
      obtain ⟨kk, rfl⟩ := Int.eq_ofNat_of_zero_le (show 0 ≤ k by omega)
      have hkk : kk ≤ 12 := by omega
      have hk0 : ¬ (kk : Int) < 0 := by omega
      have hpos := Nat.two_pow_pos m
      clear hk
      by_cases h12 : kk = 12
      · subst h12
        go_enter Try.func13, Try.ntmps13
        go_wp2_with fail
        refine (HPP.out 12 _ HX.out.edges).mono ?_
        rintro e w1 ⟨_, _, h3, hB⟩
        obtain ⟨a, ha, rfl⟩ := h3 HCX.out (by decide)
        have HX1 := Lib.hid (HX.out.next hB)
        have k0' := HX1.out.c0
        have k1' := HX1.out.c1
        clear h3 hB k0 k1 ha
        go_wp2_with fail
        refine (HOO.out _ HX1.out.edges).mono ?_
        rintro e w2 ⟨_, h2, hB⟩
        obtain ⟨c, l, A1, c1, _, rfl, _, _⟩ := h2 HCX.out
        have HX2 := Lib.hid (HX1.out.next hB)
        have q0 := HX2.out.c0
        have q1 := HX2.out.c1
        clear h2 hB k0' k1'
        go_wp2_with fail
        refine (HCK.out _ HX2.out.edges).mono ?_
        rintro e w3 ⟨rfl, hB⟩
        have HX3 := Lib.hid (HX2.out.next hB)
        clear hB q0 q1
        go_wp2_with fail
        go_ret
        exact ⟨rfl, HX3.out.below⟩
      · have hk11 : ¬ (11 : Int) < (kk : Int) := by omega
        have hkw : IntKind.i64.wrap ((kk : Int) + 1) = ((kk + 1 : Nat) : Int) := by rw [IntWalk.i64_in _ (by omega)]; omega
        have HK1 : Hid (¬ (((kk + 1 : Nat) : Int) < 0 ∨ 12 < ((kk + 1 : Nat) : Int))) := Lib.hid (by omega)
        go_enter Try.func13, Try.ntmps13
        go_wp2_with fail
        refine (HPP.out (kk : Int) _ HX.out.edges).mono ?_
        rintro e w1 ⟨_, _, h3, hB⟩
        obtain ⟨a, ha, rfl⟩ := h3 HCX.out HK.out
        have e0 : ((m : Int)).toNat = m := rfl
        rw [e0] at ha
        rw [e0]
        have HA := Lib.hid ha
        have HX1 := Lib.hid (HX.out.next hB)
        have k0' := HX1.out.c0
        have k1' := HX1.out.c1
        clear h3 hB k0 k1 ha
        obtain ⟨v, hv⟩ : ∃ v, a (2 ^ m - 1) (kk : Int) = v := ⟨_, rfl⟩
        have HVV := Lib.hid hv
        rw [hv]
        clear hv
        go_wp2_with fail
        refine (HOO.out _ HX1.out.edges).mono ?_
        rintro e w2 ⟨_, h2, hB⟩
        obtain ⟨c, l, A1, c1, hL, rfl, _, _⟩ := h2 HCX.out
        rw [e0] at hL
        have HLC := Lib.hid hL
        have HX2 := Lib.hid (HX1.out.next hB)
        have q0 := HX2.out.c0
        have q1 := HX2.out.c1
        clear h2 hB k0' k1' hL
        go_wp2_with fail
        refine (HCK.out _ HX2.out.edges).mono ?_
        rintro e w3 ⟨rfl, hB⟩
        have HX3 := Lib.hid (HX2.out.next hB)
        have r0 := HX3.out.c0
        have r1 := HX3.out.c1
        clear hB q0 q1
        go_wp2_with fail
        refine (HPP.out ((kk + 1 : Nat) : Int) _ HX3.out.edges).mono ?_
        rintro e w4 ⟨_, _, h3, hB⟩
        obtain ⟨b, hb, rfl⟩ := h3 HCX.out HK1.out
        rw [e0] at hb
        rw [e0]
        obtain ⟨u, hu⟩ : ∃ u, b (2 ^ m - 1) ((kk + 1 : Nat) : Int) = u := ⟨_, rfl⟩
        rw [hu]
        have huv : v ≤ u := by
          rw [← hu, ← HVV.out, pol_one hb HA.out (2 ^ m) (2 ^ m - 1) (by omega) (by omega)]
          exact pol_mono HA.out (looseE_zero es) kk (by omega)
        have hpl : 0 < v ↔ c ≤ kk := by
          rw [← HVV.out]
          exact pol_least HG.out HA.out HLC.out
        have hm0 : m = 0 → v = 1 := fun e => by
          subst e
          rw [← HVV.out]
          exact HA.out.zero _
        have HX4 := Lib.hid (HX3.out.next hB)
        have s0 := HX4.out.c0
        have hcs : (0 < v ∧ (c : Int) ≤ (kk : Int)) ∨ (¬ 0 < v ∧ ¬ (c : Int) ≤ (kk : Int)) := by
          by_cases h : 0 < v
          · exact .inl ⟨h, by have := hpl.1 h; omega⟩
          · exact .inr ⟨h, fun h2 => h (hpl.2 (by omega))⟩
        clear h3 hB r0 r1 hb hu e0 hpl
        rcases Nat.eq_zero_or_pos m with hm | hm
        · have hv1 := hm0 hm
          subst hm
          subst hv1
          clear hm0
          rcases hcs with ⟨h5, h6⟩ | ⟨h5, h6⟩
          · go_wp2_with fail
            go_ret
            exact ⟨rfl, HX4.out.below⟩
          · exact absurd (by decide) h5
        · have hmi : (0 : Int) < (m : Int) := by omega
          clear hm0
          rcases hcs with ⟨h5, h6⟩ | ⟨h5, h6⟩
          all_goals
            go_wp2_with fail
            go_ret
            exact ⟨rfl, HX4.out.below⟩
  · have HH0 := Lib.hid h0
    have hx0 : (x != 0) = true := by simpa using h0
    have HCK := Lib.hid (fun W hW => good_v n A len cap es false W hW hcap (by rw [hx]; simpa using h0))
    clear hx h0
    go_enter Try.func13, Try.ntmps13
    go_wp2_with fail
    refine (HPP.out k _ HX.out.edges).mono ?_
    rintro e w1 ⟨h1, _, _, hB⟩
    obtain rfl := h1 (by rw [HCX.out]; exact HH0.out)
    rw [HCX.out]
    have HX1 := Lib.hid (HX.out.next hB)
    have k0' := HX1.out.c0
    have k1' := HX1.out.c1
    clear h1 hB k0 k1
    go_wp2_with fail
    refine (HOO.out _ HX1.out.edges).mono ?_
    rintro e w2 ⟨h1, _, hB⟩
    obtain rfl := h1 (by rw [HCX.out]; exact HH0.out)
    rw [HCX.out]
    have HX2 := Lib.hid (HX1.out.next hB)
    have q0 := HX2.out.c0
    have q1 := HX2.out.c1
    clear h1 hB k0' k1'
    go_wp2_with fail
    refine (HCK.out _ HX2.out.edges).mono ?_
    rintro e w3 ⟨rfl, hB⟩
    have HX3 := Lib.hid (HX2.out.next hB)
    clear hB q0 q1
    go_wp2_with fail
    go_ret
    exact ⟨rfl, HX3.out.below⟩
end Go.Proofs.Ytpcealcghglopaa

namespace Go.Proofs.Ytpcealcghglopaa
open Go.RowKit

/-- The sets so far lie in their row; all else lies as it lay. -/
structure TallyW (w : World) (gS n : Nat) (L : List Nat) (wr : World) : Prop where
  low : Below 0 w wr
  blk : ∀ b, b < w.heap.size → b ≠ gS → wr.heap[b]? = w.heap[b]?
  row : ∃ X, L.length + X.length = n ∧ RowOf wr gS 52 ((L ++ X).map u32V)
section
variable {w wr : World} {gS n c x : Nat} {L : List Nat}
theorem TallyW.cell (H : TallyW w gS n L wr) {p : Addr} {v : Value} (hp : w.cell? p = some v) (h1 : p.block ≠ gS) : wr.cell? p = some v := by
  have := H.blk p.block (block_lt_of_cell hp) h1
  rw [← hp]; unfold World.cell?; rw [this]
theorem TallyW.drew (H : TallyW w gS n L wr) : TallyW w gS n L wr.drew := ⟨H.low.drew, H.blk, H.row⟩
theorem TallyW.get (H : TallyW w gS n L wr) (hc : c < L.length) : wr.cell? ⟨gS, c, none⟩ = some (.int .u32 ((L.getD c 0 : Nat) : Int)) := by
  obtain ⟨X, _, hr⟩ := H.row
  refine hr.cell ?_
  rw [List.getElem?_map, List.getElem?_append_left hc, List.getD_eq_getElem?_getD, List.getElem?_eq_getElem hc]; rfl
theorem TallyW.frozen (H : TallyW w gS n L wr) (i : Nat) : wr.frozen? ⟨gS, i, none⟩ = false := by
  obtain ⟨X, _, hr⟩ := H.row
  exact hr.frozen i
theorem TallyW.lt (H : TallyW w gS n L wr) : gS < wr.heap.size := by
  obtain ⟨X, _, hr⟩ := H.row
  exact hr.lt
theorem TallyW.has (H : TallyW w gS n L wr) {i : Nat} (hi : i < n) : ∃ v, wr.cell? ⟨gS, i, none⟩ = some v := by
  obtain ⟨X, h, hr⟩ := H.row
  have hl : i < ((L ++ X).map u32V).length := by rw [List.length_map, List.length_append, h]; exact hi
  exact ⟨_, hr.cell (List.getElem?_eq_getElem hl)⟩
theorem TallyW.len (H : TallyW w gS n L wr) : L.length ≤ n := by
  obtain ⟨X, h, _⟩ := H.row
  omega
theorem TallyW.set_ (H : TallyW w gS n L wr) (hc : c < L.length) (x : Nat) : TallyW w gS n (L.set c x) (wr.setCell ⟨gS, c, none⟩ (.int .u32 (x : Int))) := by
  obtain ⟨X, h, hr⟩ := H.row
  refine ⟨H.low.setCell (p := ⟨gS, c, none⟩) (Nat.zero_le _) _, fun b hb hne => (Below.heap_setCell wr _ _ b hne).trans (H.blk b hb hne), X, by rw [List.length_set]; exact h, ?_⟩
  have h2 := hr.set_ c (u32V x)
  rw [← List.map_set, List.set_append_left _ _ hc] at h2
  exact h2
theorem TallyW.put (H : TallyW w gS n L wr) (hc : L.length < n) (x : Nat) : TallyW w gS n (L ++ [x]) (wr.setCell ⟨gS, L.length, none⟩ (.int .u32 (x : Int))) := by
  obtain ⟨X, h, hr⟩ := H.row
  cases X with
  | nil => simp at h; omega
  | cons y X =>
    refine ⟨H.low.setCell (p := ⟨gS, L.length, none⟩) (Nat.zero_le _) _, fun b hb hne => (Below.heap_setCell wr _ _ b hne).trans (H.blk b hb hne), X, by simp at h ⊢; omega, ?_⟩
    have h2 := hr.set_ L.length (u32V x)
    rw [← List.map_set, List.set_append_right _ _ (Nat.le_refl _), Nat.sub_self, List.set_cons_zero] at h2
    rw [List.append_assoc]
    exact h2
theorem TallyW.drop (H : TallyW w gS n (L ++ [x]) wr) : TallyW w gS n L wr := by
  obtain ⟨X, h, hr⟩ := H.row
  refine ⟨H.low, H.blk, x :: X, by simp at h ⊢; omega, ?_⟩
  rw [List.append_assoc] at hr
  exact hr
theorem set_back (L : List Nat) (c y : Nat) (hc : c < L.length) : (L.set c y).set c (L.getD c 0) = L := by
  rw [List.set_set, List.getD_eq_getElem?_getD, List.getElem?_eq_getElem hc, Option.getD_some, List.set_getElem_self]
end
theorem pow22 {r : Nat} (h : r ≤ 10) : (22 : Int) ^ r ≤ 26559922791424 := by
  rcases (show r = 0 ∨ r = 1 ∨ r = 2 ∨ r = 3 ∨ r = 4 ∨ r = 5 ∨ r = 6 ∨ r = 7 ∨ r = 8 ∨ r = 9 ∨ r = 10 by omega) with h | h | h | h | h | h | h | h | h | h | h <;> subst h <;> decide

theorem mul_abs13 {d y B : Int} (h0 : -12 ≤ d) (h1 : d ≤ 13) (h2 : -B ≤ y) (h3 : y ≤ B) : -(B * 13) ≤ d * y ∧ d * y ≤ B * 13 := by
  rcases Int.le_total 0 d with h | h
  · have a1 : d * y ≤ d * B := Int.mul_le_mul_of_nonneg_left h3 h
    have a2 : d * -B ≤ d * y := Int.mul_le_mul_of_nonneg_left h2 h
    have a3 : d * B ≤ 13 * B := Int.mul_le_mul_of_nonneg_right h1 (by omega)
    rw [Int.mul_neg] at a2
    omega
  · have a1 : -d * y ≤ -d * B := Int.mul_le_mul_of_nonneg_left h3 (by omega)
    have a2 : -d * -B ≤ -d * y := Int.mul_le_mul_of_nonneg_left h2 (by omega)
    have a3 : -d * B ≤ 13 * B := Int.mul_le_mul_of_nonneg_right (by omega) (by omega)
    rw [Int.neg_mul] at a1
    rw [Int.neg_mul_neg, Int.neg_mul] at a2
    rw [Int.neg_mul] at a3 a1
    omega
set_option maxRecDepth 100000 in
set_option maxHeartbeats 8000000 in
theorem tally_any (w : World) (n gS gA gB gF gK B0 cA : Nat) (Aa : Option Addr) (ar : List Nat) (k : Int) (hn : n ≤ 10) (hk0 : -1 ≤ k) (hk1 : k ≤ 12)
    (hW : WordsAt w B0 Aa n ar) (hWl : ∀ i, ar.getD i 0 < 1024) (hB0 : B0 ≤ gS) (_hgS : gS < w.heap.size)
    (kA : w.cell? ⟨gA, 0, none⟩ = some (.slice Aa n cA)) (kB : w.cell? ⟨gB, 0, none⟩ = some (.slice (some ⟨gS, 0, none⟩) n n))
    (kF : w.cell? ⟨gF, 0, none⟩ = some (.func (.func 50) #[] #[.pointer (some ⟨gA, 0, none⟩), .pointer (some ⟨gB, 0, none⟩), .pointer (some ⟨gF, 0, none⟩), .pointer (some ⟨gK, 0, none⟩)]))
    (kK : w.cell? ⟨gK, 0, none⟩ = some (.int .i64 k)) (hne : gA ≠ gS ∧ gB ≠ gS ∧ gF ≠ gS ∧ gK ≠ gS) :
    ∀ (r b : Nat) (L : List Nat) (wr : World), b + r = n → L.length ≤ b → (∀ s ∈ L, s < 1024) → TallyW w gS n L wr →
    Calls Try.prog 50 #[.int .i64 (b : Int), .int .i64 (L.length : Int), .pointer (some ⟨gA, 0, none⟩), .pointer (some ⟨gB, 0, none⟩), .pointer (some ⟨gF, 0, none⟩), .pointer (some ⟨gK, 0, none⟩)] wr fun e w' =>
      e = .returned (.int .i64 (waysN (fun i => ar.getD i 0) k r b L)) ∧ TallyW w gS n L w' := by
  intro r
  induction r with
  | zero =>
    intro b L wr hbr hL hS H
    obtain rfl : b = n := by omega
    have cA := H.cell kA hne.1
    have heq : ((b : Int) == (b : Int)) = true := by simp
    have HH := Lib.hid H
    clear H hW kA kB kF kK hS
    go_enter Try.func50, Try.ntmps50
    go_wp2_with fail
    go_ret
    exact ⟨rfl, HH.out⟩
  | succ r IH =>
    intro b L wr hbr hL hS H
    have hbn : b < n := by omega
    have HIH := Lib.hid IH
    have HKS := Lib.hid (And.intro kA (And.intro kB (And.intro kF kK)))
    have HWW := Lib.hid (And.intro hW hWl)
    have HSS := Lib.hid hS
    have cA := H.cell kA hne.1
    have cB := H.cell kB hne.2.1
    have hne1 : ((b : Int) == (n : Int)) = false := by simp; omega
    have hne2 : ¬ ((b : Int) = (n : Int)) := by omega
    obtain ⟨ba, oa, hAa, hba, hcb⟩ := hW.at_ hbn
    subst hAa
    obtain ⟨nbx, hnbx⟩ : ∃ nbx, ar.getD b 0 = nbx := ⟨_, rfl⟩
    have hnl : nbx < 1024 := by rw [← hnbx]; exact hWl b
    rw [hnbx] at hcb
    have hba2 : ba ≠ gS := by omega
    obtain ⟨m, hm⟩ : ∃ m, m = L.length := ⟨_, rfl⟩
    have HM := Lib.hid hm
    obtain ⟨f, hf⟩ : ∃ f : Nat → Int, f = fun c => if L.getD c 0 &&& nbx = 0 then waysN (fun i => ar.getD i 0) k r (b + 1) (L.set c (L.getD c 0 ||| 2 ^ b)) else 0 := ⟨_, rfl⟩
    have HF := Lib.hid hf
    have hfb : ∀ c, c < m → -(22 ^ r) ≤ f c ∧ f c ≤ (22 : Int) ^ r := fun c hc => by
      rw [hf]
      have hp : (0 : Int) ≤ 22 ^ r := Int.pow_nonneg (by decide)
      dsimp only
      split
      · exact ways_abs hk0 hk1 _ r (b + 1) _ (by rw [List.length_set]; omega) (by omega)
      · omega
    have hp22 := pow22 (show r ≤ 10 by omega)
    have HSB : Hid (∀ c, c ≤ m → -265599227914240 ≤ sumI f c ∧ sumI f c ≤ 265599227914240) := Lib.hid fun c hc => by
      have h3 := sum_absT (B := 22 ^ r) c fun j hj => hfb j (by omega)
      have h5 : (22 : Int) ^ r * (c : Int) ≤ 26559922791424 * (c : Int) := Int.mul_le_mul_of_nonneg_right hp22 (by omega)
      omega
    have HFB : Hid (∀ c, c < m → -26559922791424 ≤ f c ∧ f c ≤ 26559922791424) := Lib.hid fun c hc => by have := hfb c hc; omega
    have HVAL : Hid (waysN (fun i => ar.getD i 0) k (r + 1) b L = sumI f m + (k - m) * waysN (fun i => ar.getD i 0) k r (b + 1) (L ++ [2 ^ b])) := Lib.hid (by rw [hf, hm, ← hnbx]; rfl)
    have hmb : m ≤ b := by omega
    have hm0 : (0 : Int) ≤ (m : Int) := by omega
    have hmn : (m : Int) ≤ (n : Int) := by omega
    have HT0 := Lib.hid H
    have HCB := Lib.hid hcb
    clear IH H hW hWl kA kB kF kK hS hf hfb hp22 hcb hnbx
    rw [← hm] at hL ⊢
    clear hm
    go_enter Try.func50, Try.ntmps50
    go_wp2_with fail
    go_loopw [9, 20] (fun s t wr => ∃ c : Nat, c ≤ m ∧ s = .int .i64 (sumI f c) ∧ t = .int .i64 c ∧ Hid (TallyW w gS n L wr)) (fun _ t _ => m - (intOf t).toNat)
    case atStart => exact ⟨0, Nat.zero_le _, rfl, rfl, HT0⟩
    case round =>
      clear HT0 cA cB
      obtain ⟨c, hc, rfl, rfl, HT⟩ := hrel
      have HSC : Hid (c < m → sumI f (c + 1) = sumI f c + f c) := Lib.hid fun _ => rfl
      have hsb := HSB.out c hc
      have dA := HT.out.cell HKS.out.1 hne.1
      have dB := HT.out.cell HKS.out.2.1 hne.2.1
      have hcb' := HT.out.cell HCB.out hba2
      by_cases hcm : c < m
      · have hcl : c < L.length := by rw [← HM.out]; exact hcm
        have cS := HT.out.get hcl
        obtain ⟨s, hs⟩ : ∃ s, L.getD c 0 = s := ⟨_, rfl⟩
        have hsl : s < 1024 := by
          rw [← hs, List.getD_eq_getElem?_getD, List.getElem?_eq_getElem hcl]
          exact HSS.out _ (List.getElem_mem hcl)
        rw [hs] at cS
        have HS1 := Lib.hid hs
        have hand := and_u32 s nbx (by omega) (by omega)
        have hcm' : (c : Int) < (m : Int) := by omega
        have hgl := HT.out.lt
        obtain ⟨q, hq⟩ : ∃ q, sumI f c = q := ⟨_, rfl⟩
        rw [hq] at hsb HSC ⊢
        have HQ := Lib.hid hq
        clear hs hq
        by_cases h0 : s &&& nbx = 0
        · have h0' : (((s &&& nbx : Nat) : Int) == 0) = true := by simpa using h0
          have hp : 2 ^ b < 1024 := pow10 hn (Nat.pow_lt_pow_right (by decide) hbn)
          have hor := or_u32 s (2 ^ b) (by omega) (by omega)
          have hsm : (2 : Int) ^ b % 4294967296 = ((2 ^ b : Nat) : Int) := pow_mod b (by omega)
          have htm : IntKind.u32.wrap ((2 : Int) ^ b) = ((2 ^ b : Nat) : Int) := by rw [wrap_u32n]; exact hsm
          have hol : s ||| 2 ^ b < 1024 := Nat.or_lt_two_pow (n := 10) (by omega) (by omega)
          have HNX : Hid (TallyW w gS n (L.set c (s ||| 2 ^ b)) (wr.setCell ⟨gS, c, none⟩ (.int .u32 ((s ||| 2 ^ b : Nat) : Int)))) := Lib.hid (HT.out.set_ hcl _)
          have HFC : Hid (f c = waysN (fun i => ar.getD i 0) k r (b + 1) (L.set c (s ||| 2 ^ b))) := Lib.hid (by
            rw [HF.out]
            dsimp only
            rw [HS1.out, if_pos h0])
          have HSN : Hid (∀ x ∈ L.set c (s ||| 2 ^ b), x < 1024) := Lib.hid fun x hx => by
            rcases List.mem_or_eq_of_mem_set hx with h1 | rfl
            · exact HSS.out x h1
            · exact hol
          have hfz := HT.out.frozen c
          have hb32 : (b : Int) ≤ 32 := by omega
          have HPB : Hid (∃ pb, pb = 2 ^ b) := Lib.hid ⟨_, rfl⟩
          generalize 2 ^ b = pb at *
          generalize s ||| pb = so at *
          clear h0
          go_wp2
          go_region
          have HN1 : Hid (TallyW w gS n (L.set c so) (wr.setCell ⟨gS, c, none⟩ (.int .u32 (so : Int))).drew) := Lib.hid HNX.out.drew
          generalize (wr.setCell ⟨gS, c, none⟩ (.int .u32 (so : Int))).drew = W1 at HN1 ⊢
          have dF := HN1.out.cell HKS.out.2.2.1 hne.2.2.1
          obtain ⟨y, hy⟩ : ∃ y, waysN (fun i => ar.getD i 0) k r (b + 1) (L.set c so) = y := ⟨_, rfl⟩
          have HCALL := Lib.hid (HIH.out (b + 1) (L.set c so) W1 (by omega) (by rw [List.length_set, ← HM.out]; omega) HSN.out HN1.out)
          rw [hy, List.length_set, ← HM.out] at HCALL
          rw [hy] at HFC
          have hyb := HFB.out c hcm
          have hsb2 := HSB.out (c + 1) (by omega)
          rw [HSC.out hcm] at hsb2
          rw [HFC.out] at hyb hsb2
          clear dA dB cS hfz HNX hcb' hy HN1
          go_wp2_with fail
          refine HCALL.out.mono ?_
          rintro e W2 ⟨rfl, h2⟩
          have H2 := Lib.hid h2
          have dB2 := H2.out.cell HKS.out.2.1 hne.2.1
          have hfz := H2.out.frozen c
          have hgl2 := H2.out.lt
          have HN2 : Hid (TallyW w gS n L (W2.setCell ⟨gS, c, none⟩ (.int .u32 (s : Int)))) := Lib.hid (by
            have h5 := H2.out.set_ (c := c) (by rw [List.length_set]; exact hcl) s
            rw [← HS1.out, set_back L c so hcl, HS1.out] at h5
            exact h5)
          have cS2 : W2.cell? ⟨gS, c, none⟩ = some (.int .u32 (so : Int)) := by
            have h5 := H2.out.get (c := c) (by rw [List.length_set]; exact hcl)
            rw [List.getD_eq_getElem?_getD, List.getElem?_set_self hcl] at h5
            exact h5
          clear h2 dF HCALL
          go_wp2_with fail
          go_roundw
          case rel => exact ⟨c + 1, by omega, by rw [HSC.out hcm, HFC.out], by go_num, HN2⟩
          case measure => simp [intOf]; omega
        · have h0' : (((s &&& nbx : Nat) : Int) == 0) = false := by simpa using h0
          have HFC : Hid (f c = 0) := Lib.hid (by
            rw [HF.out]
            dsimp only
            rw [HS1.out, if_neg h0])
          clear h0
          go_wp2_with fail
          go_roundw
          case rel => exact ⟨c + 1, by omega, by rw [HSC.out hcm, HFC.out]; go_num, by go_num, HT⟩
          case measure => simp [intOf]; omega
      · obtain rfl : c = m := by omega
        have hp : 2 ^ b < 1024 := pow10 hn (Nat.pow_lt_pow_right (by decide) hbn)
        have hsm : (2 : Int) ^ b % 4294967296 = ((2 ^ b : Nat) : Int) := pow_mod b (by omega)
        have htm : IntKind.u32.wrap ((2 : Int) ^ b) = ((2 ^ b : Nat) : Int) := by rw [wrap_u32n]; exact hsm
        have hb32 : (b : Int) ≤ 32 := by omega
        have hcn : c < n := by omega
        have hcn' : (c : Int) < (n : Int) := by omega
        have HNX : Hid (TallyW w gS n (L ++ [2 ^ b]) (wr.setCell ⟨gS, c, none⟩ (.int .u32 ((2 ^ b : Nat) : Int)))) := Lib.hid (by
          have h5 := HT.out.put (by rw [← HM.out]; exact hcn) (2 ^ b)
          rw [← HM.out] at h5
          exact h5)
        have hfz := HT.out.frozen c
        have hgl := HT.out.lt
        have HSN : Hid (∀ x ∈ L ++ [2 ^ b], x < 1024) := Lib.hid fun x hx => by
          rcases List.mem_append.1 hx with h1 | h1
          · exact HSS.out x h1
          · rw [List.mem_singleton] at h1; subst h1; exact hp
        obtain ⟨y, hy⟩ : ∃ y, waysN (fun i => ar.getD i 0) k r (b + 1) (L ++ [2 ^ b]) = y := ⟨_, rfl⟩
        have HCALL := Lib.hid (fun W1 => HIH.out (b + 1) (L ++ [2 ^ b]) W1 (by omega) (by rw [List.length_append, ← HM.out]; simp; omega) HSN.out)
        rw [hy, List.length_append, ← HM.out] at HCALL
        rw [hy] at HVAL
        have hyb : -26559922791424 ≤ y ∧ y ≤ 26559922791424 := by
          have h5 := ways_abs hk0 hk1 (fun i => ar.getD i 0) r (b + 1) (L ++ [2 ^ b]) (by rw [List.length_append, ← HM.out]; simp; omega) (by omega)
          have h6 := pow22 (show r ≤ 10 by omega)
          rw [hy] at h5
          omega
        obtain ⟨q, hq⟩ : ∃ q, sumI f c = q := ⟨_, rfl⟩
        rw [hq] at hsb HVAL ⊢
        obtain ⟨u, hu⟩ : ∃ u, L ++ [2 ^ b] = u := ⟨_, rfl⟩
        rw [hu] at HNX HCALL
        have HU : Hid (∀ W, TallyW w gS n u W → TallyW w gS n L W) := Lib.hid fun W h => by rw [← hu] at h; exact h.drop
        generalize 2 ^ b = pb at hp hsm htm HNX
        obtain ⟨v0, hv0⟩ := HT.out.has hcn
        clear hq hy HSN hu HSC
        go_wp2
        go_region
        have HN1 : Hid (TallyW w gS n u (wr.setCell ⟨gS, c, none⟩ (.int .u32 (pb : Int))).drew) := Lib.hid HNX.out.drew
        generalize (wr.setCell ⟨gS, c, none⟩ (.int .u32 (pb : Int))).drew = W1 at HN1 ⊢
        have dF := HN1.out.cell HKS.out.2.2.1 hne.2.2.1
        have dK := HN1.out.cell HKS.out.2.2.2 hne.2.2.2
        have HC1 := Lib.hid (fun W (h : TallyW w gS n u W) => HCALL.out W h)
        have HN1' := Lib.hid HN1.out
        clear dA dB hcb' hfz HNX HN1 HCALL
        have HWR : Hid (TallyW w gS n u W1 ∧ True) := Lib.hid ⟨HN1'.out, trivial⟩
        obtain ⟨d, hd⟩ : ∃ d, k - (c : Int) = d := ⟨_, rfl⟩
        have hdb : -12 ≤ d ∧ d ≤ 13 := by omega
        obtain ⟨z, hz⟩ : ∃ z, d * y = z := ⟨_, rfl⟩
        have hzb : -1000000000000000 ≤ z ∧ z ≤ 1000000000000000 := by
          have e := mul_abs13 hdb.1 hdb.2 hyb.1 hyb.2
          rw [hz] at e
          omega
        have HZV : Hid (q + (k - (c : Int)) * y = q + z) := Lib.hid (by rw [hd, hz])
        have x1 : IntKind.i64.wrap ((b : Int) + 1) = (b : Int) + 1 := IntWalk.i64_in _ (by omega)
        have x2 : IntKind.i64.wrap ((c : Int) + 1) = (c : Int) + 1 := IntWalk.i64_in _ (by omega)
        have x3 : IntKind.i64.wrap (k - (c : Int)) = d := by rw [hd]; exact IntWalk.i64_in _ (by omega)
        have x4 : IntKind.i64.wrap (d * y) = z := by rw [hz]; exact IntWalk.i64_in _ (by omega)
        have x5 : IntKind.i64.wrap (q + z) = q + z := IntWalk.i64_in _ (by omega)
        clear hd hz HSB HFB hsm htm hp
        go_wp2_with fail
        go_region_held3 (fun W => W.cell? ⟨gK, 0, none⟩ = some (.int .i64 k) ∧ W.cell? ⟨gF, 0, none⟩ = some (.func (.func 50) #[] #[.pointer (some ⟨gA, 0, none⟩), .pointer (some ⟨gB, 0, none⟩), .pointer (some ⟨gF, 0, none⟩), .pointer (some ⟨gK, 0, none⟩)]))
          (first | exact ⟨dK, dF⟩ | exact hq2.out | go_keep)
          (first
            | (go_at_call 50; refine (HC1.out _ (by exact HWR.out.1.drew)).mono ?_; rintro e W2 ⟨rfl, h2⟩; have H2 := Lib.hid h2; have hq2 := Lib.hid (And.intro (H2.out.cell HKS.out.2.2.2 hne.2.2.2) (H2.out.cell HKS.out.2.2.1 hne.2.2.1)); clear h2))
        clear dK dF
        go_wp2_with fail
        go_ret
        exact ⟨by rw [HVAL.out, HZV.out]; rfl, HU.out _ H2.out⟩
end Go.Proofs.Ytpcealcghglopaa

namespace Go.Proofs.Ytpcealcghglopaa
open Go.RowKit

set_option maxRecDepth 100000 in
set_option maxHeartbeats 2000000 in
theorem count_any (n cA : Nat) (Aa : Option Addr) (ar : List Nat) (k : Int) (w : World) (hn : n ≤ 10) (hk0 : -1 ≤ k) (hk1 : k ≤ 12) (hW : WordsAt w w.heap.size Aa n ar) (hWl : ∀ i, ar.getD i 0 < 1024) :
    Calls Try.prog 44 #[.slice Aa n cA, .int .i64 k] w fun e w' => e = .returned (.int .i64 (waysN (fun i => ar.getD i 0) k n 0 [])) ∧ Below w.heap.size w w' := by
  have HW := Lib.hid (And.intro hW hWl)
  clear hW hWl
  obtain ⟨W3, hW3⟩ : ∃ W3, mkU n ((w.alloc (.cells #[.slice Aa n cA] 55)).alloc (.cells #[.int .i64 k] 2)) = W3 := ⟨_, rfl⟩
  have hmk := mkU_run n (by omega) ((w.alloc (.cells #[.slice Aa n cA] 55)).alloc (.cells #[.int .i64 k] 2))
  rw [hW3, show ((w.alloc (.cells #[.slice Aa n cA] 55)).alloc (.cells #[.int .i64 k] 2)).heap.size = w.heap.size + 1 + 1 by simp] at hmk
  have HW3 := Lib.hid hW3
  have hR3 := box_next W3 (.cells #[.slice (some ⟨w.heap.size + 1 + 1, 0, none⟩) n n] 55) .nilFunc 78
  have hc3 := hR3.cell (i := 0) rfl
  have hf3 := hR3.frozen 0
  clear hR3
  clear hW3
  go_enter Try.func44, Try.ntmps44
  go_wp2_with fail
  obtain ⟨V, hV⟩ : ∃ V : Value, V = .func (.func 50) #[] #[.pointer (some ⟨w.heap.size, 0, none⟩), .pointer (some ⟨W3.heap.size, 0, none⟩), .pointer (some ⟨W3.heap.size + 1, 0, none⟩), .pointer (some ⟨w.heap.size + 1, 0, none⟩)] := ⟨_, rfl⟩
  rw [← hV]
  have hs2 : ((w.alloc (.cells #[.slice Aa n cA] 55)).alloc (.cells #[.int .i64 k] 2)).heap.size = w.heap.size + 1 + 1 := by simp
  have hs3 : W3.heap.size = w.heap.size + 1 + 1 + 1 := by rw [← HW3.out, mkU_size, hs2]
  have hb2 : Below w.heap.size w ((w.alloc (.cells #[.slice Aa n cA] 55)).alloc (.cells #[.int .i64 k] 2)) := ((Below.refl _ _).alloc (Nat.le_refl _) _).alloc (by simp) _
  have hb3 : Below (w.heap.size + 1 + 1) ((w.alloc (.cells #[.slice Aa n cA] 55)).alloc (.cells #[.int .i64 k] 2)) W3 := by
    have h := mkU_below n ((w.alloc (.cells #[.slice Aa n cA] 55)).alloc (.cells #[.int .i64 k] 2))
    rw [HW3.out, hs2] at h
    exact h
  have rA : RowOf W3 w.heap.size 55 [.slice Aa n cA] := RowOf.below (RowOf.alloc (box_new w _ _) _) hb3 (by omega)
  have rK : RowOf W3 (w.heap.size + 1) 2 [.int .i64 k] := RowOf.below (box_next w _ _ _) hb3 (by omega)
  have rS : RowOf W3 (w.heap.size + 1 + 1) 52 (List.replicate n (.int .u32 0)) := by
    have h := mkU_row n ((w.alloc (.cells #[.slice Aa n cA] 55)).alloc (.cells #[.int .i64 k] 2))
    rw [HW3.out, hs2] at h
    exact h
  obtain ⟨W5, hW5⟩ : ∃ W5, (W3.alloc (.cells #[.slice (some ⟨w.heap.size + 1 + 1, 0, none⟩) n n] 55)).alloc (.cells #[V] 78) = W5 := ⟨_, rfl⟩
  have hb5 : Below W3.heap.size W3 W5 := by rw [← hW5]; exact ((Below.refl _ _).alloc (Nat.le_refl _) _).alloc (by simp) _
  have rB : RowOf W5 W3.heap.size 55 [.slice (some ⟨w.heap.size + 1 + 1, 0, none⟩) n n] := by rw [← hW5]; exact RowOf.alloc (box_new W3 _ _) _
  have rF : RowOf W5 (W3.heap.size + 1) 78 [V] := by rw [← hW5]; exact box_next W3 _ _ _
  have hb05 : Below w.heap.size w W5 := (hb2.trans (hb3.mono (by omega))).trans (hb5.mono (by omega))
  have rS5 := rS.keep hb5
  rw [hW5]
  have HT : Hid (TallyW W5 (w.heap.size + 1 + 1) n [] W5) := Lib.hid ⟨Below.refl _ _, fun _ _ _ => rfl, List.replicate n 0, by simp, by rw [List.nil_append, List.map_replicate]; exact rS5⟩
  have HC := Lib.hid (tally_any W5 n (w.heap.size + 1 + 1) w.heap.size W3.heap.size (W3.heap.size + 1) (w.heap.size + 1) w.heap.size cA Aa ar k hn hk0 hk1 (HW.out.1.below hb05) HW.out.2 (by omega) (by have := rS5.lt; exact this) ((rA.keep hb5).cell (i := 0) rfl) (rB.cell (i := 0) rfl) (by rw [← hV]; exact rF.cell (i := 0) rfl) ((rK.keep hb5).cell (i := 0) rfl) ⟨by omega, by omega, by omega, by omega⟩ n 0 [] W5 (by omega) (Nat.le_refl _) (fun s hs => by simp at hs) HT.out)
  have HB := Lib.hid (And.intro hb05 (And.intro hs3 hb5.size))
  clear hV hs2 hs3 hb2 hb3 rA rK rS hW5 hb5 rB rF hb05 rS5 hc3 hf3 HW HW3 hmk
  refine HC.out.mono ?_
  rintro e W6 ⟨rfl, hT⟩
  have HT6 := Lib.hid hT
  clear hT
  go_wp2_with fail
  go_ret
  exact ⟨rfl, HB.out.1.trans ⟨HT6.out.low.os, HT6.out.low.tape, HT6.out.low.output, HT6.out.low.size, fun b hb => HT6.out.blk b (by have := HB.out.1.size; omega) (by omega)⟩⟩
end Go.Proofs.Ytpcealcghglopaa

namespace Go.Proofs.Ytpcealcghglopaa
open Go.RowKit

theorem ways_graph {m : Nat} {es : List E3} (hg : goodE m es) (k : Int) {a : Nat → Int → Int} (ha : PolA m (looseE es) a) : waysN (fun i => (nbL m es).getD i 0) k m 0 [] = a (2 ^ m - 1) k :=
  ways_all ha loose_down (fun b _ => one_loose hg b) (fun _ _ hb _ hs => put_loose hg (nb := fun i => (nbL m es).getD i 0) (fun i => nb_bit hg hb i) hs) k
set_option maxRecDepth 100000 in
set_option maxHeartbeats 2000000 in
theorem countTop_any (n k : Int) (A : Option Addr) (len cap : Nat) (es : List E3) (w : World) (hE : EdgesAt w w.heap.size A len es) :
    Calls Try.prog 22 #[.agg #[.int .i64 n, .slice A len cap], .int .i64 k] w (CountTop w n es k) := by
  have HX := Lib.hid (BoxG.start (n := n) (cap := cap) hE)
  have k0 := HX.out.c0
  have k1 := HX.out.c1
  obtain ⟨x, hx⟩ : ∃ x, gcheck n es = x := ⟨_, rfl⟩
  by_cases h0 : x = 0
  · subst h0
    obtain ⟨hn0, hn1, hl, hg⟩ := good_of_gcheck hx
    obtain ⟨m, rfl⟩ := Int.eq_ofNat_of_zero_le hn0
    have hm10 : m ≤ 10 := by omega
    have HNB := Lib.hid (fun W hW => neighbours_any m A len cap es W hW hx)
    have HXX := Lib.hid hx
    clear hE hx hn0 hn1 hl
    go_enter Try.func22, Try.ntmps22
    go_wp2_with fail
    refine (HNB.out _ HX.out.edges).mono ?_
    rintro e w1 ⟨g, rfl, hrow, hg0, hB⟩
    have HX1 := Lib.hid (HX.out.next hB)
    have HR := Lib.hid hrow
    clear hB k0 k1 HNB hrow
    by_cases hk : k < 0 ∨ 12 < k
    · have hk' : k < 0 ∨ (0 ≤ k ∧ 12 < k) := by omega
      have HK := Lib.hid hk
      clear hk
      rcases hk' with h1 | ⟨h1, h2⟩
      all_goals
        go_wp2_with fail
        go_ret2
        exact ⟨fun h => absurd HXX.out h, fun _ _ => rfl, fun _ h => absurd HK.out h, HX1.out.below⟩
    · have HK := Lib.hid hk
      have h1 : 0 ≤ k := by omega
      have h2 : k ≤ 12 := by omega
      obtain ⟨T, hT⟩ := tab_ex m (looseE es)
      obtain ⟨y, hy⟩ : ∃ y, waysN (fun i => (nbL m es).getD i 0) k m 0 [] = y := ⟨_, rfl⟩
      have HY : Hid (y = polT m T (2 ^ m - 1) k) := Lib.hid (by rw [← hy]; exact ways_graph hg k (polT_ok hT))
      have HT := Lib.hid hT
      have HCN := Lib.hid (count_any m m (some ⟨g, 0, none⟩) (nbL m es) k w1 hm10 (by omega) h2 (by
        have h := WordsAt.of_row (B := w1.heap.size) HR.out HR.out.lt
        rw [nbL_length] at h
        exact h) (fun i => pow10 hm10 (nbL_words hg i)))
      rw [hy] at HCN
      clear hk hT hy
      go_wp2_with fail
      refine HCN.out.mono ?_
      rintro e w2 ⟨rfl, hB⟩
      have HX2 := Lib.hid (HX1.out.next hB)
      clear hB HCN
      go_wp2_with fail
      go_ret2
      exact ⟨fun h => absurd HXX.out h, fun _ h => absurd h HK.out, fun _ _ => ⟨_, polT_ok HT.out, by rw [show ((m : Int)).toNat = m from rfl, ← HY.out]; rfl⟩, HX2.out.below⟩
  · have hx1 : (x != 0) = true := by simpa using h0
    have HNB := Lib.hid (fun W hW => neighbours_bad n A len cap es x W hW hx h0)
    have HXX := Lib.hid (show gcheck n es ≠ 0 by rw [hx]; exact h0)
    have HXE := Lib.hid hx
    clear hE hx h0
    go_enter Try.func22, Try.ntmps22
    go_wp2_with fail
    refine (HNB.out _ HX.out.edges).mono ?_
    rintro e w1 ⟨rfl, hB⟩
    have HX1 := Lib.hid (HX.out.next hB)
    clear hB k0 k1 HNB
    go_wp2_with fail
    go_ret2
    exact ⟨fun _ => by rw [HXE.out]; rfl, fun h => absurd h HXX.out, fun h => absurd h HXX.out, HX1.out.below⟩
theorem sg_all (n : Nat) : ∀ j, j ≤ n → sgW (2 ^ n - 1) j = if j % 2 = 1 then -1 else 1
  | 0, _ => rfl
  | j + 1, h => by
    have ih := sg_all n j (by omega)
    simp only [sgW]
    rw [ih, Nat.testBit_two_pow_sub_one, if_pos (show decide (j < n) = true from decide_eq_true (by omega))]
    rcases Nat.mod_two_eq_zero_or_one j with h1 | h1
    · rw [if_neg (by omega), if_pos (by omega)]; rfl
    · rw [if_pos h1, if_neg (by omega)]; rfl
theorem turns_eq {m : Nat} {es : List E3} (hg : goodE m es) : turnsN m es = if m % 2 = 1 then -(waysN (fun i => (nbL m es).getD i 0) (-1) m 0 []) else waysN (fun i => (nbL m es).getD i 0) (-1) m 0 [] := by
  obtain ⟨T, hT⟩ := tab_ex m (looseE es)
  have hpos := Nat.two_pow_pos m
  have h := stanley (fun s => loose_edg (es := es) s) (polT_ok hT) (2 ^ m) (2 ^ m - 1) (by omega) (by omega)
  rw [← ways_graph hg (-1) (polT_ok hT), sg_all m m (Nat.le_refl _)] at h
  unfold turnsN
  rw [h]
  split
  · rw [Int.neg_mul, Int.one_mul]
  · rw [Int.one_mul]
set_option maxRecDepth 100000 in
set_option maxHeartbeats 2000000 in
theorem turnedTop_any (n : Int) (A : Option Addr) (len cap : Nat) (es : List E3) (w : World) (hE : EdgesAt w w.heap.size A len es) :
    Calls Try.prog 24 #[.agg #[.int .i64 n, .slice A len cap]] w (TurnedTop w n es) := by
  have HX := Lib.hid (BoxG.start (n := n) (cap := cap) hE)
  have k0 := HX.out.c0
  have k1 := HX.out.c1
  obtain ⟨x, hx⟩ : ∃ x, gcheck n es = x := ⟨_, rfl⟩
  by_cases h0 : x = 0
  · subst h0
    obtain ⟨hn0, hn1, hl, hg⟩ := good_of_gcheck hx
    obtain ⟨m, rfl⟩ := Int.eq_ofNat_of_zero_le hn0
    have hm10 : m ≤ 10 := by omega
    have HNB := Lib.hid (fun W hW => neighbours_any m A len cap es W hW hx)
    have HXX := Lib.hid hx
    clear hE hx hn0 hn1 hl
    go_enter Try.func24, Try.ntmps24
    go_wp2_with fail
    refine (HNB.out _ HX.out.edges).mono ?_
    rintro e w1 ⟨g, rfl, hrow, hg0, hB⟩
    have HX1 := Lib.hid (HX.out.next hB)
    have HR := Lib.hid hrow
    clear hB k0 k1 HNB hrow
    obtain ⟨y, hy⟩ : ∃ y, waysN (fun i => (nbL m es).getD i 0) (-1) m 0 [] = y := ⟨_, rfl⟩
    have hyb : -26559922791424 ≤ y ∧ y ≤ 26559922791424 := by
      have h := ways_abs (k := -1) (by decide) (by decide) (fun i => (nbL m es).getD i 0) m 0 [] (Nat.le_refl _) (by omega)
      have h2 := pow22 hm10
      rw [hy] at h
      omega
    have HT : Hid (turnsN m es = if m % 2 = 1 then -y else y) := Lib.hid (by rw [← hy]; exact turns_eq hg)
    have HCN := Lib.hid (count_any m m (some ⟨g, 0, none⟩) (nbL m es) (-1) w1 hm10 (by decide) (by decide) (by
      have h := WordsAt.of_row (B := w1.heap.size) HR.out HR.out.lt
      rw [nbL_length] at h
      exact h) (fun i => pow10 hm10 (nbL_words hg i)))
    rw [hy] at HCN
    clear hy
    go_wp2_with fail
    refine HCN.out.mono ?_
    rintro e w2 ⟨rfl, hB⟩
    have HX2 := Lib.hid (HX1.out.next hB)
    have q0 := HX2.out.c0
    have q1 := HX2.out.c1
    clear hB HCN
    by_cases hp : m % 2 = 1
    · have HTE : Hid (turnsN m es = -y) := Lib.hid (by rw [HT.out, if_pos hp])
      have hm1 : ((m : Int) % 2 == 1) = true := by simp; omega
      have hw : IntKind.i64.wrap (-y) = -y := IntWalk.i64_in _ (by omega)
      clear hp
      go_wp2_with fail
      go_ret2
      exact ⟨fun h => absurd HXX.out h, fun _ => by rw [show ((m : Int)).toNat = m from rfl, HTE.out]; rfl, HX2.out.below⟩
    · have HTE : Hid (turnsN m es = y) := Lib.hid (by rw [HT.out, if_neg hp])
      have hm1 : ((m : Int) % 2 == 1) = false := by simp; omega
      clear hp
      go_wp2_with fail
      go_ret2
      exact ⟨fun h => absurd HXX.out h, fun _ => by rw [show ((m : Int)).toNat = m from rfl, HTE.out]; rfl, HX2.out.below⟩
  · have hx1 : (x != 0) = true := by simpa using h0
    have HNB := Lib.hid (fun W hW => neighbours_bad n A len cap es x W hW hx h0)
    have HXX := Lib.hid (show gcheck n es ≠ 0 by rw [hx]; exact h0)
    have HXE := Lib.hid hx
    clear hE hx h0
    go_enter Try.func24, Try.ntmps24
    go_wp2_with fail
    refine (HNB.out _ HX.out.edges).mono ?_
    rintro e w1 ⟨rfl, hB⟩
    have HX1 := Lib.hid (HX.out.next hB)
    clear hB k0 k1 HNB
    go_wp2_with fail
    go_ret2
    exact ⟨fun _ => by rw [HXE.out]; rfl, fun h => absurd h HXX.out, HX1.out.below⟩
end Go.Proofs.Ytpcealcghglopaa

namespace Go.Proofs.Ytpcealcghglopaa
open Go.ChangeShapes Go.WideShapes Go.ChangeAt Go.RowKit Go.Joins Go.Deep

set_option maxRecDepth 100000 in
theorem ownK : ownKnob Try.prog.godebug = none := by kernel_rfl
set_option maxRecDepth 100000 in
theorem laidOutO : laidOutB Try.prog = true := by kernel_rfl
set_option maxRecDepth 100000 in
theorem cellsInt : Try.prog.cellsOf 3 = 1 := by kernel_rfl
end Go.Proofs.Ytpcealcghglopaa

namespace Go.Proofs.Ytpcealcghglopaa
open Go.ChangeShapes Go.WideShapes Go.ChangeAt Go.RowKit Go.Joins Go.Deep

set_option maxRecDepth 100000 in
theorem recGraph : Try.prog.readableRec 24 = true := by kernel_rfl
set_option maxRecDepth 100000 in
theorem rowGraph : (24 : TypeId) < Try.prog.types.size := of_decide_eq_true (by kernel_rfl)
set_option maxRecDepth 100000 in
theorem cellsGraph : Try.prog.cellsOf 24 = 2 := by kernel_rfl
set_option maxRecDepth 100000 in
theorem cellsEdge : Try.prog.cellsOf 61 = 3 := by kernel_rfl
set_option maxRecDepth 100000 in
theorem cellsInt64 : Try.prog.cellsOf 2 = 1 := by kernel_rfl

/-- Every number of an edge is an int64. -/
def WfE (e : E3) : Prop := (Lit.int .i64 e.1).wf = true ∧ (Lit.int .i64 e.2.1).wf = true ∧ (Lit.int .i64 e.2.2).wf = true

section
variable {H : Type} {enc : TypeId × Value → H} {W : World} {base : Nat} {spare : Nat → Bool} {held : Bool}

set_option maxRecDepth 100000 in
theorem edge_of {n : Nat} {cs : List Value} {x : DataW H × List MemPlace} (h : DataW.trod enc Try.prog W base spare held n 61 cs = some x) :
    ∃ e : E3, cs = [.int .i64 e.1, .int .i64 e.2.1, .int .i64 e.2.2] ∧ WfE e := by
  obtain ⟨y0, y1, y2, m, _, hlen, h0, h1, h2⟩ := trod_struct3 Try.underlying61 h
  rw [cellsEdge] at hlen
  match cs, hlen with
  | [c0, c1, c2], _ =>
    simp only [cellsInt, cellsInt64, List.drop_zero, List.take_succ_cons, List.take_zero, List.drop_succ_cons] at h0 h1 h2
    obtain ⟨a, e0, _, wa⟩ := DataW.trod_int Try.underlying3 h0
    obtain ⟨b, e1, _, wb⟩ := DataW.trod_int Try.underlying3 h1
    obtain ⟨c, e2, _, wc⟩ := DataW.trod_int Try.underlying2 h2
    simp only [List.cons.injEq, and_true] at e0 e1 e2
    subst e0 e1 e2
    exact ⟨(a, b, c), rfl, wa, wb, wc⟩

set_option maxRecDepth 100000 in
theorem edges_of {n : Nat} {v : Value} {x : DataW H × List MemPlace} (h : DataW.trod enc Try.prog W base spare held n 22 [v] = some x) :
    ∃ (A : Option Addr) (len cap : Nat) (es : List E3), v = .slice A len cap ∧ EdgesAt W W.heap.size A len es ∧ len ≤ cap ∧ ∀ e ∈ es, WfE e := by
  rcases open_slice Try.underlying22 h with ⟨h0, _⟩ | ⟨a, len, cap, m, k, D, Pl, hcs, _, hl, _, hmm, _, hi⟩
  · simp only [List.cons.injEq, and_true] at h0
    subst h0
    exact ⟨none, 0, 0, [], rfl, ⟨rfl, fun h => absurd h (by omega)⟩, Nat.le_refl _, by simp⟩
  · simp only [List.cons.injEq, and_true] at hcs
    subst hcs
    have hlm : len ≤ m := by rw [hmm]; split <;> omega
    have hall : ∀ i, ∃ e : E3, i < len → (∀ j, j < 3 → W.cell? (a.add (i * 3 + j)) = [Value.int .i64 e.1, .int .i64 e.2.1, .int .i64 e.2.2][j]?) ∧ WfE e := fun i => by
      by_cases hlt : i < len
      · obtain ⟨cs', hc, ht⟩ := hi i (by omega)
        obtain ⟨e, rfl, he⟩ := edge_of ht
        rw [cellsEdge] at hc
        obtain ⟨_, _, hat⟩ := World.cells?_some hc
        exact ⟨e, fun _ => ⟨fun j hj => by rw [← Go.Deep.add_add]; exact hat j hj, he⟩⟩
      · exact ⟨default, fun h => absurd h hlt⟩
    obtain ⟨f, hf⟩ := Classical.axiomOfChoice hall
    refine ⟨some a, len, cap, (List.range len).map f, rfl, ⟨by simp, fun hn => ?_⟩, hl, fun e he => ?_⟩
    · have hz := (hf 0 hn).1 0 (by omega)
      simp only [Nat.zero_mul, Nat.add_zero, List.getElem?_cons_zero] at hz
      obtain ⟨b, off, spot⟩ := a
      have hspot : spot = none := by simpa [Addr.add] using World.cell?_spot hz
      subst hspot
      have hb : b < W.heap.size := by
        rcases Nat.lt_or_ge b W.heap.size with h | h
        · exact h
        · simp [World.cell?, Addr.add, Array.getElem?_eq_none h] at hz
      refine ⟨b, off, rfl, hb, fun i e hie => ?_⟩
      obtain ⟨hil, hie⟩ := List.getElem?_eq_some_iff.1 hie
      simp only [List.length_map, List.length_range] at hil
      simp only [List.getElem_map, List.getElem_range] at hie
      subst hie
      have hc := (hf i hil).1
      refine ⟨?_, ?_, ?_⟩
      · have := hc 0 (by omega); rw [Go.WideShapes.add_plain] at this; simpa using this
      · have := hc 1 (by omega); rw [Go.WideShapes.add_plain] at this; simpa [Nat.add_assoc] using this
      · have := hc 2 (by omega); rw [Go.WideShapes.add_plain] at this; simpa [Nat.add_assoc] using this
    · simp only [List.mem_map, List.mem_range] at he
      obtain ⟨i, hi', rfl⟩ := he
      exact (hf i hi').2

set_option maxRecDepth 100000 in
theorem open_graph {r : Reach} {b0 : Nat} {v : Value} {d : DataW H} {p : List MemPlace} (hv : Value.okWide Try.prog W r b0 24 v) (h : DataW.Trod enc Try.prog W base spare held 24 v d p) :
    ∃ (n : Int) (A : Option Addr) (len cap : Nat) (es : List E3), v = .agg #[.int .i64 n, .slice A len cap] ∧ EdgesAt W W.heap.size A len es ∧ len ≤ cap ∧ (∀ e ∈ es, WfE e) ∧ (Lit.int .i64 n).wf = true := by
  obtain ⟨c0, c1, y0, y1, m, rfl, _, _, hy0, hy1⟩ := open_agg2 Try.underlying24 (by kernel_rfl) cellsGraph hv h
  obtain ⟨n, e0, _, wn⟩ := DataW.trod_int Try.underlying3 hy0
  simp only [List.cons.injEq, and_true] at e0
  subst e0
  obtain ⟨A, len, cap, es, rfl, hE, hl, hw⟩ := edges_of hy1
  exact ⟨n, A, len, cap, es, rfl, hE, hl, hw, wn⟩
end
end Go.Proofs.Ytpcealcghglopaa

namespace Go.Proofs.Ytpcealcghglopaa
open Go.ChangeShapes Go.WideShapes Go.ChangeAt Go.RowKit

set_option maxRecDepth 100000 in
theorem colourZero_any (n : Int) (A : Option Addr) (len cap : Nat) (es : List E3) (k : Int) (w : World) (hE : EdgesAt w w.heap.size A len es) (hcap : len ≤ cap) (_ : ∀ e ∈ es, WfE e) (_ : (Lit.int .i64 n).wf = true) (_ : (Lit.int .i64 k).wf = true) :
    Calls Try.prog 13 #[.agg #[.int .i64 n, .slice A len cap], .int .i64 k] w fun e w' => e = .returned (.bool true) ∧ Below w.heap.size w w' :=
  colourZero_of n A len cap es k w hE hcap (fun W h => leastTop_any n A len cap es W h) (fun k W h => countTop_any n k A len cap es W h)
set_option maxRecDepth 100000 in
theorem colourZero_lifted (os : Os) (started : os.Started) (H : Type) (enc : TypeId × Value → H) :
    ReturnsInHanded {} Try.checked os 13 .any (Rows.colourZeroSpec.pre6 enc Try.prog Try.f13 Rows.colourZeroRow.domain false) (Rows.colourZeroSpec.post enc Try.prog Try.f13 false true false false) := by
  refine returnsInHanded_of_change (C := Try.checked) ownK started (by kernel_rfl) Try.func13
    (ChangeSpec.witness6 (enc := enc) (C := Try.checked) false ⟨#[], #[.agg #[.int .i64 0, .slice none 0 0], .int .i64 0], []⟩ 8 (by kernel_rfl) (by kernel_rfl) (by kernel_rfl) (by kernel_rfl)) ?_
  intro W base args ds gs before hval0 hW _ _
  have hval : ∀ (j : Nat) t v, Try.f13.params[j]? = some t → args[j]? = some v → Value.okWide Try.prog W .any base t v := hval0
  have hW' := hW
  obtain ⟨p, q, hA0, hV, rfl, _, _⟩ := hW
  have hA : DataW.TrodAll enc Try.prog W 0 (fun _ => true) true Try.f13.params.toList args.toList ds p := hA0
  rw [Try.params13] at hA hval
  obtain ⟨v0, v1, d0, d1, p0, p1, rfl, rfl, rfl, h0, h1⟩ := trodAll_two hA
  obtain ⟨rfl, rfl⟩ := trodVars_none hV
  obtain ⟨n0, A0, len0, cap0, es0, rfl, hE0, hcap0, hwf0, hwn0⟩ := open_graph (hval 0 24 v0 rfl rfl) h0
  obtain ⟨x1, rfl, rfl, rfl, wx1⟩ := open_int Try.underlying3 (hval 1 3 v1 rfl rfl) h1
  clear hA0 hval0
  simp only [List.append_nil] at hW'
  refine (colourZero_any n0 A0 len0 cap0 es0 x1 W hE0 hcap0 hwf0 hwn0 wx1).mono fun e W' ⟨he, hb⟩ => ?_
  subst he
  exact ⟨_, rfl, _, _, _, [], (p0), [], hW', trodAll_mk1 (shut_bool Try.underlying4 _), (by have h := trodAll_mk2 (Below.trod laidOutO recGraph rowGraph h0 hb (fun x hx => hW'.lt x hx)) (shut_int Try.underlying3 wx1); first | exact h | (simp only [List.append_nil] at h; exact h)), rfl, hb.frame _, fun h => by cases h⟩

theorem colourZero_holds : Rows.ColourZeroSaid :=
  OpenClaim.holds_of_wide 13 Try.f13 rfl rfl rfl rfl rfl rfl rfl ⟨rfl, rfl, rfl, rfl, rfl⟩ rfl rfl rfl rfl rfl (by kernel_rfl) Try.func13 (by kernel_rfl)
    (of_decide_eq_true (by kernel_rfl)) (by unfold Func.isWrapper; first | (rw [if_pos (by decide +kernel)]; kernel_rfl) | (rw [if_neg (by decide +kernel)]; exact ⟨rfl, rfl⟩))
    (fun os started H enc _ => colourZero_lifted os started H enc)
#print axioms colourZero_holds
end Go.Proofs.Ytpcealcghglopaa
