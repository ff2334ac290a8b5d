/- The statement ColourStanleySaid, out of the law's walk. No conditions. -/
import Derived.Test.YtpcealcghglopaaWordsAt
import Derived.Test.YtpcealcghglopaaTallyGo
import Derived.Test.YtpcealcghglopaaRefLoose
import Derived.Test.YtpcealcghglopaaCountP
import Derived.Test.YtpcealcghglopaaNbP
import Derived.Test.YtpcealcghglopaaColourTop
import Derived.Test.YtpcealcghglopaaMem
import Derived.Test.YtpcealcghglopaaColourStanley
import Derived.Laws.EntriesVeiled
import Derived.Test.YtpcealcghglopaaRows
import Derived.ProofKit
import Derived.Deep.Slices
import Derived.Deep.Strs
import Derived.Lib.SmallJoins
namespace Go.Proofs.Ytpcealcghglopaa
open Go.RowKit

def mkU (n : Nat) (W : World) : World := W.alloc (.cells (madeCells #[.int .u32 0] n) 52)
def mkI (n : Nat) (W : World) : World := W.alloc (.cells (madeCells #[.int .i64 0] n) 3)
theorem mkU_size (n : Nat) (W : World) : (mkU n W).heap.size = W.heap.size + 1 := by unfold mkU; simp
theorem mkI_size (n : Nat) (W : World) : (mkI n W).heap.size = W.heap.size + 1 := by unfold mkI; simp
theorem mkU_below (n : Nat) (W : World) : Below W.heap.size W (mkU n W) := (Below.refl _ _).alloc (Nat.le_refl _) _
theorem mkI_below (n : Nat) (W : World) : Below W.heap.size W (mkI n W) := (Below.refl _ _).alloc (Nat.le_refl _) _
theorem mkU_row (n : Nat) (W : World) : RowOf (mkU n W) W.heap.size 52 (List.replicate n (.int .u32 0)) := RowOf.made W _ n _
theorem mkI_row (n : Nat) (W : World) : RowOf (mkI n W) W.heap.size 3 (List.replicate n (.int .i64 0)) := RowOf.made W _ n _
/-- A box that was laid last. -/
theorem box_new (W : World) (v : Value) (t : TypeId) : RowOf (W.alloc (.cells #[v] t)) W.heap.size t [v] := (MapKept.heap_alloc W _).1
theorem box_next (W : World) (o : Obj) (v : Value) (t : TypeId) : RowOf ((W.alloc o).alloc (.cells #[v] t)) (W.heap.size + 1) t [v] := by
  have h := box_new (W.alloc o) v t
  rw [World.size_alloc] at h
  exact h
set_option maxRecDepth 100000 in
theorem mkU_run (n : Nat) (hn : n ≤ 32) (W : World) : (Instr.makeSlice 55 (.int .i64 (n : Int)) (.int .i64 (n : Int))).run Try.prog W = .ok (.slice (some ⟨W.heap.size, 0, none⟩) n n) (mkU n W) :=
  run_make_row' (P := Try.prog) 55 52 (.int .u32 0) 4 Try.underlying55 (by kernel_rfl) rfl .i64 .i64 n (by omega) (by omega) W
set_option maxRecDepth 100000 in
theorem mkI_run (n : Nat) (hn : n ≤ 32) (W : World) : (Instr.makeSlice 25 (.int .i64 (n : Int)) (.int .i64 (n : Int))).run Try.prog W = .ok (.slice (some ⟨W.heap.size, 0, none⟩) n n) (mkI n W) :=
  run_make_row' (P := Try.prog) 25 3 (.int .i64 0) 8 Try.underlying25 (by kernel_rfl) rfl .i64 .i64 n (by omega) (by omega) W
end Go.Proofs.Ytpcealcghglopaa

namespace Go.Proofs.Ytpcealcghglopaa
open Go.RowKit

set_option maxRecDepth 100000 in
set_option maxHeartbeats 2000000 in
theorem count_any (n cA : Nat) (Aa : Option Addr) (ar : List Nat) (k : Int) (w : World) (hn : n ≤ 10) (hk0 : -1 ≤ k) (hk1 : k ≤ 12) (hW : WordsAt w w.heap.size Aa n ar) (hWl : ∀ i, ar.getD i 0 < 1024) :
    Calls Try.prog 44 #[.slice Aa n cA, .int .i64 k] w fun e w' => e = .returned (.int .i64 (waysN (fun i => ar.getD i 0) k n 0 [])) ∧ Below w.heap.size w w' := by
  have HW := Lib.hid (And.intro hW hWl)
  clear hW hWl
  obtain ⟨W3, hW3⟩ : ∃ W3, mkU n ((w.alloc (.cells #[.slice Aa n cA] 55)).alloc (.cells #[.int .i64 k] 2)) = W3 := ⟨_, rfl⟩
  have hmk := mkU_run n (by omega) ((w.alloc (.cells #[.slice Aa n cA] 55)).alloc (.cells #[.int .i64 k] 2))
  rw [hW3, show ((w.alloc (.cells #[.slice Aa n cA] 55)).alloc (.cells #[.int .i64 k] 2)).heap.size = w.heap.size + 1 + 1 by simp] at hmk
  have HW3 := Lib.hid hW3
  have hR3 := box_next W3 (.cells #[.slice (some ⟨w.heap.size + 1 + 1, 0, none⟩) n n] 55) .nilFunc 78
  have hc3 := hR3.cell (i := 0) rfl
  have hf3 := hR3.frozen 0
  clear hR3
  clear hW3
  go_enter Try.func44, Try.ntmps44
  go_wp2_with fail
  obtain ⟨V, hV⟩ : ∃ V : Value, V = .func (.func 50) #[] #[.pointer (some ⟨w.heap.size, 0, none⟩), .pointer (some ⟨W3.heap.size, 0, none⟩), .pointer (some ⟨W3.heap.size + 1, 0, none⟩), .pointer (some ⟨w.heap.size + 1, 0, none⟩)] := ⟨_, rfl⟩
  rw [← hV]
  have hs2 : ((w.alloc (.cells #[.slice Aa n cA] 55)).alloc (.cells #[.int .i64 k] 2)).heap.size = w.heap.size + 1 + 1 := by simp
  have hs3 : W3.heap.size = w.heap.size + 1 + 1 + 1 := by rw [← HW3.out, mkU_size, hs2]
  have hb2 : Below w.heap.size w ((w.alloc (.cells #[.slice Aa n cA] 55)).alloc (.cells #[.int .i64 k] 2)) := ((Below.refl _ _).alloc (Nat.le_refl _) _).alloc (by simp) _
  have hb3 : Below (w.heap.size + 1 + 1) ((w.alloc (.cells #[.slice Aa n cA] 55)).alloc (.cells #[.int .i64 k] 2)) W3 := by
    have h := mkU_below n ((w.alloc (.cells #[.slice Aa n cA] 55)).alloc (.cells #[.int .i64 k] 2))
    rw [HW3.out, hs2] at h
    exact h
  have rA : RowOf W3 w.heap.size 55 [.slice Aa n cA] := RowOf.below (RowOf.alloc (box_new w _ _) _) hb3 (by omega)
  have rK : RowOf W3 (w.heap.size + 1) 2 [.int .i64 k] := RowOf.below (box_next w _ _ _) hb3 (by omega)
  have rS : RowOf W3 (w.heap.size + 1 + 1) 52 (List.replicate n (.int .u32 0)) := by
    have h := mkU_row n ((w.alloc (.cells #[.slice Aa n cA] 55)).alloc (.cells #[.int .i64 k] 2))
    rw [HW3.out, hs2] at h
    exact h
  obtain ⟨W5, hW5⟩ : ∃ W5, (W3.alloc (.cells #[.slice (some ⟨w.heap.size + 1 + 1, 0, none⟩) n n] 55)).alloc (.cells #[V] 78) = W5 := ⟨_, rfl⟩
  have hb5 : Below W3.heap.size W3 W5 := by rw [← hW5]; exact ((Below.refl _ _).alloc (Nat.le_refl _) _).alloc (by simp) _
  have rB : RowOf W5 W3.heap.size 55 [.slice (some ⟨w.heap.size + 1 + 1, 0, none⟩) n n] := by rw [← hW5]; exact RowOf.alloc (box_new W3 _ _) _
  have rF : RowOf W5 (W3.heap.size + 1) 78 [V] := by rw [← hW5]; exact box_next W3 _ _ _
  have hb05 : Below w.heap.size w W5 := (hb2.trans (hb3.mono (by omega))).trans (hb5.mono (by omega))
  have rS5 := rS.keep hb5
  rw [hW5]
  have HT : Hid (TallyW W5 (w.heap.size + 1 + 1) n [] W5) := Lib.hid ⟨Below.refl _ _, fun _ _ _ => rfl, List.replicate n 0, by simp, by rw [List.nil_append, List.map_replicate]; exact rS5⟩
  have HC := Lib.hid (tally_any W5 n (w.heap.size + 1 + 1) w.heap.size W3.heap.size (W3.heap.size + 1) (w.heap.size + 1) w.heap.size cA Aa ar k hn hk0 hk1 (HW.out.1.below hb05) HW.out.2 (by omega) (by have := rS5.lt; exact this) ((rA.keep hb5).cell (i := 0) rfl) (rB.cell (i := 0) rfl) (by rw [← hV]; exact rF.cell (i := 0) rfl) ((rK.keep hb5).cell (i := 0) rfl) ⟨by omega, by omega, by omega, by omega⟩ n 0 [] W5 (by omega) (Nat.le_refl _) (fun s hs => by simp at hs) HT.out)
  have HB := Lib.hid (And.intro hb05 (And.intro hs3 hb5.size))
  clear hV hs2 hs3 hb2 hb3 rA rK rS hW5 hb5 rB rF hb05 rS5 hc3 hf3 HW HW3 hmk
  refine HC.out.mono ?_
  rintro e W6 ⟨rfl, hT⟩
  have HT6 := Lib.hid hT
  clear hT
  go_wp2_with fail
  go_ret
  exact ⟨rfl, HB.out.1.trans ⟨HT6.out.low.os, HT6.out.low.tape, HT6.out.low.output, HT6.out.low.size, fun b hb => HT6.out.blk b (by have := HB.out.1.size; omega) (by omega)⟩⟩
end Go.Proofs.Ytpcealcghglopaa

namespace Go.Proofs.Ytpcealcghglopaa

theorem loose_down {es : List E3} : ∀ s r, subQ r s = true → looseE es s = true → looseE es r = true := fun s r hr hs => by
  unfold looseE at hs ⊢
  rw [List.all_eq_true] at hs ⊢
  intro e he
  have h := hs e he
  simp only [bothE, Bool.not_eq_true', Bool.and_eq_false_iff] at h ⊢
  rcases h with h | h
  · refine .inl ?_
    cases hb : r.testBit e.1.toNat with
    | false => rfl
    | true => rw [subQ_iff.1 hr _ hb] at h; cases h
  · refine .inr ?_
    cases hb : r.testBit e.2.1.toNat with
    | false => rfl
    | true => rw [subQ_iff.1 hr _ hb] at h; cases h
theorem loose_iff {es : List E3} {s : Nat} : looseE es s = true ↔ ∀ e ∈ es, ¬ (s.testBit e.1.toNat = true ∧ s.testBit e.2.1.toNat = true) := by
  unfold looseE bothE
  rw [List.all_eq_true]
  refine ⟨fun h e he hh => ?_, fun h e he => ?_⟩
  · have := h e he
    rw [hh.1, hh.2] at this
    cases this
  · have := h e he
    cases h1 : s.testBit e.1.toNat <;> cases h2 : s.testBit e.2.1.toNat <;> simp_all
theorem loose_adj {m : Nat} {es : List E3} (hg : goodE m es) (s : Nat) : looseE es s = true ↔ ∀ i j, s.testBit i = true → s.testBit j = true → adjE es i j = false := by
  rw [loose_iff]
  constructor
  · intro h i j hi hj
    cases ha : adjE es i j with
    | false => rfl
    | true =>
      exfalso
      unfold adjE at ha
      rw [List.any_eq_true] at ha
      obtain ⟨e, he, h1⟩ := ha
      simp only [Bool.or_eq_true, Bool.and_eq_true, beq_iff_eq] at h1
      refine h e he ?_
      rcases h1 with ⟨h2, h3⟩ | ⟨h2, h3⟩ <;> rw [h2, h3] <;> simp [hi, hj]
  · intro h e he hh
    have h1 := h _ _ hh.1 hh.2
    obtain ⟨k, hk⟩ := List.getElem?_of_mem he
    obtain ⟨p0, _, p2, _, _, _⟩ := edge_ok (hg k e hk)
    have : adjE es e.1.toNat e.2.1.toNat = true := by
      unfold adjE
      rw [List.any_eq_true]
      refine ⟨e, he, ?_⟩
      simp only [Bool.or_eq_true, Bool.and_eq_true, beq_iff_eq]
      exact .inl ⟨by omega, by omega⟩
    rw [this] at h1
    cases h1
theorem one_loose {m : Nat} {es : List E3} (hg : goodE m es) (b : Nat) : looseE es (2 ^ b) = true := by
  rw [loose_adj hg]
  intro i j hi hj
  rw [Nat.testBit_two_pow] at hi hj
  have e1 := of_decide_eq_true hi
  have e2 := of_decide_eq_true hj
  subst e1 e2
  cases ha : adjE es b b with
  | false => rfl
  | true => exact absurd rfl (adjE_lt hg ha).2.2
/-- One more node: just if it is beside none of them. -/
theorem put_loose {m b s : Nat} {es : List E3} {nb : Nat → Nat} (hg : goodE m es) (hnb : ∀ i, (nb b).testBit i = adjE es b i) (hs : looseE es s = true) : s &&& nb b = 0 ↔ looseE es (s ||| 2 ^ b) = true := by
  rw [loose_adj hg] at hs ⊢
  constructor
  · intro h
    have key : ∀ i, s.testBit i = true → adjE es b i = false := fun i hi => by
      have h1 : (s &&& nb b).testBit i = false := by rw [h]; simp
      rw [Nat.testBit_and, hi, hnb] at h1
      simpa using h1
    have hbb : adjE es b b = false := by
      cases ha : adjE es b b with
      | false => rfl
      | true => exact absurd rfl (adjE_lt hg ha).2.2
    intro i j hi hj
    rw [Nat.testBit_or, Nat.testBit_two_pow, Bool.or_eq_true, decide_eq_true_iff] at hi hj
    rcases hi with hi | rfl
    · rcases hj with hj | rfl
      · exact hs i j hi hj
      · rw [adjE_symm]; exact key i hi
    · rcases hj with hj | rfl
      · exact key j hj
      · exact hbb
  · intro h
    apply Nat.eq_of_testBit_eq
    intro i
    rw [Nat.testBit_and, hnb, Nat.zero_testBit]
    cases hi : s.testBit i with
    | false => rfl
    | true => rw [h b i (by rw [Nat.testBit_or, Nat.testBit_two_pow]; simp) (by rw [Nat.testBit_or, hi]; rfl)]; rfl
theorem nb_bit {m : Nat} {es : List E3} (hg : goodE m es) {b : Nat} (hb : b < m) (i : Nat) : ((nbL m es).getD b 0).testBit i = adjE es b i := by
  rw [List.getD_eq_getElem?_getD, nbL_get es hb]
  have h := nbW_bit hg b i es.length
  rw [List.take_length] at h
  exact h
end Go.Proofs.Ytpcealcghglopaa

namespace Go.Proofs.Ytpcealcghglopaa
open Go.RowKit

theorem ways_graph {m : Nat} {es : List E3} (hg : goodE m es) (k : Int) {a : Nat → Int → Int} (ha : PolA m (looseE es) a) : waysN (fun i => (nbL m es).getD i 0) k m 0 [] = a (2 ^ m - 1) k :=
  ways_all ha loose_down (fun b _ => one_loose hg b) (fun _ _ hb _ hs => put_loose hg (nb := fun i => (nbL m es).getD i 0) (fun i => nb_bit hg hb i) hs) k
set_option maxRecDepth 100000 in
set_option maxHeartbeats 2000000 in
theorem countTop_any (n k : Int) (A : Option Addr) (len cap : Nat) (es : List E3) (w : World) (hE : EdgesAt w w.heap.size A len es) :
    Calls Try.prog 22 #[.agg #[.int .i64 n, .slice A len cap], .int .i64 k] w (CountTop w n es k) := by
  have HX := Lib.hid (BoxG.start (n := n) (cap := cap) hE)
  have k0 := HX.out.c0
  have k1 := HX.out.c1
  obtain ⟨x, hx⟩ : ∃ x, gcheck n es = x := ⟨_, rfl⟩
  by_cases h0 : x = 0
  · subst h0
    obtain ⟨hn0, hn1, hl, hg⟩ := good_of_gcheck hx
    obtain ⟨m, rfl⟩ := Int.eq_ofNat_of_zero_le hn0
    have hm10 : m ≤ 10 := by omega
    have HNB := Lib.hid (fun W hW => neighbours_any m A len cap es W hW hx)
    have HXX := Lib.hid hx
    clear hE hx hn0 hn1 hl
    go_enter Try.func22, Try.ntmps22
    go_wp2_with fail
    refine (HNB.out _ HX.out.edges).mono ?_
    rintro e w1 ⟨g, rfl, hrow, hg0, hB⟩
    have HX1 := Lib.hid (HX.out.next hB)
    have HR := Lib.hid hrow
    clear hB k0 k1 HNB hrow
    by_cases hk : k < 0 ∨ 12 < k
    · have hk' : k < 0 ∨ (0 ≤ k ∧ 12 < k) := by omega
      have HK := Lib.hid hk
      clear hk
      rcases hk' with h1 | ⟨h1, h2⟩
      all_goals
        go_wp2_with fail
        go_ret2
        exact ⟨fun h => absurd HXX.out h, fun _ _ => rfl, fun _ h => absurd HK.out h, HX1.out.below⟩
    · have HK := Lib.hid hk
      have h1 : 0 ≤ k := by omega
      have h2 : k ≤ 12 := by omega
      obtain ⟨T, hT⟩ := tab_ex m (looseE es)
      obtain ⟨y, hy⟩ : ∃ y, waysN (fun i => (nbL m es).getD i 0) k m 0 [] = y := ⟨_, rfl⟩
      have HY : Hid (y = polT m T (2 ^ m - 1) k) := Lib.hid (by rw [← hy]; exact ways_graph hg k (polT_ok hT))
      have HT := Lib.hid hT
      have HCN := Lib.hid (count_any m m (some ⟨g, 0, none⟩) (nbL m es) k w1 hm10 (by omega) h2 (by
        have h := WordsAt.of_row (B := w1.heap.size) HR.out HR.out.lt
        rw [nbL_length] at h
        exact h) (fun i => pow10 hm10 (nbL_words hg i)))
      rw [hy] at HCN
      clear hk hT hy
      go_wp2_with fail
      refine HCN.out.mono ?_
      rintro e w2 ⟨rfl, hB⟩
      have HX2 := Lib.hid (HX1.out.next hB)
      clear hB HCN
      go_wp2_with fail
      go_ret2
      exact ⟨fun h => absurd HXX.out h, fun _ h => absurd h HK.out, fun _ _ => ⟨_, polT_ok HT.out, by rw [show ((m : Int)).toNat = m from rfl, ← HY.out]; rfl⟩, HX2.out.below⟩
  · have hx1 : (x != 0) = true := by simpa using h0
    have HNB := Lib.hid (fun W hW => neighbours_bad n A len cap es x W hW hx h0)
    have HXX := Lib.hid (show gcheck n es ≠ 0 by rw [hx]; exact h0)
    have HXE := Lib.hid hx
    clear hE hx h0
    go_enter Try.func22, Try.ntmps22
    go_wp2_with fail
    refine (HNB.out _ HX.out.edges).mono ?_
    rintro e w1 ⟨rfl, hB⟩
    have HX1 := Lib.hid (HX.out.next hB)
    clear hB k0 k1 HNB
    go_wp2_with fail
    go_ret2
    exact ⟨fun _ => by rw [HXE.out]; rfl, fun h => absurd h HXX.out, fun h => absurd h HXX.out, HX1.out.below⟩
theorem sg_all (n : Nat) : ∀ j, j ≤ n → sgW (2 ^ n - 1) j = if j % 2 = 1 then -1 else 1
  | 0, _ => rfl
  | j + 1, h => by
    have ih := sg_all n j (by omega)
    simp only [sgW]
    rw [ih, Nat.testBit_two_pow_sub_one, if_pos (show decide (j < n) = true from decide_eq_true (by omega))]
    rcases Nat.mod_two_eq_zero_or_one j with h1 | h1
    · rw [if_neg (by omega), if_pos (by omega)]; rfl
    · rw [if_pos h1, if_neg (by omega)]; rfl
theorem turns_eq {m : Nat} {es : List E3} (hg : goodE m es) : turnsN m es = if m % 2 = 1 then -(waysN (fun i => (nbL m es).getD i 0) (-1) m 0 []) else waysN (fun i => (nbL m es).getD i 0) (-1) m 0 [] := by
  obtain ⟨T, hT⟩ := tab_ex m (looseE es)
  have hpos := Nat.two_pow_pos m
  have h := stanley (fun s => loose_edg (es := es) s) (polT_ok hT) (2 ^ m) (2 ^ m - 1) (by omega) (by omega)
  rw [← ways_graph hg (-1) (polT_ok hT), sg_all m m (Nat.le_refl _)] at h
  unfold turnsN
  rw [h]
  split
  · rw [Int.neg_mul, Int.one_mul]
  · rw [Int.one_mul]
set_option maxRecDepth 100000 in
set_option maxHeartbeats 2000000 in
theorem turnedTop_any (n : Int) (A : Option Addr) (len cap : Nat) (es : List E3) (w : World) (hE : EdgesAt w w.heap.size A len es) :
    Calls Try.prog 24 #[.agg #[.int .i64 n, .slice A len cap]] w (TurnedTop w n es) := by
  have HX := Lib.hid (BoxG.start (n := n) (cap := cap) hE)
  have k0 := HX.out.c0
  have k1 := HX.out.c1
  obtain ⟨x, hx⟩ : ∃ x, gcheck n es = x := ⟨_, rfl⟩
  by_cases h0 : x = 0
  · subst h0
    obtain ⟨hn0, hn1, hl, hg⟩ := good_of_gcheck hx
    obtain ⟨m, rfl⟩ := Int.eq_ofNat_of_zero_le hn0
    have hm10 : m ≤ 10 := by omega
    have HNB := Lib.hid (fun W hW => neighbours_any m A len cap es W hW hx)
    have HXX := Lib.hid hx
    clear hE hx hn0 hn1 hl
    go_enter Try.func24, Try.ntmps24
    go_wp2_with fail
    refine (HNB.out _ HX.out.edges).mono ?_
    rintro e w1 ⟨g, rfl, hrow, hg0, hB⟩
    have HX1 := Lib.hid (HX.out.next hB)
    have HR := Lib.hid hrow
    clear hB k0 k1 HNB hrow
    obtain ⟨y, hy⟩ : ∃ y, waysN (fun i => (nbL m es).getD i 0) (-1) m 0 [] = y := ⟨_, rfl⟩
    have hyb : -26559922791424 ≤ y ∧ y ≤ 26559922791424 := by
      have h := ways_abs (k := -1) (by decide) (by decide) (fun i => (nbL m es).getD i 0) m 0 [] (Nat.le_refl _) (by omega)
      have h2 := pow22 hm10
      rw [hy] at h
      omega
    have HT : Hid (turnsN m es = if m % 2 = 1 then -y else y) := Lib.hid (by rw [← hy]; exact turns_eq hg)
    have HCN := Lib.hid (count_any m m (some ⟨g, 0, none⟩) (nbL m es) (-1) w1 hm10 (by decide) (by decide) (by
      have h := WordsAt.of_row (B := w1.heap.size) HR.out HR.out.lt
      rw [nbL_length] at h
      exact h) (fun i => pow10 hm10 (nbL_words hg i)))
    rw [hy] at HCN
    clear hy
    go_wp2_with fail
    refine HCN.out.mono ?_
    rintro e w2 ⟨rfl, hB⟩
    have HX2 := Lib.hid (HX1.out.next hB)
    have q0 := HX2.out.c0
    have q1 := HX2.out.c1
    clear hB HCN
    by_cases hp : m % 2 = 1
    · have HTE : Hid (turnsN m es = -y) := Lib.hid (by rw [HT.out, if_pos hp])
      have hm1 : ((m : Int) % 2 == 1) = true := by simp; omega
      have hw : IntKind.i64.wrap (-y) = -y := IntWalk.i64_in _ (by omega)
      clear hp
      go_wp2_with fail
      go_ret2
      exact ⟨fun h => absurd HXX.out h, fun _ => by rw [show ((m : Int)).toNat = m from rfl, HTE.out]; rfl, HX2.out.below⟩
    · have HTE : Hid (turnsN m es = y) := Lib.hid (by rw [HT.out, if_neg hp])
      have hm1 : ((m : Int) % 2 == 1) = false := by simp; omega
      clear hp
      go_wp2_with fail
      go_ret2
      exact ⟨fun h => absurd HXX.out h, fun _ => by rw [show ((m : Int)).toNat = m from rfl, HTE.out]; rfl, HX2.out.below⟩
  · have hx1 : (x != 0) = true := by simpa using h0
    have HNB := Lib.hid (fun W hW => neighbours_bad n A len cap es x W hW hx h0)
    have HXX := Lib.hid (show gcheck n es ≠ 0 by rw [hx]; exact h0)
    have HXE := Lib.hid hx
    clear hE hx h0
    go_enter Try.func24, Try.ntmps24
    go_wp2_with fail
    refine (HNB.out _ HX.out.edges).mono ?_
    rintro e w1 ⟨rfl, hB⟩
    have HX1 := Lib.hid (HX.out.next hB)
    clear hB k0 k1 HNB
    go_wp2_with fail
    go_ret2
    exact ⟨fun _ => by rw [HXE.out]; rfl, fun h => absurd h HXX.out, HX1.out.below⟩
end Go.Proofs.Ytpcealcghglopaa

namespace Go.Proofs.Ytpcealcghglopaa
open Go.ChangeShapes Go.WideShapes Go.ChangeAt Go.RowKit Go.Joins Go.Deep

set_option maxRecDepth 100000 in
theorem ownK : ownKnob Try.prog.godebug = none := by kernel_rfl
set_option maxRecDepth 100000 in
theorem laidOutO : laidOutB Try.prog = true := by kernel_rfl
set_option maxRecDepth 100000 in
theorem cellsInt : Try.prog.cellsOf 3 = 1 := by kernel_rfl
end Go.Proofs.Ytpcealcghglopaa

namespace Go.Proofs.Ytpcealcghglopaa
open Go.ChangeShapes Go.WideShapes Go.ChangeAt Go.RowKit Go.Joins Go.Deep

set_option maxRecDepth 100000 in
theorem recGraph : Try.prog.readableRec 24 = true := by kernel_rfl
set_option maxRecDepth 100000 in
theorem rowGraph : (24 : TypeId) < Try.prog.types.size := of_decide_eq_true (by kernel_rfl)
set_option maxRecDepth 100000 in
theorem cellsGraph : Try.prog.cellsOf 24 = 2 := by kernel_rfl
set_option maxRecDepth 100000 in
theorem cellsEdge : Try.prog.cellsOf 61 = 3 := by kernel_rfl
set_option maxRecDepth 100000 in
theorem cellsInt64 : Try.prog.cellsOf 2 = 1 := by kernel_rfl

/-- Every number of an edge is an int64. -/
def WfE (e : E3) : Prop := (Lit.int .i64 e.1).wf = true ∧ (Lit.int .i64 e.2.1).wf = true ∧ (Lit.int .i64 e.2.2).wf = true

section
variable {H : Type} {enc : TypeId × Value → H} {W : World} {base : Nat} {spare : Nat → Bool} {held : Bool}

set_option maxRecDepth 100000 in
theorem edge_of {n : Nat} {cs : List Value} {x : DataW H × List MemPlace} (h : DataW.trod enc Try.prog W base spare held n 61 cs = some x) :
    ∃ e : E3, cs = [.int .i64 e.1, .int .i64 e.2.1, .int .i64 e.2.2] ∧ WfE e := by
  obtain ⟨y0, y1, y2, m, _, hlen, h0, h1, h2⟩ := trod_struct3 Try.underlying61 h
  rw [cellsEdge] at hlen
  match cs, hlen with
  | [c0, c1, c2], _ =>
    simp only [cellsInt, cellsInt64, List.drop_zero, List.take_succ_cons, List.take_zero, List.drop_succ_cons] at h0 h1 h2
    obtain ⟨a, e0, _, wa⟩ := DataW.trod_int Try.underlying3 h0
    obtain ⟨b, e1, _, wb⟩ := DataW.trod_int Try.underlying3 h1
    obtain ⟨c, e2, _, wc⟩ := DataW.trod_int Try.underlying2 h2
    simp only [List.cons.injEq, and_true] at e0 e1 e2
    subst e0 e1 e2
    exact ⟨(a, b, c), rfl, wa, wb, wc⟩

set_option maxRecDepth 100000 in
theorem edges_of {n : Nat} {v : Value} {x : DataW H × List MemPlace} (h : DataW.trod enc Try.prog W base spare held n 22 [v] = some x) :
    ∃ (A : Option Addr) (len cap : Nat) (es : List E3), v = .slice A len cap ∧ EdgesAt W W.heap.size A len es ∧ len ≤ cap ∧ ∀ e ∈ es, WfE e := by
  rcases open_slice Try.underlying22 h with ⟨h0, _⟩ | ⟨a, len, cap, m, k, D, Pl, hcs, _, hl, _, hmm, _, hi⟩
  · simp only [List.cons.injEq, and_true] at h0
    subst h0
    exact ⟨none, 0, 0, [], rfl, ⟨rfl, fun h => absurd h (by omega)⟩, Nat.le_refl _, by simp⟩
  · simp only [List.cons.injEq, and_true] at hcs
    subst hcs
    have hlm : len ≤ m := by rw [hmm]; split <;> omega
    have hall : ∀ i, ∃ e : E3, i < len → (∀ j, j < 3 → W.cell? (a.add (i * 3 + j)) = [Value.int .i64 e.1, .int .i64 e.2.1, .int .i64 e.2.2][j]?) ∧ WfE e := fun i => by
      by_cases hlt : i < len
      · obtain ⟨cs', hc, ht⟩ := hi i (by omega)
        obtain ⟨e, rfl, he⟩ := edge_of ht
        rw [cellsEdge] at hc
        obtain ⟨_, _, hat⟩ := World.cells?_some hc
        exact ⟨e, fun _ => ⟨fun j hj => by rw [← Go.Deep.add_add]; exact hat j hj, he⟩⟩
      · exact ⟨default, fun h => absurd h hlt⟩
    obtain ⟨f, hf⟩ := Classical.axiomOfChoice hall
    refine ⟨some a, len, cap, (List.range len).map f, rfl, ⟨by simp, fun hn => ?_⟩, hl, fun e he => ?_⟩
    · have hz := (hf 0 hn).1 0 (by omega)
      simp only [Nat.zero_mul, Nat.add_zero, List.getElem?_cons_zero] at hz
      obtain ⟨b, off, spot⟩ := a
      have hspot : spot = none := by simpa [Addr.add] using World.cell?_spot hz
      subst hspot
      have hb : b < W.heap.size := by
        rcases Nat.lt_or_ge b W.heap.size with h | h
        · exact h
        · simp [World.cell?, Addr.add, Array.getElem?_eq_none h] at hz
      refine ⟨b, off, rfl, hb, fun i e hie => ?_⟩
      obtain ⟨hil, hie⟩ := List.getElem?_eq_some_iff.1 hie
      simp only [List.length_map, List.length_range] at hil
      simp only [List.getElem_map, List.getElem_range] at hie
      subst hie
      have hc := (hf i hil).1
      refine ⟨?_, ?_, ?_⟩
      · have := hc 0 (by omega); rw [Go.WideShapes.add_plain] at this; simpa using this
      · have := hc 1 (by omega); rw [Go.WideShapes.add_plain] at this; simpa [Nat.add_assoc] using this
      · have := hc 2 (by omega); rw [Go.WideShapes.add_plain] at this; simpa [Nat.add_assoc] using this
    · simp only [List.mem_map, List.mem_range] at he
      obtain ⟨i, hi', rfl⟩ := he
      exact (hf i hi').2

set_option maxRecDepth 100000 in
theorem open_graph {r : Reach} {b0 : Nat} {v : Value} {d : DataW H} {p : List MemPlace} (hv : Value.okWide Try.prog W r b0 24 v) (h : DataW.Trod enc Try.prog W base spare held 24 v d p) :
    ∃ (n : Int) (A : Option Addr) (len cap : Nat) (es : List E3), v = .agg #[.int .i64 n, .slice A len cap] ∧ EdgesAt W W.heap.size A len es ∧ len ≤ cap ∧ (∀ e ∈ es, WfE e) ∧ (Lit.int .i64 n).wf = true := by
  obtain ⟨c0, c1, y0, y1, m, rfl, _, _, hy0, hy1⟩ := open_agg2 Try.underlying24 (by kernel_rfl) cellsGraph hv h
  obtain ⟨n, e0, _, wn⟩ := DataW.trod_int Try.underlying3 hy0
  simp only [List.cons.injEq, and_true] at e0
  subst e0
  obtain ⟨A, len, cap, es, rfl, hE, hl, hw⟩ := edges_of hy1
  exact ⟨n, A, len, cap, es, rfl, hE, hl, hw, wn⟩
end
end Go.Proofs.Ytpcealcghglopaa

namespace Go.Proofs.Ytpcealcghglopaa
open Go.ChangeShapes Go.WideShapes Go.ChangeAt Go.RowKit

set_option maxRecDepth 100000 in
theorem colourStanley_any (n : Int) (A : Option Addr) (len cap : Nat) (es : List E3) (w : World) (hE : EdgesAt w w.heap.size A len es) (hcap : len ≤ cap) (_ : ∀ e ∈ es, WfE e) (_ : (Lit.int .i64 n).wf = true) :
    Calls Try.prog 14 #[.agg #[.int .i64 n, .slice A len cap]] w fun e w' => e = .returned (.bool true) ∧ Below w.heap.size w w' :=
  colourStanley_of n A len cap es w hE hcap (fun W h => turnedTop_any n A len cap es W h)
set_option maxRecDepth 100000 in
theorem colourStanley_lifted (os : Os) (started : os.Started) (H : Type) (enc : TypeId × Value → H) :
    ReturnsInHanded {} Try.checked os 14 .any (Rows.colourStanleySpec.pre6 enc Try.prog Try.f14 Rows.colourStanleyRow.domain false) (Rows.colourStanleySpec.post enc Try.prog Try.f14 false true false false) := by
  refine returnsInHanded_of_change (C := Try.checked) ownK started (by kernel_rfl) Try.func14
    (ChangeSpec.witness6 (enc := enc) (C := Try.checked) false ⟨#[], #[.agg #[.int .i64 0, .slice none 0 0]], []⟩ 8 (by kernel_rfl) (by kernel_rfl) (by kernel_rfl) (by kernel_rfl)) ?_
  intro W base args ds gs before hval0 hW _ _
  have hval : ∀ (j : Nat) t v, Try.f14.params[j]? = some t → args[j]? = some v → Value.okWide Try.prog W .any base t v := hval0
  have hW' := hW
  obtain ⟨p, q, hA0, hV, rfl, _, _⟩ := hW
  have hA : DataW.TrodAll enc Try.prog W 0 (fun _ => true) true Try.f14.params.toList args.toList ds p := hA0
  rw [Try.params14] at hA hval
  obtain ⟨v0, d0, rfl, rfl, h0⟩ := trodAll_one hA
  obtain ⟨rfl, rfl⟩ := trodVars_none hV
  obtain ⟨n0, A0, len0, cap0, es0, rfl, hE0, hcap0, hwf0, hwn0⟩ := open_graph (hval 0 24 v0 rfl rfl) h0
  clear hA0 hval0
  simp only [List.append_nil] at hW'
  refine (colourStanley_any n0 A0 len0 cap0 es0 W hE0 hcap0 hwf0 hwn0).mono fun e W' ⟨he, hb⟩ => ?_
  subst he
  exact ⟨_, rfl, _, _, _, [], (p), [], hW', trodAll_mk1 (shut_bool Try.underlying4 _), trodAll_mk1 (Below.trod laidOutO recGraph rowGraph h0 hb (fun x hx => hW'.lt x hx)), rfl, hb.frame _, fun h => by cases h⟩

theorem colourStanley_holds : Rows.ColourStanleySaid :=
  OpenClaim.holds_of_wide 14 Try.f14 rfl rfl rfl rfl rfl rfl rfl ⟨rfl, rfl, rfl, rfl, rfl⟩ rfl rfl rfl rfl rfl (by kernel_rfl) Try.func14 (by kernel_rfl)
    (of_decide_eq_true (by kernel_rfl)) (by unfold Func.isWrapper; first | (rw [if_pos (by decide +kernel)]; kernel_rfl) | (rw [if_neg (by decide +kernel)]; exact ⟨rfl, rfl⟩))
    (fun os started H enc _ => colourStanley_lifted os started H enc)
#print axioms colourStanley_holds
end Go.Proofs.Ytpcealcghglopaa
