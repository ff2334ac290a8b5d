/- chord.Ring's closure: it goes through all rows that begin so, until one closes. Conditions: at most ten nodes. -/
import Derived.Test.YticickicfigpbaaChordFits
import Derived.Test.YticickicfigpbaaChordUp
import Derived.Test.YticickicfigpbaaOwn
import Derived.OwnWalk
namespace Go.Proofs.Yticickicfigpbaa
open Go.RowKit

/-- The first result from k on. -/
def fromF {β : Type} (F : Nat → Option β) (m k : Nat) : Option β := (List.range' k (m - k)).findSome? F
section
variable {β : Type} {F : Nat → Option β} {m k : Nat}
theorem fromF_end : fromF F m m = none := by unfold fromF; rw [Nat.sub_self]; rfl
theorem fromF_some {r : β} (h : k < m) (hk : F k = some r) : fromF F m k = some r := by
  unfold fromF
  rw [show m - k = (m - (k + 1)) + 1 by omega, List.range'_succ, List.findSome?_cons, hk]
theorem fromF_none (h : k < m) (hk : F k = none) : fromF F m k = fromF F m (k + 1) := by
  unfold fromF
  rw [show m - k = (m - (k + 1)) + 1 by omega, List.range'_succ, List.findSome?_cons, hk]
theorem fromF_zero : (List.range m).findSome? F = fromF F m 0 := by unfold fromF; rw [List.range_eq_range', Nat.sub_zero]
end
/-- What the closure tells of a node, with so many more to come. -/
def goF (adj : Nat → Nat → Bool) (m L f : Nat) (l : List Nat) (x : Nat) : Option (List Nat) := if fitsB adj L l x = true then searchF adj m L f (l ++ [x]) else none
theorem search_from {adj : Nat → Nat → Bool} {m L f : Nat} {l : List Nat} : searchF adj m L (f + 1) l = fromF (goF adj m L f l) m 0 := by
  rw [← fromF_zero]; rfl
/-- The row so far lies in its box; all else of what lay lies as it lay. -/
structure RingS (W0 : World) (gR : Nat) (l : List Nat) (wr : World) : Prop where
  low : Below 0 W0 wr
  blk : ∀ b, b < W0.heap.size → b ≠ gR → wr.heap[b]? = W0.heap[b]?
  row : ∃ A c, RowOf wr gR 25 [.slice A l.length c] ∧ wr.ownsRow W0.heap.size 3 1 (.slice A l.length c) l.length ((natG l).map (Value.int .i64))
section
variable {W0 wr w4 : World} {gR x c : Nat} {l : List Nat} {A : Option Addr} {v' : Value}
theorem RingS.cell (H : RingS W0 gR l wr) {p : Addr} {v : Value} (hp : W0.cell? p = some v) (h1 : p.block ≠ gR) : wr.cell? p = some v := by
  have := H.blk p.block (block_lt_of_cell hp) h1
  rw [← hp]; unfold World.cell?; rw [this]
theorem RingS.push (H : RingS W0 gR l wr) (hR : gR < W0.heap.size) (ho : wr.ownsRow W0.heap.size 3 1 (.slice A l.length c) l.length ((natG l).map (Value.int .i64))) (hr : RowOf wr gR 25 [.slice A l.length c]) (o : Obj) (hg : (wr.alloc o).grownBy w4 (Value.slice A l.length c).ownBlock)
    (ho' : w4.ownsRow W0.heap.size 3 1 v' (l.length + 1) ((natG l).map (Value.int .i64) ++ [.int .i64 (x : Int)])) : RowOf w4 gR 25 [.slice A l.length c] ∧ RingS W0 gR (l ++ [x]) (w4.setCell ⟨gR, 0, none⟩ v') := by
  have hn : ∀ k, (Value.slice A l.length c).ownBlock = some k → W0.heap.size ≤ k := own_base ho
  have hsz := H.low.size
  have e : (natG (l ++ [x])).map (Value.int .i64) = (natG l).map (Value.int .i64) ++ [.int .i64 (x : Int)] := by simp [natG]
  obtain ⟨A', c', rfl⟩ := own_form ho'
  have hne : some gR ≠ (Value.slice A l.length c).ownBlock := fun e => by have := hn gR e.symm; omega
  have hr4 : RowOf w4 gR 25 [.slice A l.length c] := (hg.block gR (by have := hr.lt; simp; omega) hne).trans (hr.alloc o)
  have hr5 := hr4.set_ 0 (.slice A' (l.length + 1) c')
  have hgs : w4.grownBy (w4.setCell ⟨gR, 0, none⟩ (.slice A' (l.length + 1) c')) (some gR) := ⟨rfl, rfl, rfl, by simp, fun b _ hb => Below.heap_setCell _ _ _ b (fun e => hb (by rw [e]))⟩
  refine ⟨hr4, ((H.low.alloc (Nat.zero_le _) o).grown hg (Nat.zero_le _) fun _ _ => Nat.zero_le _).setCell (p := ⟨gR, 0, none⟩) (Nat.zero_le _) _, fun b hb hbr => ?_, A', c', by rw [List.length_append, List.length_singleton]; exact hr5, ?_⟩
  · refine (Below.heap_setCell w4 ⟨gR, 0, none⟩ _ b hbr).trans ((hg.block b (by simp; omega) fun e => ?_).trans ((Below.heap_alloc wr o b (by omega)).trans (H.blk b hb hbr)))
    have := hn b e.symm; omega
  · rw [List.length_append, List.length_singleton, e]
    refine ho'.kept hgs (Classical.or_iff_not_imp_left.2 fun _ e => ?_)
    have := own_base ho' gR e; omega
theorem RingS.pop (H : RingS W0 gR (l ++ [x]) wr) (hR : gR < W0.heap.size) : ∃ g cap, RowOf wr gR 25 [.slice (some ⟨g, 0, none⟩) (l.length + 1) cap] ∧ l.length + 1 ≤ cap ∧ cap ≤ maxLen ∧ RingS W0 gR l (wr.setCell ⟨gR, 0, none⟩ (.slice (some ⟨g, 0, none⟩) l.length cap)) := by
  obtain ⟨A, c, hr, ho⟩ := H.row
  rw [List.length_append, List.length_singleton] at hr ho
  rcases ho.2 with ⟨_, h2⟩ | ⟨g, cap, cur, hv, hb, hg, hc1, hc2, hcs, htk⟩
  · omega
  · injection hv with e1 _ e3
    subst e1 e3
    have hr5 := hr.set_ 0 (.slice (some ⟨g, 0, none⟩) l.length c)
    refine ⟨g, c, hr, hc1, hc2, H.low.setCell (p := ⟨gR, 0, none⟩) (Nat.zero_le _) _, fun b hb2 hbr => (Below.heap_setCell wr ⟨gR, 0, none⟩ _ b hbr).trans (H.blk b hb2 hbr), _, _, hr5, ?_⟩
    have hgR : g ≠ gR := by omega
    have h1 : wr.ownsRow W0.heap.size 3 1 (.slice (some ⟨g, 0, none⟩) l.length c) l.length ((natG l).map (Value.int .i64)) := by
      refine ⟨by simp [natG], .inr ⟨g, c, cur, rfl, hb, hg, by omega, hc2, hcs, ?_⟩⟩
      have e : (natG (l ++ [x])).map (Value.int .i64) = (natG l).map (Value.int .i64) ++ [.int .i64 (x : Int)] := by simp [natG]
      rw [e] at htk
      have e1 : ((natG l).map (Value.int .i64)).length = l.length * 1 := by simp [natG]
      have h2 := congrArg (List.take (l.length * 1)) htk
      rw [List.take_take, show min (l.length * 1) ((l.length + 1) * 1) = l.length * 1 by omega, List.take_append_of_le_length (by omega), List.take_of_length_le (l := (natG l).map (Value.int .i64)) (by omega)] at h2
      exact h2
    have hgs : wr.grownBy (wr.setCell ⟨gR, 0, none⟩ (.slice (some ⟨g, 0, none⟩) l.length c)) (some gR) := ⟨rfl, rfl, rfl, by simp, fun b _ hb => Below.heap_setCell _ _ _ b (fun e => hb (by rw [e]))⟩
    exact h1.kept hgs (.inr (by simp only [Value.ownBlock, ne_eq, Option.some.injEq]; exact hgR))
theorem RingS.ints (H : RingS W0 gR l wr) {B : Nat} (hB : wr.heap.size ≤ B) : ∃ A c, RowOf wr gR 25 [.slice A l.length c] ∧ IntsAt wr B A l.length (natG l) := by
  obtain ⟨A, c, hr, ho⟩ := H.row
  exact ⟨A, c, hr, IntsAt.of_own ho hB⟩
end
/-- What the closure is handed. -/
structure RingE (W0 : World) (adj : Nat → Nat → Bool) (m L gW gR gL gB gF g gN cW : Nat) (xs : List Nat) : Prop where
  kW : W0.cell? ⟨gW, 0, none⟩ = some (.slice (some ⟨g, 0, none⟩) m cW)
  kL : W0.cell? ⟨gL, 0, none⟩ = some (.int .i64 (L : Int))
  kB : W0.cell? ⟨gB, 0, none⟩ = some (.slice (some ⟨gN, 0, none⟩) m m)
  kF : W0.cell? ⟨gF, 0, none⟩ = some (.func (.func 40) #[] #[.pointer (some ⟨gW, 0, none⟩), .pointer (some ⟨gR, 0, none⟩), .pointer (some ⟨gL, 0, none⟩), .pointer (some ⟨gB, 0, none⟩), .pointer (some ⟨gF, 0, none⟩)])
  words : ∀ i, i < m → W0.cell? ⟨g, i, none⟩ = some (.int .u32 ((xs.getD i 0 : Nat) : Int))
  nodes : ∀ i, i < m → W0.cell? ⟨gN, i, none⟩ = some (.int .i64 (i : Int))
  lenW : xs.length = m
  ltR : gR < W0.heap.size
  ltW : g < W0.heap.size
  ne : gW ≠ gR ∧ gL ≠ gR ∧ gB ≠ gR ∧ gF ≠ gR ∧ g ≠ gR ∧ gN ≠ gR
  small : ∀ i, xs.getD i 0 < 1024
  bit : ∀ i j, i < m → (xs.getD i 0).testBit j = adj i j
  m10 : m ≤ 10
  L10 : L ≤ 10
theorem RingE.wordsAt {W0 wr : World} {adj : Nat → Nat → Bool} {m L gW gR gL gB gF g gN cW : Nat} {xs l : List Nat} (E : RingE W0 adj m L gW gR gL gB gF g gN cW xs) (H : RingS W0 gR l wr) : WordsAt wr wr.heap.size (some ⟨g, 0, none⟩) m xs :=
  ⟨E.lenW, fun _ => ⟨g, 0, rfl, Nat.lt_of_lt_of_le E.ltW H.low.size, fun i x hx => by
    have hi : i < m := by rw [← E.lenW]; exact (List.getElem?_eq_some_iff.1 hx).1
    have h := H.cell (E.words i hi) E.ne.2.2.2.2.1
    rw [List.getD_eq_getElem?_getD, hx] at h
    rw [Nat.zero_add]; exact h⟩⟩
def ringF (gW gR gL gB gF : Nat) : Value := .func (.func 40) #[] #[.pointer (some ⟨gW, 0, none⟩), .pointer (some ⟨gR, 0, none⟩), .pointer (some ⟨gL, 0, none⟩), .pointer (some ⟨gB, 0, none⟩), .pointer (some ⟨gF, 0, none⟩)]
/-- What is told of a search: whether a ring was closed, and which. -/
def RingR (W0 : World) (gR : Nat) (l : List Nat) (o : Option (List Nat)) (b : Bool) (w' : World) : Prop := (∀ r, o = some r → b = true ∧ RingS W0 gR r w') ∧ (o = none → b = false ∧ RingS W0 gR l w')
set_option maxRecDepth 100000 in
set_option maxHeartbeats 2000000 in
theorem idxRing_any (W0 : World) (adj : Nat → Nat → Bool) (m L f gW gR gL gB gF g gN cW : Nat) (xs l : List Nat) (E : RingE W0 adj m L gW gR gL gB gF g gN cW xs)
    (HG : ∀ x wr, x < m → RingS W0 gR l wr → Calls Try.prog 40 #[.int .i64 (x : Int), .pointer (some ⟨gW, 0, none⟩), .pointer (some ⟨gR, 0, none⟩), .pointer (some ⟨gL, 0, none⟩), .pointer (some ⟨gB, 0, none⟩), .pointer (some ⟨gF, 0, none⟩)] wr fun e w' => ∃ b, e = .returned (.bool b) ∧ RingR W0 gR l (goF adj m L f l x) b w')
    (w : World) (hS : RingS W0 gR l w) :
    Calls Try.prog 26 #[.slice (some ⟨gN, 0, none⟩) m m, .func (.func 40) #[] #[.pointer (some ⟨gW, 0, none⟩), .pointer (some ⟨gR, 0, none⟩), .pointer (some ⟨gL, 0, none⟩), .pointer (some ⟨gB, 0, none⟩), .pointer (some ⟨gF, 0, none⟩)]] w fun e w' =>
      ∃ (z : Int) (b : Bool), e = .returned (.int .i64 z) ∧ decide (0 ≤ z) = b ∧ RingR W0 gR l (searchF adj m L (f + 1) l) b w' := by
  have HE := Lib.hid E
  have HGG := Lib.hid HG
  have HS := Lib.hid hS
  have hm10 := E.m10
  rw [search_from]
  clear E HG hS
  go_enter Try.func26, Try.ntmps26
  go_wp2
  go_loopw [5, 8] (fun _ j wr => ∃ k : Nat, k ≤ m ∧ j = .int .i64 k ∧ Hid (fromF (goF adj m L f l) m 0 = fromF (goF adj m L f l) m k ∧ RingS W0 gR l wr)) (fun _ j _ => m - (intOf j).toNat)
  case atStart => exact ⟨0, Nat.zero_le _, rfl, Lib.hid ⟨rfl, HS.out⟩⟩
  case round =>
    clear HS
    obtain ⟨k, hk, rfl, HC⟩ := hrel
    by_cases hkm : k < m
    · have ik0 : (0 : Int) ≤ (k : Int) := by omega
      have ik1 : (k : Int) < (m : Int) := by omega
      have cN : wr.cell? ⟨gN, k, none⟩ = some (.int .i64 (k : Int)) := HC.out.2.cell (HE.out.nodes k hkm) HE.out.ne.2.2.2.2.2
      have HFN := Lib.hid (HGG.out k wr hkm HC.out.2)
      have HKM := Lib.hid hkm
      obtain ⟨o, ho⟩ : ∃ o, goF adj m L f l k = o := ⟨_, rfl⟩
      have HO := Lib.hid ho
      rw [ho] at HFN
      clear ho
      go_wp2_with fail
      refine HFN.out.mono ?_
      rintro e w1 ⟨b, rfl, hb⟩
      cases o with
      | some r =>
        obtain ⟨rfl, h2⟩ := hb.1 r rfl
        have HR : Hid (RingR W0 gR l (fromF (goF adj m L f l) m 0) true w1) := Lib.hid (by
          rw [HC.out.1, fromF_some HKM.out HO.out]
          exact ⟨fun r' h => (by injection h with h; subst h; exact ⟨rfl, h2⟩), fun h => by cases h⟩)
        clear hb h2
        go_wp2_with fail
        go_ret
        exact ⟨_, true, rfl, by simp, HR.out⟩
      | none =>
        obtain ⟨rfl, h2⟩ := hb.2 rfl
        have HN : Hid (fromF (goF adj m L f l) m 0 = fromF (goF adj m L f l) m (k + 1) ∧ RingS W0 gR l w1) := Lib.hid ⟨by rw [HC.out.1, fromF_none HKM.out HO.out], h2⟩
        clear hb h2
        go_wp2_with fail
        go_roundw
        case rel => exact ⟨k + 1, by omega, by go_num, HN⟩
        case measure => simp [intOf]; omega
    · obtain rfl : k = m := by omega
      have HR : Hid (RingR W0 gR l (fromF (goF adj k L f l) k 0) false wr) := Lib.hid (by
        rw [HC.out.1, fromF_end]
        exact ⟨fun r' h => (by cases h), fun _ => ⟨rfl, HC.out.2⟩⟩)
      go_wp2_with fail
      go_ret
      exact ⟨-1, false, rfl, by decide, HR.out⟩
set_option maxRecDepth 100000 in
set_option maxHeartbeats 1000000 in
theorem hasRing_any (W0 : World) (adj : Nat → Nat → Bool) (m L f gW gR gL gB gF g gN cW : Nat) (xs l : List Nat) (E : RingE W0 adj m L gW gR gL gB gF g gN cW xs)
    (HG : ∀ x wr, x < m → RingS W0 gR l wr → Calls Try.prog 40 #[.int .i64 (x : Int), .pointer (some ⟨gW, 0, none⟩), .pointer (some ⟨gR, 0, none⟩), .pointer (some ⟨gL, 0, none⟩), .pointer (some ⟨gB, 0, none⟩), .pointer (some ⟨gF, 0, none⟩)] wr fun e w' => ∃ b, e = .returned (.bool b) ∧ RingR W0 gR l (goF adj m L f l x) b w')
    (w : World) (hS : RingS W0 gR l w) :
    Calls Try.prog 42 #[.slice (some ⟨gN, 0, none⟩) m m, .func (.func 40) #[] #[.pointer (some ⟨gW, 0, none⟩), .pointer (some ⟨gR, 0, none⟩), .pointer (some ⟨gL, 0, none⟩), .pointer (some ⟨gB, 0, none⟩), .pointer (some ⟨gF, 0, none⟩)]] w fun e w' =>
      ∃ b, e = .returned (.bool b) ∧ RingR W0 gR l (searchF adj m L (f + 1) l) b w' := by
  have HI := Lib.hid (idxRing_any W0 adj m L f gW gR gL gB gF g gN cW xs l E HG w hS)
  clear E HG hS
  go_enter Try.func42, Try.ntmps42
  go_wp2_with fail
  refine HI.out.mono ?_
  rintro e w1 ⟨z, b, rfl, hz, hr⟩
  have HR := Lib.hid hr
  clear hr
  go_wp2_with fail
  go_ret
  exact ⟨b, by first | rfl | (simp only [hz]), HR.out⟩
set_option maxRecDepth 100000 in
set_option maxHeartbeats 4000000 in
theorem closes_any (W0 : World) (adj : Nat → Nat → Bool) (m L gW gR gL gB gF g gN cW : Nat) (xs : List Nat) (E : RingE W0 adj m L gW gR gL gB gF g gN cW xs) :
    ∀ (f : Nat) (l : List Nat) (x : Nat) (w : World), l.length + f + 1 = L → (∀ i, i < l.length → l.getD i 0 < m) → x < m → RingS W0 gR l w →
    Calls Try.prog 40 #[.int .i64 (x : Int), .pointer (some ⟨gW, 0, none⟩), .pointer (some ⟨gR, 0, none⟩), .pointer (some ⟨gL, 0, none⟩), .pointer (some ⟨gB, 0, none⟩), .pointer (some ⟨gF, 0, none⟩)] w fun e w' => ∃ b, e = .returned (.bool b) ∧ RingR W0 gR l (goF adj m L f l x) b w' := by
  intro f
  induction f with
  | zero =>
    intro l x w hlf hlt hx hS
    have HE := Lib.hid E
    have HS := Lib.hid hS
    obtain ⟨n, hn⟩ : ∃ n, l.length = n := ⟨_, rfl⟩
    have HN := Lib.hid hn
    have HNL : Hid (n + 1 = L) := Lib.hid (by omega)
    have hL10 := E.L10
    have hm10 := E.m10
    have hn10 : n ≤ 10 := by omega
    have cW' := hS.cell E.kW E.ne.1
    have cL := hS.cell E.kL E.ne.2.1
    obtain ⟨A, c, hr, ho⟩ := hS.row
    have HR := Lib.hid hr
    have HO := Lib.hid ho
    have cR := hr.cell (i := 0) rfl
    have hI := IntsAt.of_own (B := w.heap.size) ho (Nat.le_refl _)
    rw [hn] at cR hI
    obtain ⟨v, hv⟩ : ∃ v, fitsB adj L l x = v := ⟨_, rfl⟩
    have HV := Lib.hid hv
    have HF := Lib.hid (fits_any m L x n cW c (some ⟨g, 0, none⟩) A xs l adj v w hm10 hL10 (E.wordsAt hS) hI hx hn10 hlt (E.small x) (fun j => E.bit x j hx) hv)
    have HLR := Lib.hid E.ltR
    have HO2 : Hid (w.ownsRow W0.heap.size 3 1 (.slice A n c) n ((natG l).map (Value.int .i64))) := Lib.hid (by rw [hn] at ho; exact ho)
    clear E hS hr ho hI hv hn hlf hlt
    cases v with
    | false =>
      go_enter Try.func40, Try.ntmps40
      go_wp2_with fail
      refine HF.out.mono ?_
      rintro e w1 ⟨rfl, rfl⟩
      go_wp2_with fail
      go_ret
      exact ⟨false, rfl, (by unfold goF; rw [HV.out]; exact ⟨fun r h => (by cases h), fun _ => ⟨rfl, HS.out⟩⟩)⟩
    | true =>
      obtain ⟨i0, hi, hz0, hz1, hz2⟩ := info_parts infoInt
      have HI := Lib.hid hi
      have HI0 := Lib.hid hz0
      have HI1 := Lib.hid hz1
      have HI2 := Lib.hid hz2
      clear hi hz0 hz1 hz2
      go_enter Try.func40, Try.ntmps40
      go_wp2_with fail
      refine HF.out.mono ?_
      rintro e w1 ⟨rfl, rfl⟩
      go_wp2_with (at_builtin; refine wpList_append_own _ rfl _ _ 25 rfl W0.heap.size 3 i0 (.int .i64 0) 1 8 Try.underlying25 HI.out HI0.out HI1.out HI2.out rfl (by decide) _ _ _ rfl (HO2.out.alloc _) ⟨w1.heap.size, 0, none⟩ 1 1 [.int .i64 (x : Int)] rfl rfl ?c1 ?c2 ?c3 ?c4 ?c5 ?_)
      try (case c1 => exact cell_one_new _ _ _)
      case c2 => simp [Value.oneCell']
      case c3 => unfold maxLen; omega
      case c4 => omega
      case c5 => have := HS.out.low.size; simp; omega
      intro v' w4 hown' hgrow _
      obtain ⟨A3, c3, rfl⟩ := own_form hown'
      obtain ⟨hr4, hS5⟩ : RowOf w4 gR 25 [.slice A n c] ∧ RingS W0 gR (l ++ [x]) (w4.setCell ⟨gR, 0, none⟩ (.slice A3 (n + 1) c3)) := by
        have h := HS.out.push (A := A) (c := c) (x := x) HLR.out HO.out HR.out _ (by rw [HN.out]; exact hgrow) (by rw [HN.out]; exact hown')
        rw [HN.out] at h
        exact h
      have HS5 := Lib.hid hS5
      have c4 := hr4.cell (i := 0) rfl
      have f4 := hr4.frozen 0
      have cL5 := hS5.cell HE.out.kL HE.out.ne.2.1
      clear hown' hgrow hr4 hS5 cR cL cW'
      have hee : ((n : Int) + 1 == (L : Int)) = true := by have := HNL.out; rw [beq_iff_eq]; omega
      have HGO : Hid (goF adj m L 0 l x = some (l ++ [x])) := Lib.hid (by unfold goF; rw [HV.out]; rfl)
      go_wp2_with fail
      go_ret
      exact ⟨true, rfl, (by rw [HGO.out]; exact ⟨fun r h => (by injection h with h; subst h; exact ⟨rfl, HS5.out⟩), fun h => by cases h⟩)⟩
  | succ f IH =>
    intro l x w hlf hlt hx hS
    have HE := Lib.hid E
    have HS := Lib.hid hS
    obtain ⟨n, hn⟩ : ∃ n, l.length = n := ⟨_, rfl⟩
    have HN := Lib.hid hn
    have HNL : Hid (n + 1 < L) := Lib.hid (by omega)
    have HHG : Hid (∀ y wr, y < m → RingS W0 gR (l ++ [x]) wr → Calls Try.prog 40 #[.int .i64 (y : Int), .pointer (some ⟨gW, 0, none⟩), .pointer (some ⟨gR, 0, none⟩), .pointer (some ⟨gL, 0, none⟩), .pointer (some ⟨gB, 0, none⟩), .pointer (some ⟨gF, 0, none⟩)] wr fun e w' => ∃ b, e = .returned (.bool b) ∧ RingR W0 gR (l ++ [x]) (goF adj m L f (l ++ [x]) y) b w') := Lib.hid (fun y wr hy hS2 => IH (l ++ [x]) y wr (by rw [List.length_append, List.length_singleton]; omega) (fun i hi => (by
      rw [List.length_append, List.length_singleton] at hi
      rw [getD_app]
      by_cases e : i < l.length
      · rw [if_pos e]; exact hlt i e
      · rw [if_neg e, if_pos (by omega)]; exact hx)) hy hS2)
    clear IH
    have hL10 := E.L10
    have hm10 := E.m10
    have hn10 : n ≤ 10 := by omega
    have cW' := hS.cell E.kW E.ne.1
    have cL := hS.cell E.kL E.ne.2.1
    obtain ⟨A, c, hr, ho⟩ := hS.row
    have HR := Lib.hid hr
    have HO := Lib.hid ho
    have cR := hr.cell (i := 0) rfl
    have hI := IntsAt.of_own (B := w.heap.size) ho (Nat.le_refl _)
    rw [hn] at cR hI
    obtain ⟨v, hv⟩ : ∃ v, fitsB adj L l x = v := ⟨_, rfl⟩
    have HV := Lib.hid hv
    have HF := Lib.hid (fits_any m L x n cW c (some ⟨g, 0, none⟩) A xs l adj v w hm10 hL10 (E.wordsAt hS) hI hx hn10 hlt (E.small x) (fun j => E.bit x j hx) hv)
    have HLR := Lib.hid E.ltR
    have HO2 : Hid (w.ownsRow W0.heap.size 3 1 (.slice A n c) n ((natG l).map (Value.int .i64))) := Lib.hid (by rw [hn] at ho; exact ho)
    clear E hS hr ho hI hv hn hlf hlt
    cases v with
    | false =>
      go_enter Try.func40, Try.ntmps40
      go_wp2_with fail
      refine HF.out.mono ?_
      rintro e w1 ⟨rfl, rfl⟩
      go_wp2_with fail
      go_ret
      exact ⟨false, rfl, (by unfold goF; rw [HV.out]; exact ⟨fun r h => (by cases h), fun _ => ⟨rfl, HS.out⟩⟩)⟩
    | true =>
      obtain ⟨i0, hi, hz0, hz1, hz2⟩ := info_parts infoInt
      have HI := Lib.hid hi
      have HI0 := Lib.hid hz0
      have HI1 := Lib.hid hz1
      have HI2 := Lib.hid hz2
      clear hi hz0 hz1 hz2
      go_enter Try.func40, Try.ntmps40
      go_wp2_with fail
      refine HF.out.mono ?_
      rintro e w1 ⟨rfl, rfl⟩
      go_wp2_with (at_builtin; refine wpList_append_own _ rfl _ _ 25 rfl W0.heap.size 3 i0 (.int .i64 0) 1 8 Try.underlying25 HI.out HI0.out HI1.out HI2.out rfl (by decide) _ _ _ rfl (HO2.out.alloc _) ⟨w1.heap.size, 0, none⟩ 1 1 [.int .i64 (x : Int)] rfl rfl ?c1 ?c2 ?c3 ?c4 ?c5 ?_)
      try (case c1 => exact cell_one_new _ _ _)
      case c2 => simp [Value.oneCell']
      case c3 => unfold maxLen; omega
      case c4 => omega
      case c5 => have := HS.out.low.size; simp; omega
      intro v' w4 hown' hgrow _
      obtain ⟨A3, c3, rfl⟩ := own_form hown'
      obtain ⟨hr4, hS5⟩ : RowOf w4 gR 25 [.slice A n c] ∧ RingS W0 gR (l ++ [x]) (w4.setCell ⟨gR, 0, none⟩ (.slice A3 (n + 1) c3)) := by
        have h := HS.out.push (A := A) (c := c) (x := x) HLR.out HO.out HR.out _ (by rw [HN.out]; exact hgrow) (by rw [HN.out]; exact hown')
        rw [HN.out] at h
        exact h
      have HS5 := Lib.hid hS5
      have c4 := hr4.cell (i := 0) rfl
      have f4 := hr4.frozen 0
      have cL5 := hS5.cell HE.out.kL HE.out.ne.2.1
      have cB5 := hS5.cell HE.out.kB HE.out.ne.2.2.1
      have cF5 := hS5.cell HE.out.kF HE.out.ne.2.2.2.1
      have HHS := Lib.hid (hasRing_any W0 adj m L f gW gR gL gB gF g gN cW xs (l ++ [x]) HE.out HHG.out _ hS5)
      have cR5 : (w4.setCell ⟨gR, 0, none⟩ (.slice A3 (n + 1) c3)).cell? ⟨gR, 0, none⟩ = some (.slice A3 (n + 1) c3) := (hr4.set_ 0 (.slice A3 (n + 1) c3)).cell (i := 0) rfl
      clear hown' hgrow hr4 hS5 cR cL cW'
      have hee : ((n : Int) + 1 == (L : Int)) = false := by have := HNL.out; rw [beq_eq_false_iff_ne]; omega
      have HGO : Hid (goF adj m L (f + 1) l x = searchF adj m L (f + 1) (l ++ [x])) := Lib.hid (by unfold goF; rw [HV.out]; rfl)
      obtain ⟨o, ho⟩ : ∃ o, searchF adj m L (f + 1) (l ++ [x]) = o := ⟨_, rfl⟩
      rw [ho] at HHS HGO
      clear ho
      go_wp2_with fail
      refine HHS.out.mono ?_
      rintro e w6 ⟨b, rfl, hb⟩
      cases o with
      | some r =>
        obtain ⟨rfl, h2⟩ := hb.1 r rfl
        have HS6 := Lib.hid h2
        clear hb h2 c4 f4 cL5 cB5 cF5 cR5
        go_wp2_with fail
        go_ret
        exact ⟨true, rfl, (by rw [HGO.out]; exact ⟨fun r h => (by injection h with h; subst h; exact ⟨rfl, HS6.out⟩), fun h => by cases h⟩)⟩
      | none =>
        obtain ⟨rfl, h2⟩ := hb.2 rfl
        obtain ⟨g6, cap6, h3, h4, h5, h6⟩ := h2.pop HLR.out
        rw [HN.out] at h3 h4 h6
        have c6 := h3.cell (i := 0) rfl
        have f6 := h3.frozen 0
        have HS6 := Lib.hid h6
        have hw : IntKind.i64.wrap ((n : Int) + 1 - 1) = (n : Int) := by rw [IntWalk.i64_in _ (by omega)]; omega
        have hq0 : (0 : Int) ≤ (n : Int) := by omega
        have hq1 : (n : Int) ≤ (cap6 : Int) := by omega
        clear hb h2 c4 f4 cL5 cB5 cF5 cR5 h3 h4 h5 h6
        go_wp2_with fail
        go_ret
        exact ⟨false, rfl, (by rw [HGO.out]; exact ⟨fun r h => (by cases h), fun _ => ⟨rfl, HS6.out⟩⟩)⟩
end Go.Proofs.Yticickicfigpbaa
