/- colour.Count and colour.Turned: what they tell of any graph. -/
import Derived.Test.YtpcealcghglopaaCountGo
import Derived.Test.YtpcealcghglopaaLooseP
import Derived.Test.YtpcealcghglopaaColourTop
namespace Go.Proofs.Ytpcealcghglopaa
open Go.RowKit

theorem ways_graph {m : Nat} {es : List E3} (hg : goodE m es) (k : Int) {a : Nat → Int → Int} (ha : PolA m (looseE es) a) : waysN (fun i => (nbL m es).getD i 0) k m 0 [] = a (2 ^ m - 1) k :=
  ways_all ha loose_down (fun b _ => one_loose hg b) (fun _ _ hb _ hs => put_loose hg (nb := fun i => (nbL m es).getD i 0) (fun i => nb_bit hg hb i) hs) k
set_option maxRecDepth 100000 in
set_option maxHeartbeats 2000000 in
theorem countTop_any (n k : Int) (A : Option Addr) (len cap : Nat) (es : List E3) (w : World) (hE : EdgesAt w w.heap.size A len es) :
    Calls Try.prog 22 #[.agg #[.int .i64 n, .slice A len cap], .int .i64 k] w (CountTop w n es k) := by
  have HX := Lib.hid (BoxG.start (n := n) (cap := cap) hE)
  have k0 := HX.out.c0
  have k1 := HX.out.c1
  obtain ⟨x, hx⟩ : ∃ x, gcheck n es = x := ⟨_, rfl⟩
  by_cases h0 : x = 0
  · subst h0
    obtain ⟨hn0, hn1, hl, hg⟩ := good_of_gcheck hx
    obtain ⟨m, rfl⟩ := Int.eq_ofNat_of_zero_le hn0
    have hm10 : m ≤ 10 := by omega
    have HNB := Lib.hid (fun W hW => neighbours_any m A len cap es W hW hx)
    have HXX := Lib.hid hx
    clear hE hx hn0 hn1 hl
    go_enter Try.func22, Try.ntmps22
    go_wp2_with fail
    refine (HNB.out _ HX.out.edges).mono ?_
    rintro e w1 ⟨g, rfl, hrow, hg0, hB⟩
    have HX1 := Lib.hid (HX.out.next hB)
    have HR := Lib.hid hrow
    clear hB k0 k1 HNB hrow
    by_cases hk : k < 0 ∨ 12 < k
    · have hk' : k < 0 ∨ (0 ≤ k ∧ 12 < k) := by omega
      have HK := Lib.hid hk
      clear hk
      rcases hk' with h1 | ⟨h1, h2⟩
      all_goals
        go_wp2_with fail
        go_ret2
        exact ⟨fun h => absurd HXX.out h, fun _ _ => rfl, fun _ h => absurd HK.out h, HX1.out.below⟩
    · have HK := Lib.hid hk
      have h1 : 0 ≤ k := by omega
      have h2 : k ≤ 12 := by omega
      obtain ⟨T, hT⟩ := tab_ex m (looseE es)
      obtain ⟨y, hy⟩ : ∃ y, waysN (fun i => (nbL m es).getD i 0) k m 0 [] = y := ⟨_, rfl⟩
      have HY : Hid (y = polT m T (2 ^ m - 1) k) := Lib.hid (by rw [← hy]; exact ways_graph hg k (polT_ok hT))
      have HT := Lib.hid hT
      have HCN := Lib.hid (count_any m m (some ⟨g, 0, none⟩) (nbL m es) k w1 hm10 (by omega) h2 (by
        have h := WordsAt.of_row (B := w1.heap.size) HR.out HR.out.lt
        rw [nbL_length] at h
        exact h) (fun i => pow10 hm10 (nbL_words hg i)))
      rw [hy] at HCN
      clear hk hT hy
      go_wp2_with fail
      refine HCN.out.mono ?_
      rintro e w2 ⟨rfl, hB⟩
      have HX2 := Lib.hid (HX1.out.next hB)
      clear hB HCN
      go_wp2_with fail
      go_ret2
      exact ⟨fun h => absurd HXX.out h, fun _ h => absurd h HK.out, fun _ _ => ⟨_, polT_ok HT.out, by rw [show ((m : Int)).toNat = m from rfl, ← HY.out]; rfl⟩, HX2.out.below⟩
  · have hx1 : (x != 0) = true := by simpa using h0
    have HNB := Lib.hid (fun W hW => neighbours_bad n A len cap es x W hW hx h0)
    have HXX := Lib.hid (show gcheck n es ≠ 0 by rw [hx]; exact h0)
    have HXE := Lib.hid hx
    clear hE hx h0
    go_enter Try.func22, Try.ntmps22
    go_wp2_with fail
    refine (HNB.out _ HX.out.edges).mono ?_
    rintro e w1 ⟨rfl, hB⟩
    have HX1 := Lib.hid (HX.out.next hB)
    clear hB k0 k1 HNB
    go_wp2_with fail
    go_ret2
    exact ⟨fun _ => by rw [HXE.out]; rfl, fun h => absurd h HXX.out, fun h => absurd h HXX.out, HX1.out.below⟩
theorem sg_all (n : Nat) : ∀ j, j ≤ n → sgW (2 ^ n - 1) j = if j % 2 = 1 then -1 else 1
  | 0, _ => rfl
  | j + 1, h => by
    have ih := sg_all n j (by omega)
    simp only [sgW]
    rw [ih, Nat.testBit_two_pow_sub_one, if_pos (show decide (j < n) = true from decide_eq_true (by omega))]
    rcases Nat.mod_two_eq_zero_or_one j with h1 | h1
    · rw [if_neg (by omega), if_pos (by omega)]; rfl
    · rw [if_pos h1, if_neg (by omega)]; rfl
theorem turns_eq {m : Nat} {es : List E3} (hg : goodE m es) : turnsN m es = if m % 2 = 1 then -(waysN (fun i => (nbL m es).getD i 0) (-1) m 0 []) else waysN (fun i => (nbL m es).getD i 0) (-1) m 0 [] := by
  obtain ⟨T, hT⟩ := tab_ex m (looseE es)
  have hpos := Nat.two_pow_pos m
  have h := stanley (fun s => loose_edg (es := es) s) (polT_ok hT) (2 ^ m) (2 ^ m - 1) (by omega) (by omega)
  rw [← ways_graph hg (-1) (polT_ok hT), sg_all m m (Nat.le_refl _)] at h
  unfold turnsN
  rw [h]
  split
  · rw [Int.neg_mul, Int.one_mul]
  · rw [Int.one_mul]
set_option maxRecDepth 100000 in
set_option maxHeartbeats 2000000 in
theorem turnedTop_any (n : Int) (A : Option Addr) (len cap : Nat) (es : List E3) (w : World) (hE : EdgesAt w w.heap.size A len es) :
    Calls Try.prog 24 #[.agg #[.int .i64 n, .slice A len cap]] w (TurnedTop w n es) := by
  have HX := Lib.hid (BoxG.start (n := n) (cap := cap) hE)
  have k0 := HX.out.c0
  have k1 := HX.out.c1
  obtain ⟨x, hx⟩ : ∃ x, gcheck n es = x := ⟨_, rfl⟩
  by_cases h0 : x = 0
  · subst h0
    obtain ⟨hn0, hn1, hl, hg⟩ := good_of_gcheck hx
    obtain ⟨m, rfl⟩ := Int.eq_ofNat_of_zero_le hn0
    have hm10 : m ≤ 10 := by omega
    have HNB := Lib.hid (fun W hW => neighbours_any m A len cap es W hW hx)
    have HXX := Lib.hid hx
    clear hE hx hn0 hn1 hl
    go_enter Try.func24, Try.ntmps24
    go_wp2_with fail
    refine (HNB.out _ HX.out.edges).mono ?_
    rintro e w1 ⟨g, rfl, hrow, hg0, hB⟩
    have HX1 := Lib.hid (HX.out.next hB)
    have HR := Lib.hid hrow
    clear hB k0 k1 HNB hrow
    obtain ⟨y, hy⟩ : ∃ y, waysN (fun i => (nbL m es).getD i 0) (-1) m 0 [] = y := ⟨_, rfl⟩
    have hyb : -26559922791424 ≤ y ∧ y ≤ 26559922791424 := by
      have h := ways_abs (k := -1) (by decide) (by decide) (fun i => (nbL m es).getD i 0) m 0 [] (Nat.le_refl _) (by omega)
      have h2 := pow22 hm10
      rw [hy] at h
      omega
    have HT : Hid (turnsN m es = if m % 2 = 1 then -y else y) := Lib.hid (by rw [← hy]; exact turns_eq hg)
    have HCN := Lib.hid (count_any m m (some ⟨g, 0, none⟩) (nbL m es) (-1) w1 hm10 (by decide) (by decide) (by
      have h := WordsAt.of_row (B := w1.heap.size) HR.out HR.out.lt
      rw [nbL_length] at h
      exact h) (fun i => pow10 hm10 (nbL_words hg i)))
    rw [hy] at HCN
    clear hy
    go_wp2_with fail
    refine HCN.out.mono ?_
    rintro e w2 ⟨rfl, hB⟩
    have HX2 := Lib.hid (HX1.out.next hB)
    have q0 := HX2.out.c0
    have q1 := HX2.out.c1
    clear hB HCN
    by_cases hp : m % 2 = 1
    · have HTE : Hid (turnsN m es = -y) := Lib.hid (by rw [HT.out, if_pos hp])
      have hm1 : ((m : Int) % 2 == 1) = true := by simp; omega
      have hw : IntKind.i64.wrap (-y) = -y := IntWalk.i64_in _ (by omega)
      clear hp
      go_wp2_with fail
      go_ret2
      exact ⟨fun h => absurd HXX.out h, fun _ => by rw [show ((m : Int)).toNat = m from rfl, HTE.out]; rfl, HX2.out.below⟩
    · have HTE : Hid (turnsN m es = y) := Lib.hid (by rw [HT.out, if_neg hp])
      have hm1 : ((m : Int) % 2 == 1) = false := by simp; omega
      clear hp
      go_wp2_with fail
      go_ret2
      exact ⟨fun h => absurd HXX.out h, fun _ => by rw [show ((m : Int)).toNat = m from rfl, HTE.out]; rfl, HX2.out.below⟩
  · have hx1 : (x != 0) = true := by simpa using h0
    have HNB := Lib.hid (fun W hW => neighbours_bad n A len cap es x W hW hx h0)
    have HXX := Lib.hid (show gcheck n es ≠ 0 by rw [hx]; exact h0)
    have HXE := Lib.hid hx
    clear hE hx h0
    go_enter Try.func24, Try.ntmps24
    go_wp2_with fail
    refine (HNB.out _ HX.out.edges).mono ?_
    rintro e w1 ⟨rfl, hB⟩
    have HX1 := Lib.hid (HX.out.next hB)
    clear hB k0 k1 HNB
    go_wp2_with fail
    go_ret2
    exact ⟨fun _ => by rw [HXE.out]; rfl, fun h => absurd h HXX.out, HX1.out.below⟩
end Go.Proofs.Ytpcealcghglopaa
