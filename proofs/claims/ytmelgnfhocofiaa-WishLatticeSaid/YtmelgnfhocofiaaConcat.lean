/- slices.Concat of two slices of slices of integers, few of them. -/
import Derived.Test.YtmelgnfhocofiaaSide
import Derived.OwnWalk
import Derived.Lib.Walk
namespace Go.Proofs.Ytmelgnfhocofiaa
open Go.RowKit

set_option maxRecDepth 100000 in
theorem infoIntsC : (Try.prog.info? 28).map (fun i => (i.zero, i.size, i.bytes)) = some (some (.slice none 0 0), 1, 24) := by kernel_rfl
set_option maxRecDepth 100000 in
set_option maxHeartbeats 1000000 in
theorem grow_any (n : Nat) (w : World) (hn : n ≤ 16) :
    Calls Try.prog 42 #[.slice none 0 0, .int .i64 (n : Int)] w fun e w' => ∃ v, e = .returned v ∧ w'.ownsRow w.heap.size 28 1 v 0 [] ∧ Below w.heap.size w w' := by
  obtain ⟨i0, hi, hz0, hz1, hz2⟩ := info_parts infoIntsC
  rcases Nat.eq_zero_or_pos n with rfl | hp
  · go_enter Try.func42, Try.ntmps42
    go_wp2
    go_ret
    exact ⟨_, rfl, World.ownsRow_nil .., Below.refl _ _⟩
  · have hrz : ∀ ty, (Builtin.append_ #[22, 3] ty #[.slice none 0 0, .int .i64 (n : Int)]).run Try.prog w = _ := fun ty =>
      Lib.run_append_nil_zeros w 22 3 ty 28 i0 (.slice none 0 0) .i64 .i64 Try.underlying22 Try.underlying3 hi hz0 n hp (by omega) (by omega) (by rw [hz2]; omega)
    have hGn : n ≤ grownCap w n 0 28 := grownCap_ge w _ _ _
    have hGm : grownCap w n 0 28 ≤ maxLen := grownCap_le_maxLen w n 0 28 (by unfold maxLen; omega)
    generalize grownCap w n 0 28 = G at hrz hGn hGm
    have HS : Hid ((w.drew.alloc (.cells (Builtin.zeroCells (Value.slice none 0 0).cells n ++ Builtin.zeroCells (Value.slice none 0 0).cells (G - n)) 28)).ownsRow w.heap.size 28 1 (.slice (some ⟨w.heap.size, 0, none⟩) 0 G) 0 [] ∧ Below w.heap.size w (w.drew.alloc (.cells (Builtin.zeroCells (Value.slice none 0 0).cells n ++ Builtin.zeroCells (Value.slice none 0 0).cells (G - n)) 28))) := Lib.hid (by
      refine ⟨⟨rfl, .inr ⟨w.heap.size, G, _, rfl, Nat.le_refl _, (MapKept.heap_alloc w.drew _).1, Nat.zero_le _, hGm, ?_, by simp⟩⟩, (Below.refl _ _).drew.alloc (Nat.le_refl _) _⟩
      simp [Builtin.zeroCells, Value.cells]; omega)
    have n0 : ¬ ((n : Int) < 0) := by omega
    have n1 : (n : Int) > 0 := by omega
    have n2 : wrap64 (n : Int) = (n : Int) := by unfold wrap64; omega
    have hG63 : G ≤ 9223372036854775807 := by unfold maxLen at hGm; omega
    clear hGn hGm
    go_enter Try.func42, Try.ntmps42
    go_wp2_with (at_builtin; refine Lib.wpList_append_run _ rfl _ _ _ _ rfl _ _ rfl rfl _ _ (hrz _) ?_)
    all_goals (go_ret; exact ⟨_, rfl, HS.out⟩)

theorem add_block (a : Addr) (j : Nat) : (a.add j).block = a.block := by unfold Addr.add; split <;> rfl
theorem own_formC {w : World} {base : Nat} {t : TypeId} {v : Value} {n : Nat} {xs : List Value} (h : w.ownsRow base t 1 v n xs) : ∃ A cap, v = .slice A n cap := by
  rcases h.2 with ⟨rfl, rfl⟩ | ⟨g, cap, cur, rfl, _⟩
  · exact ⟨none, 0, rfl⟩
  · exact ⟨_, cap, rfl⟩
theorem below_grown {w x w2 : World} {B : Nat} {v : Value} (hx : Below B w x) (hB : B ≤ x.heap.size) (hg : x.grownBy w2 v.ownBlock) (hv : ∀ k, v.ownBlock = some k → B ≤ k) : Below B w w2 := hx.grown hg (by omega) hv
/-- The first so many of two numbers, together. -/
def upTo2 (a b k : Nat) : Nat := if k = 0 then 0 else if k = 1 then a else a + b
def first2 (us vs : List Value) (k : Nat) : List Value := if k = 0 then [] else if k = 1 then us else us ++ vs
set_option maxRecDepth 100000 in
set_option maxHeartbeats 1000000 in
theorem concat_vals (b off n1 c1 n2 c2 : Nat) (A1 A2 : Option Addr) (us vs : List Value) (w : World)
    (k1 : w.cell? ⟨b, off, none⟩ = some (.slice A1 n1 c1)) (k2 : w.cell? ⟨b, off + 1, none⟩ = some (.slice A2 n2 c2)) (hb : b < w.heap.size)
    (e1 : A1 = none → n1 = 0 ∧ c1 = 0) (e2 : A2 = none → n2 = 0 ∧ c2 = 0) (l1 : us.length = n1) (l2 : vs.length = n2) (h1 : n1 ≤ 8) (h2 : n2 ≤ 8)
    (o1 : ∀ u ∈ us, u.oneCell' = true) (o2 : ∀ u ∈ vs, u.oneCell' = true)
    (q1 : ∀ ad, A1 = some ad → (0 < n1 → ad.block < w.heap.size) ∧ ∀ j u, us[j]? = some u → w.cell? (ad.add j) = some u) (q2 : ∀ ad, A2 = some ad → (0 < n2 → ad.block < w.heap.size) ∧ ∀ j u, vs[j]? = some u → w.cell? (ad.add j) = some u) :
    Calls Try.prog 25 #[.slice (some ⟨b, off, none⟩) 2 2] w fun e w' => ∃ v, e = .returned v ∧ w'.ownsRow w.heap.size 28 1 v (n1 + n2) (us ++ vs) ∧ Below w.heap.size w w' := by
  obtain ⟨i0, hi, hz0, hz1, hz2⟩ := info_parts infoIntsC
  have Q1 := Lib.hid q1
  have Q2 := Lib.hid q2
  have O1 := Lib.hid o1
  have O2 := Lib.hid o2
  have E1 := Lib.hid e1
  have E2 := Lib.hid e2
  have L1 := Lib.hid l1
  have L2 := Lib.hid l2
  clear q1 q2 o1 o2 e1 e2 l1 l2
  go_enter Try.func25, Try.ntmps25
  go_wp2_with fail
  go_loop [3, 11] (fun s j => ∃ k : Nat, k ≤ 2 ∧ j = .int .i64 k ∧ s = .int .i64 (upTo2 n1 n2 k : Nat)) (fun _ j => 2 - (intOf j).toNat)
  case atStart => exact ⟨0, by omega, rfl, rfl⟩
  case round =>
    obtain ⟨k, hk, rfl, rfl⟩ := hrel
    rcases (show k = 0 ∨ k = 1 ∨ k = 2 by omega) with rfl | rfl | rfl
    · have z0 : upTo2 n1 n2 0 = 0 := rfl
      rw [z0]
      have w0 : wrap64 (n1 : Int) = (n1 : Int) := by unfold wrap64; omega
      have nn : ¬ ((n1 : Int) < 0) := by omega
      go_wp2_with fail
      go_round
      case rel => exact ⟨1, by omega, rfl, rfl⟩
      case measure => simp [intOf]
    · have z1 : upTo2 n1 n2 1 = n1 := rfl
      rw [z1]
      have w0 : wrap64 ((n1 : Int) + (n2 : Int)) = (n1 : Int) + (n2 : Int) := by unfold wrap64; omega
      have nn : ¬ ((n1 : Int) + (n2 : Int) < 0) := by omega
      go_wp2_with fail
      go_round
      case rel => exact ⟨2, by omega, rfl, by rw [show upTo2 n1 n2 2 = n1 + n2 from rfl, Int.natCast_add]⟩
      case measure => simp [intOf]
    · have z2 : upTo2 n1 n2 2 = n1 + n2 := rfl
      rw [z2]
      obtain ⟨m, hm⟩ : ∃ m, m = n1 + n2 := ⟨_, rfl⟩
      rw [← hm]
      have hm16 : m ≤ 16 := by omega
      replace hm := Lib.hid hm
      clear z2
      go_wp2_with fail
      refine (grow_any m _ hm16).mono ?_
      rintro e w1 ⟨v1, rfl, hown, hbl⟩
      obtain ⟨Av, cv, rfl⟩ := own_formC hown
      have HS : Hid (w1.ownsRow w.heap.size 28 1 (.slice Av 0 cv) (upTo2 n1 n2 0) (first2 us vs 0) ∧ Below w.heap.size w w1) := Lib.hid ⟨hown, hbl⟩
      clear hown hbl
      go_wp2_with fail
      go_loopw [6, 27] (fun v j wr => ∃ (k : Nat) (A : Option Addr) (c : Nat), k ≤ 2 ∧ j = .int .i64 k ∧ v = .slice A (upTo2 n1 n2 k) c ∧ Hid (wr.ownsRow w.heap.size 28 1 (.slice A (upTo2 n1 n2 k) c) (upTo2 n1 n2 k) (first2 us vs k) ∧ Below w.heap.size w wr)) (fun _ j _ => 2 - (intOf j).toNat)
      case atStart => exact ⟨0, Av, cv, by omega, rfl, rfl, HS⟩
      case round =>
        clear HS
        obtain ⟨k, Av, cv, hk, rfl, rfl, HR⟩ := hrel
        rcases (show k = 0 ∨ k = 1 ∨ k = 2 by omega) with rfl | rfl | rfl
        · have z0 : upTo2 n1 n2 0 = 0 := rfl
          have z0' : first2 us vs 0 = [] := rfl
          rw [z0, z0'] at HR
          rw [z0]
          have c1' : wr.cell? ⟨b, off, none⟩ = some (.slice A1 n1 c1) := by rw [HR.out.2.cell hb]; exact k1
          cases A1 with
          | none =>
            obtain ⟨rfl, rfl⟩ := E1.out rfl
            obtain rfl : us = [] := List.length_eq_zero_iff.1 L1.out
            clear h1 L1 E1 Q1 O1 hm
            go_wp2_with (at_builtin; refine wpList_append_own_none rfl _ _ 22 rfl w.heap.size 28 i0 1 Try.underlying22 hi _ 0 [] rfl HR.out.1 rfl ?_)
            go_roundw
            case rel => exact ⟨1, _, _, by omega, rfl, rfl, Lib.hid HR.out⟩
            case measure => simp [intOf]
          | some ad =>
            have HN1 : Hid (∀ j u, us[j]? = some u → wr.cell? (ad.add j) = some u) := Lib.hid (fun j u hu => by rw [HR.out.2.cell (by rw [add_block]; exact (Q1.out ad rfl).1 (by have := (List.getElem?_eq_some_iff.1 hu).1; rw [L1.out] at this; omega))]; exact (Q1.out ad rfl).2 j u hu)
            go_wp2_with (at_builtin; refine wpList_append_own _ rfl _ _ 22 rfl w.heap.size 28 i0 (.slice none 0 0) 1 24 Try.underlying22 hi hz0 hz1 hz2 rfl (by decide) _ 0 [] rfl HR.out.1 ad n1 c1 us rfl (by rw [L1.out]; omega) HN1.out O1.out (by unfold maxLen; omega) (by omega) HR.out.2.size ?_)
            intro v' w' hown hgr _
            obtain ⟨A', c', rfl⟩ := own_formC hown
            have HN : Hid (w'.ownsRow w.heap.size 28 1 (.slice A' (upTo2 n1 n2 1) c') (upTo2 n1 n2 1) (first2 us vs 1) ∧ Below w.heap.size w w') := Lib.hid ⟨by simpa [upTo2, first2] using hown, below_grown HR.out.2 HR.out.2.size hgr (fun k hk => (HR.out.1.lt k hk).1)⟩
            clear hown hgr HR
            go_wp2_with fail
            go_roundw
            case rel => exact ⟨1, A', c', by omega, rfl, by simp [upTo2], HN⟩
            case measure => simp [intOf]
        · have c2' : wr.cell? ⟨b, off + 1, none⟩ = some (.slice A2 n2 c2) := by rw [HR.out.2.cell hb]; exact k2
          have z1 : upTo2 n1 n2 1 = n1 := rfl
          have z1' : first2 us vs 1 = us := rfl
          rw [z1, z1'] at HR
          rw [z1]
          cases A2 with
          | none =>
            obtain ⟨rfl, rfl⟩ := E2.out rfl
            obtain rfl : vs = [] := List.length_eq_zero_iff.1 L2.out
            clear h2 L2 E2 Q2 O2 hm
            have HN : Hid (wr.ownsRow w.heap.size 28 1 (.slice Av (upTo2 n1 0 2) cv) (upTo2 n1 0 2) (first2 us [] 2) ∧ Below w.heap.size w wr) := Lib.hid (by simpa [upTo2, first2] using HR.out)
            go_wp2_with (at_builtin; refine wpList_append_own_none rfl _ _ 22 rfl w.heap.size 28 i0 1 Try.underlying22 hi _ n1 us rfl HR.out.1 rfl ?_)
            go_roundw
            case rel => exact ⟨2, Av, cv, by omega, rfl, by simp [upTo2], HN⟩
            case measure => simp [intOf]
          | some ad =>
            have HN2 : Hid (∀ j u, vs[j]? = some u → wr.cell? (ad.add j) = some u) := Lib.hid (fun j u hu => by rw [HR.out.2.cell (by rw [add_block]; exact (Q2.out ad rfl).1 (by have := (List.getElem?_eq_some_iff.1 hu).1; rw [L2.out] at this; omega))]; exact (Q2.out ad rfl).2 j u hu)
            go_wp2_with (at_builtin; refine wpList_append_own _ rfl _ _ 22 rfl w.heap.size 28 i0 (.slice none 0 0) 1 24 Try.underlying22 hi hz0 hz1 hz2 rfl (by decide) _ n1 us rfl HR.out.1 ad n2 c2 vs rfl (by rw [L2.out]; omega) HN2.out O2.out (by unfold maxLen; omega) (by omega) HR.out.2.size ?_)
            intro v' w' hown hgr _
            obtain ⟨A', c', rfl⟩ := own_formC hown
            have HN : Hid (w'.ownsRow w.heap.size 28 1 (.slice A' (upTo2 n1 n2 2) c') (upTo2 n1 n2 2) (first2 us vs 2) ∧ Below w.heap.size w w') := Lib.hid ⟨by simpa [upTo2, first2] using hown, below_grown HR.out.2 HR.out.2.size hgr (fun k hk => (HR.out.1.lt k hk).1)⟩
            clear hown hgr HR
            go_wp2_with fail
            go_roundw
            case rel => exact ⟨2, A', c', by omega, rfl, by simp [upTo2], HN⟩
            case measure => simp [intOf]
        · go_wp2_with fail
          go_ret
          exact ⟨_, rfl, by simpa [upTo2, first2] using HR.out.1, HR.out.2⟩

set_option maxRecDepth 100000 in
theorem SideAt.of_own {w w' : World} {n1 n2 : Nat} {Ls Rs : List (List Int)} {us vs : List Value} {v : Value} (l1 : us.length = n1) (S1 : Ls.length = n1) (S2 : Rs.length = n2)
    (f1 : ∀ (i : Nat) (xs : List Int), Ls[i]? = some xs → ∃ A' c', us[i]? = some (.slice A' xs.length c') ∧ IntsAt w w.heap.size A' xs.length xs ∧ xs.length ≤ c' ∧ c' ≤ maxLen)
    (f2 : ∀ (i : Nat) (xs : List Int), Rs[i]? = some xs → ∃ A' c', vs[i]? = some (.slice A' xs.length c') ∧ IntsAt w w.heap.size A' xs.length xs ∧ xs.length ≤ c' ∧ c' ≤ maxLen)
    (hown : w'.ownsRow w.heap.size 28 1 v (n1 + n2) (us ++ vs)) (hb : Below w.heap.size w w') : ∃ A c, v = .slice A (n1 + n2) c ∧ SideAt w' w'.heap.size A (n1 + n2) c (Ls ++ Rs) := by
  have hlen : (Ls ++ Rs).length = n1 + n2 := by rw [List.length_append, S1, S2]
  rcases hown.2 with ⟨rfl, h0⟩ | ⟨g, cap, cur, rfl, hg, hcur, hle, hmax, _, htake⟩
  · exact ⟨none, 0, by rw [h0], hlen, fun _ => ⟨h0, rfl⟩, by omega, Nat.zero_le _, fun h => absurd h (by omega)⟩
  · refine ⟨_, cap, rfl, hlen, (fun h => by cases h), hle, hmax, fun _ => ⟨g, 0, rfl, (Array.getElem?_eq_some_iff.1 hcur).1, fun i xs hi => ?_⟩⟩
    have hil : i < n1 + n2 := by rw [← hlen]; exact (List.getElem?_eq_some_iff.1 hi).1
    have hcell : ∀ u, (us ++ vs)[i]? = some u → w'.cell? ⟨g, 0 + i, none⟩ = some u := fun u hu => by
      rw [← htake, List.getElem?_take, if_pos (by omega)] at hu
      simp only [World.cell?, hcur, Nat.zero_add]
      simpa using hu
    rcases Nat.lt_or_ge i n1 with h | h
    · rw [List.getElem?_append_left (by omega)] at hi
      obtain ⟨A', c', g1, g2, g3⟩ := f1 i xs hi
      exact ⟨A', c', hcell _ (by rw [List.getElem?_append_left (by omega)]; exact g1), g2.go_ hb, g3⟩
    · rw [List.getElem?_append_right (by omega), S1] at hi
      obtain ⟨A', c', g1, g2, g3⟩ := f2 _ xs hi
      exact ⟨A', c', hcell _ (by rw [List.getElem?_append_right (by omega), l1]; exact g1), g2.go_ hb, g3⟩
theorem SideAt.block {w : World} {n c : Nat} {A : Option Addr} {Ls : List (List Int)} {vs : List Value} (h : SideAt w w.heap.size A n c Ls) (hv : ∀ ad, A = some ad → ∀ j u, vs[j]? = some u → w.cell? (ad.add j) = some u) :
    ∀ ad, A = some ad → (0 < n → ad.block < w.heap.size) ∧ ∀ j u, vs[j]? = some u → w.cell? (ad.add j) = some u := fun ad ha => by
  refine ⟨fun h0 => ?_, hv ad ha⟩
  obtain ⟨b, off, e, hb, _⟩ := h.at_ h0
  rw [ha] at e; injection e with e; subst e; exact hb
set_option maxRecDepth 100000 in
theorem concat_any (b off n1 c1 n2 c2 : Nat) (A1 A2 : Option Addr) (Ls Rs : List (List Int)) (w : World)
    (k1 : w.cell? ⟨b, off, none⟩ = some (.slice A1 n1 c1)) (k2 : w.cell? ⟨b, off + 1, none⟩ = some (.slice A2 n2 c2)) (hb : b < w.heap.size)
    (S1 : SideAt w w.heap.size A1 n1 c1 Ls) (S2 : SideAt w w.heap.size A2 n2 c2 Rs) (h1 : n1 ≤ 8) (h2 : n2 ≤ 8) :
    Calls Try.prog 25 #[.slice (some ⟨b, off, none⟩) 2 2] w fun e w' => ∃ A c, e = .returned (.slice A (n1 + n2) c) ∧ SideAt w' w'.heap.size A (n1 + n2) c (Ls ++ Rs) ∧ Below w.heap.size w w' := by
  obtain ⟨us, l1, o1, q1, f1⟩ := S1.vals
  obtain ⟨vs, l2, o2, q2, f2⟩ := S2.vals
  refine (concat_vals b off n1 c1 n2 c2 A1 A2 us vs w k1 k2 hb S1.nil S2.nil l1 l2 h1 h2 o1 o2 (S1.block q1) (S2.block q2)).mono ?_
  rintro e w' ⟨v, rfl, hown, hbl⟩
  obtain ⟨A, c, rfl, hS⟩ := SideAt.of_own l1 S1.len S2.len f1 f2 hown hbl
  exact ⟨A, c, rfl, hS, hbl⟩
end Go.Proofs.Ytmelgnfhocofiaa
