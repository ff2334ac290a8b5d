/- slices.Concat of two slices of integers, not too many of them; short.with: a walk that goes on by an arc. -/
import Derived.Test.YtkpejmpnbdblbaaBetterGo
import Derived.Test.YtkpejmpnbdblbaaOwn
import Derived.OwnWalk
import Derived.Lib.Walk
import Derived.Laws.AppendOwnNone
import Derived.Lib.AppendZeros
namespace Go.Proofs.Ytkpejmpnbdblbaa
open Go.RowKit

set_option maxRecDepth 100000 in
set_option maxHeartbeats 1000000 in
theorem grow_any (n : Nat) (w : World) (hn : n ≤ 2000) :
    Calls Try.prog 39 #[.slice none 0 0, .int .i64 (n : Int)] w fun e w' => ∃ v, e = .returned v ∧ w'.ownsRow w.heap.size 3 1 v 0 [] ∧ Below w.heap.size w w' := by
  obtain ⟨i0, hi, hz0, hz1, hz2⟩ := info_parts infoInt
  rcases Nat.eq_zero_or_pos n with rfl | hp
  · go_enter Try.func39, Try.ntmps39
    go_wp2
    go_ret
    exact ⟨_, rfl, World.ownsRow_nil .., Below.refl _ _⟩
  · have hrz : ∀ ty, (Builtin.append_ #[42, 3] ty #[.slice none 0 0, .int .i64 (n : Int)]).run Try.prog w = _ := fun ty =>
      Lib.run_append_nil_zeros w 42 3 ty 3 i0 (.int .i64 0) .i64 .i64 Try.underlying42 Try.underlying3 hi hz0 n hp (by omega) (by omega) (by rw [hz2]; omega)
    have hGn : n ≤ grownCap w n 0 3 := grownCap_ge w _ _ _
    have hGm : grownCap w n 0 3 ≤ maxLen := grownCap_le_maxLen w n 0 3 (by unfold maxLen; omega)
    generalize grownCap w n 0 3 = G at hrz hGn hGm
    have HS : Hid ((w.drew.alloc (.cells (Builtin.zeroCells (Value.int .i64 0).cells n ++ Builtin.zeroCells (Value.int .i64 0).cells (G - n)) 3)).ownsRow w.heap.size 3 1 (.slice (some ⟨w.heap.size, 0, none⟩) 0 G) 0 [] ∧ Below w.heap.size w (w.drew.alloc (.cells (Builtin.zeroCells (Value.int .i64 0).cells n ++ Builtin.zeroCells (Value.int .i64 0).cells (G - n)) 3))) := Lib.hid (by
      refine ⟨⟨rfl, .inr ⟨w.heap.size, G, _, rfl, Nat.le_refl _, (MapKept.heap_alloc w.drew _).1, Nat.zero_le _, hGm, ?_, by simp⟩⟩, (Below.refl _ _).drew.alloc (Nat.le_refl _) _⟩
      simp [Builtin.zeroCells, Value.cells]; omega)
    have n0 : ¬ ((n : Int) < 0) := by omega
    have n1 : (n : Int) > 0 := by omega
    have n2 : wrap64 (n : Int) = (n : Int) := by unfold wrap64; omega
    have hG63 : G ≤ 9223372036854775807 := by unfold maxLen at hGm; omega
    clear hGn hGm
    go_enter Try.func39, Try.ntmps39
    go_wp2_with (at_builtin; refine Lib.wpList_append_run _ rfl _ _ _ _ rfl _ _ rfl rfl _ _ (hrz _) ?_)
    all_goals (go_ret; exact ⟨_, rfl, HS.out⟩)

theorem add_block (a : Addr) (j : Nat) : (a.add j).block = a.block := by unfold Addr.add; split <;> rfl
theorem own_formC {w : World} {base : Nat} {t : TypeId} {v : Value} {n : Nat} {xs : List Value} (h : w.ownsRow base t 1 v n xs) : ∃ A cap, v = .slice A n cap := by
  rcases h.2 with ⟨rfl, rfl⟩ | ⟨g, cap, cur, rfl, _⟩
  · exact ⟨none, 0, rfl⟩
  · exact ⟨_, cap, rfl⟩
theorem below_grown {w x w2 : World} {B : Nat} {v : Value} (hx : Below B w x) (hB : B ≤ x.heap.size) (hg : x.grownBy w2 v.ownBlock) (hv : ∀ k, v.ownBlock = some k → B ≤ k) : Below B w w2 := hx.grown hg (by omega) hv
/-- The first so many of two numbers, together. -/
def upTo2 (a b k : Nat) : Nat := if k = 0 then 0 else if k = 1 then a else a + b
def first2 (us vs : List Value) (k : Nat) : List Value := if k = 0 then [] else if k = 1 then us else us ++ vs
set_option maxRecDepth 100000 in
set_option maxHeartbeats 1000000 in
theorem concat_vals (b off n1 c1 n2 c2 : Nat) (A1 A2 : Option Addr) (us vs : List Value) (w : World)
    (k1 : w.cell? ⟨b, off, none⟩ = some (.slice A1 n1 c1)) (k2 : w.cell? ⟨b, off + 1, none⟩ = some (.slice A2 n2 c2)) (hb : b < w.heap.size)
    (e1 : A1 = none → n1 = 0 ∧ c1 = 0) (e2 : A2 = none → n2 = 0 ∧ c2 = 0) (l1 : us.length = n1) (l2 : vs.length = n2) (h1 : n1 ≤ 1000) (h2 : n2 ≤ 1000)
    (o1 : ∀ u ∈ us, u.oneCell' = true) (o2 : ∀ u ∈ vs, u.oneCell' = true)
    (q1 : ∀ ad, A1 = some ad → (0 < n1 → ad.block < w.heap.size) ∧ ∀ j u, us[j]? = some u → w.cell? (ad.add j) = some u) (q2 : ∀ ad, A2 = some ad → (0 < n2 → ad.block < w.heap.size) ∧ ∀ j u, vs[j]? = some u → w.cell? (ad.add j) = some u) :
    Calls Try.prog 34 #[.slice (some ⟨b, off, none⟩) 2 2] w fun e w' => ∃ v, e = .returned v ∧ w'.ownsRow w.heap.size 3 1 v (n1 + n2) (us ++ vs) ∧ Below w.heap.size w w' := by
  obtain ⟨i0, hi, hz0, hz1, hz2⟩ := info_parts infoInt
  have Q1 := Lib.hid q1
  have Q2 := Lib.hid q2
  have O1 := Lib.hid o1
  have O2 := Lib.hid o2
  have E1 := Lib.hid e1
  have E2 := Lib.hid e2
  have L1 := Lib.hid l1
  have L2 := Lib.hid l2
  clear q1 q2 o1 o2 e1 e2 l1 l2
  go_enter Try.func34, Try.ntmps34
  go_wp2_with fail
  go_loop [3, 11] (fun s j => ∃ k : Nat, k ≤ 2 ∧ j = .int .i64 k ∧ s = .int .i64 (upTo2 n1 n2 k : Nat)) (fun _ j => 2 - (intOf j).toNat)
  case atStart => exact ⟨0, by omega, rfl, rfl⟩
  case round =>
    obtain ⟨k, hk, rfl, rfl⟩ := hrel
    rcases (show k = 0 ∨ k = 1 ∨ k = 2 by omega) with rfl | rfl | rfl
    · have z0 : upTo2 n1 n2 0 = 0 := rfl
      rw [z0]
      have w0 : wrap64 (n1 : Int) = (n1 : Int) := by unfold wrap64; omega
      have nn : ¬ ((n1 : Int) < 0) := by omega
      go_wp2_with fail
      go_round
      case rel => exact ⟨1, by omega, rfl, rfl⟩
      case measure => simp [intOf]
    · have z1 : upTo2 n1 n2 1 = n1 := rfl
      rw [z1]
      have w0 : wrap64 ((n1 : Int) + (n2 : Int)) = (n1 : Int) + (n2 : Int) := by unfold wrap64; omega
      have nn : ¬ ((n1 : Int) + (n2 : Int) < 0) := by omega
      go_wp2_with fail
      go_round
      case rel => exact ⟨2, by omega, rfl, by rw [show upTo2 n1 n2 2 = n1 + n2 from rfl, Int.natCast_add]⟩
      case measure => simp [intOf]
    · have z2 : upTo2 n1 n2 2 = n1 + n2 := rfl
      rw [z2]
      obtain ⟨m, hm⟩ : ∃ m, m = n1 + n2 := ⟨_, rfl⟩
      rw [← hm]
      have hm16 : m ≤ 2000 := by omega
      replace hm := Lib.hid hm
      clear z2
      go_wp2_with fail
      refine (grow_any m _ hm16).mono ?_
      rintro e w1 ⟨v1, rfl, hown, hbl⟩
      obtain ⟨Av, cv, rfl⟩ := own_formC hown
      have HS : Hid (w1.ownsRow w.heap.size 3 1 (.slice Av 0 cv) (upTo2 n1 n2 0) (first2 us vs 0) ∧ Below w.heap.size w w1) := Lib.hid ⟨hown, hbl⟩
      clear hown hbl
      go_wp2_with fail
      go_loopw [6, 27] (fun v j wr => ∃ (k : Nat) (A : Option Addr) (c : Nat), k ≤ 2 ∧ j = .int .i64 k ∧ v = .slice A (upTo2 n1 n2 k) c ∧ Hid (wr.ownsRow w.heap.size 3 1 (.slice A (upTo2 n1 n2 k) c) (upTo2 n1 n2 k) (first2 us vs k) ∧ Below w.heap.size w wr)) (fun _ j _ => 2 - (intOf j).toNat)
      case atStart => exact ⟨0, Av, cv, by omega, rfl, rfl, HS⟩
      case round =>
        clear HS
        obtain ⟨k, Av, cv, hk, rfl, rfl, HR⟩ := hrel
        rcases (show k = 0 ∨ k = 1 ∨ k = 2 by omega) with rfl | rfl | rfl
        · have z0 : upTo2 n1 n2 0 = 0 := rfl
          have z0' : first2 us vs 0 = [] := rfl
          rw [z0, z0'] at HR
          rw [z0]
          have c1' : wr.cell? ⟨b, off, none⟩ = some (.slice A1 n1 c1) := by rw [HR.out.2.cell hb]; exact k1
          cases A1 with
          | none =>
            obtain ⟨rfl, rfl⟩ := E1.out rfl
            obtain rfl : us = [] := List.length_eq_zero_iff.1 L1.out
            clear h1 L1 E1 Q1 O1 hm
            go_wp2_with (at_builtin; refine wpList_append_own_none rfl _ _ 42 rfl w.heap.size 3 i0 1 Try.underlying42 hi _ 0 [] rfl HR.out.1 rfl ?_)
            go_roundw
            case rel => exact ⟨1, _, _, by omega, rfl, rfl, Lib.hid HR.out⟩
            case measure => simp [intOf]
          | some ad =>
            have HN1 : Hid (∀ j u, us[j]? = some u → wr.cell? (ad.add j) = some u) := Lib.hid (fun j u hu => by rw [HR.out.2.cell (by rw [add_block]; exact (Q1.out ad rfl).1 (by have := (List.getElem?_eq_some_iff.1 hu).1; rw [L1.out] at this; omega))]; exact (Q1.out ad rfl).2 j u hu)
            go_wp2_with (at_builtin; refine wpList_append_own _ rfl _ _ 42 rfl w.heap.size 3 i0 (.int .i64 0) 1 8 Try.underlying42 hi hz0 hz1 hz2 rfl (by decide) _ 0 [] rfl HR.out.1 ad n1 c1 us rfl (by rw [L1.out]; omega) HN1.out O1.out (by unfold maxLen; omega) (by omega) HR.out.2.size ?_)
            intro v' w' hown hgr _
            obtain ⟨A', c', rfl⟩ := own_formC hown
            have HN : Hid (w'.ownsRow w.heap.size 3 1 (.slice A' (upTo2 n1 n2 1) c') (upTo2 n1 n2 1) (first2 us vs 1) ∧ Below w.heap.size w w') := Lib.hid ⟨by simpa [upTo2, first2] using hown, below_grown HR.out.2 HR.out.2.size hgr (fun k hk => (HR.out.1.lt k hk).1)⟩
            clear hown hgr HR
            go_wp2_with fail
            go_roundw
            case rel => exact ⟨1, A', c', by omega, rfl, by simp [upTo2], HN⟩
            case measure => simp [intOf]
        · have c2' : wr.cell? ⟨b, off + 1, none⟩ = some (.slice A2 n2 c2) := by rw [HR.out.2.cell hb]; exact k2
          have z1 : upTo2 n1 n2 1 = n1 := rfl
          have z1' : first2 us vs 1 = us := rfl
          rw [z1, z1'] at HR
          rw [z1]
          cases A2 with
          | none =>
            obtain ⟨rfl, rfl⟩ := E2.out rfl
            obtain rfl : vs = [] := List.length_eq_zero_iff.1 L2.out
            clear h2 L2 E2 Q2 O2 hm
            have HN : Hid (wr.ownsRow w.heap.size 3 1 (.slice Av (upTo2 n1 0 2) cv) (upTo2 n1 0 2) (first2 us [] 2) ∧ Below w.heap.size w wr) := Lib.hid (by simpa [upTo2, first2] using HR.out)
            go_wp2_with (at_builtin; refine wpList_append_own_none rfl _ _ 42 rfl w.heap.size 3 i0 1 Try.underlying42 hi _ n1 us rfl HR.out.1 rfl ?_)
            go_roundw
            case rel => exact ⟨2, Av, cv, by omega, rfl, by simp [upTo2], HN⟩
            case measure => simp [intOf]
          | some ad =>
            have HN2 : Hid (∀ j u, vs[j]? = some u → wr.cell? (ad.add j) = some u) := Lib.hid (fun j u hu => by rw [HR.out.2.cell (by rw [add_block]; exact (Q2.out ad rfl).1 (by have := (List.getElem?_eq_some_iff.1 hu).1; rw [L2.out] at this; omega))]; exact (Q2.out ad rfl).2 j u hu)
            go_wp2_with (at_builtin; refine wpList_append_own _ rfl _ _ 42 rfl w.heap.size 3 i0 (.int .i64 0) 1 8 Try.underlying42 hi hz0 hz1 hz2 rfl (by decide) _ n1 us rfl HR.out.1 ad n2 c2 vs rfl (by rw [L2.out]; omega) HN2.out O2.out (by unfold maxLen; omega) (by omega) HR.out.2.size ?_)
            intro v' w' hown hgr _
            obtain ⟨A', c', rfl⟩ := own_formC hown
            have HN : Hid (w'.ownsRow w.heap.size 3 1 (.slice A' (upTo2 n1 n2 2) c') (upTo2 n1 n2 2) (first2 us vs 2) ∧ Below w.heap.size w w') := Lib.hid ⟨by simpa [upTo2, first2] using hown, below_grown HR.out.2 HR.out.2.size hgr (fun k hk => (HR.out.1.lt k hk).1)⟩
            clear hown hgr HR
            go_wp2_with fail
            go_roundw
            case rel => exact ⟨2, A', c', by omega, rfl, by simp [upTo2], HN⟩
            case measure => simp [intOf]
        · go_wp2_with fail
          go_ret
          exact ⟨_, rfl, by simpa [upTo2, first2] using HR.out.1, HR.out.2⟩


/-- A list of places as a slice, below block B. -/
structure PlAt (w : World) (B : Nat) (A : Option Addr) (n c : Nat) (l : List Nat) : Prop where
  ints : IntsAt w B A n (lI l)
  nil : A = none → n = 0 ∧ c = 0
section
variable {w w' : World} {B B' n c : Nat} {A : Option Addr} {l : List Nat}
theorem PlAt.below (h : PlAt w B A n c l) (hb : Below B w w') : PlAt w' B A n c l := ⟨h.ints.below hb, h.nil⟩
theorem PlAt.more (h : PlAt w B A n c l) (hB : B ≤ B') : PlAt w B' A n c l := ⟨h.ints.more hB, h.nil⟩
theorem PlAt.go_ (h : PlAt w w.heap.size A n c l) (hb : Below w.heap.size w w') : PlAt w' w'.heap.size A n c l := ⟨h.ints.go_ hb, h.nil⟩
theorem PlAt.len (h : PlAt w B A n c l) : l.length = n := by have := h.ints.1; rwa [lI_len] at this
theorem PlAt.start (w : World) (B : Nat) : PlAt w B none 0 0 [] := ⟨IntsAt.nil_ w B none, fun _ => ⟨rfl, rfl⟩⟩
def plV (l : List Nat) : List Value := (lI l).map (Value.int .i64)
theorem PlAt.vals (h : PlAt w B A n c l) : (plV l).length = n ∧ (∀ u ∈ plV l, u.oneCell' = true) ∧ ∀ ad, A = some ad → (0 < n → ad.block < B) ∧ ∀ j u, (plV l)[j]? = some u → w.cell? (ad.add j) = some u := by
  refine ⟨by unfold plV; rw [List.length_map]; exact h.ints.1, fun u hu => ?_, fun ad ha => ⟨fun h0 => ?_, fun j u hu => ?_⟩⟩
  · unfold plV at hu
    obtain ⟨x, _, rfl⟩ := List.mem_map.1 hu
    rfl
  · obtain ⟨b, off, e, hb, _⟩ := h.ints.2 h0
    rw [ha] at e; injection e with e; subst e; exact hb
  · unfold plV at hu
    rw [List.getElem?_map] at hu
    cases hx : (lI l)[j]? with
    | none => rw [hx] at hu; cases hu
    | some x =>
      rw [hx] at hu
      simp only [Option.map_some, Option.some.injEq] at hu
      subst hu
      have h0 : 0 < n := by have := (List.getElem?_eq_some_iff.1 hx).1; have := h.ints.1; omega
      obtain ⟨b, off, e, hb, hc⟩ := h.ints.2 h0
      rw [ha] at e; injection e with e; subst e
      rw [show (Addr.add ⟨b, off, none⟩ j) = ⟨b, off + j, none⟩ by simp [Addr.add]]
      exact hc j x hx
end
theorem new_row (W : World) (q : Nat) (vs : Array Value) (t : TypeId) : ((W.drewN q).alloc (.cells vs t)).heap[W.heap.size]? = some (.cells vs t (0, 0)) := (MapKept.heap_alloc (W.drewN q) (.cells vs t)).1
set_option maxRecDepth 100000 in
set_option maxHeartbeats 1000000 in
theorem concat_one (b off n c k : Nat) (A : Option Addr) (g : Nat) (l : List Nat) (w : World)
    (k1 : w.cell? ⟨b, off, none⟩ = some (.slice A n c)) (k2 : w.cell? ⟨b, off + 1, none⟩ = some (.slice (some ⟨g, 0, none⟩) 1 1)) (k3 : w.cell? ⟨g, 0, none⟩ = some (.int .i64 k)) (hb : b < w.heap.size) (hg : g < w.heap.size)
    (hA : PlAt w w.heap.size A n c l) (hn : n ≤ 1000) :
    Calls Try.prog 34 #[.slice (some ⟨b, off, none⟩) 2 2] w fun e w' => (∃ A' c', e = .returned (.slice A' (n + 1) c') ∧ PlAt w' w'.heap.size A' (n + 1) c' (l ++ [k]) ∧ ∀ a, A' = some a → w.heap.size ≤ a.block) ∧ Below w.heap.size w w' := by
  obtain ⟨l1, o1, q1⟩ := hA.vals
  refine (concat_vals b off n c 1 1 A (some ⟨g, 0, none⟩) (plV l) [.int .i64 k] w k1 k2 hb hA.nil (fun h => by cases h) l1 rfl hn (by omega) o1 (fun u hu => by simp at hu; subst hu; rfl) q1 (fun ad ha => by
    injection ha with ha; subst ha
    refine ⟨fun _ => hg, fun j u hu => ?_⟩
    cases j with
    | zero => simp at hu; subst hu; exact k3
    | succ j => simp at hu)).mono ?_
  rintro e w' ⟨v, rfl, hown, hbl⟩
  obtain ⟨A', c', rfl⟩ := own_formC hown
  have e1 : plV l ++ [.int .i64 (k : Int)] = (lI (l ++ [k])).map (Value.int .i64) := by simp [plV, lI]
  rw [e1] at hown
  refine ⟨⟨A', c', rfl, ⟨IntsAt.of_own hown (Nat.le_refl _), fun h => ?_⟩, fun a ha => ?_⟩, hbl⟩
  · subst h
    rcases hown.2 with ⟨h0, _⟩ | ⟨_, _, _, h0, _⟩ <;> cases h0
  · subst ha
    obtain ⟨_, off, _⟩ := a
    rcases hown.2 with ⟨h0, _⟩ | ⟨g', _, _, h0, hg', _⟩
    · cases h0
    · injection h0 with h0
      injection h0 with h0
      injection h0 with h0
      subst h0; exact hg'
theorem set_two_cell (w : World) (g : Nat) (u v : Value) (p : Addr) (h : p.block ≠ g) : ((w.setCell ⟨g, 0, none⟩ u).setCell ⟨g, 1, none⟩ v).cell? p = w.cell? p :=
  World.cell?_of_block ((Below.heap_setCell _ _ _ p.block h).trans (Below.heap_setCell _ _ _ p.block h))
theorem cat_world (W : World) (a b c : Value) (t1 t2 : TypeId) : ((W.alloc (.cells #[a] t1)).alloc (.cells #[b, c] t2)).drew.cell? ⟨W.heap.size + 1, 0, none⟩ = some b ∧ ((W.alloc (.cells #[a] t1)).alloc (.cells #[b, c] t2)).drew.cell? ⟨W.heap.size + 1, 0 + 1, none⟩ = some c ∧
    ((W.alloc (.cells #[a] t1)).alloc (.cells #[b, c] t2)).drew.cell? ⟨W.heap.size, 0, none⟩ = some a ∧ Below W.heap.size W ((W.alloc (.cells #[a] t1)).alloc (.cells #[b, c] t2)).drew ∧ ((W.alloc (.cells #[a] t1)).alloc (.cells #[b, c] t2)).drew.heap.size = W.heap.size + 1 + 1 := by
  have h1 : ((W.alloc (.cells #[a] t1)).alloc (.cells #[b, c] t2)).heap[W.heap.size + 1]? = some (.cells #[b, c] t2 (0, 0)) := by
    have := (MapKept.heap_alloc (W.alloc (.cells #[a] t1)) (.cells #[b, c] t2)).1
    rwa [World.size_alloc] at this
  have h2 : ((W.alloc (.cells #[a] t1)).alloc (.cells #[b, c] t2)).heap[W.heap.size]? = some (.cells #[a] t1 (0, 0)) := by
    rw [Below.heap_alloc _ _ _ (by simp)]; exact (MapKept.heap_alloc W _).1
  refine ⟨?_, ?_, ?_, (((Below.refl _ _).alloc (Nat.le_refl _) _).alloc (by simp) _).drew, by simp [World.drew]⟩
  · show World.cell? ((W.alloc (.cells #[a] t1)).alloc (.cells #[b, c] t2)) _ = _
    simp only [World.cell?]; rw [h1]; rfl
  · show World.cell? ((W.alloc (.cells #[a] t1)).alloc (.cells #[b, c] t2)) _ = _
    simp only [World.cell?]; rw [h1]; rfl
  · show World.cell? ((W.alloc (.cells #[a] t1)).alloc (.cells #[b, c] t2)) _ = _
    simp only [World.cell?]; rw [h2]; rfl
set_option maxRecDepth 100000 in
set_option maxHeartbeats 1000000 in
theorem with_any (x : Int) (A : Option Addr) (n c k : Nat) (l : List Nat) (a0 a1 a2 a3 : Int) (w : World) (hA : PlAt w w.heap.size A n c l) (hn : n ≤ 1000) (hx : -4611686018427387904 ≤ x ∧ x ≤ 4611686018427387904) (ha : -4611686018427387904 < a3 ∧ a3 < 4611686018427387904) :
    Calls Try.prog 32 #[.agg #[.int .i64 x, .slice A n c], .int .i64 k, .agg #[.int .i64 a0, .int .i64 a1, .int .i64 a2, .int .i64 a3]] w fun e w' => (∃ A' c', e = .returned (.agg #[.int .i64 (x + a3), .slice A' (n + 1) c']) ∧ PlAt w' w'.heap.size A' (n + 1) c' (l ++ [k])) ∧ Below w.heap.size w w' := by
  have hw1 : IntKind.i64.wrap (x + a3) = x + a3 := IntWalk.i64_in _ (by omega)
  have hw2 : wrap64 (x + a3) = x + a3 := by unfold wrap64; omega
  obtain ⟨W, hW⟩ : ∃ W, W = (((w.alloc (.cells #[.int .i64 x, .slice A n c] 65)).alloc (.cells #[.int .i64 a0, .int .i64 a1, .int .i64 a2, .int .i64 a3] 50)).alloc (.cells #[.int .i64 0, .slice none 0 0] 65)) := ⟨_, rfl⟩
  have hB : Below w.heap.size w W := by rw [hW]; exact (((Below.refl _ _).alloc (Nat.le_refl _) _).alloc (by simp) _).alloc (by simp; omega) _
  have HA := Lib.hid (hA.go_ hB)
  have HB := Lib.hid hB
  have HS : Hid (W.heap.size = w.heap.size + 1 + 1 + 1) := Lib.hid (by rw [hW]; simp)
  have HC : Hid (W.heap[w.heap.size]? = some (.cells #[.int .i64 x, .slice A n c] 65 (0, 0)) ∧ W.heap[w.heap.size + 1]? = some (.cells #[.int .i64 a0, .int .i64 a1, .int .i64 a2, .int .i64 a3] 50 (0, 0)) ∧ W.heap[w.heap.size + 1 + 1]? = some (.cells #[.int .i64 0, .slice none 0 0] 65 (0, 0))) := Lib.hid (by
    rw [hW]
    refine ⟨?_, ?_, ?_⟩
    · rw [Below.heap_alloc _ _ _ (by simp; omega), Below.heap_alloc _ _ _ (by simp)]; exact (MapKept.heap_alloc w _).1
    · rw [Below.heap_alloc _ _ _ (by simp)]
      have := (MapKept.heap_alloc (w.alloc (.cells #[.int .i64 x, .slice A n c] 65)) (.cells #[.int .i64 a0, .int .i64 a1, .int .i64 a2, .int .i64 a3] 50)).1
      rwa [World.size_alloc] at this
    · have := (MapKept.heap_alloc ((w.alloc (.cells #[.int .i64 x, .slice A n c] 65)).alloc (.cells #[.int .i64 a0, .int .i64 a1, .int .i64 a2, .int .i64 a3] 50)) (.cells #[.int .i64 0, .slice none 0 0] 65)).1
      rwa [World.size_alloc, World.size_alloc] at this)
  clear hA hx ha hB
  go_enter Try.func32, Try.ntmps32
  go_wp2_with fail
  rw [← hW]
  clear hW
  have k0 : W.cell? ⟨w.heap.size, 0, none⟩ = some (.int .i64 x) := by simp [World.cell?, HC.out.1]
  have k1 : W.cell? ⟨w.heap.size, 1, none⟩ = some (.slice A n c) := by simp [World.cell?, HC.out.1]
  have k2 : W.cell? ⟨w.heap.size + 1, 3, none⟩ = some (.int .i64 a3) := by simp [World.cell?, HC.out.2.1]
  have HCW := Lib.hid (cat_world W (.int .i64 k) (.slice A n c) (.slice (some ⟨W.heap.size, 0, none⟩) 1 1) 3 42)
  go_region_held3 (fun W => W.cell? ⟨w.heap.size, 0, none⟩ = some (.int .i64 x) ∧ W.cell? ⟨w.heap.size, 1, none⟩ = some (.slice A n c) ∧ W.cell? ⟨w.heap.size + 1, 3, none⟩ = some (.int .i64 a3))
    (first | exact ⟨k0, k1, k2⟩ | exact hq1.out | exact ⟨(set_two_cell _ _ _ _ _ (by show w.heap.size ≠ _; omega)).trans hq1.out.1, (set_two_cell _ _ _ _ _ (by show w.heap.size ≠ _; omega)).trans hq1.out.2.1, (set_two_cell _ _ _ _ _ (by show w.heap.size + 1 ≠ _; omega)).trans hq1.out.2.2⟩ | go_keep)
    (first
      | (go_at_call 34
         refine (concat_one (W.heap.size + 1) 0 n c k A W.heap.size l _ (by exact HCW.out.1) (by exact HCW.out.2.1) (by exact HCW.out.2.2.1) (by rw [HCW.out.2.2.2.2]; omega) (by rw [HCW.out.2.2.2.2]; omega) (by exact HA.out.go_ HCW.out.2.2.2.1) hn).mono ?_
         rintro e w1 ⟨⟨A', c', rfl, hp, hge⟩, hb⟩
         have HGE : Hid (∀ a, A' = some a → W.heap.size ≤ a.block) := Lib.hid (fun a ha => by have h := hge a ha; rw [HCW.out.2.2.2.2] at h; omega)
         have HP := Lib.hid hp
         have HBB : Hid (Below W.heap.size W w1) := Lib.hid (HCW.out.2.2.2.1.trans (hb.mono HCW.out.2.2.2.1.size))
         have hq1 : Hid (w1.cell? ⟨w.heap.size, 0, none⟩ = some (.int .i64 x) ∧ w1.cell? ⟨w.heap.size, 1, none⟩ = some (.slice A n c) ∧ w1.cell? ⟨w.heap.size + 1, 3, none⟩ = some (.int .i64 a3)) := Lib.hid ⟨by rw [HBB.out.cell (by show w.heap.size < W.heap.size; have := HS.out; omega)]; exact k0, by rw [HBB.out.cell (by show w.heap.size < W.heap.size; have := HS.out; omega)]; exact k1, by rw [HBB.out.cell (by show w.heap.size + 1 < W.heap.size; have := HS.out; omega)]; exact k2⟩
         have HR : Hid (w1.heap[w.heap.size + 1 + 1]? = some (.cells #[.int .i64 0, .slice none 0 0] 65 (0, 0))) := Lib.hid ((HBB.out.block _ (by have := HS.out; omega)).trans HC.out.2.2)
         have r0 : w1.cell? ⟨w.heap.size + 1 + 1, 0, none⟩ = some (.int .i64 0) := by simp [World.cell?, HR.out]
         have r1 : w1.cell? ⟨w.heap.size + 1 + 1, 1, none⟩ = some (.slice none 0 0) := by simp [World.cell?, HR.out]
         have f0 : w1.frozen? ⟨w.heap.size + 1 + 1, 0, none⟩ = false := by simp [World.frozen?, HR.out]
         have f1 : w1.frozen? ⟨w.heap.size + 1 + 1, 1, none⟩ = false := by simp [World.frozen?, HR.out]
         clear hp hb hge))
  have HFIN : Hid (PlAt ((w1.setCell ⟨w.heap.size + 1 + 1, 0, none⟩ (.int .i64 (x + a3))).setCell ⟨w.heap.size + 1 + 1, 1, none⟩ (.slice A' (n + 1) c')) ((w1.setCell ⟨w.heap.size + 1 + 1, 0, none⟩ (.int .i64 (x + a3))).setCell ⟨w.heap.size + 1 + 1, 1, none⟩ (.slice A' (n + 1) c')).heap.size A' (n + 1) c' (l ++ [k])) := Lib.hid (by
    refine ⟨⟨HP.out.ints.1, fun h0 => ?_⟩, HP.out.nil⟩
    obtain ⟨b, off, e, hb, hc⟩ := HP.out.ints.2 h0
    have hge := HGE.out _ e
    have hsz := HS.out
    exact ⟨b, off, e, by simpa using hb, fun i z hz => (set_two_cell _ _ _ _ _ (by show b ≠ _; simp at hge; omega)).trans (hc i z hz)⟩)
  have HBE : Hid (Below w.heap.size w ((w1.setCell ⟨w.heap.size + 1 + 1, 0, none⟩ (.int .i64 (x + a3))).setCell ⟨w.heap.size + 1 + 1, 1, none⟩ (.slice A' (n + 1) c'))) := Lib.hid (((HB.out.trans (HBB.out.mono HB.out.size)).setCell (p := ⟨w.heap.size + 1 + 1, 0, none⟩) (by show w.heap.size ≤ w.heap.size + 1 + 1; omega) _).setCell (p := ⟨w.heap.size + 1 + 1, 1, none⟩) (by show w.heap.size ≤ w.heap.size + 1 + 1; omega) _)
  clear k0 k1 k2
  have s0 : ((w1.setCell ⟨w.heap.size + 1 + 1, 0, none⟩ (.int .i64 (x + a3))).setCell ⟨w.heap.size + 1 + 1, 1, none⟩ (.slice A' (n + 1) c')).cell? ⟨w.heap.size + 1 + 1, 0, none⟩ = some (.int .i64 (x + a3)) := by simp [go_sem, r0]
  have s1 : ((w1.setCell ⟨w.heap.size + 1 + 1, 0, none⟩ (.int .i64 (x + a3))).setCell ⟨w.heap.size + 1 + 1, 1, none⟩ (.slice A' (n + 1) c')).cell? ⟨w.heap.size + 1 + 1, 1, none⟩ = some (.slice A' (n + 1) c') := by simp [go_sem, r1]
  go_wp2
  refine bodyPost_ret (v := .agg #[.int .i64 (x + a3), .slice A' (n + 1) c']) (by simp [results, Try.results32, go_sem, r0, r1]) rfl ⟨⟨A', c', rfl, HFIN.out⟩, HBE.out⟩
end Go.Proofs.Ytkpejmpnbdblbaa
