/- (*wish.likings).choices. -/
import Derived.Test.YtmelgnfhocofiaaLayP
import Derived.Test.YtmelgnfhocofiaaHoldsGo
import Derived.Test.YtmelgnfhocofiaaConcat
import Derived.Test.YtmelgnfhocofiaaOwn
import Derived.Test.YtmelgnfhocofiaaCouples
import Derived.Deep.QuietTactic
import Derived.Laws.NewBlocks
namespace Go.Proofs.Ytmelgnfhocofiaa
open Go.RowKit

/-- A row that is done: its block is one below Bi, and not g. -/
def RowB (wr : World) (g Bi : Nat) (v : Value) (xs : List Int) : Prop := ∃ A c, v = .slice A xs.length c ∧ xs.length ≤ c ∧ c ≤ maxLen ∧ (A = none → xs.length = 0 ∧ c = 0) ∧ (0 < xs.length → ∃ b, A = some ⟨b, 0, none⟩ ∧ b < Bi ∧ b ≠ g ∧ RowC wr b xs.length (fun j => xs.getD j 0))
/-- While row i grows: it has cnt numbers, in blocks from Bi on. -/
structure ChI (w : World) (bo : Obj) (g n i Bi : Nat) (ch : Nat → List Int) (v : Value) (ys : List Int) (wr : World) : Prop where
  below : Below w.heap.size w wr
  bx : wr.heap[w.heap.size]? = some bo
  ge : w.heap.size < g
  lt : g < Bi
  le : Bi ≤ wr.heap.size
  blk : ∃ cur : Array Value, wr.heap[g]? = some (.cells cur 28 (0, 0)) ∧ cur.size = n ∧ (∀ k, k < i → ∃ u, cur[k]? = some u ∧ RowB wr g Bi u (ch k)) ∧ (i < n → cur[i]? = some v) ∧ ∀ k, i < k → k < n → cur[k]? = some (.slice none 0 0)
  own : wr.ownsRow Bi 3 1 v ys.length (ys.map (Value.int .i64))
section
variable {w wr w2 : World} {bo : Obj} {g n i Bi : Nat} {ch : Nat → List Int} {v : Value} {ys : List Int}
theorem RowB.of_block (h : RowB wr g Bi v ys) (hb : ∀ b, b < Bi → b ≠ g → b < wr.heap.size → w2.heap[b]? = wr.heap[b]?) : RowB w2 g Bi v ys := by
  obtain ⟨A, c, h1, h2, h3, h5, h4⟩ := h
  refine ⟨A, c, h1, h2, h3, h5, fun hp => ?_⟩
  obtain ⟨b, q1, q2, q3, q4⟩ := h4 hp
  exact ⟨b, q1, q2, q3, q4.of_block (hb b q2 q3 q4.lt)⟩
theorem RowB.more {B' : Nat} (h : RowB wr g Bi v ys) (hB : Bi ≤ B') : RowB wr g B' v ys := by
  obtain ⟨A, c, h1, h2, h3, h5, h4⟩ := h
  refine ⟨A, c, h1, h2, h3, h5, fun hp => ?_⟩
  obtain ⟨b, q1, q2, q3, q4⟩ := h4 hp
  exact ⟨b, q1, by omega, q3, q4⟩
set_option maxRecDepth 100000 in
theorem RowB.of_own (h : wr.ownsRow Bi 3 1 v ys.length (ys.map (Value.int .i64))) (hg : g < Bi) : RowB wr g wr.heap.size v ys := by
  rcases h.2 with ⟨rfl, h0⟩ | ⟨b, cap, cur, rfl, hb, hc, h1, h2, _, h3⟩
  · refine ⟨none, 0, by rw [h0], by omega, by unfold maxLen; omega, fun _ => ⟨h0, rfl⟩, fun hp => by omega⟩
  · have hlt : b < wr.heap.size := (Array.getElem?_eq_some_iff.1 hc).1
    refine ⟨_, cap, rfl, h1, h2, fun e => (by cases e), fun _ => ⟨b, rfl, hlt, by omega, cur, hc, fun j hj => ?_⟩⟩
    have h4 : (cur.toList.take (ys.length * 1))[j]? = some (.int .i64 (ys.getD j 0)) := by rw [h3, List.getElem?_map, List.getElem?_eq_getElem hj, List.getD_eq_getElem?_getD, List.getElem?_eq_getElem hj]; rfl
    rw [List.getElem?_take, if_pos (by omega)] at h4
    simpa using h4
theorem ChI.cell (H : ChI w bo g n i Bi ch v ys wr) (hi : i < n) : wr.cell? ⟨g, i, none⟩ = some v := by
  obtain ⟨cur, h1, _, _, h4, _⟩ := H.blk
  rw [cell_of_row _ _ i cur _ (0, 0) h1]; exact h4 hi
theorem ChI.frozen (H : ChI w bo g n i Bi ch v ys wr) (k : Nat) : wr.frozen? ⟨g, k, none⟩ = false := by
  obtain ⟨cur, h1, _⟩ := H.blk
  exact frozen_of_row _ _ k cur _ h1
theorem ChI.drewN (H : ChI w bo g n i Bi ch v ys wr) (k : Nat) : ChI w bo g n i Bi ch v ys (wr.drewN k) := ⟨below_drewN H.below k, H.bx, H.ge, H.lt, H.le, H.blk, H.own⟩
theorem ChI.glt (H : ChI w bo g n i Bi ch v ys wr) : g < wr.heap.size := Nat.lt_of_lt_of_le H.lt H.le
set_option maxRecDepth 100000 in
/-- One more number, and the row is put in its place. -/
theorem ChI.add {x : World} {v' : Value} {z : Int} (H : ChI w bo g n i Bi ch v ys wr) (hi : i < n) (hx : Below wr.heap.size wr x) (hg : x.grownBy w2 v.ownBlock) (ho : w2.ownsRow Bi 3 1 v' (ys.length + 1) (ys.map (Value.int .i64) ++ [.int .i64 z])) :
    ChI w bo g n i Bi ch v' (ys ++ [z]) (w2.setCell ⟨g, i, none⟩ v') := by
  have hgl := H.glt
  have hv : ∀ k, v.ownBlock = some k → Bi ≤ k := fun k hk => (H.own.lt k hk).1
  have hsz : wr.heap.size ≤ w2.heap.size := Nat.le_trans hx.size hg.size
  have hsm : ∀ k, k < wr.heap.size → k < Bi → w2.heap[k]? = wr.heap[k]? := fun k hk hkB => (hg.block k (Nat.lt_of_lt_of_le hk hx.size) (fun e => by have := hv k e.symm; omega)).trans (hx.block k hk)
  have hBB : Below w.heap.size w w2 := (H.below.trans (hx.mono H.below.size)).grown hg (Nat.le_trans H.below.size hx.size) (fun k hk => by have := hv k hk; have := H.ge; have := H.lt; omega)
  have hs2 : (w2.setCell ⟨g, i, none⟩ v').heap.size = w2.heap.size := by simp
  obtain ⟨cur, h1, h2, h3, h4, h5⟩ := H.blk
  have e1 : w2.heap[g]? = some (.cells cur 28 (0, 0)) := (hsm g hgl H.lt).trans h1
  refine ⟨hBB.setCell (p := ⟨g, i, none⟩) (Nat.le_of_lt H.ge) _, (Below.heap_setCell w2 _ _ w.heap.size (by show w.heap.size ≠ g; have := H.ge; omega)).trans ((hsm w.heap.size (by have := H.ge; omega) (by have := H.ge; have := H.lt; omega)).trans H.bx), H.ge, H.lt, by rw [hs2]; exact Nat.le_trans H.le hsz, ⟨cur.setIfInBounds i v', ?_, by simpa using h2, fun k hk => ?_, fun _ => ?_, fun k hk hkn => ?_⟩, ?_⟩
  · simp [World.setCell, Array.getElem?_modify, e1]
  · obtain ⟨u, q1, q2⟩ := h3 k hk
    refine ⟨u, by rw [Array.getElem?_setIfInBounds_ne (by omega)]; exact q1, q2.of_block fun b hb hbg hbl => ?_⟩
    rw [Below.heap_setCell w2 _ _ b hbg]
    exact hsm b hbl hb
  · rw [Array.getElem?_setIfInBounds_self_of_lt (by omega)]
  · rw [Array.getElem?_setIfInBounds_ne (by omega)]; exact h5 k hk hkn
  · have hown := ho.lt
    have hk : w2.grownBy (w2.setCell ⟨g, i, none⟩ v') (some g) := ⟨rfl, rfl, rfl, by rw [hs2]; exact Nat.le_refl _, fun k _ hne => Below.heap_setCell w2 _ _ k (fun e => hne (by rw [e]))⟩
    have := ho.kept hk (.inr fun e => by have := (hown g e).1; have := H.lt; omega)
    rw [List.map_append, List.length_append]
    exact this
/-- A row is done. -/
theorem ChI.next (H : ChI w bo g n i Bi ch v ys wr) (hi : i < n) (hy : ys = ch i) : ChI w bo g n (i + 1) wr.heap.size ch (.slice none 0 0) [] wr := by
  obtain ⟨cur, h1, h2, h3, h4, h5⟩ := H.blk
  refine ⟨H.below, H.bx, H.ge, H.glt, Nat.le_refl _, ⟨cur, h1, h2, fun k hk => ?_, fun hn => h5 (i + 1) (Nat.lt_succ_self _) hn, fun k hk hkn => h5 k (by omega) hkn⟩, World.ownsRow_nil ..⟩
  rcases Nat.lt_or_ge k i with h6 | h6
  · obtain ⟨u, q1, q2⟩ := h3 k h6
    exact ⟨u, q1, q2.more H.le⟩
  · obtain rfl : k = i := by omega
    exact ⟨v, h4 hi, hy ▸ RowB.of_own H.own H.lt⟩
set_option maxRecDepth 100000 in
/-- A row that was put in its place at once. -/
theorem ChI.put {z : Int} (H : ChI w bo g n i wr.heap.size ch (.slice none 0 0) [] wr) (hi : i < n) (hz : ch i = [z]) :
    ChI w bo g n (i + 1) ((wr.alloc (.cells #[.int .i64 z] 3)).setCell ⟨g, i, none⟩ (.slice (some ⟨wr.heap.size, 0, none⟩) 1 1)).heap.size ch (.slice none 0 0) [] ((wr.alloc (.cells #[.int .i64 z] 3)).setCell ⟨g, i, none⟩ (.slice (some ⟨wr.heap.size, 0, none⟩) 1 1)) := by
  have hx : Below wr.heap.size wr (wr.alloc (.cells #[.int .i64 z] 3)) := (Below.refl _ _).alloc (Nat.le_refl _) _
  have ho : (wr.alloc (.cells #[.int .i64 z] 3)).ownsRow wr.heap.size 3 1 (.slice (some ⟨wr.heap.size, 0, none⟩) 1 1) (([] : List Int).length + 1) (([] : List Int).map (Value.int .i64) ++ [.int .i64 z]) :=
    ⟨rfl, .inr ⟨wr.heap.size, 1, _, rfl, Nat.le_refl _, (MapKept.heap_alloc wr _).1, Nat.le_refl _, by unfold maxLen; omega, rfl, rfl⟩⟩
  exact (H.add hi hx (World.grownBy.mk rfl rfl rfl (Nat.le_refl _) (fun _ _ _ => rfl)) ho).next hi (by rw [hz]; rfl)
/-- All rows are there. -/
theorem ChI.side (H : ChI w bo g n n Bi ch v ys wr) (hn : n ≤ 8) : SideAt wr wr.heap.size (some ⟨g, 0, none⟩) n n ((List.range n).map ch) := by
  obtain ⟨cur, h1, h2, h3, _⟩ := H.blk
  refine ⟨by simp, fun e => (by cases e), Nat.le_refl _, by unfold maxLen; omega, fun _ => ⟨g, 0, rfl, H.glt, fun k xs hk => ?_⟩⟩
  have hkn : k < n := by have := (List.getElem?_eq_some_iff.1 hk).1; simpa using this
  rw [List.getElem?_map, List.getElem?_range hkn] at hk
  simp only [Option.map_some, Option.some.injEq] at hk
  subst hk
  obtain ⟨u, q1, A, c, rfl, q2, q3, _, q4⟩ := h3 k hkn
  refine ⟨A, c, by rw [Nat.zero_add, cell_of_row _ _ k cur _ (0, 0) h1]; exact q1, ⟨rfl, fun hp => ?_⟩, q2, q3⟩
  obtain ⟨b, e, hb, _, hr⟩ := q4 hp
  refine ⟨b, 0, e, Nat.lt_of_lt_of_le hb H.le, fun j x hx => ?_⟩
  have hlt := (List.getElem?_eq_some_iff.1 hx).1
  rw [Nat.zero_add, hr.cell hlt, List.getD_eq_getElem?_getD, hx]; rfl
end

set_option maxRecDepth 100000 in
set_option maxHeartbeats 16000000 in
theorem choices_any (gR B n a b : Nat) (F G f h : Nat → Int) (w : World) (hL : DegAt w gR 0 F) (hR : DegAt w gR 64 G) (hg : gR < w.heap.size) (hC : Couples w B n a b f h) (hn : n ≤ 8)
    (hf : ∀ i, i < n → f i = -1 ∨ (0 ≤ f i ∧ f i < (n : Int))) (hh : ∀ i, i < n → h i = -1 ∨ (0 ≤ h i ∧ h i < (n : Int))) :
    Calls Try.prog 38 #[.pointer (some ⟨gR, 0, none⟩), .agg #[.slice (some ⟨a, 0, none⟩) n n, .slice (some ⟨b, 0, none⟩) n n]] w fun e w' => ∃ g, e = .returned (.slice (some ⟨g, 0, none⟩) n n) ∧ SideAt w' w'.heap.size (some ⟨g, 0, none⟩) n n ((List.range n).map (chF F G f h n)) ∧ Below w.heap.size w w' := by
  have hmk := fun W => run_make_row' (P := Try.prog) 22 28 (.slice none 0 0) 24 Try.underlying22 (by kernel_rfl) rfl .i64 .i64 n (by omega) (by omega) W
  have HL := Lib.hid hL
  have HR := Lib.hid hR
  have HC := Lib.hid hC
  have HF := Lib.hid hf
  have HH := Lib.hid hh
  have hal := hC.left.lt
  have hbl := hC.right.lt
  clear hL hR hC hf hh
  go_enter Try.func38, Try.ntmps38
  go_wp2_with fail
  obtain ⟨g, hgd⟩ : ∃ g, g = w.heap.size + 1 := ⟨_, rfl⟩
  obtain ⟨bo, hbo⟩ : ∃ bo : Obj, bo = .cells #[.slice (some ⟨a, 0, none⟩) n n, .slice (some ⟨b, 0, none⟩) n n] 51 := ⟨_, rfl⟩
  have HST : Hid (ChI w bo g n 0 ((w.alloc (.cells #[.slice (some ⟨a, 0, none⟩) n n, .slice (some ⟨b, 0, none⟩) n n] 51)).alloc (.cells (madeCells #[.slice none 0 0] n) 28)).heap.size (chF F G f h n) (.slice none 0 0) [] ((w.alloc (.cells #[.slice (some ⟨a, 0, none⟩) n n, .slice (some ⟨b, 0, none⟩) n n] 51)).alloc (.cells (madeCells #[.slice none 0 0] n) 28))) := Lib.hid (by
    have h1 : (w.alloc (.cells #[.slice (some ⟨a, 0, none⟩) n n, .slice (some ⟨b, 0, none⟩) n n] 51)).heap.size = w.heap.size + 1 := by simp
    have h2 : ((w.alloc (.cells #[.slice (some ⟨a, 0, none⟩) n n, .slice (some ⟨b, 0, none⟩) n n] 51)).alloc (.cells (madeCells #[.slice none 0 0] n) 28)).heap.size = w.heap.size + 2 := by simp
    have r1 := (MapKept.heap_alloc (w.alloc (.cells #[.slice (some ⟨a, 0, none⟩) n n, .slice (some ⟨b, 0, none⟩) n n] 51)) (.cells (madeCells #[.slice none 0 0] n) 28)).1
    rw [h1] at r1
    have r0 : ((w.alloc (.cells #[.slice (some ⟨a, 0, none⟩) n n, .slice (some ⟨b, 0, none⟩) n n] 51)).alloc (.cells (madeCells #[.slice none 0 0] n) 28)).heap[w.heap.size]? = some bo := by
      rw [hbo, Below.heap_alloc _ _ _ (by rw [h1]; omega)]; exact (MapKept.heap_alloc w _).1
    have hm : ∀ k, k < n → (madeCells #[Value.slice none 0 0] n)[k]? = some (.slice none 0 0) := fun k hk => by simp [madeCells, hk, Nat.mod_one]
    exact ⟨two_below0 .., r0, by omega, by omega, Nat.le_refl _, ⟨_, hgd ▸ r1, by simp [size_madeCells], fun k hk => absurd hk (by omega), fun hk => hm 0 hk, fun k _ hk => hm k hk⟩, World.ownsRow_nil ..⟩)
  rw [← hgd]
  have HGD := Lib.hid hgd
  have HBO := Lib.hid hbo
  clear hgd hbo hmk
  go_loopw [17] (fun t wr => ∃ i : Nat, i ≤ n ∧ t = .int .i64 i ∧ Hid (ChI w bo g n i wr.heap.size (chF F G f h n) (.slice none 0 0) [] wr)) (fun t _ => n - (intOf t).toNat)
  case atStart => exact ⟨0, Nat.zero_le _, rfl, HST⟩
  case round =>
    clear HST
    obtain ⟨i, hi, rfl, HI⟩ := hrel
    by_cases hil : i < n
    · obtain ⟨m, hm⟩ : ∃ m, f i = m := ⟨_, rfl⟩
      have ca : wr.cell? ⟨a, i, none⟩ = some (.int .i64 m) := by rw [← hm, HI.out.below.cell (p := ⟨a, i, none⟩) hal]; exact HC.out.left.cell hil
      have cb : wr.cell? ⟨w.heap.size, 1, none⟩ = some (.slice (some ⟨b, 0, none⟩) n n) := by
        have h5 := HI.out.bx
        rw [HBO.out] at h5
        exact cell_of_row _ _ 1 _ _ (0, 0) h5
      have ii0 : (0 : Int) ≤ (i : Int) := by omega
      have ii1 : (i : Int) < (n : Int) := by omega
      have cg := HI.out.cell hil
      have fg := HI.out.frozen i
      have hgl := HI.out.glt
      have hgn : g ≠ wr.heap.size := by omega
      have hmr := HF.out i hil
      rw [hm] at hmr
      have HIL := Lib.hid hil
      rcases hmr with hm1 | ⟨hm0, hm1⟩
      · subst hm1
        have HN := Lib.hid (HI.out.put hil (z := -1) (by unfold chF; rw [if_pos hm]))
        rw [World.setCell_alloc_past _ _ _ _ hgl] at HN
        clear hm HI
        go_wp2_with fail
        go_roundw
        case rel => exact ⟨i + 1, by have := HIL.out; omega, by go_num, HN⟩
        case measure => have := HIL.out; simp [intOf]; omega
      · obtain ⟨q, rfl⟩ := Int.eq_ofNat_of_zero_le hm0
        have hq8 : q < 8 := by omega
        have hqn : ((q : Int) == -1) = false := by simp
        have hqn2 : ¬ ((q : Int) = -1) := by omega
        have HCF : Hid (chF F G f h n i = chTo F G f h i n) := Lib.hid (by unfold chF; rw [if_neg (by omega)])
        have HM := Lib.hid hm
        clear hm
        go_wp2_with fail
        clear cg fg ca
        obtain ⟨wo, rfl⟩ : ∃ wo : World, wo = wr := ⟨_, rfl⟩
        go_loopw [31] (fun t wr => ∃ (j : Nat) (v : Value), j ≤ n ∧ t = .int .i64 j ∧ Hid (ChI w bo g n i wo.heap.size (chF F G f h n) v (chTo F G f h i j) wr)) (fun t _ => n - (intOf t).toNat)
        case atStart => exact ⟨0, _, Nat.zero_le _, rfl, HI⟩
        case round =>
          clear HI cb hgl hgn
          obtain ⟨j, v, hj, rfl, HCH⟩ := hrel
          by_cases hjl : j < n
          · obtain ⟨o, ho⟩ : ∃ o, h j = o := ⟨_, rfl⟩
            have cj : wr.cell? ⟨b, j, none⟩ = some (.int .i64 o) := by rw [← ho, HCH.out.below.cell (p := ⟨b, j, none⟩) hbl]; exact HC.out.right.cell hjl
            have jj0 : (0 : Int) ≤ (j : Int) := by omega
            have jj1 : (j : Int) < (n : Int) := by omega
            have i8 : (i : Int) < 8 := by omega
            have j8 : (j : Int) < 8 := by omega
            have q8 : (q : Int) < 8 := by omega
            have q0 : (0 : Int) ≤ (q : Int) := by omega
            have hor := HH.out j hjl
            rw [ho] at hor
            have HJL := Lib.hid hjl
            have HLW := Lib.hid (HL.out.keep HCH.out.below hg)
            have HRW := Lib.hid (HR.out.keep HCH.out.below hg)
            obtain ⟨c1, hc1⟩ : ∃ c1, mutF F G i j = c1 := ⟨_, rfl⟩
            have HMU := Lib.hid (fun k => mutual_any gR i j c1 F G (wr.drewN k) (HLW.out.drewN k) (HRW.out.drewN k) (by omega) (by omega) hc1)
            by_cases ho1 : o = -1
            · have HEQ : Hid (chTo F G f h i (j + 1) = chTo F G f h i j) := Lib.hid (by
                rw [show chTo F G f h i (j + 1) = if condB F G f h i j = true then chTo F G f h i j ++ [(j : Int)] else chTo F G f h i j from rfl, if_neg]
                unfold condB; rw [ho, ho1]; simp)
              obtain ⟨c0, hc0⟩ : ∃ c0, (o != -1) = c0 := ⟨_, rfl⟩
              have GC : Hid (c0 = false) := Lib.hid (by rw [← hc0, ho1]; rfl)
              clear ho1 ho hor HMU HLW HRW hc1
              go_wp2_with fail
              refine wp_region_quiet_lit (by kernel_rfl) (by kernel_rfl) ?_
              iterate 3 (quiet_step ((go_at_call 47; exact Calls.quiet_of_same (HMU.out _))))
              iterate 4 (refine wpQuiet_step (fun K hK => ?_); go_simp; rw [if_neg (by rw [GC.out]; decide)]; refine hK _ ?_; clear hK K)
              refine wpQuiet_step (fun K hK => ?_)
              rw [if_pos (by kernel_rfl)]
              refine ⟨.bool c0, fun W _ => ?s1, hK _ ?t1⟩
              case s1 =>
                have h5 := GC.out
                subst h5
                go_simp
              clear hK K
              quiet_step ((go_at_call 47; exact Calls.quiet_of_same (HMU.out _)))
              iterate 17 (refine wpQuiet_step (fun K hK => ?_); go_simp; rw [if_neg (by rw [GC.out]; decide)]; refine hK _ ?_; clear hK K)
              refine wpQuiet_step (fun K hK => ?_)
              rw [if_pos (by kernel_rfl)]
              refine ⟨.bool c0, fun W _ => ?s2, hK _ ?t2⟩
              case s2 =>
                have h5 := GC.out
                subst h5
                go_simp
              clear hK K
              quiet_step ((go_at_call 47; exact Calls.quiet_of_same (HMU.out _)))
              iterate 17 (refine wpQuiet_step (fun K hK => ?_); go_simp; rw [if_neg (by rw [GC.out]; decide)]; refine hK _ ?_; clear hK K)
              refine wpQuiet_step (fun K hK => ?_)
              rw [if_pos (by kernel_rfl)]
              refine ⟨.bool c0, fun W _ => ?s3, hK _ ?t3⟩
              case s3 =>
                have h5 := GC.out
                subst h5
                go_simp
              clear hK K
              refine wpQuiet_nil ?_
              intro _ hw'
              obtain ⟨nq, hw''⟩ := hw'
              subst hw''
              have h5 := GC.out
              subst h5
              go_wp2
              go_roundw
              case rel => exact ⟨j + 1, v, by have := HJL.out; omega, by go_num, Lib.hid (by rw [HEQ.out]; exact HCH.out.drewN _)⟩
              case measure => have := HJL.out; simp [intOf]; omega
            · obtain ⟨p, rfl⟩ : ∃ p : Nat, o = (p : Int) := ⟨o.toNat, by omega⟩
              have p8 : (p : Int) < 8 := by omega
              have p0 : (0 : Int) ≤ (p : Int) := by omega
              have hpn : ((p : Int) != -1) = true := by simp
              have hp8 : p < 8 := by omega
              obtain ⟨x1, e1⟩ : ∃ x, F (i * 8 + j) = x := ⟨_, rfl⟩
              obtain ⟨x2, e2⟩ : ∃ x, F (i * 8 + q) = x := ⟨_, rfl⟩
              obtain ⟨y1, e3⟩ : ∃ x, G (j * 8 + i) = x := ⟨_, rfl⟩
              obtain ⟨y2, e4⟩ : ∃ x, G (j * 8 + p) = x := ⟨_, rfl⟩
              have dx1 : wr.cell? ⟨gR, i * 8 + j, none⟩ = some (.int .i64 x1) := by have := HLW.out (i * 8 + j) (by omega); rwa [Nat.zero_add, e1] at this
              have dx2 : wr.cell? ⟨gR, i * 8 + q, none⟩ = some (.int .i64 x2) := by have := HLW.out (i * 8 + q) (by omega); rwa [Nat.zero_add, e2] at this
              have dy1 : wr.cell? ⟨gR, 64 + j * 8 + i, none⟩ = some (.int .i64 y1) := by have := HRW.out (j * 8 + i) (by omega); rwa [← Nat.add_assoc, e3] at this
              have dy2 : wr.cell? ⟨gR, 64 + j * 8 + p, none⟩ = some (.int .i64 y2) := by have := HRW.out (j * 8 + p) (by omega); rwa [← Nat.add_assoc, e4] at this
              have HCB : Hid (condB F G f h i j = (c1 && (decide (x1 ≤ x2) && decide (y1 ≥ y2)))) := Lib.hid (by
                unfold condB
                rw [ho, HM.out, Int.toNat_natCast, Int.toNat_natCast, e1, e2, e3, e4, hc1, hpn, Bool.true_and])
              have hno : condB F G f h i j = false → chTo F G f h i (j + 1) = chTo F G f h i j := fun hc => by
                rw [show chTo F G f h i (j + 1) = if condB F G f h i j = true then chTo F G f h i j ++ [(j : Int)] else chTo F G f h i j from rfl, if_neg (by rw [hc]; decide)]
              have HNO := Lib.hid hno
              clear e1 e2 e3 e4 ho hor HLW HRW hc1 hno ho1
              cases c1 with
              | false =>
                obtain ⟨c1, GC, hpp⟩ : ∃ p : Bool, Hid (p = false) ∧ Hid (false = p) := ⟨false, Lib.hid rfl, Lib.hid rfl⟩
                have HEQ := Lib.hid (HNO.out (by rw [HCB.out]; rfl))
                rw [hpp.out] at HMU
                clear HNO HCB hpp
                go_wp2_with fail
                refine wp_region_quiet_lit (by kernel_rfl) (by kernel_rfl) ?_
                iterate 9 (quiet_step ((go_at_call 47; exact Calls.quiet_of_same (HMU.out _))))
                iterate 17 (refine wpQuiet_step (fun K hK => ?_); go_simp; rw [if_neg (by rw [GC.out]; decide)]; refine hK _ ?_; clear hK K)
                refine wpQuiet_step (fun K hK => ?_)
                rw [if_pos (by kernel_rfl)]
                refine ⟨.bool c1, fun W _ => ?s4, hK _ ?t4⟩
                case s4 =>
                  have h5 := GC.out
                  subst h5
                  go_simp
                clear hK K
                quiet_step ((go_at_call 47; exact Calls.quiet_of_same (HMU.out _)))
                iterate 17 (refine wpQuiet_step (fun K hK => ?_); go_simp; rw [if_neg (by rw [GC.out]; decide)]; refine hK _ ?_; clear hK K)
                refine wpQuiet_step (fun K hK => ?_)
                rw [if_pos (by kernel_rfl)]
                refine ⟨.bool c1, fun W _ => ?s5, hK _ ?t5⟩
                case s5 =>
                  have h5 := GC.out
                  subst h5
                  go_simp
                clear hK K
                refine wpQuiet_nil ?_
                intro _ hw'
                obtain ⟨nq, hw''⟩ := hw'
                subst hw''
                have h5 := GC.out
                subst h5
                go_wp2
                go_roundw
                case rel => exact ⟨j + 1, v, by have := HJL.out; omega, by go_num, Lib.hid (by rw [HEQ.out]; exact HCH.out.drewN _)⟩
                case measure => have := HJL.out; simp [intOf]; omega
              | true =>
                by_cases g1 : x1 ≤ x2
                · have d1 : decide (x1 ≤ x2) = true := decide_eq_true g1
                  by_cases g2 : y1 ≥ y2
                  · have d2 : decide (y1 ≥ y2) = true := decide_eq_true g2
                    have HYES : Hid (chTo F G f h i (j + 1) = chTo F G f h i j ++ [(j : Int)]) := Lib.hid (by
                      rw [show chTo F G f h i (j + 1) = if condB F G f h i j = true then chTo F G f h i j ++ [(j : Int)] else chTo F G f h i j from rfl, if_pos (by rw [HCB.out, d1, d2]; rfl)])
                    clear HNO HCB
                    go_wp2_with fail
                    go_quiet ((go_at_call 47; exact Calls.quiet_of_same (HMU.out _)))
                    have HW1 := Lib.hid (HCH.out.drewN nq)
                    generalize wr.drewN nq = w1 at HW1 ⊢
                    clear HCH cj dx1 dx2 dy1 dy2 HMU
                    obtain ⟨Av, cv, hform⟩ := own_formC HW1.out.own
                    subst hform
                    have cg := HW1.out.cell HIL.out
                    have hgl := HW1.out.glt
                    have HLE : Hid ((chTo F G f h i j).length ≤ 8) := Lib.hid (Nat.le_trans (chTo_len j) (by have := HJL.out; omega))
                    obtain ⟨cnt, hcnt⟩ : ∃ cnt, cnt = (chTo F G f h i j).length := ⟨_, rfl⟩
                    have HCN := Lib.hid hcnt
                    rw [← hcnt] at cg
                    clear hcnt
                    obtain ⟨i0, hi0, hz0, hz1, hz2⟩ := info_parts infoInt
                    have HI0 := Lib.hid hi0
                    have HZ0 := Lib.hid hz0
                    have HZ1 := Lib.hid hz1
                    have HZ2 := Lib.hid hz2
                    clear hi0 hz0 hz1 hz2
                    go_wp2_with (at_builtin; refine wpList_append_own _ rfl _ _ 28 rfl wo.heap.size 3 i0 (.int .i64 0) 1 8 Try.underlying28 HI0.out HZ0.out HZ1.out HZ2.out rfl (by decide) _ cnt ((chTo F G f h i j).map (Value.int .i64)) rfl (by rw [HCN.out]; exact HW1.out.own.alloc _) ⟨w1.heap.size, 0, none⟩ 1 1 [.int .i64 (j : Int)] rfl rfl ?c1 ?c2 ?c3 ?c4 ?c5 ?_)
                    case c1 => exact cell_one_new _ _ _
                    case c2 => intro u hu; rw [List.mem_singleton.1 hu]; rfl
                    case c3 => have := HLE.out; have := HCN.out; unfold maxLen; omega
                    case c4 => have := HLE.out; have := HCN.out; omega
                    case c5 => have := HW1.out.le; simp; omega
                    intro v' w2 hown hgrow _
                    have hx1 : Below w1.heap.size w1 (w1.alloc (.cells #[.int .i64 (j : Int)] 3)) := (Below.refl _ _).alloc (Nat.le_refl _) _
                    have HNX := Lib.hid (HW1.out.add (z := (j : Int)) HIL.out hx1 (by rw [← HCN.out]; exact hgrow) (by rw [← HCN.out]; exact hown))
                    rw [← HYES.out] at HNX
                    have hbg : w2.heap[g]? = w1.heap[g]? := (hgrow.block g (Nat.lt_of_lt_of_le hgl hx1.size) (fun e => by rw [HCN.out] at e; have := (HW1.out.own.lt g e.symm).1; have := HW1.out.lt; omega)).trans (hx1.block g hgl)
                    have cg2 : w2.cell? ⟨g, i, none⟩ = some (.slice Av cnt cv) := (World.cell?_of_block (a := ⟨g, i, none⟩) hbg).trans cg
                    have fg2 : w2.frozen? ⟨g, i, none⟩ = false := (World.frozen?_of_block (a := ⟨g, i, none⟩) hbg).trans (HW1.out.frozen i)
                    obtain ⟨A2, c2, rfl⟩ := own_formC hown
                    clear hown hgrow hx1 hbg cg HW1 HLE HCN HI0 HZ0 HZ1 HZ2 hgl
                    go_wp2_with fail
                    go_roundw
                    case rel => exact ⟨j + 1, _, by have := HJL.out; omega, by go_num, HNX⟩
                    case measure => have := HJL.out; simp [intOf]; omega
                  · have d2 : decide (y1 ≥ y2) = false := decide_eq_false g2
                    have HEQ := Lib.hid (HNO.out (by rw [HCB.out, d2]; simp))
                    clear HNO HCB
                    go_wp2_with fail
                    go_quiet ((go_at_call 47; exact Calls.quiet_of_same (HMU.out _)))
                    go_wp2
                    go_roundw
                    case rel => exact ⟨j + 1, v, by have := HJL.out; omega, by go_num, Lib.hid (by rw [HEQ.out]; exact HCH.out.drewN _)⟩
                    case measure => have := HJL.out; simp [intOf]; omega
                · have HEQ := Lib.hid (HNO.out (by rw [HCB.out, decide_eq_false g1]; rfl))
                  have GC := Lib.hid g1
                  clear HNO HCB g1
                  go_wp2_with fail
                  refine wp_region_quiet_lit (by kernel_rfl) (by kernel_rfl) ?_
                  iterate 28 (quiet_step ((go_at_call 47; exact Calls.quiet_of_same (HMU.out _))))
                  iterate 17 (refine wpQuiet_step (fun K hK => ?_); go_simp; rw [if_neg (Int.not_le.2 GC.out)]; refine hK _ ?_; clear hK K)
                  have d1 : decide (x1 ≤ x2) = false := decide_eq_false (Int.not_le.2 GC.out)
                  quiet_step ((go_at_call 47; exact Calls.quiet_of_same (HMU.out _)))
                  refine wpQuiet_nil ?_
                  intro _ hw'
                  obtain ⟨nq, hw''⟩ := hw'
                  subst hw''
                  go_wp2
                  go_roundw
                  case rel => exact ⟨j + 1, v, by have := HJL.out; omega, by go_num, Lib.hid (by rw [HEQ.out]; exact HCH.out.drewN _)⟩
                  case measure => have := HJL.out; simp [intOf]; omega
          · obtain rfl : j = n := by omega
            have HN := Lib.hid (HCH.out.next HIL.out HCF.out.symm)
            clear HCH
            go_wp2_with fail
            go_roundw
            case rel => exact ⟨i + 1, by have := HIL.out; omega, by go_num, HN⟩
            case measure => have := HIL.out; simp [intOf]; omega
    · obtain rfl : i = n := by omega
      have HE := Lib.hid (And.intro (HI.out.side hn) HI.out.below)
      clear HI
      go_wp2_with fail
      go_ret
      exact ⟨g, rfl, HE.out⟩
end Go.Proofs.Ytmelgnfhocofiaa
