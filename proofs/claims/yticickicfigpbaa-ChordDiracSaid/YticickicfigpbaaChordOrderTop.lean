/- chord.Order: what it tells of any graph. -/
import Derived.Test.YticickicfigpbaaChordCrowd
import Derived.Test.YticickicfigpbaaChordUp
import Derived.Test.YticickicfigpbaaChordTop
import Derived.Test.YticickicfigpbaaNeigh
import Derived.Test.YticickicfigpbaaLooseP
import Derived.Test.YticickicfigpbaaOwn
import Derived.OwnWalk
import Derived.Maps.AppendAt
import Derived.Laws.MakeOwn
import Derived.Deep.LoopGhost
import Derived.Laws.EntriesVeiled
namespace Go.Proofs.Yticickicfigpbaa
open Go.RowKit

theorem RowOf.grownR {w w' : World} {g : Nat} {t : TypeId} {vs : List Value} {row : Option Nat} (h : RowOf w g t vs) (hg : w.grownBy w' row) (hr : some g ≠ row) : RowOf w' g t vs := (hg.block g h.lt hr).trans h
theorem own_cap {w : World} {base : Nat} {t : TypeId} {A : Option Addr} {n cap : Nat} {xs : List Value} (h : w.ownsRow base t 1 (.slice A n cap) n xs) : n ≤ cap := by
  rcases h.2 with ⟨h1, h2⟩ | ⟨g, cap', cur, hv, _, _, hc, _⟩
  · omega
  · injection hv with _ _ e
    omega
/-- What Order's loop holds: the neighbours, the nodes, the word of those that are gone, and the row of those that went. -/
structure OrdW (w : World) (gA g gN gG m : Nat) (es : List E3) (lg l : List Nat) (v : Value) (wr : World) : Prop where
  below : Below w.heap.size w wr
  rA : RowOf wr gA 46 [.slice (some ⟨g, 0, none⟩) m m]
  rW : RowOf wr g 38 ((nbL m es).map u32V)
  rN : RowOf wr gN 3 ((natG (List.range m)).map (Value.int .i64))
  gone : ∃ G : Nat, RowOf wr gG 38 [.int .u32 (G : Int)] ∧ ∀ j, G.testBit j = decide (j ∈ lg)
  own : wr.ownsRow w.heap.size 3 1 v l.length ((natG l).map (Value.int .i64))
  ne : ∀ k, v.ownBlock = some k → k ≠ gA ∧ k ≠ g ∧ k ≠ gN ∧ k ≠ gG
section
variable {w wr w1 w2 : World} {gA g gN gG m x : Nat} {es : List E3} {lg l : List Nat} {v v' : Value}
theorem OrdW.drewN (H : OrdW w gA g gN gG m es lg l v wr) (q : Nat) : OrdW w gA g gN gG m es lg l v (wr.drewN q) := by
  obtain ⟨G, h1, h2⟩ := H.gone
  exact ⟨below_drewN H.below q, H.rA, H.rW, H.rN, ⟨G, h1, h2⟩, H.own, H.ne⟩
theorem OrdW.grow (H : OrdW w gA g gN gG m es lg l v wr) (o : Obj) (hg : (wr.alloc o).grownBy w2 v.ownBlock) (ho : w2.ownsRow w.heap.size 3 1 v' (l.length + 1) ((natG l).map (Value.int .i64) ++ [.int .i64 (x : Int)])) (hat : v'.ownBlock = v.ownBlock ∨ v'.ownBlock = some (wr.alloc o).heap.size) :
    OrdW w gA g gN gG m es lg (l ++ [x]) v' w2 := by
  obtain ⟨G, h1, h2⟩ := H.gone
  have hn : ∀ k, v.ownBlock = some k → w.heap.size ≤ k := own_base H.own
  have hsz := H.below.size
  have e : (natG (l ++ [x])).map (Value.int .i64) = (natG l).map (Value.int .i64) ++ [.int .i64 (x : Int)] := by simp [natG]
  refine ⟨(H.below.alloc hsz o).grown hg (by simp; omega) hn, (H.rA.alloc o).grownR hg fun e => ?_, (H.rW.alloc o).grownR hg fun e => ?_, (H.rN.alloc o).grownR hg fun e => ?_, ⟨G, (h1.alloc o).grownR hg fun e => ?_, h2⟩, by rw [List.length_append, List.length_singleton, e]; exact ho, fun k hk => ?_⟩
  · exact (H.ne _ e.symm).1 rfl
  · exact (H.ne _ e.symm).2.1 rfl
  · exact (H.ne _ e.symm).2.2.1 rfl
  · exact (H.ne _ e.symm).2.2.2 rfl
  · rw [hk] at hat
    rcases hat with h | h
    · exact H.ne k h.symm
    · injection h with h
      have q1 := H.rA.lt
      have q2 := H.rW.lt
      have q3 := H.rN.lt
      have q4 := h1.lt
      have q5 : (wr.alloc o).heap.size = wr.heap.size + 1 := by simp
      omega
theorem OrdW.put (H : OrdW w gA g gN gG m es lg l v wr) (h1 : gG ≠ gA) (h2 : gG ≠ g) (h3 : gG ≠ gN) (hlo : w.heap.size ≤ gG) {G : Nat} (hG : ∀ j, G.testBit j = decide (j ∈ l)) : OrdW w gA g gN gG m es l l v (wr.setCell ⟨gG, 0, none⟩ (.int .u32 (G : Int))) := by
  obtain ⟨G0, h4, _⟩ := H.gone
  have hset := h4.set_ 0 (.int .u32 (G : Int))
  have hg : wr.grownBy (wr.setCell ⟨gG, 0, none⟩ (.int .u32 (G : Int))) (some gG) := ⟨rfl, rfl, rfl, by simp, fun b _ hb => Below.heap_setCell _ _ _ b (fun e => hb (by rw [e]))⟩
  refine ⟨H.below.setCell (p := ⟨gG, 0, none⟩) hlo _, H.rA.far (p := ⟨gG, 0, none⟩) (Ne.symm h1) _, H.rW.far (p := ⟨gG, 0, none⟩) (Ne.symm h2) _, H.rN.far (p := ⟨gG, 0, none⟩) (Ne.symm h3) _, ⟨G, hset, hG⟩, H.own.kept hg (Classical.or_iff_not_imp_left.2 fun _ e => (H.ne _ e).2.2.2 rfl), H.ne⟩
end
/-- The boxes that Order lays. -/
structure OrdBox (w w1 : World) (g m : Nat) (es : List E3) (W2 : World) : Prop where
  below : Below w.heap.size w W2
  rA : RowOf W2 w1.heap.size 46 [.slice (some ⟨g, 0, none⟩) m m]
  rW : RowOf W2 g 38 ((nbL m es).map u32V)
  rG : RowOf W2 (w1.heap.size + 1) 38 [.int .u32 0]
  g1 : g < w1.heap.size
  lo : w.heap.size ≤ w1.heap.size
  sz : W2.heap.size = w1.heap.size + 2
theorem ord_box {w w1 : World} {g m : Nat} {es : List E3} (h : Below w.heap.size w w1) (hr : RowOf w1 g 38 ((nbL m es).map u32V)) : OrdBox w w1 g m es ((w1.alloc (.cells #[.slice (some ⟨g, 0, none⟩) m m] 46)).alloc (.cells #[.int .u32 0] 38)) :=
  ⟨(h.alloc h.size _).alloc (by have := h.size; simp; omega) _, (box_new w1 _ _).alloc _, (hr.alloc _).alloc _, box_next w1 _ _ _, hr.lt, h.size, by simp⟩
set_option maxRecDepth 100000 in
/-- A row of no integers with room for n. -/
theorem mkC_run (n : Nat) (hn : n ≤ 32) (W : World) : (Instr.makeSlice 25 (.int .i64 0) (.int .i64 (n : Int))).run Try.prog W = .ok (.slice (some ⟨W.heap.size, 0, none⟩) 0 n) (mkI n W) := by
  obtain ⟨i0, hi, hz0, hz1, hz2⟩ := info_parts infoInt
  have h := run_make (P := Try.prog) W 25 3 i0 _ Try.underlying25 hi hz0 .i64 .i64 0 n (Int.le_refl _) (by omega) (by rw [hz2]; omega) (by omega)
  rw [hz1, Nat.mul_one] at h
  exact h
theorem mkI_own (n : Nat) (hn : n ≤ 32) (W : World) {base : Nat} (hb : base ≤ W.heap.size) : (mkI n W).ownsRow base 3 1 (.slice (some ⟨W.heap.size, 0, none⟩) 0 n) 0 [] :=
  World.ownsRow_made W _ n hb (by unfold maxLen; omega) (by rw [size_madeCells, Nat.mul_one])
/-- The two rows that Order makes, in either order. -/
structure OrdMade (W2 : World) (gN gO m : Nat) (W : World) : Prop where
  rN : RowOf W gN 3 ((natG (List.range m)).map (Value.int .i64))
  own : W.ownsRow W2.heap.size 3 1 (.slice (some ⟨gO, 0, none⟩) 0 m) 0 []
  below : Below W2.heap.size W2 W
  ne : gO ≠ gN
  loN : W2.heap.size ≤ gN
  loO : W2.heap.size ≤ gO
theorem ord_made1 {W2 w5 : World} {m : Nat} (hm : m ≤ 10) (hup : RowOf w5 W2.drew.heap.size 3 ((natG (List.range m)).map (Value.int .i64))) (hus : w5.heap.size = W2.drew.heap.size + 1) (hub : Below W2.drew.heap.size W2.drew w5) : OrdMade W2 W2.heap.size (W2.heap.size + 1) m (mkI m w5) := by
  have h : (mkI m w5).ownsRow W2.heap.size 3 1 (.slice (some ⟨w5.heap.size, 0, none⟩) 0 m) 0 [] := mkI_own m (by omega) w5 (by rw [hus]; exact Nat.le_succ _)
  rw [hus] at h
  exact ⟨hup.keep (mkI_below m w5), h, ((Below.refl _ W2).drew.trans hub).trans ((mkI_below m w5).mono (by rw [hus]; exact Nat.le_succ _)), by omega, Nat.le_refl _, Nat.le_succ _⟩
theorem ord_made2 {W2 w5 : World} {m : Nat} (hm : m ≤ 10) (hup : RowOf w5 (mkI m W2.drew).heap.size 3 ((natG (List.range m)).map (Value.int .i64))) (hub : Below (mkI m W2.drew).heap.size (mkI m W2.drew) w5) : OrdMade W2 (W2.heap.size + 1) W2.heap.size m w5 := by
  rw [mkI_size] at hup hub
  have h : (mkI m W2.drew).ownsRow W2.heap.size 3 1 (.slice (some ⟨W2.heap.size, 0, none⟩) 0 m) 0 [] := mkI_own m (by omega) W2.drew (Nat.le_refl _)
  have hb : Below (W2.heap.size + 1) (mkI m W2.drew) w5 := hub
  have hb' : Below (mkI m W2.drew).heap.size (mkI m W2.drew) w5 := by rw [mkI_size]; exact hub
  exact ⟨hup, h.kept (grown_of_below hb' none) (.inr (by simp [Value.ownBlock])), ((Below.refl _ W2).drew.trans (mkI_below m W2.drew)).trans (hb.mono (Nat.le_succ _)), by omega, Nat.le_succ _, Nat.le_refl _⟩
set_option maxRecDepth 100000 in
set_option maxHeartbeats 4000000 in
theorem orderTop_good (m : Nat) (A : Option Addr) (len cap : Nat) (es : List E3) (w : World) (hE : EdgesAt w w.heap.size A len es) (hx : gcheck m es = 0) :
    Calls Try.prog 7 #[.agg #[.int .i64 (m : Int), .slice A len cap]] w fun e w' =>
      (elimF (adjE es) m m [] = none → e = .returned (.tuple #[.slice none 0 0, .int .i64 5])) ∧ (∀ l, elimF (adjE es) m m [] = some l → ∃ A' c', e = .returned (.tuple #[.slice A' m c', .int .i64 0]) ∧ IntsAt w' w'.heap.size A' m (natG l) ∧ m ≤ c') ∧ Below w.heap.size w w' := by
  have HX := Lib.hid (BoxG.start (n := (m : Int)) (cap := cap) hE)
  have k0 := HX.out.c0
  have k1 := HX.out.c1
  obtain ⟨hn0, hn1, hl, hg⟩ := good_of_gcheck hx
  have hm10 : m ≤ 10 := by omega
  have HNB := Lib.hid (fun W hW => neighbours_any m A len cap es W hW hx)
  have HUP := Lib.hid (fun W => upTo_any m W hm10)
  have HIN := Lib.hid (info_parts infoInt)
  have hmk := fun W => mkC_run m (by omega) W
  have hsz := fun W => mkI_size m W
  have HGE := Lib.hid hg
  obtain ⟨wb, hwb⟩ : ∃ wb, bx w (m : Int) A len cap = wb := ⟨_, rfl⟩
  have HB0 : Hid (∀ W, Below wb.heap.size wb W → W.cell? ⟨w.heap.size, 0, none⟩ = some (.int .i64 (m : Int)) ∧ Below w.heap.size w W) := Lib.hid (fun W h => by
    rw [← hwb] at h
    exact ⟨(BoxG.of hE h).c0, (BoxG.of hE h).below⟩)
  have HWB := Lib.hid hwb
  clear hE hx hn0 hn1 hl hg hwb
  go_enter Try.func7, Try.ntmps7
  go_wp2_with fail
  refine (HNB.out _ HX.out.edges).mono ?_
  rintro e w1 ⟨g, rfl, hrow, hg0, hB⟩
  have HX1 := Lib.hid (HX.out.next hB)
  have HR := Lib.hid hrow
  have l0 := HX1.out.c0
  have l1 := HX1.out.c1
  clear hB k0 k1 HNB hrow
  go_wp2_with fail
  have HBA : Hid (OrdBox wb w1 g m es ((w1.alloc (.cells #[.slice (some ⟨g, 0, none⟩) m m] 46)).alloc (.cells #[.int .u32 0] 38))) := Lib.hid (ord_box (by rw [← HWB.out]; exact HX1.out.box) HR.out)
  have q0 := (HX1.out.next (((Below.refl _ w1).alloc (Nat.le_refl _) (.cells #[.slice (some ⟨g, 0, none⟩) m m] 46)).alloc (by simp) (.cells #[.int .u32 0] 38))).c0
  generalize (w1.alloc (.cells #[.slice (some ⟨g, 0, none⟩) m m] 46)).alloc (.cells #[.int .u32 0] 38) = W2 at HBA q0 ⊢
  have hlt : w.heap.size < W2.heap.size := block_lt_of_cell q0
  have q1 : (mkI m W2.drew).cell? ⟨w.heap.size, 0, none⟩ = some (.int .i64 (m : Int)) := ((mkI_below m W2.drew).cell (p := ⟨w.heap.size, 0, none⟩) hlt).trans q0
  have hlt1 : w.heap.size < (mkI m W2.drew).heap.size := by rw [hsz]; exact Nat.lt_succ_of_lt hlt
  clear l0 l1
  rename_i K hK
  have TAIL : Hid (∀ (gN gO : Nat) (W : World), OrdMade W2 gN gO m W → K { tmps := #[.agg #[.int .i64 (m : Int), .slice A len cap], .pointer (some ⟨w.heap.size, 0, none⟩), .slice none 0 0, .int .i64 0, .pointer (some ⟨w1.heap.size, 0, none⟩), .int .i64 0, .pointer (some ⟨w1.heap.size + 1, 0, none⟩), .func (.func 23) #[] #[.pointer (some ⟨w1.heap.size + 1, 0, none⟩), .pointer (some ⟨w1.heap.size, 0, none⟩)], .slice (some ⟨gN, 0, none⟩) m m, .slice (some ⟨gO, 0, none⟩) 0 m, undef, .tuple #[.slice (some ⟨g, 0, none⟩) m m, .int .i64 0], .agg #[.int .i64 (m : Int), .slice A len cap], .tuple #[.slice (some ⟨g, 0, none⟩) m m, .int .i64 0], .slice (some ⟨g, 0, none⟩) m m, .int .i64 0, .int .i64 0, .bool false, undef, .func (.func 23) #[] #[.pointer (some ⟨w1.heap.size + 1, 0, none⟩), .pointer (some ⟨w1.heap.size, 0, none⟩)], .pointer (some ⟨w.heap.size, 0, none⟩), .int .i64 (m : Int), .slice (some ⟨gN, 0, none⟩) m m, .pointer (some ⟨w.heap.size, 0, none⟩), .int .i64 (m : Int), .slice (some ⟨gO, 0, none⟩) 0 m, undef, undef, undef, undef, undef, undef, undef, undef, undef, undef, undef, undef, undef, undef, undef, undef, undef, undef, undef], defers := [] } W) := by
    refine Lib.hid fun gN gO W HM => hK _ _ ?_
    have HMM := Lib.hid HM
    clear hK HM q0 q1 hlt hlt1 hmk hsz HUP
    obtain ⟨gG, hgG⟩ : ∃ gG, w1.heap.size + 1 = gG := ⟨_, rfl⟩
    obtain ⟨gA, hgA⟩ : ∃ gA, w1.heap.size = gA := ⟨_, rfl⟩
    have HO0 : Hid (OrdW wb gA g gN gG m es [] [] (.slice (some ⟨gO, 0, none⟩) 0 m) W) := Lib.hid (by
      have h := HBA.out
      have hM := HMM.out
      have hb := h.below
      have hs := h.sz
      have hs1 := h.g1
      have hs2 := hM.loN
      have hs3 := hM.loO
      subst hgA hgG
      refine ⟨hb.trans (hM.below.mono hb.size), h.rA.below hM.below (by omega), h.rW.below hM.below (by omega), hM.rN, ⟨0, h.rG.below hM.below (by omega), fun j => by simp⟩, own_low hM.own hb.size, fun k hk => ?_⟩
      simp only [Value.ownBlock, Option.some.injEq] at hk
      have := hM.ne
      omega)
    have HNE : Hid (gG ≠ gA ∧ gG ≠ g ∧ gG ≠ gN ∧ wb.heap.size ≤ gG) := Lib.hid (by
      have h := HBA.out
      have hM := HMM.out
      have hs := h.sz
      have hs1 := h.g1
      have hs2 := hM.loN
      have hs4 := h.lo
      omega)
    rw [hgG, hgA]
    clear hgG hgA HMM HBA
    go_wp2_with fail
    go_loopg [9, 10] m (fun c v y wr => ∃ (k cp : Nat) (Ao : Option Addr) (l : List Nat), v = .slice Ao k cp ∧ k + c = m ∧ Hid (l.length = k ∧ OrdW wb gA g gN gG m es l l v wr ∧ (∀ x ∈ l, x < m) ∧ elimF (adjE es) m (m - k) l = elimF (adjE es) m m []))
    case atStart => exact ⟨0, m, _, [], rfl, by omega, Lib.hid ⟨rfl, HO0.out, fun x h => (by simp at h), rfl⟩⟩
    case round =>
      clear HO0
      obtain ⟨k, cp, Ao, l, rfl, hkc, HC⟩ := hrel
      have HLN : Hid (l.length = k) := Lib.hid HC.out.1
      have HW : Hid (OrdW wb gA g gN gG m es l l (.slice Ao k cp) wr) := Lib.hid HC.out.2.1
      have HLT : Hid (∀ x ∈ l, x < m) := Lib.hid HC.out.2.2.1
      have HEL : Hid (elimF (adjE es) m (m - k) l = elimF (adjE es) m m []) := Lib.hid HC.out.2.2.2
      clear HC
      have cM : wr.cell? ⟨w.heap.size, 0, none⟩ = some (.int .i64 (m : Int)) := (HB0.out wr HW.out.below).1
      by_cases hkm : k = m
      · subst hkm
        have HIN : Hid (IntsAt wr wr.heap.size Ao k (natG l)) := Lib.hid (IntsAt.of_own (by have h := HW.out.own; rw [HLN.out] at h; exact h) (Nat.le_refl _))
        have HCP : Hid (k ≤ cp) := Lib.hid (by have h := HW.out.own; rw [HLN.out] at h; exact own_cap h)
        have HSM : Hid (elimF (adjE es) k k [] = some l) := Lib.hid (by rw [← HEL.out, Nat.sub_self]; rfl)
        go_wp2_with fail
        go_ret2
        exact ⟨fun h => (by rw [HSM.out] at h; cases h), fun l' h => (by rw [HSM.out] at h; injection h with h; subst h; exact ⟨_, _, rfl, HIN.out, HCP.out⟩), (HB0.out wr HW.out.below).2⟩
      · have hks : m - k = (m - (k + 1)) + 1 := by omega
        have ik1 : (k : Int) < (m : Int) := by omega
        obtain ⟨G, hG1, hG2⟩ := HW.out.gone
        have HG := Lib.hid hG2
        have hGl : G < 1024 := pow10 hm10 (gone_lt hG2 HLT.out)
        have cG := hG1.cell (i := 0) rfl
        have cA := HW.out.rA.cell (i := 0) rfl
        have HIX := Lib.hid (idxCan_any m G gG gA g gN m m (nbL m es) (simpB (adjE es) m l) wr hm10 hGl (fun i => pow10 hm10 (nbL_words HGE.out i)) cG cA (by
          have h := WordsAt.of_row (B := wr.heap.size) HW.out.rW HW.out.rW.lt
          rw [nbL_length] at h
          exact h) HW.out.rN (fun i hi => can_iff (adjE_symm es) (fun i => (by
            cases h : adjE es i i with
            | false => rfl
            | true => exact absurd rfl (adjE_lt HGE.out h).2.2)) (fun i j h => (adjE_lt HGE.out h).2.1) (fun i j hi => nb_bit HGE.out hi j) (fun i => pow10 hm10 (nbL_words HGE.out i)) hG2 hGl hi))
        clear hG1 hG2 cA cG
        have HKC := Lib.hid hkc
        have HKM : Hid (k + 1 + (m - (k + 1)) = m) := Lib.hid (by omega)
        cases hnx : nextF (simpB (adjE es) m l) m 0 with
        | none =>
          have HNO : Hid (elimF (adjE es) m m [] = none) := Lib.hid (by rw [← HEL.out, hks]; exact elim_stuck hnx)
          have HNX := Lib.hid hnx
          clear hnx hks hkc hkm
          go_wp2_with fail
          refine HIX.out.mono ?_
          rintro e w3 ⟨_, h2, q, hq⟩
          obtain rfl := h2 HNX.out
          have HB3 : Hid (Below w.heap.size w w3) := Lib.hid (by rw [hq]; exact below_drewN (HB0.out wr HW.out.below).2 q)
          clear h2 hq
          go_wp2_with fail
          go_ret2
          exact ⟨fun _ => rfl, fun l' h => (by rw [HNO.out] at h; cases h), HB3.out⟩
        | some i =>
          obtain ⟨_, him, _⟩ := nextF_some hnx
          have HEL2 : Hid (elimF (adjE es) m (m - (k + 1)) (l ++ [i]) = elimF (adjE es) m m []) := Lib.hid (by rw [← HEL.out, hks]; exact (elim_step hnx).symm)
          have HNX := Lib.hid hnx
          have ii0 : (0 : Int) ≤ (i : Int) := by omega
          have ii1 : ¬ (i : Int) < 0 := by omega
          have hi32 : (i : Int) ≤ 32 := by omega
          clear hnx hks hkc hkm
          obtain ⟨i0, hi, hz0, hz1, hz2⟩ := HIN.out
          have HI := Lib.hid hi
          have HI0 := Lib.hid hz0
          have HI1 := Lib.hid hz1
          have HI2 := Lib.hid hz2
          clear hi hz0 hz1 hz2
          go_wp2_with fail
          refine HIX.out.mono ?_
          rintro e w3 ⟨h1, _, q, hq⟩
          obtain rfl := h1 i HNX.out
          have HW3 : Hid (OrdW wb gA g gN gG m es l l (.slice Ao k cp) w3) := Lib.hid (by rw [hq]; exact HW.out.drewN q)
          have HO3 : Hid (w3.ownsRow wb.heap.size 3 1 (.slice Ao k cp) k ((natG l).map (Value.int .i64))) := Lib.hid (by have h := HW3.out.own; rw [HLN.out] at h; exact h)
          clear h1 hq HIX HW
          go_wp2_with (at_builtin; refine wpList_append_own_at _ rfl _ _ 25 rfl wb.heap.size 3 i0 (.int .i64 0) 1 8 Try.underlying25 HI.out HI0.out HI1.out HI2.out rfl (by decide) _ _ _ rfl (HO3.out.alloc _) ⟨w3.heap.size, 0, none⟩ 1 1 [.int .i64 (i : Int)] rfl rfl ?c1 ?c2 ?c3 ?c4 ?c5 ?_)
          try (case c1 => exact cell_one_new _ _ _)
          case c2 => simp [Value.oneCell']
          case c3 => unfold maxLen; omega
          case c4 => omega
          case c5 => have := HW3.out.below.size; simp; omega
          intro v' w4 hown' hgrow _ hat
          obtain ⟨A3, c3, rfl⟩ := own_form hown'
          have HW4 : Hid (OrdW wb gA g gN gG m es l (l ++ [i]) (.slice A3 (k + 1) c3) w4) := Lib.hid (HW3.out.grow _ hgrow (by rw [HLN.out]; exact hown') (by rw [World.size_alloc]; exact hat))
          clear hown' hgrow hat
          obtain ⟨G', hG1, hG2⟩ := HW4.out.gone
          obtain rfl : G' = G := by
            apply Nat.eq_of_testBit_eq
            intro j
            rw [hG2, HG.out]
          have cG := hG1.cell (i := 0) rfl
          have fG := hG1.frozen 0
          have hp : 2 ^ i < 1024 := pow10 hm10 (Nat.pow_lt_pow_right (by decide) him)
          have hsm : (2 : Int) ^ i % 4294967296 = ((2 ^ i : Nat) : Int) := pow_mod i (by omega)
          have htm : IntKind.u32.wrap ((2 : Int) ^ i) = ((2 ^ i : Nat) : Int) := by rw [wrap_u32n]; exact hsm
          have hor := or_u32 G' (2 ^ i) (by omega) (by omega)
          have HNX2 : Hid (OrdW wb gA g gN gG m es (l ++ [i]) (l ++ [i]) (.slice A3 (k + 1) c3) (w4.setCell ⟨gG, 0, none⟩ (.int .u32 ((G' ||| 2 ^ i : Nat) : Int))).drew) := Lib.hid ((HW4.out.put HNE.out.1 HNE.out.2.1 HNE.out.2.2.1 HNE.out.2.2.2 (gone_more hG2)).drewN 1)
          have HLT2 : Hid (∀ x ∈ l ++ [i], x < m) := Lib.hid (by
            intro x hx
            rcases List.mem_append.1 hx with h | h
            · exact HLT.out x h
            · rw [List.mem_singleton.1 h]; exact him)
          have HLN2 : Hid ((l ++ [i]).length = k + 1) := Lib.hid (by rw [List.length_append, List.length_singleton, HLN.out])
          clear hG1 hG2
          generalize G' ||| 2 ^ i = so at *
          generalize 2 ^ i = pi at *
          go_wp2_with fail
          go_region
          go_wp2_with fail
          go_roundg (m - (k + 1))
          case rel => exact ⟨k + 1, c3, A3, l ++ [i], rfl, HKM.out, Lib.hid ⟨HLN2.out, HNX2.out, HLT2.out, HEL2.out⟩⟩
          case measure => have := HKC.out; omega
  clear hK
  go_region_with (first
    | (go_at_call 25; refine (HUP.out _).mono ?_; rintro e w5 ⟨rfl, hup, hus, hub⟩; have q5 : w5.cell? ⟨w.heap.size, 0, none⟩ = some (.int .i64 (m : Int)) := by first | exact (hub.cell (p := ⟨w.heap.size, 0, none⟩) hlt).trans q0 | exact (hub.cell (p := ⟨w.heap.size, 0, none⟩) hlt1).trans q1))
  all_goals first
    | exact TAIL.out _ _ _ (ord_made1 hm10 hup hus hub)
    | exact TAIL.out _ _ _ (ord_made2 hm10 hup hub)
set_option maxRecDepth 100000 in
set_option maxHeartbeats 1000000 in
theorem orderTop_any (n : Int) (A : Option Addr) (len cap : Nat) (es : List E3) (w : World) (hE : EdgesAt w w.heap.size A len es) :
    Calls Try.prog 7 #[.agg #[.int .i64 n, .slice A len cap]] w (ChordTop w n es) := by
  obtain ⟨x, hx⟩ : ∃ x, gcheck n es = x := ⟨_, rfl⟩
  by_cases h0 : x = 0
  · subst h0
    obtain ⟨hn0, hn1, hl, hg⟩ := good_of_gcheck hx
    obtain ⟨m, rfl⟩ := Int.eq_ofNat_of_zero_le hn0
    refine (orderTop_good m A len cap es w hE hx).mono ?_
    rintro e w' ⟨h1, h2, h3⟩
    exact ⟨fun h => absurd hx h, fun _ h => h1 h, fun _ l h => h2 l h, h3⟩
  · have HX := Lib.hid (BoxG.start (n := n) (cap := cap) hE)
    have k0 := HX.out.c0
    have k1 := HX.out.c1
    have hx1 : (x != 0) = true := by simpa using h0
    have HNB := Lib.hid (fun W hW => neighbours_bad n A len cap es x W hW hx h0)
    have HXX := Lib.hid (show gcheck n es ≠ 0 by rw [hx]; exact h0)
    have HXE := Lib.hid hx
    clear hE hx h0
    go_enter Try.func7, Try.ntmps7
    go_wp2_with fail
    refine (HNB.out _ HX.out.edges).mono ?_
    rintro e w1 ⟨rfl, hB⟩
    have HX1 := Lib.hid (HX.out.next hB)
    have HX2 := Lib.hid (HX1.out.next ((Below.refl _ w1).alloc (Nat.le_refl _) (.cells #[.slice none 0 0] 46)))
    clear hB k0 k1 HNB
    go_wp2_with fail
    go_ret2
    exact ⟨fun _ => (by rw [HXE.out]; rfl), fun h => absurd h HXX.out, fun h => absurd h HXX.out, HX2.out.below⟩
end Go.Proofs.Yticickicfigpbaa
