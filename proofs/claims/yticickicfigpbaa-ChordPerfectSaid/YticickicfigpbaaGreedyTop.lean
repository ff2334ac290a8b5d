/- colour.Greedy: what it tells of any graph and any order. -/
import Derived.Test.YticickicfigpbaaFitGo
import Derived.Test.YticickicfigpbaaMakesU
import Derived.Test.YticickicfigpbaaOnceGo
import Derived.Test.YticickicfigpbaaGreedyC
import Derived.Test.YticickicfigpbaaLooseP
import Derived.Laws.EntriesVeiled
namespace Go.Proofs.Yticickicfigpbaa
open Go.RowKit

/-- Two rows that were made, in either order. -/
structure RowsMade (W2 : World) (gC gS m : Nat) (W3 : World) : Prop where
  col : RowOf W3 gC 3 (List.replicate m (.int .i64 0))
  set : RowOf W3 gS 38 (List.replicate m (.int .u32 0))
  ne : gC ≠ gS
  bC : W2.heap.size ≤ gC
  bS : W2.heap.size ≤ gS
  below : Below W2.heap.size W2 W3
theorem rows_made1 (W2 : World) (m : Nat) : RowsMade W2 (W2.heap.size + 1) W2.heap.size m (mkI m (mkU m W2.drew)) := by
  have h := mkI_row m (mkU m W2.drew)
  rw [mkU_size] at h
  have hb := mkI_below m (mkU m W2.drew)
  rw [mkU_size] at hb
  exact ⟨h, (mkU_row m W2.drew).below hb (by show W2.heap.size < W2.heap.size + 1; omega), by omega, by omega, Nat.le_refl _, ((Below.refl _ W2).drew.trans (mkU_below m W2.drew)).trans (hb.mono (by show W2.heap.size ≤ W2.heap.size + 1; omega))⟩
theorem rows_made2 (W2 : World) (m : Nat) : RowsMade W2 W2.heap.size (W2.heap.size + 1) m (mkU m (mkI m W2.drew)) := by
  have h := mkU_row m (mkI m W2.drew)
  rw [mkI_size] at h
  have hb := mkU_below m (mkI m W2.drew)
  rw [mkI_size] at hb
  exact ⟨(mkI_row m W2.drew).below hb (by show W2.heap.size < W2.heap.size + 1; omega), h, by omega, Nat.le_refl _, by omega, ((Below.refl _ W2).drew.trans (mkI_below m W2.drew)).trans (hb.mono (by show W2.heap.size ≤ W2.heap.size + 1; omega))⟩
/-- The sets of those that have a colour. -/
def SetsG (o : List Nat) (k : Nat) (col S : Nat → Nat) : Prop := ∀ c x, (S c).testBit x = decide (x ∈ o.take k ∧ col x = c)
theorem SetsG.start (o : List Nat) (col : Nat → Nat) : SetsG o 0 col (fun _ => 0) := fun c x => by simp
theorem SetsG.next {o : List Nat} {k i : Nat} {col S : Nat → Nat} (h : SetsG o k col S) (hn : o.Nodup) (hi : o[k]? = some i) (c : Nat) : SetsG o (k + 1) (updN col i c) (fun j => if j = c then S c ||| 2 ^ i else S j) := fun j x => by
  have hni := get_ahead hn hi (Nat.le_refl k)
  obtain ⟨h1, h2⟩ := List.getElem?_eq_some_iff.1 hi
  have hm : x ∈ o.take (k + 1) ↔ x ∈ o.take k ∨ x = i := by rw [List.take_succ_eq_append_getElem h1, h2, List.mem_append, List.mem_singleton]
  dsimp only
  unfold updN
  by_cases hx : x = i
  · subst hx
    rw [if_pos rfl]
    by_cases hj : j = c
    · subst hj
      rw [if_pos rfl, Nat.testBit_or, Nat.testBit_two_pow]
      simp [hm]
    · rw [if_neg hj, h]
      have : ¬ c = j := fun e => hj e.symm
      simp [hni, this]
  · rw [if_neg hx]
    by_cases hj : j = c
    · subst hj
      rw [if_pos rfl, Nat.testBit_or, Nat.testBit_two_pow, h]
      have : ¬ i = x := fun e => hx e.symm
      simp [hm, hx, this]
    · rw [if_neg hj, h]
      simp [hm, hx]
theorem SetsG.used {o : List Nat} {k i c nbx : Nat} {col S : Nat → Nat} {adj : Nat → Nat → Bool} (h : SetsG o k col S) (hnb : ∀ j, nbx.testBit j = adj i j) : S c &&& nbx = 0 ↔ usedB adj (o.take k) col i c = false := by
  rw [Bool.eq_false_iff, Ne]
  unfold usedB
  rw [List.any_eq_true]
  constructor
  · rintro h1 ⟨j, hj, e⟩
    rw [Bool.and_eq_true, beq_iff_eq] at e
    have h2 : (S c &&& nbx).testBit j = false := by rw [h1]; simp
    rw [Nat.testBit_and, h, hnb, e.1, decide_eq_true (show j ∈ o.take k ∧ col j = c from ⟨hj, e.2⟩)] at h2
    cases h2
  · intro h1
    apply Nat.eq_of_testBit_eq
    intro j
    rw [Nat.testBit_and, h, hnb, Nat.zero_testBit]
    by_cases h2 : j ∈ o.take k ∧ col j = c
    · cases ha : adj i j with
      | false => rw [Bool.and_false]
      | true => exact absurd ⟨j, h2.1, by simp [ha, h2.2]⟩ h1
    · rw [decide_eq_false h2]; rfl
theorem SetsG.lt {o : List Nat} {k m : Nat} {col S : Nat → Nat} (h : SetsG o k col S) (hm : ∀ x ∈ o, x < m) (c : Nat) : S c < 2 ^ m := by
  apply Nat.lt_pow_two_of_testBit
  intro x hx
  rw [h]
  refine decide_eq_false fun hh => ?_
  have := hm x (List.mem_of_mem_take hh.1)
  omega
theorem mex_ex {adj : Nat → Nat → Bool} {l : List Nat} {col : Nat → Nat} {i : Nat} : ∃ c, c ≤ l.length ∧ usedB adj l col i c = false ∧ ∀ c', c' < c → usedB adj l col i c' = true := by
  have h1 : ∃ c, c ≤ l.length ∧ usedB adj l col i c = false := by
    apply Classical.byContradiction
    intro hc
    have := used_lt (adj := adj) (l := l) (col := col) (i := i) (c := l.length) fun c' hc' => by
      cases hq : usedB adj l col i c' with
      | true => rfl
      | false => exact absurd ⟨c', hc', hq⟩ hc
    omega
  obtain ⟨c, hc1, hc2⟩ := h1
  induction c using Nat.strongRecOn with
  | _ c ih =>
    by_cases hq : ∃ c', c' < c ∧ usedB adj l col i c' = false
    · obtain ⟨c', h2, h3⟩ := hq
      exact ih c' h2 (by omega) h3
    · refine ⟨c, hc1, hc2, fun c' h2 => ?_⟩
      cases hq2 : usedB adj l col i c' with
      | true => rfl
      | false => exact absurd ⟨c', h2, hq2⟩ hq
theorem colR_set {m i : Nat} (col : Nat → Nat) (c : Nat) : (colR m col).set i (c : Int) = colR m (updN col i c) := by
  apply List.ext_getElem
  · simp [colR]
  · intro j h1 h2
    rw [List.getElem_set]
    simp only [colR, List.getElem_map, List.getElem_range]
    unfold updN
    by_cases h : i = j
    · rw [if_pos h, if_pos h.symm]
    · rw [if_neg h, if_neg fun e => h e.symm]
theorem setR_set {m c : Nat} (S : Nat → Nat) (x : Nat) : ((List.range m).map S).set c x = (List.range m).map fun j => if j = c then x else S j := by
  apply List.ext_getElem
  · simp
  · intro j h1 h2
    rw [List.getElem_set]
    simp only [List.getElem_map, List.getElem_range]
    by_cases h : c = j
    · rw [if_pos h, if_pos h.symm]
    · rw [if_neg h, if_neg fun e => h e.symm]
theorem nat_each {m : Nat} {o : List Nat} (h : EachP m (natG o)) : o.Nodup ∧ ∀ x ∈ o, x < m := by
  obtain ⟨_, h2, h3⟩ := h
  constructor
  · unfold natG at h2
    exact (List.pairwise_map.1 h2).imp fun hab e => hab (by rw [e])
  · intro x hx
    have := h3 (x : Int) (List.mem_map.2 ⟨x, hx, rfl⟩)
    omega
structure GrdW (W2 : World) (gC gS m : Nat) (col S : Nat → Nat) (wr : World) : Prop where
  below : Below W2.heap.size W2 wr
  rowC : RowOf wr gC 3 ((colR m col).map (Value.int .i64))
  rowS : RowOf wr gS 38 (((List.range m).map S).map u32V)
section
variable {W2 wr w3 : World} {gC gS m : Nat} {col S : Nat → Nat}
theorem GrdW.keep (H : GrdW W2 gC gS m col S wr) (hb : Below wr.heap.size wr w3) : GrdW W2 gC gS m col S w3 :=
  ⟨H.below.trans (hb.mono H.below.size), H.rowC.keep hb, H.rowS.keep hb⟩
theorem GrdW.setC (H : GrdW W2 gC gS m col S wr) (hC : W2.heap.size ≤ gC) (hne : gC ≠ gS) (i c : Nat) : GrdW W2 gC gS m (updN col i c) S (wr.setCell ⟨gC, i, none⟩ (.int .i64 (c : Int))) := by
  refine ⟨H.below.setCell (p := ⟨gC, i, none⟩) hC _, ?_, H.rowS.far (p := ⟨gC, i, none⟩) (Ne.symm hne) _⟩
  have h := H.rowC.set_ i (.int .i64 (c : Int))
  rw [← List.map_set, colR_set] at h
  exact h
theorem GrdW.setS (H : GrdW W2 gC gS m col S wr) (hS : W2.heap.size ≤ gS) (hne : gC ≠ gS) (c x : Nat) : GrdW W2 gC gS m col (fun j => if j = c then x else S j) (wr.setCell ⟨gS, c, none⟩ (.int .u32 (x : Int))) := by
  refine ⟨H.below.setCell (p := ⟨gS, c, none⟩) hS _, H.rowC.far (p := ⟨gS, c, none⟩) hne _, ?_⟩
  have h := H.rowS.set_ c (u32V x)
  rw [← List.map_set, setR_set] at h
  exact h
theorem GrdW.cellC (H : GrdW W2 gC gS m col S wr) {i : Nat} (hi : i < m) : wr.cell? ⟨gC, i, none⟩ = some (.int .i64 ((col i : Nat) : Int)) := H.rowC.cell (by simp [colR, hi])
theorem GrdW.cellS (H : GrdW W2 gC gS m col S wr) {c : Nat} (hc : c < m) : wr.cell? ⟨gS, c, none⟩ = some (.int .u32 ((S c : Nat) : Int)) := H.rowS.cell (by simp [hc, u32V])
end
set_option maxRecDepth 100000 in
set_option maxHeartbeats 4000000 in
theorem greedyTop_good (m : Nat) (A : Option Addr) (len cap : Nat) (es : List E3) (A2 : Option Addr) (c2 : Nat) (o : List Nat) (w : World) (hE : EdgesAt w w.heap.size A len es) (hI : IntsAt w w.heap.size A2 m (natG o)) (hx : gcheck m es = 0) (hP : EachP m (natG o)) :
    Calls Try.prog 19 #[.agg #[.int .i64 (m : Int), .slice A len cap], .slice A2 m c2] w fun e w' => ∃ col A' c', GreedL (adjE es) o m col ∧ e = .returned (.tuple #[.slice A' m c', .int .i64 0]) ∧ IntsAt w' w'.heap.size A' m (colR m col) ∧ m ≤ c' ∧ Below w.heap.size w w' := by
  have HX := Lib.hid (BoxG.start (n := (m : Int)) (cap := cap) hE)
  have k0 := HX.out.c0
  have k1 := HX.out.c1
  obtain ⟨hn0, hn1, hl, hg⟩ := good_of_gcheck hx
  have hm10 : m ≤ 10 := by omega
  have HNB := Lib.hid (fun W hW => neighbours_any m A len cap es W hW hx)
  have HII := Lib.hid hI
  have HPP := Lib.hid hP
  have HON : Hid (eachB m (natG o) = true) := Lib.hid (eachB_iff.2 ⟨hP.2.1, hP.2.2⟩)
  have hmk1 := fun W => mkI_run m (by omega) W
  have hmk2 := fun W => mkU_run m (by omega) W
  have hsz1 := fun W => mkI_size m W
  have hsz2 := fun W => mkU_size m W
  clear hE hx hn0 hn1 hl hI hP
  go_enter Try.func19, Try.ntmps19
  go_wp2_with fail
  refine (HNB.out _ HX.out.edges).mono ?_
  rintro e w1 ⟨g, rfl, hrow, hg0, hB⟩
  have HX1 := Lib.hid (HX.out.next hB)
  have HR := Lib.hid hrow
  have l0 := HX1.out.c0
  have l1 := HX1.out.c1
  clear hB k0 k1 HNB hrow
  have HX2 := Lib.hid (HX1.out.next ((Below.refl _ w1).alloc (Nat.le_refl _) (.cells #[.slice (some ⟨g, 0, none⟩) m m] 46)))
  have q0 := HX2.out.c0
  have hmm : ((m : Int) != (m : Int)) = false := by simp
  have HO := Lib.hid (fun W (hW : IntsAt W W.heap.size A2 m (natG o)) => eachOnce_v A2 m c2 m (natG o) true W hW (by omega) hm10 HON.out)
  go_wp2_with fail
  have HBA : Hid (RowOf (w1.alloc (.cells #[.slice (some ⟨g, 0, none⟩) m m] 46)) w1.heap.size 46 [.slice (some ⟨g, 0, none⟩) m m] ∧ RowOf (w1.alloc (.cells #[.slice (some ⟨g, 0, none⟩) m m] 46)) g 38 ((nbL m es).map u32V) ∧ g < w1.heap.size ∧ (w1.alloc (.cells #[.slice (some ⟨g, 0, none⟩) m m] 46)).heap.size = w1.heap.size + 1) := Lib.hid ⟨box_new w1 _ _, HR.out.alloc _, HR.out.lt, by simp⟩
  generalize w1.alloc (.cells #[.slice (some ⟨g, 0, none⟩) m m] 46) = W2 at *
  refine (HO.out _ ((HII.out.below HX2.out.below).more HX2.out.below.size)).mono ?_
  rintro e W2' ⟨rfl, rfl⟩
  have q1 : (mkI m W2.drew).cell? ⟨w.heap.size, 0, none⟩ = some (.int .i64 (m : Int)) := ((mkI_below m W2.drew).cell (p := ⟨w.heap.size, 0, none⟩) (block_lt_of_cell q0)).trans q0
  have q2 : (mkU m W2.drew).cell? ⟨w.heap.size, 0, none⟩ = some (.int .i64 (m : Int)) := ((mkU_below m W2.drew).cell (p := ⟨w.heap.size, 0, none⟩) (block_lt_of_cell q0)).trans q0
  clear l0 l1 HX1
  go_wp2_with fail
  go_region
  have HM := Lib.hid (rows_made2 W2 m)
  generalize mkU m (mkI m W2.drew) = W3 at HM ⊢
  generalize W2.heap.size + 1 = gS at HM ⊢
  generalize W2.heap.size = gC at HM ⊢
  rotate_left
  have HM := Lib.hid (rows_made1 W2 m)
  generalize mkI m (mkU m W2.drew) = W3 at HM ⊢
  generalize W2.heap.size + 1 = gC at HM ⊢
  generalize W2.heap.size = gS at HM ⊢
  all_goals
    have HG0 : Hid (GrdW W2 gC gS m (fun _ => 0) (fun _ => 0) W3) := Lib.hid ⟨HM.out.below, by
      have h := HM.out.col
      rw [show List.replicate m (Value.int .i64 0) = (colR m (fun _ => 0)).map (Value.int .i64) by simp [colR, List.map_const']] at h
      exact h, by
      have h := HM.out.set
      rw [show List.replicate m (Value.int .u32 0) = ((List.range m).map fun _ => 0).map u32V by simp [List.map_const', u32V]] at h
      exact h⟩
    have hne := HM.out.ne
    have hbC := HM.out.bC
    have hbS := HM.out.bS
    clear q0 q1 q2 hmk1 hmk2 hsz1 hsz2 HO HON hmm
    go_wp2_with fail
    go_loopw [40] (fun y wr => ∃ k : Nat, k ≤ m ∧ y = .int .i64 k ∧ Hid (∃ col S, GrdW W2 gC gS m col S wr ∧ SetsG o k col S ∧ GreedL (adjE es) o k col)) (fun y _ => m - (intOf y).toNat)
    case atStart => exact ⟨0, Nat.zero_le _, rfl, Lib.hid ⟨_, _, HG0.out, SetsG.start o _, GreedL.start⟩⟩
    case round =>
      clear HG0
      obtain ⟨k, hk, rfl, HC⟩ := hrel
      obtain ⟨col, S, HW, HSG, HGL⟩ : ∃ col S, Hid (GrdW W2 gC gS m col S wr) ∧ Hid (SetsG o k col S) ∧ Hid (GreedL (adjE es) o k col) := by
        obtain ⟨col, S, h1, h2, h3⟩ := HC.out
        exact ⟨col, S, Lib.hid h1, Lib.hid h2, Lib.hid h3⟩
      clear HC
      have HBW : Hid (Below w.heap.size w wr) := Lib.hid (HX2.out.below.trans (HW.out.below.mono HX2.out.below.size))
      by_cases hkm : k < m
      · obtain ⟨b2, o2, x, rfl, hb2, hx, hcx⟩ := (HII.out.go_ HBW.out).at_ hkm
        obtain ⟨i, hi, rfl⟩ := natG_get hx
        have HOI := Lib.hid hi
        have HND : Hid (o.Nodup ∧ ∀ x ∈ o, x < m) := Lib.hid (nat_each HPP.out)
        have him : i < m := HND.out.2 i (List.mem_of_getElem? hi)
        have ik0 : (0 : Int) ≤ (k : Int) := by omega
        have ik1 : (k : Int) < (m : Int) := by omega
        have ii0 : (0 : Int) ≤ (i : Int) := by omega
        have ii1 : (i : Int) < (m : Int) := by omega
        have hi32 : (i : Int) ≤ 32 := by omega
        obtain ⟨nbx, hnbx⟩ : ∃ nbx, (nbL m es).getD i 0 = nbx := ⟨_, rfl⟩
        have HNB : Hid (∀ j, nbx.testBit j = adjE es i j) := Lib.hid fun j => by rw [← hnbx]; exact nb_bit hg him j
        have hnl : nbx < 1024 := by rw [← hnbx]; exact pow10 hm10 (nbL_words hg i)
        obtain ⟨c, hcl, hc1, hc2⟩ := mex_ex (adj := adjE es) (l := o.take k) (col := col) (i := i)
        have hcm : c < m := by rw [List.length_take] at hcl; omega
        have ic0 : (0 : Int) ≤ (c : Int) := by omega
        have ic1 : (c : Int) < (m : Int) := by omega
        have hSl : S c < 1024 := pow10 hm10 (HSG.out.lt HND.out.2 c)
        have hB2 := HW.out.below.size
        have hg2 : w1.heap.size + 1 ≤ W2.heap.size := by have := HBA.out.2.2.2; omega
        have hgw : g < W2.heap.size := by have := HBA.out.2.2.1; omega
        have rA : RowOf wr w1.heap.size 46 [.slice (some ⟨g, 0, none⟩) m m] := HBA.out.1.below HW.out.below (by omega)
        have rN : RowOf wr g 38 ((nbL m es).map u32V) := HBA.out.2.1.below HW.out.below hgw
        have cN : wr.cell? ⟨g, i, none⟩ = some (.int .u32 (nbx : Int)) := rN.cell (by rw [← hnbx, List.getElem?_map, nbL_get es him, List.getD_eq_getElem?_getD, nbL_get es him]; rfl)
        obtain ⟨wa, hwa⟩ : ∃ wa, wr.alloc (.cells #[.int .i64 (i : Int)] 3) = wa := ⟨_, rfl⟩
        have hba : Below wr.heap.size wr wa := by rw [← hwa]; exact (Below.refl _ _).alloc (Nat.le_refl _) _
        have rI : RowOf wa wr.heap.size 3 [.int .i64 (i : Int)] := by rw [← hwa]; exact box_new _ _ _
        have HWa := Lib.hid (HW.out.keep hba)
        have cI := rI.cell (i := 0) rfl
        have dA := (rA.keep hba).cell (i := 0) rfl
        have dN : wa.cell? ⟨g, i, none⟩ = some (.int .u32 (nbx : Int)) := (hba.cell (p := ⟨g, i, none⟩) (by exact rN.lt)).trans cN
        have HIX := Lib.hid (idxFit_any m m gS w1.heap.size wr.heap.size g 0 m m i nbx c ((List.range m).map S) wa.drew hm10 (by simp) HWa.out.rowS (fun x hx => by
          obtain ⟨j, _, rfl⟩ := List.mem_map.1 hx
          exact pow10 hm10 (HSG.out.lt HND.out.2 j)) hnl him dA cI (by rw [Nat.zero_add]; exact dN) hcm (fun j hj h0 => by
          have hjm : j < m := by omega
          have e : ((List.range m).map S).getD j 0 = S j := by rw [List.getD_eq_getElem?_getD]; simp [hjm]
          rw [e] at h0
          have h7 := (HSG.out.used HNB.out).1 h0
          rw [hc2 j hj] at h7
          cases h7) (by
          have e : ((List.range m).map S).getD c 0 = S c := by rw [List.getD_eq_getElem?_getD]; simp [hcm]
          rw [e]
          exact (HSG.out.used HNB.out).2 hc1))
        have cC := HWa.out.cellC him
        have fC := HWa.out.rowC.frozen i
        have hgC := HWa.out.rowC.lt
        have HG1 : Hid (GreedL (adjE es) o (k + 1) (updN col i c)) := Lib.hid (HGL.out.step HND.out.1 hi hc2 hc1)
        have HS1 : Hid (SetsG o (k + 1) (updN col i c) (fun j => if j = c then S c ||| 2 ^ i else S j)) := Lib.hid (HSG.out.next HND.out.1 hi c)
        have HHB := Lib.hid hba
        clear hx hi hcl hc1 hc2 hnbx hba rA rN
        have hwa' := hwa
        clear hwa
        go_wp2_with fail
        clear hwa'
        go_region_with (first
          | (go_at_call 36; refine HIX.out.mono ?_; rintro e w5 ⟨rfl, rfl⟩))
        all_goals
          have hwri : wr.heap.size ≠ gC := by have := HW.out.rowC.lt; omega
          have HW6 : Hid (GrdW W2 gC gS m (updN col i c) S (wa.setCell ⟨gC, i, none⟩ (.int .i64 (c : Int))).drew ∧ (wa.setCell ⟨gC, i, none⟩ (.int .i64 (c : Int))).drew.cell? ⟨wr.heap.size, 0, none⟩ = some (.int .i64 (i : Int))) := Lib.hid (by
            have h := HWa.out.setC hbC hne i c
            exact ⟨⟨h.below.drew, h.rowC, h.rowS⟩, (World.cell?_of_block (Below.heap_setCell wa ⟨gC, i, none⟩ _ wr.heap.size hwri)).trans cI⟩)
          clear cI dA dN cC fC HWa HIX hgC
          generalize (wa.setCell ⟨gC, i, none⟩ (.int .i64 (c : Int))).drew = W6 at HW6 ⊢
          have cI := HW6.out.2
          have cC : W6.cell? ⟨gC, i, none⟩ = some (.int .i64 (c : Int)) := by
            have h := HW6.out.1.cellC him
            rw [show updN col i c i = c from if_pos rfl] at h
            exact h
          have cS := HW6.out.1.cellS hcm
          have fS := HW6.out.1.rowS.frozen c
          have hp : 2 ^ i < 1024 := pow10 hm10 (Nat.pow_lt_pow_right (by decide) him)
          have hsm : (2 : Int) ^ i % 4294967296 = ((2 ^ i : Nat) : Int) := pow_mod i (by omega)
          have htm : IntKind.u32.wrap ((2 : Int) ^ i) = ((2 ^ i : Nat) : Int) := by rw [wrap_u32n]; exact hsm
          have hor := or_u32 (S c) (2 ^ i) (by omega) (by omega)
          have HNX : Hid (GrdW W2 gC gS m (updN col i c) (fun j => if j = c then S c ||| 2 ^ i else S j) (W6.setCell ⟨gS, c, none⟩ (.int .u32 ((S c ||| 2 ^ i : Nat) : Int))).drew) := Lib.hid (by
            have h := HW6.out.1.setS hbS hne c (S c ||| 2 ^ i)
            exact ⟨h.below.drew, h.rowC, h.rowS⟩)
          obtain ⟨S', hS'⟩ : ∃ S' : Nat → Nat, S' = fun j => if j = c then S c ||| 2 ^ i else S j := ⟨_, rfl⟩
          rw [← hS'] at HNX HS1
          clear hS'
          obtain ⟨sc, hsc⟩ : ∃ sc, S c = sc := ⟨_, rfl⟩
          rw [hsc] at cS hSl hor HNX
          clear hsc
          generalize sc ||| 2 ^ i = so at *
          generalize 2 ^ i = pi at *
          go_wp2_with fail
          go_region
          go_wp2_with fail
          go_roundw
          case rel => exact ⟨k + 1, by omega, by go_num, Lib.hid ⟨_, _, HNX.out, HS1.out, HG1.out⟩⟩
          case measure => simp [intOf]; omega
      · obtain rfl : k = m := by omega
        have HIN : Hid (IntsAt wr wr.heap.size (some ⟨gC, 0, none⟩) k (colR k col)) := Lib.hid (by
          have h := IntsAt.of_row (B := wr.heap.size) HW.out.rowC HW.out.rowC.lt
          rw [show (colR k col).length = k by simp [colR]] at h
          exact h)
        go_wp2_with fail
        go_ret2
        exact ⟨col, _, k, HGL.out, rfl, HIN.out, Nat.le_refl _, HBW.out⟩
set_option maxRecDepth 100000 in
set_option maxHeartbeats 2000000 in
theorem greedyTop_any (n : Int) (A : Option Addr) (len cap : Nat) (es : List E3) (A2 : Option Addr) (len2 c2 : Nat) (xs : List Int) (w : World) (hE : EdgesAt w w.heap.size A len es) (hI : IntsAt w w.heap.size A2 len2 xs) :
    Calls Try.prog 19 #[.agg #[.int .i64 n, .slice A len cap], .slice A2 len2 c2] w (GreedyTop w n es xs) := by
  obtain ⟨x, hx⟩ : ∃ x, gcheck n es = x := ⟨_, rfl⟩
  by_cases h0 : x = 0
  · subst h0
    obtain ⟨hn0, hn1, hl, hg⟩ := good_of_gcheck hx
    obtain ⟨m, rfl⟩ := Int.eq_ofNat_of_zero_le hn0
    have hm10 : m ≤ 10 := by omega
    by_cases hP : EachP m xs
    · obtain ⟨o, ho⟩ : ∃ o, natG o = xs := ⟨xs.map Int.toNat, by
        unfold natG
        rw [List.map_map]
        refine (List.map_congr_left fun y hy => ?_).trans (List.map_id' xs)
        have := (hP.2.2 y hy).1
        show ((y.toNat : Nat) : Int) = y
        omega⟩
      subst ho
      have e : len2 = m := by rw [← hI.1]; exact hP.1
      subst e
      refine (greedyTop_good len2 A len cap es A2 c2 o w hE hI hx hP).mono ?_
      rintro e w' ⟨col, A', c', h1, h2, h3, h4, h5⟩
      exact ⟨fun h => absurd hx h, fun _ h => absurd hP h, fun _ o' ho' _ => by
        obtain rfl : o' = o := by
          unfold natG at ho'
          exact (List.map_inj_right (fun a b hab => by have : (a : Int) = (b : Int) := hab; omega)).1 ho'
        exact ⟨col, A', c', h1, h2, h3, h4⟩, h5⟩
    · have HX := Lib.hid (BoxG.start (n := (m : Int)) (cap := cap) hE)
      have k0 := HX.out.c0
      have k1 := HX.out.c1
      have HNB := Lib.hid (fun W hW => neighbours_any m A len cap es W hW hx)
      have HXX := Lib.hid (And.intro hx hP)
      have HII := Lib.hid hI
      by_cases hlen : len2 = m
      · subst hlen
        have hmm : ((len2 : Int) != (len2 : Int)) = false := by simp
        have hON : eachB len2 xs = false := by
          rw [Bool.eq_false_iff, Ne, eachB_iff]
          exact fun h => hP ⟨hI.1, h.1, h.2⟩
        have HO := Lib.hid (fun W (hW : IntsAt W W.heap.size A2 len2 xs) => eachOnce_v A2 len2 c2 len2 xs false W hW (by omega) hm10 hON)
        clear hE hx hn0 hn1 hl hI hP hON
        go_enter Try.func19, Try.ntmps19
        go_wp2_with fail
        refine (HNB.out _ HX.out.edges).mono ?_
        rintro e w1 ⟨g, rfl, hrow, hg0, hB⟩
        have HX1 := Lib.hid (HX.out.next hB)
        have HX2 := Lib.hid (HX1.out.next ((Below.refl _ w1).alloc (Nat.le_refl _) (.cells #[.slice (some ⟨g, 0, none⟩) len2 len2] 46)))
        have q0 := HX2.out.c0
        clear hB k0 k1 HNB hrow
        go_wp2_with fail
        refine (HO.out _ ((HII.out.below HX2.out.below).more HX2.out.below.size)).mono ?_
        rintro e W2' ⟨rfl, rfl⟩
        clear q0
        go_wp2_with fail
        go_ret2
        exact ⟨fun h => absurd HXX.out.1 h, fun _ _ => rfl, fun _ _ _ h => absurd h HXX.out.2, HX2.out.below⟩
      · have hmm : ((len2 : Int) != (m : Int)) = true := by simp; omega
        clear hE hx hn0 hn1 hl hI hP hlen
        go_enter Try.func19, Try.ntmps19
        go_wp2_with fail
        refine (HNB.out _ HX.out.edges).mono ?_
        rintro e w1 ⟨g, rfl, hrow, hg0, hB⟩
        have HX1 := Lib.hid (HX.out.next hB)
        have HX2 := Lib.hid (HX1.out.next ((Below.refl _ w1).alloc (Nat.le_refl _) (.cells #[.slice (some ⟨g, 0, none⟩) m m] 46)))
        have q0 := HX2.out.c0
        clear hB k0 k1 HNB hrow
        go_wp2_with fail
        go_ret2
        exact ⟨fun h => absurd HXX.out.1 h, fun _ _ => rfl, fun _ _ _ h => absurd h HXX.out.2, HX2.out.below⟩
  · have HX := Lib.hid (BoxG.start (n := n) (cap := cap) hE)
    have k0 := HX.out.c0
    have k1 := HX.out.c1
    have hx1 : (x != 0) = true := by simpa using h0
    have HNB := Lib.hid (fun W hW => neighbours_bad n A len cap es x W hW hx h0)
    have HXX := Lib.hid (show gcheck n es ≠ 0 by rw [hx]; exact h0)
    have HXE := Lib.hid hx
    clear hE hx h0 hI
    go_enter Try.func19, Try.ntmps19
    go_wp2_with fail
    refine (HNB.out _ HX.out.edges).mono ?_
    rintro e w1 ⟨rfl, hB⟩
    have HX1 := Lib.hid (HX.out.next hB)
    have HX2 := Lib.hid (HX1.out.next ((Below.refl _ w1).alloc (Nat.le_refl _) (.cells #[.slice none 0 0] 46)))
    clear hB k0 k1 HNB
    go_wp2_with fail
    go_ret2
    exact ⟨fun _ => by rw [HXE.out]; rfl, fun h => absurd h HXX.out, fun h => absurd h HXX.out, HX2.out.below⟩
end Go.Proofs.Yticickicfigpbaa
