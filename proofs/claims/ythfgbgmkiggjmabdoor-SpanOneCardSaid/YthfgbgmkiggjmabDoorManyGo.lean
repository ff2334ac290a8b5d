/- span.Many: what it tells of every graph. -/
import Derived.Test.YthfgbgmkiggjmabDoorManyP
import Derived.Test.YthfgbgmkiggjmabDoorDeterm
import Derived.Test.YthfgbgmkiggjmabDoorEdgeTable
import Derived.Test.YthfgbgmkiggjmabDoorFirst
import Derived.Deep.RegionWith
namespace Go.Proofs.YthfgbgmkiggjmabDoor
open Go.RowKit

set_option maxRecDepth 100000 in
set_option maxHeartbeats 400000 in
theorem determinant_nil (A : Option Addr) (cap : Nat) (w : World) :
    Calls Tryd.prog 66 #[.slice A 0 cap] w fun e w' => e = .returned (.int .i64 1) ∧ w = w' := by
  go_enter Tryd.func66, Tryd.ntmps66
  go_wp2
  go_loop [3, 11] (fun b j => j = .int .i64 0 ∧ b = .int .i64 1) (fun _ _ => 0)
  case atStart => exact ⟨rfl, rfl⟩
  case round =>
    obtain ⟨rfl, rfl⟩ := hrel
    go_wp2
    go_ret
    exact ⟨rfl, rfl⟩

def partW (m : Nat) (es : List E3) : Nat := firstW ((List.range m).map (partN m es))
def notRoots (m : Nat) (es : List E3) : List Nat := keepL m (partW m es)
theorem notRoots_mem {m : Nat} {es : List E3} (hm : m ≤ 10) (hg : goodE m es) {i : Nat} : i ∈ notRoots m es ↔ i < m ∧ ¬ Root es i := by
  unfold notRoots keepL keepB partW
  rw [List.mem_filter, List.mem_range]
  refine and_congr_right fun hi => ?_
  simp only [Bool.not_eq_true', ← Bool.not_eq_true]
  rw [firstW_bit]
  refine not_congr ?_
  rw [List.mem_map]
  constructor
  · rintro ⟨j, hj, rfl⟩
    have hjm := List.mem_range.1 hj
    exact fun q hq hr => by
      have h1 := partN_least hm hg hjm ((partN_rch hm hg hjm).trans hr)
      omega
  · intro h
    exact ⟨i, List.mem_range.2 hi, (root_iff hm hg hi).1 h⟩
theorem notRoots_nodup (m : Nat) (es : List E3) : (notRoots m es).Nodup := List.nodup_range.filter _
theorem partW_lt {m : Nat} {es : List E3} (hm : m ≤ 10) (hg : goodE m es) : partW m es < 1024 := firstW_lt fun p hp => by
  obtain ⟨i, hi, rfl⟩ := List.mem_map.1 hp
  have := Rch.lt hg (List.mem_range.1 hi) (partN_rch hm hg (List.mem_range.1 hi))
  omega
theorem notRoots_len {m : Nat} {es : List E3} (hm : m ≤ 10) (hg : goodE m es) : (notRoots m es).length ≤ 9 := by
  rcases Nat.eq_zero_or_pos m with h0 | h0
  · subst h0
    show (List.filter (keepB (partW 0 es)) (List.range 0)).length ≤ 9
    simp
  · have h1 : 0 ∉ notRoots m es := fun h => ((notRoots_mem hm hg).1 h).2 (fun j hj => by omega)
    have := nodup_len m (0 :: notRoots m es) (List.nodup_cons.2 ⟨h1, notRoots_nodup m es⟩) (fun x hx => by
      rcases List.mem_cons.1 hx with rfl | hx
      · exact h0
      · exact ((notRoots_mem hm hg).1 hx).1)
    rw [List.length_cons] at this
    omega
/-- How many forests the program tells. -/
def manyN (m : Nat) (es : List E3) : Int := (bst (manyA es (notRoots m es)) (notRoots m es).length).2
theorem manyN_det {m : Nat} {es : List E3} (hm : m ≤ 10) (hg : goodE m es) : manyN m es = detL (pairsN es) id (notRoots m es) := by
  unfold manyN
  rw [bst_det (many_pos (InE.of_good hg) (notRoots_nodup m es) fun i hi => ((notRoots_mem hm hg).1 hi).2), manyA_det _ _ _ (Nat.le_refl _), List.take_of_length_le (Nat.le_refl _)]

set_option maxRecDepth 100000 in
theorem det_any {m : Nat} {es : List E3} (hm : m ≤ 10) (hg : goodE m es) {w : World} {base : Nat} {v : Value} {bs cs : Nat → Nat} (h : RowsL w base (notRoots m es).length (notRoots m es).length v bs cs (manyA es (notRoots m es))) :
    Calls Tryd.prog 66 #[v] w fun e w' => e = .returned (.int .i64 (manyN m es)) ∧ Below base w w' := by
  rcases Nat.eq_zero_or_pos (notRoots m es).length with h0 | h0
  · have ho := h.own
    rw [h0] at ho
    obtain ⟨A, cap, rfl⟩ := own_form ho
    refine (determinant_nil A cap w).mono fun e w' ⟨h1, h2⟩ => ⟨?_, by rw [← h2]; exact Below.refl _ _⟩
    rw [h1]
    unfold manyN
    rw [h0]
    rfl
  · obtain ⟨g, cap, rfl, hc, hcm, ht⟩ := h.tbl h0
    exact determinant_any base g _ cap bs cs (manyA es (notRoots m es)) w ht h0 (notRoots_len hm hg) hc (by unfold maxLen at hcm; omega) (many_lap (SomeE.of_good hg) hm (notRoots_nodup m es)) (many_pos (InE.of_good hg) (notRoots_nodup m es) fun i hi => ((notRoots_mem hm hg).1 hi).2)

set_option maxRecDepth 100000 in
set_option maxHeartbeats 400000 in
theorem many_bad (n : Int) (A : Option Addr) (len cap : Nat) (es : List E3) (v : Int) (w : World) (hE : EdgesAt w w.heap.size A len es) (hv : gcheck n es = v) (hv0 : v ≠ 0) :
    Calls Tryd.prog 40 #[.agg #[.int .i64 n, .slice A len cap]] w fun e w' => e = .returned (.tuple #[.int .i64 0, .int .i64 v]) ∧ Below w.heap.size w w' := by
  have HE := Lib.hid (show EdgesAt (bx w n A len cap) (bx w n A len cap).heap.size A len es from (hE.alloc (Nat.le_refl _) _).more (by simp [bx]))
  have HV := Lib.hid hv
  have HV0 := Lib.hid hv0
  have hb0 : (v != 0) = true := by simpa using hv0
  clear hE hv hv0
  go_enter Tryd.func40, Tryd.ntmps40
  go_wp2_with (go_at_call 15; refine (parts_bad n A len cap es v _ (by exact HE.out) HV.out HV0.out).mono ?_; rintro e w1 ⟨rfl, hb1⟩)
  go_ret2
  exact ⟨rfl, ((Below.refl _ _).alloc (Nat.le_refl _) _).trans (hb1.mono (by simp))⟩

set_option maxRecDepth 100000 in
set_option maxHeartbeats 4000000 in
theorem many_good (m : Nat) (A : Option Addr) (len cap : Nat) (es : List E3) (w : World) (hE : EdgesAt w w.heap.size A len es) (hv : gcheck m es = 0) (hT : Tab w) :
    Calls Tryd.prog 40 #[.agg #[.int .i64 m, .slice A len cap]] w fun e w' => e = .returned (.tuple #[.int .i64 (manyN m es), .int .i64 0]) ∧ Below w.heap.size w w' := by
  obtain ⟨_, hm10', hl45, hgood⟩ := good_of_gcheck hv
  have hm10 : m ≤ 10 := by omega
  have hlen : len ≤ 45 := by have := hE.1; omega
  have HE := Lib.hid (show EdgesAt (bx w m A len cap) (bx w m A len cap).heap.size A len es from (hE.alloc (Nat.le_refl _) _).more (by simp [bx]))
  have HV := Lib.hid hv
  have HG := Lib.hid hgood
  have HT := Lib.hid (hT.alloc (.cells #[.int .i64 m, .slice A len cap] 24))
  have HPS : Hid (∀ p ∈ (List.range m).map (partN m es), p < 10) := Lib.hid fun p hp => by
    obtain ⟨i, hi, rfl⟩ := List.mem_map.1 hp
    have := Rch.lt hgood (List.mem_range.1 hi) (partN_rch hm10 hgood (List.mem_range.1 hi))
    omega
  have HWL := Lib.hid (partW_lt hm10 hgood)
  clear hE hv hgood hl45 hT hm10'
  go_enter Tryd.func40, Tryd.ntmps40
  go_wp2_with (go_at_call 15; refine (parts_good m A len cap es _ (by exact HE.out) HV.out (by exact HT.out)).mono ?_; rintro e w1 ⟨gp, rfl, hrow, hgn, hb1⟩; have HB1 := Lib.hid hb1; have hc0 : w1.cell? ⟨w.heap.size, 0, none⟩ = some (.int .i64 (m : Int)) := (by rw [hb1.cell (p := ⟨w.heap.size, 0, none⟩) (by simp)]; simp [go_sem]); have hc1 : w1.cell? ⟨w.heap.size, 1, none⟩ = some (.slice A len cap) := (by rw [hb1.cell (p := ⟨w.heap.size, 1, none⟩) (by simp)]; simp [go_sem]); have hs1 : w.heap.size < w1.heap.size := (by have := hb1.size; simp at this; omega); have HIP : Hid (IntsAt w1 w1.heap.size (some ⟨gp, 0, none⟩) m (intsN ((List.range m).map (partN m es)))) := Lib.hid (by have h := hrow; rw [partsL_nat] at h; have h2 := IntsAt.of_row h h.lt; rw [intsN_length, List.length_map, List.length_range] at h2; exact h2); clear hrow hb1 hgn)
  have HE1 := Lib.hid (HE.out.go_ HB1.out)
  have HBw : Hid (Below w.heap.size w w1) := Lib.hid (((Below.refl _ _).alloc (Nat.le_refl _) _).trans (HB1.out.mono (by simp)))
  have HFO : Hid (∀ W, Below w1.heap.size w1 W → Calls Tryd.prog 68 #[.slice (some ⟨gp, 0, none⟩) m m] W fun e w' => e = .returned (.int .u32 (partW m es : Nat)) ∧ W = w') := Lib.hid fun W hb => firstOnes_any m m _ _ W (HIP.out.go_ hb) hm10 HPS.out
  go_region_with (first
    | (go_at_call 68; refine (HFO.out _ (by first | exact Below.refl _ _ | exact (Below.refl _ _).drew | exact HBT.out | exact HBT.out.drew)).mono ?_; rintro e w2 ⟨rfl, rfl⟩)
    | (go_at_call 69; refine (edgeTable_any m A len cap es _ (by exact HE1.out) HG.out hm10 hlen).mono ?_; rintro e w3 ⟨g, bs, cs, rfl, ht, hb3⟩; have HTT := Lib.hid ht; have HBT := Lib.hid hb3; clear ht hb3)
    | (go_at_call 67; refine (without_any m g _ (partW m es) m bs cs (lapM es) _ (by exact HTT.out) hm10 HWL.out).mono ?_; rintro e w4 ⟨⟨v, bs2, cs2, rfl, hrl⟩, hb4⟩; have HRL := Lib.hid hrl; have HB4 := Lib.hid hb4; clear hrl hb4)
    | (go_at_call 66; refine (det_any hm10 HG.out (by exact HRL.out)).mono ?_; rintro e w5 ⟨rfl, hb5⟩; have HB5 := Lib.hid hb5; clear hb5))
  all_goals
    have z1 := HBw.out.size
    have z2 := HBT.out.size
    have z3 := HB4.out.size
    go_wp2
    go_ret2
    refine ⟨rfl, ?_⟩
    first
      | exact ((HBw.out.trans (HBT.out.mono (by simpa using z1))).trans (HB4.out.mono (by simp at z2 ⊢; omega))).trans (HB5.out.mono (by simp at z2 z3 ⊢; omega))
      | exact ((HBw.out.drew.trans (HBT.out.mono (by simpa using z1))).trans (HB4.out.mono (by simp at z2 ⊢; omega))).trans (HB5.out.mono (by simp at z2 z3 ⊢; omega))

section
theorem edgeErr_sub {n : Int} {pre pre' : List E3} {e : E3} (h : edgeErr n pre e = 0) (hs : ∀ x ∈ pre', x ∈ pre) : edgeErr n pre' e = 0 := by
  obtain ⟨_, hm⟩ := edgeErr_zero h
  have hm' : metB pre' e = false := by
    unfold metB at *
    rw [List.any_eq_false] at *
    exact fun x hx => hm x (hs x hx)
  unfold edgeErr at *
  rw [hm] at h
  rw [hm']
  exact h
theorem eraseIdx_get (es : List E3) (k q : Nat) : (es.eraseIdx k)[q]? = if q < k then es[q]? else es[q + 1]? := by
  rw [List.getElem?_eraseIdx]
theorem good_less {n : Int} {es : List E3} (hg : goodE n es) (k : Nat) : goodE n (es.eraseIdx k) := fun q e he => by
  have hsub : ∀ t, (∀ p, p < q → (if p < k then p else p + 1) < t) → ∀ x ∈ (es.eraseIdx k).take q, x ∈ es.take t := fun t ht x hx => by
    obtain ⟨p, hp⟩ := List.getElem?_of_mem hx
    have hpq : p < q := by have := (List.getElem?_eq_some_iff.1 hp).1; rw [List.length_take] at this; omega
    rw [List.getElem?_take, if_pos hpq, eraseIdx_get] at hp
    have h2 := ht p hpq
    by_cases hpk : p < k
    · rw [if_pos hpk] at hp h2
      exact List.mem_of_getElem? (i := p) (by rw [List.getElem?_take, if_pos h2]; exact hp)
    · rw [if_neg hpk] at hp h2
      exact List.mem_of_getElem? (i := p + 1) (by rw [List.getElem?_take, if_pos h2]; exact hp)
  rw [eraseIdx_get] at he
  by_cases hqk : q < k
  · rw [if_pos hqk] at he
    exact edgeErr_sub (hg q e he) (hsub q fun p hp => by split <;> omega)
  · rw [if_neg hqk] at he
    exact edgeErr_sub (hg (q + 1) e he) (hsub (q + 1) fun p hp => by split <;> omega)
theorem gcheck_less {m : Nat} {es : List E3} (hv : gcheck m es = 0) (k : Nat) : gcheck m (es.eraseIdx k) = 0 := by
  obtain ⟨h0, h1, h2, hg⟩ := good_of_gcheck hv
  have hl : (es.eraseIdx k).length ≤ 45 := by have := List.length_eraseIdx_le es k; omega
  unfold gcheck
  have hL : largeB m (es.eraseIdx k).length = false := by unfold largeB; simp; omega
  rw [hL]
  have := scan_zero (good_less hg k) (es.eraseIdx k).length 0 (by omega)
  simpa using this
theorem notRoots_count {m : Nat} {es : List E3} (hm : m ≤ 10) (hg : goodE m es) : (notRoots m es).length + rootsN m es = m := by
  have h1 : notRoots m es = (List.range m).filter fun i => !@decide (Root es i) (Classical.propDecidable _) := by
    unfold notRoots keepL
    apply List.filter_congr
    intro i hi
    have := notRoots_mem hm hg (i := i)
    unfold notRoots keepL at this
    rw [List.mem_filter] at this
    rw [Bool.eq_iff_iff]
    simp only [Bool.not_eq_true', decide_eq_false_iff_not]
    exact ⟨fun h => (this.1 ⟨hi, h⟩).2, fun h => (this.2 ⟨List.mem_range.1 hi, h⟩).2⟩
  rw [h1, filter_len]
  have h2 := countP_not (fun i => @decide (Root es i) (Classical.propDecidable _)) (List.range m)
  rw [List.length_range] at h2
  unfold rootsN
  omega
theorem many_full {m : Nat} {es : List E3} : Full id (notRoots m es) := ⟨notRoots_nodup m es, fun r _ => ⟨r, rfl⟩⟩
theorem many_tied {m : Nat} {es : List E3} (hm : m ≤ 10) (hg : goodE m es) : Tied (pairsN es) id (notRoots m es) := tied_roots (InE.of_good hg) fun _ hi => ((notRoots_mem hm hg).1 hi).2
theorem manyN_pos {m : Nat} {es : List E3} (hm : m ≤ 10) (hg : goodE m es) : 1 ≤ manyN m es := by
  rw [manyN_det hm hg]
  exact detL_pos _ _ _ many_full (many_tied hm hg)
theorem manyN_le {m : Nat} {es : List E3} (hm : m ≤ 10) (hg : goodE m es) : manyN m es ≤ 2 ^ es.length := by
  rw [manyN_det hm hg]
  have := detL_le (pairsN es) id (notRoots m es) (notRoots_nodup m es)
  rwa [show (pairsN es).length = es.length by simp [pairsN]] at this
/-- With an edge less, and no part more: fewer. -/
theorem manyN_less {m : Nat} {es : List E3} (hm : m ≤ 10) (hg : goodE m es) {k : Nat} (hk : k < es.length) : rootsN m es < rootsN m (es.eraseIdx k) ∨ manyN m (es.eraseIdx k) < manyN m es := by
  have hgl := good_less hg k
  have hmono : rootsN m es ≤ rootsN m (es.eraseIdx k) := rootsN_mono m fun i j hr => hr.sub fun e he => (List.eraseIdx_sublist es k).subset he
  rcases Nat.lt_or_ge (rootsN m es) (rootsN m (es.eraseIdx k)) with h | h
  · exact .inl h
  · right
    have hroot : ∀ i, i < m → (Root (es.eraseIdx k) i ↔ Root es i) := fun i hi => by
      have anti : Root es i → Root (es.eraseIdx k) i := Root.anti fun a b hr => hr.sub fun e he => (List.eraseIdx_sublist es k).subset he
      refine ⟨fun h1 => ?_, anti⟩
      apply Classical.byContradiction
      intro h2
      have : rootsN m es < rootsN m (es.eraseIdx k) := by
        unfold rootsN
        refine countP_lt (x := i) (List.mem_range.2 hi) (fun j _ hj => ?_) (by simpa using h2) (by simpa using h1)
        simp only [decide_eq_true_eq] at hj ⊢
        exact Root.anti (fun a b hr => hr.sub fun e he => (List.eraseIdx_sublist es k).subset he) hj
      omega
    have hsame : notRoots m (es.eraseIdx k) = notRoots m es := by
      unfold notRoots keepL
      apply List.filter_congr
      intro i hi
      have him := List.mem_range.1 hi
      have t1 := notRoots_mem hm hgl (i := i)
      have t2 := notRoots_mem hm hg (i := i)
      unfold notRoots keepL at t1 t2
      rw [List.mem_filter] at t1 t2
      rw [Bool.eq_iff_iff]
      constructor
      · intro h1
        exact (t2.2 ⟨him, fun h2 => (t1.1 ⟨hi, h1⟩).2 ((hroot i him).2 h2)⟩).2
      · intro h1
        exact (t1.2 ⟨him, fun h2 => (t2.1 ⟨hi, h1⟩).2 ((hroot i him).1 h2)⟩).2
    rw [manyN_det hm hgl, manyN_det hm hg, hsame]
    have hperm : (pairsN es).Perm ((es[k].1.toNat, es[k].2.1.toNat) :: pairsN (es.eraseIdx k)) := ((eraseIdx_perm es k hk).map _).symm
    have e1 : detL (pairsN es) id (notRoots m es) = detL ((es[k].1.toNat, es[k].2.1.toNat) :: pairsN (es.eraseIdx k)) id (notRoots m es) := detE_edges hperm _
    rw [e1]
    obtain ⟨a, b, c, he, ha, hb⟩ := InE.nats (InE.of_good hg es[k] (List.getElem_mem hk))
    have hab : a ≠ b := fun e => by
      obtain ⟨_, _, _, _, hne, _⟩ := edge_ok (hg k _ (List.getElem?_eq_getElem hk))
      rw [he, e] at hne
      exact hne rfl
    rw [he]
    refine detL_more many_full ((many_tied hm hg).perm (by rw [he] at hperm; exact hperm)) hab ?_
    have hr : Rch es a b := Rch.edge (List.getElem_mem hk) (by rw [he]) (by rw [he])
    simp only [id, Int.toNat_natCast]
    rcases Nat.lt_or_ge a b with hlt | hge
    · right
      exact (notRoots_mem hm hg).2 ⟨hb, fun hroot => hroot a hlt hr.symm⟩
    · left
      exact (notRoots_mem hm hg).2 ⟨ha, fun hroot => hroot b (by omega) hr⟩
/-- Just one, just if there is no edge too many. -/
theorem manyN_one {m : Nat} {es : List E3} (hm : m ≤ 10) (hg : goodE m es) : manyN m es = 1 ↔ es.length + rootsN m es = m := by
  have hc := notRoots_count hm hg
  have hge := rootsN_all (m := m) (InE.of_good hg)
  have hpos := manyN_pos hm hg
  constructor
  · intro h1
    apply Classical.byContradiction
    intro hne
    have hkf := kept_forest (InE.of_good hg)
    obtain ⟨k, hk, hkn⟩ : ∃ k, k < es.length ∧ k ∉ keptS es := by
      apply Classical.byContradiction
      intro hno
      have := all_len es.length (keptS es) (fun i hi => Classical.byContradiction fun h => hno ⟨i, hi, h⟩)
      omega
    rcases manyN_less hm hg hk with h2 | h2
    · have h3 : rootsN m (es.eraseIdx k) ≤ rootsN m es := rootsN_mono m fun i j hr => by
        refine ((kept_rch (InE.of_good hg) i j).2 hr).sub fun e he => ?_
        obtain ⟨q, hq, rfl⟩ := List.mem_map.1 he
        have hql := keptS_lt hq
        have hqk : q ≠ k := fun e => hkn (e ▸ hq)
        have hge2 : edgeAt es q = es[q] := by unfold edgeAt; rw [List.getD_eq_getElem?_getD, List.getElem?_eq_getElem hql]; rfl
        rw [hge2]
        rcases Nat.lt_or_ge q k with h5 | h5
        · exact List.mem_of_getElem? (i := q) (by rw [eraseIdx_get, if_pos h5, List.getElem?_eq_getElem hql])
        · refine List.mem_of_getElem? (i := q - 1) ?_
          rw [eraseIdx_get, if_neg (by omega), show q - 1 + 1 = q by omega, List.getElem?_eq_getElem hql]
      omega
    · have := manyN_pos hm (good_less hg k)
      omega
  · intro h
    have h1 := detL_one (pairsN es) id (notRoots m es) (notRoots_nodup m es) (by rw [show (pairsN es).length = es.length by simp [pairsN]]; omega)
    rw [← manyN_det hm hg] at h1
    omega
end
end Go.Proofs.YthfgbgmkiggjmabDoor
