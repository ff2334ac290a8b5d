/- span.Least: the places that are kept, in the order in which they are met. -/
import Derived.Test.YthfgbgmkiggjmaaLeastGo
namespace Go.Proofs.Ythfgbgmkiggjmaa
open Go.RowKit

def natV (x : Nat) : Value := .int .i64 (x : Int)
/-- As far as the order was gone through. -/
structure LeastInv (m gG gP n : Nat) (es : List E3) (f G : Nat → Int) (t base : Nat) (v : Value) (W wr : World) : Prop where
  grow : RowC wr gG m G
  gof : GroupsOf m G (eg es (firstT f t))
  prow : RowC wr gP n f
  own : wr.ownsRow base 3 1 v (keptT es f t).length ((keptT es f t).map natV)
  bel : Below gG W wr
  size : base ≤ wr.heap.size
set_option maxRecDepth 100000 in
theorem LeastInv.to {m gG gP n t base : Nat} {es : List E3} {f G : Nat → Int} {v : Value} {W wr w2 : World} (h : LeastInv m gG gP n es f G t base v W wr) (hb : Below wr.heap.size wr w2) (hg : gG < wr.heap.size) (ho : w2.ownsRow base 3 1 v (keptT es f t).length ((keptT es f t).map natV)) : LeastInv m gG gP n es f G t base v W w2 :=
  ⟨h.grow.of_block (hb.block _ h.grow.lt), h.gof, h.prow.of_block (hb.block _ h.prow.lt), ho, h.bel.trans (hb.mono (by omega)), Nat.le_trans h.size hb.size⟩
theorem own_keepB {w w' : World} {base : Nat} {t : TypeId} {v : Value} {n : Nat} {xs : List Value} (h : w.ownsRow base t 1 v n xs) (hb : ∀ g, base ≤ g → w'.heap[g]? = w.heap[g]?) : w'.ownsRow base t 1 v n xs := by
  refine ⟨h.1, ?_⟩
  rcases h.2 with h0 | ⟨g, cap, cur, hv, hg, hr, hrest⟩
  · exact .inl h0
  · exact .inr ⟨g, cap, cur, hv, hg, (hb g hg).trans hr, hrest⟩
theorem firstT_len (f : Nat → Int) (t : Nat) : (firstT f t).length = t := by simp [firstT]
theorem keptT_len {es : List E3} {f : Nat → Int} {t : Nat} : (keptT es f t).length ≤ t := by
  unfold keptT
  exact Nat.le_trans (List.length_filter_le _ _) (by rw [firstT_len]; exact Nat.le_refl _)

set_option maxRecDepth 100000 in
/-- What grew by append, as a row of whole numbers. -/
theorem own_row {w : World} {base : Nat} {v : Value} {L : List Nat} (h : w.ownsRow base 3 1 v L.length (L.map natV)) : (v = .slice none 0 0 ∧ L = []) ∨ ∃ g cap, v = .slice (some ⟨g, 0, none⟩) L.length cap ∧ base ≤ g ∧ L.length ≤ cap ∧ RowC w g L.length (fun j => ((L.getD j 0 : Nat) : Int)) := by
  rcases h.2 with ⟨hv, hl⟩ | ⟨g, cap, cur, hv, hb, hg, hlc, _, _, htake⟩
  · exact .inl ⟨hv, List.length_eq_zero_iff.1 hl⟩
  · refine .inr ⟨g, cap, hv, hb, hlc, cur, hg, fun j hj => ?_⟩
    have h1 : (cur.toList.take (L.length * 1))[j]? = some (natV (L.getD j 0)) := by
      rw [htake, List.getElem?_map, List.getElem?_eq_getElem hj, List.getD_eq_getElem?_getD, List.getElem?_eq_getElem hj]; rfl
    rw [List.getElem?_take, if_pos (by omega)] at h1
    simpa [natV] using h1
theorem getD_inj {L : List Nat} (hn : L.Nodup) {i j : Nat} (hij : i < j) (hj : j < L.length) : ((L.getD i 0 : Nat) : Int) ≠ ((L.getD j 0 : Nat) : Int) := fun h => by
  have hi : i < L.length := by omega
  rw [List.getD_eq_getElem?_getD, List.getD_eq_getElem?_getD, List.getElem?_eq_getElem hi, List.getElem?_eq_getElem hj] at h
  have h2 : L[i] = L[j] := by simp only [Option.getD_some] at h; omega
  exact List.pairwise_iff_getElem.1 hn i j hi hj hij h2
theorem ints_row {w : World} {g : Nat} {L S : List Nat} {c : Nat → Int} (h : RowC w g L.length c) (hs : (List.range L.length).map (fun i => (c i).toNat) = S) (hp : ∀ i, i < L.length → 0 ≤ c i) : IntsAt w w.heap.size (some ⟨g, 0, none⟩) L.length (S.map fun x : Nat => (x : Int)) := by
  subst hs
  refine ⟨by simp, fun _ => ⟨g, 0, rfl, h.lt, fun i x hx => ?_⟩⟩
  rw [List.getElem?_map, List.getElem?_map, Option.map_map, Option.map_eq_some_iff] at hx
  obtain ⟨j, hj, rfl⟩ := hx
  obtain ⟨h1, h2⟩ := List.getElem?_eq_some_iff.1 hj
  rw [List.getElem_range] at h2
  subst h2
  have hi : i < L.length := by simpa using h1
  show _ = some (Value.int .i64 (((c i).toNat : Nat) : Int))
  rw [Int.toNat_of_nonneg (hp i hi), Nat.zero_add]
  exact h.cell hi

set_option maxRecDepth 100000 in
set_option maxHeartbeats 400000 in
theorem least_bad (n : Int) (A : Option Addr) (len cap : Nat) (es : List E3) (v : Int) (w : World) (hE : EdgesAt w w.heap.size A len es) (hv : gcheck n es = v) (hv0 : v ≠ 0) :
    Calls Try.prog 21 #[.agg #[.int .i64 n, .slice A len cap]] w fun e w' => e = .returned (.tuple #[.slice none 0 0, .int .i64 v]) ∧ Below w.heap.size w w' := by
  have HX := Lib.hid (BoxG.start (n := n) (cap := cap) hE)
  have HV := Lib.hid hv
  have hb0 : (v != 0) = true := by simpa using hv0
  clear hE hv hv0
  go_enter Try.func21, Try.ntmps21
  go_wp2_with (go_at_call 15; refine ((check_any n A len cap es _ (by exact HX.out.edges)).mono (R' := fun e w' => e = .returned (.int .i64 v) ∧ Below _ _ w') (fun e w' h => ⟨by rw [h.1, HV.out], h.2⟩)).mono ?_; rintro e w1 ⟨rfl, hb1⟩; have HX1 := Lib.hid (HX.out.next hb1); clear hb1)
  go_ret2
  exact ⟨rfl, HX1.out.below⟩

set_option maxRecDepth 100000 in
set_option maxHeartbeats 4000000 in
theorem least_loopC (m : Nat) (A : Option Addr) (len cap : Nat) (es : List E3) (w : World) (hE : EdgesAt w w.heap.size A len es) (hv : gcheck m es = 0) :
    Calls Try.prog 21 #[.agg #[.int .i64 m, .slice A len cap]] w fun e w' => (∃ B cp, e = .returned (.tuple #[.slice B (keptS es).length cp, .int .i64 0]) ∧ IntsAt w' w'.heap.size B (keptS es).length ((keptS es).map fun x : Nat => (x : Int)) ∧ (keptS es).length ≤ cp) ∧ Below w.heap.size w w' := by
  obtain ⟨_, hm10', hl45, hgood⟩ := good_of_gcheck hv
  have hm10 : m ≤ 10 := by omega
  have hlen : len ≤ 45 := by have := hE.1; omega
  have HEw := Lib.hid hE
  have HLE : Hid (es.length = len) := Lib.hid hE.1
  have HX := Lib.hid (BoxG.start (n := m) (cap := cap) hE)
  have HV := Lib.hid hv
  have HG := Lib.hid hgood
  clear hE hv hl45 hgood
  obtain ⟨i0, hi, hz0, hz1, hz2⟩ := info_parts infoInt
  have HJ := Lib.hid hi
  have HJ0 := Lib.hid hz0
  have HJ1 := Lib.hid hz1
  have HJ2 := Lib.hid hz2
  clear hi hz0 hz1 hz2
  go_enter Try.func21, Try.ntmps21
  go_wp2_with (first
    | (go_at_call 15; refine ((check_any m A len cap es _ (by exact HX.out.edges)).mono (R' := fun e w' => e = .returned (.int .i64 0) ∧ Below _ _ w') (fun e w' h => ⟨by rw [h.1, HV.out], h.2⟩)).mono ?_; rintro e w1 ⟨rfl, hb1⟩; have HX1 := Lib.hid (HX.out.next hb1); clear hb1; have hc0 := HX1.out.c0; have hc1 := HX1.out.c1)
    | (go_at_call 40; refine (numbers_any m _ (by omega)).mono ?_; rintro e w2 ⟨rfl, hr2, hb2⟩; have HX2 := Lib.hid (HX1.out.next hb2); have HR2 := Lib.hid hr2; clear hb2 hr2; have hd0 := HX2.out.c0; have hd1 := HX2.out.c1)
    | (go_at_call 41; refine (lightestFirst_any len cap A es _ (by exact HX2.out.edges) hlen).mono ?_; rintro e w3 ⟨⟨gP, f, rfl, hgp, hr3, hj3⟩, hb3⟩; have HX3 := Lib.hid (HX2.out.next hb3); have HR3 := Lib.hid hr3; have HJ3 := Lib.hid hj3; have HRG := Lib.hid (HR2.out.of_block (hb3.block _ HR2.out.lt)); have hs3 := hb3.size; clear hb3 hr3 hj3))
  clear hc0 hc1 hd0 hd1
  have hwg : w.heap.size < w1.heap.size := HX1.out.lt
  have hg12 : w1.heap.size < w2.heap.size := HR2.out.lt
  go_loopw [5, 8, 22] (fun v _ j wr => ∃ (t : Nat) (G : Nat → Int), t ≤ len ∧ j = .int .i64 t ∧ Hid (LeastInv m w1.heap.size gP len es f G t w3.heap.size v w3 wr)) (fun _ _ j _ => len - (intOf j).toNat)
  case atStart => exact ⟨0, _, Nat.zero_le _, rfl, Lib.hid ⟨HRG.out, by exact GroupsOf.start m, HR3.out, World.ownsRow_nil .., Below.refl _ _, Nat.le_refl _⟩⟩
  case round =>
    obtain ⟨t, G, ht, rfl, HI⟩ := hrel
    have HBw : Hid (Below w.heap.size w wr) := Lib.hid (HX3.out.below.trans (HI.out.bel.mono (by omega)))
    have hbx : ∀ o, wr.cell? ⟨w.heap.size, o, none⟩ = w3.cell? ⟨w.heap.size, o, none⟩ := fun o => HI.out.bel.cell (p := ⟨w.heap.size, o, none⟩) hwg
    have e0 := (hbx 0).trans HX3.out.c0
    have e1 := (hbx 1).trans HX3.out.c1
    clear hbx
    by_cases hlt : t < len
    · have cP := HI.out.prow.cell hlt
      obtain ⟨fp0, fp1⟩ := HJ3.out.inn t hlt
      obtain ⟨p, hp⟩ := Int.eq_ofNat_of_zero_le fp0
      rw [hp] at cP
      have hpl : p < len := by omega
      obtain ⟨b, off, ⟨a0, a1, a2⟩, rfl, hb, hx, hc0, hc1, hc2⟩ := (HEw.out.below HBw.out).at_ hpl
      obtain ⟨p0, p1, p2, p3, p4, _⟩ := edge_ok (HG.out p _ hx)
      simp only at p0 p1 p2 p3 p4 hc0 hc1 hc2
      obtain ⟨x, rfl⟩ := Int.eq_ofNat_of_zero_le p0
      obtain ⟨y, rfl⟩ := Int.eq_ofNat_of_zero_le p2
      have hxm : x < m := by omega
      have hym : y < m := by omega
      have hsz := HI.out.size
      go_wp2
      have hgl := HI.out.grow.lt
      have HIW : Hid (LeastInv m w1.heap.size gP len es f G t w3.heap.size u5 w3 (wr.alloc (.cells #[.int .i64 (x : Int), .int .i64 (y : Int), .int .i64 a2] 43))) := Lib.hid (HI.out.to ((Below.refl _ _).alloc (Nat.le_refl _) _) hgl (HI.out.own.alloc _))
      have q0 : (wr.alloc (.cells #[.int .i64 (x : Int), .int .i64 (y : Int), .int .i64 a2] 43)).cell? ⟨wr.heap.size, 0, none⟩ = some (.int .i64 (x : Int)) := by simp [go_sem]
      have q1 : (wr.alloc (.cells #[.int .i64 (x : Int), .int .i64 (y : Int), .int .i64 a2] 43)).cell? ⟨wr.heap.size, 1, none⟩ = some (.int .i64 (y : Int)) := by simp [go_sem]
      have HED : Hid (edgeAt es (f t).toNat = ((x : Int), (y : Int), a2)) := Lib.hid (by unfold edgeAt; rw [hp, Int.toNat_natCast, List.getD_eq_getElem?_getD, hx]; rfl)
      have HP := Lib.hid hp
      clear hx hp hc0 hc1 hc2 cP HI e0 e1
      generalize wr.alloc (.cells #[.int .i64 (x : Int), .int .i64 (y : Int), .int .i64 a2] 43) = W at HIW q0 q1 ⊢
      have gx := HIW.out.grow.cell hxm
      have gy := HIW.out.grow.cell hym
      have HKP : Hid (Kept es (f t).toNat ↔ ¬ Rch (eg es (firstT f t)) x y) := Lib.hid (by
        have h := order_kept (es := es) (f := f) (t := t) (by rw [HLE.out]; exact HJ3.out) (by rw [HLE.out]; exact hlt) (a := x) (b := y) (by rw [HED.out]) (by rw [HED.out])
        exact h)
      have HGO : Hid (G x = G y ↔ Rch (eg es (firstT f t)) x y) := Lib.hid (HIW.out.gof x y hxm hym)
      have HEG : Hid (eg es (firstT f (t + 1)) = eg es (firstT f t) ++ [((x : Int), (y : Int), a2)]) := Lib.hid (by rw [firstT_succ, eg_snoc, HED.out])
      have ix0 : (0 : Int) ≤ (x : Int) := by omega
      have ix1 : (x : Int) < (m : Int) := by omega
      have iy0 : (0 : Int) ≤ (y : Int) := by omega
      have iy1 : (y : Int) < (m : Int) := by omega
      by_cases hg : G x = G y
      · have hgb : (G x != G y) = false := by simp [hg]
        have HN : Hid (∀ w2, Below W.heap.size W w2 → w2.ownsRow w3.heap.size 3 1 u5 (keptT es f t).length ((keptT es f t).map natV) → LeastInv m w1.heap.size gP len es f G (t + 1) w3.heap.size u5 w3 w2) := Lib.hid fun w2 hb ho => by
          have h := HIW.out.to hb HIW.out.grow.lt ho
          have hk : ¬ Kept es (f t).toNat := fun hk => HKP.out.1 hk (HGO.out.1 hg)
          exact ⟨h.grow, by rw [HEG.out]; exact h.gof.same (HGO.out.1 hg), h.prow, by rw [keptT_no hk]; exact h.own, h.bel, h.size⟩
        generalize G x = gu at *
        generalize G y = gv at *
        go_quiet (fail)
        go_wp2
        go_roundw
        case rel => exact ⟨t + 1, G, by omega, by go_num, Lib.hid (HN.out _ (below_drewN (Below.refl _ _) _) HIW.out.own)⟩
        case measure => simp [intOf]; omega
      · have hgb : (G x != G y) = true := by simpa using hg
        have HKY : Hid (keptT es f (t + 1) = keptT es f t ++ [p]) := Lib.hid (by
          rw [keptT_yes (HKP.out.2 fun h => hg (HGO.out.2 h)), HP.out, Int.toNat_natCast])
        have HJO : Hid (GroupsOf m (fun i => if G i = G y then G x else G i) (eg es (firstT f (t + 1)))) := Lib.hid (by rw [HEG.out]; exact HIW.out.gof.join hxm hym)
        have hgt : (keptT es f t).length ≤ 45 := by have := keptT_len (es := es) (f := f) (t := t); omega
        clear HKP HGO HEG HED hg
        generalize hu : G x = gu at *
        generalize hvv : G y = gv at *
        clear hu hvv
        go_quiet (fail)
        have HIQ : Hid (LeastInv m w1.heap.size gP len es f G t w3.heap.size u5 w3 (W.drewN nq)) := Lib.hid (HIW.out.to (below_drewN (Below.refl _ _) _) HIW.out.grow.lt HIW.out.own)
        have r0 : (W.drewN nq).cell? ⟨wr.heap.size, 0, none⟩ = some (.int .i64 (x : Int)) := q0
        have r1 : (W.drewN nq).cell? ⟨wr.heap.size, 1, none⟩ = some (.int .i64 (y : Int)) := q1
        have rx : (W.drewN nq).cell? ⟨w1.heap.size, x, none⟩ = some (.int .i64 gu) := gx
        have ry : (W.drewN nq).cell? ⟨w1.heap.size, y, none⟩ = some (.int .i64 gv) := gy
        clear q0 q1 gx gy HIW
        generalize W.drewN nq = V at HIQ r0 r1 rx ry ⊢
        go_wp2
        go_still_tail 11, (by kernel_rfl)
        go_wp2_with fail
        refine (join_any w1.heap.size m m G gu gv _ (by exact HIQ.out.grow) (by omega)).mono ?_
        rintro e5 w5 ⟨rfl, hr5, hb5, hf5⟩
        have HI5 : Hid (RowC w5 w1.heap.size m (fun i => if G i = gv then gu else G i) ∧ RowC w5 gP len f ∧ w5.ownsRow w3.heap.size 3 1 u5 (keptT es f t).length ((keptT es f t).map natV) ∧ Below w1.heap.size w3 w5 ∧ w3.heap.size ≤ w5.heap.size) := Lib.hid
          ⟨hr5, HIQ.out.prow.of_block (hf5 gP (by omega)), own_keepB HIQ.out.own (fun b hb => hf5 b (by omega)), HIQ.out.bel.drew.trans hb5, Nat.le_trans HIQ.out.size hb5.size⟩
        clear hr5 hb5 hf5 HIQ r0 r1 rx ry
        go_wp2_with (at_builtin; refine wpList_append_own _ rfl _ _ 28 rfl w3.heap.size 3 i0 (.int .i64 0) 1 8 Try.underlying28 HJ.out HJ0.out HJ1.out HJ2.out rfl (by decide) _ _ _ rfl (HI5.out.2.2.1.alloc _) ⟨w5.heap.size, 0, none⟩ 1 1 [.int .i64 (p : Int)] rfl rfl ?c1 ?c2 ?c3 ?c4 ?c5 ?_)
        try (case c1 => exact cell_one_new _ _ _)
        case c2 => simp [Value.oneCell']
        case c3 => unfold maxLen; omega
        case c4 => omega
        case c5 => have := HI5.out.2.2.2.2; simp; omega
        intro v' w6 hown' hgrow _
        have hb6 : Below w3.heap.size w5 w6 := ((Below.refl _ _).alloc HI5.out.2.2.2.2 _).grown hgrow (by have := HI5.out.2.2.2.2; simp; omega) (fun b hb => own_base HI5.out.2.2.1 b hb)
        have hgP3 : gP < w3.heap.size := HR3.out.lt
        have HN : Hid (LeastInv m w1.heap.size gP len es f (fun i => if G i = gv then gu else G i) (t + 1) w3.heap.size v' w3 w6) := Lib.hid
          ⟨HI5.out.1.of_block (hb6.block _ (by omega)), HJO.out, HI5.out.2.1.of_block (hb6.block _ hgP3), by rw [HKY.out, List.length_append, List.map_append]; exact hown', HI5.out.2.2.2.1.trans (hb6.mono (by omega)), Nat.le_trans HI5.out.2.2.2.2 hb6.size⟩
        clear hown' hgrow hb6
        go_wp2
        go_roundw
        case rel => exact ⟨t + 1, _, by omega, by go_num, HN⟩
        case measure => simp [intOf]; omega
    · obtain rfl : t = es.length := by have := HLE.out; omega
      have hin := InE.of_good HG.out
      have HJF : Hid (J3 (wOf es) es.length f) := Lib.hid (by rw [HLE.out]; exact HJ3.out)
      have HSM : Hid ((keptT es f es.length).length = (keptS es).length) := Lib.hid (keptT_same HJF.out)
      have hk12 : (keptT es f es.length).length ≤ 12 := by have := kept_forest hin; rw [HSM.out]; omega
      have HND : Hid ((keptT es f es.length).Nodup) := Lib.hid (keptT_nodup HJF.out)
      have HOB : Hid (Below w.heap.size w wr) := HBw
      rcases own_row HI.out.own with ⟨hv, hnil⟩ | ⟨g, cp, hv, hbg, hlc, hrow⟩
      · subst hv
        have HS0 : Hid (keptS es = []) := Lib.hid (by
          have h := HSM.out
          rw [hnil] at h
          exact List.length_eq_zero_iff.1 h.symm)
        clear hnil e0 HI
        go_wp2_with fail
        refine (sortInt_nil _).mono ?_
        rintro e5 w5 ⟨rfl, rfl⟩
        go_wp2_with fail
        go_ret2
        refine ⟨⟨none, 0, by rw [HS0.out]; rfl, ?_, by rw [HS0.out]; exact Nat.le_refl 0⟩, HOB.out⟩
        rw [HS0.out]
        exact ⟨rfl, fun h => absurd h (Nat.lt_irrefl 0)⟩
      · subst hv
        have HKS : Hid (∀ W, Below w.heap.size w W → RowC W g (keptT es f es.length).length (fun j => (((keptT es f es.length).getD j 0 : Nat) : Int)) → Calls Try.prog 43 #[.slice (some ⟨g, 0, none⟩) (keptT es f es.length).length cp] W fun e w' => e = .returned (.tuple #[]) ∧ IntsAt w' w'.heap.size (some ⟨g, 0, none⟩) (keptT es f es.length).length ((keptS es).map fun x : Nat => (x : Int)) ∧ Below w.heap.size w w') := Lib.hid fun W hW hr =>
          (sortInt_any g _ cp _ W hr hk12 (fun i j hij hj => getD_inj HND.out hij hj)).mono fun e w' h => by
            obtain ⟨h1, ⟨c, h2, h3, h4⟩, h5⟩ := h
            obtain ⟨h6, h7⟩ := kept_sort HJF.out h3 h4
            exact ⟨h1, ints_row h2 h6 h7, hW.trans (h5.mono (by omega))⟩
        have HROW := Lib.hid hrow
        have HLC := Lib.hid hlc
        have HOUT := Lib.hid (show (keptT es f es.length).length = (keptS es).length from HSM.out)
        clear e0 HI hrow hlc
        go_wp2_with fail
        refine (HKS.out _ (by exact HOB.out) (by exact HROW.out)).mono ?_
        rintro e5 w5 ⟨rfl, hi5, hb5⟩
        have HI5 := Lib.hid hi5
        have HB5 := Lib.hid hb5
        clear hi5 hb5
        go_wp2_with fail
        go_ret2
        rw [HOUT.out] at HI5
        exact ⟨⟨some ⟨g, 0, none⟩, cp, by rw [HOUT.out]; rfl, HI5.out, by rw [← HOUT.out]; exact HLC.out⟩, HB5.out⟩
set_option maxRecDepth 100000 in
theorem least_loop (m : Nat) (A : Option Addr) (len cap : Nat) (es : List E3) (w : World) (hE : EdgesAt w w.heap.size A len es) (hv : gcheck m es = 0) :
    Calls Try.prog 21 #[.agg #[.int .i64 m, .slice A len cap]] w fun e w' => (∃ B cp, e = .returned (.tuple #[.slice B (keptS es).length cp, .int .i64 0]) ∧ IntsAt w' w'.heap.size B (keptS es).length ((keptS es).map fun x : Nat => (x : Int))) ∧ Below w.heap.size w w' :=
  (least_loopC m A len cap es w hE hv).mono fun _ _ ⟨⟨B, cp, h1, h2, _⟩, h3⟩ => ⟨⟨B, cp, h1, h2⟩, h3⟩
end Go.Proofs.Ythfgbgmkiggjmaa
