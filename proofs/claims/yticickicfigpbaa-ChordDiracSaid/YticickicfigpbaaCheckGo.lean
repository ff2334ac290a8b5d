/- graph.Check: it answers gcheck. -/
import Derived.Test.YticickicfigpbaaCheckEdge
import Derived.Deep.RegionWith
namespace Go.Proofs.Yticickicfigpbaa
open Go.RowKit

set_option maxRecDepth 100000 in
theorem checkEdge_v (n a0 a1 a2 v : Int) (bm : Nat) (pre : List E3) (w : World) (hm : MapIs w bm (pre.map pairP)) (hn : n ≤ 10) (hv : edgeErr n pre (a0, a1, a2) = v) :
    Calls Try.prog 49 #[.int .i64 n, .agg #[.int .i64 a0, .int .i64 a1, .int .i64 a2], .map (some bm)] w fun e w' => e = .returned (.int .i64 v) ∧ MapIs w' bm (pre.map pairP) ∧ Below w.heap.size w w' :=
  (checkEdge_any n a0 a1 a2 bm pre w hm hn).mono fun e w' ⟨he, hB⟩ => ⟨by rw [he, hv], hm.below hB hm.lt, hB⟩

set_option maxRecDepth 100000 in
/-- pairOf ahead of an entry: what the operations behind it do. -/
theorem pairOf_put (a b c : Int) (w : World) (bm : Nat) (ps : List (Int × Int)) (hm : MapIs w bm ps) (hp : okM (pairP (a, b, c))) (h : pairP (a, b, c) ∉ ps) :
    Calls Try.prog 50 #[.agg #[.int .i64 a, .int .i64 b, .int .i64 c]] w fun e w' => e = .returned (.agg #[.int .i64 (min a b), .int .i64 (max a b)]) ∧
      ∃ (m : Nat) (W2 W3 : World), (Instr.lookup 70 (.map (some bm)) (.agg #[.int .i64 (min a b), .int .i64 (max a b)]) false).run Try.prog w' = .ok (.int .i64 0) w' ∧
        (Instr.mapEntry 70 (.map (some bm)) (.agg #[.int .i64 (min a b), .int .i64 (max a b)])).run Try.prog w' = .ok (.tuple #[.int .i64 0, .int .i64 m]) W2 ∧
        (Instr.lookup 70 (.map (some bm)) (.agg #[.int .i64 (min a b), .int .i64 (max a b)]) false).run Try.prog W2 = .ok (.int .i64 0) W2 ∧
        (Instr.entryStore 70 (.map (some bm)) (.int .i64 m) (.int .i64 1)).run Try.prog W2 = .ok () W3 ∧
        Hid (MapIs W3 bm (ps ++ [pairP (a, b, c)]) ∧ w.grownBy W3 (some bm)) :=
  (pairOf_any a b c w).mono fun e w' ⟨he, hw⟩ => by
    subst hw
    have hm1 := (hm.alloc (.cells #[.int .i64 a, .int .i64 b, .int .i64 c] 54)).alloc (.cells #[.int .i64 (min a b), .int .i64 (max a b)] 73)
    obtain ⟨W2, hW2, hmid, hg2⟩ := entry_out (p := pairP (a, b, c)) hm1 hp h
    obtain ⟨W3, hW3, hm3, hg3⟩ := store_mid hmid hm.2 hp
    refine ⟨he, ps.length, W2, W3, look_out (p := pairP (a, b, c)) hm1 hp h, hW2, look_mid hmid hm.2 hp h, hW3, hm3, ?_⟩
    have hB : Below w.heap.size w (paired w a b c (min a b) (max a b)) := ((Below.refl _ _).alloc (Nat.le_refl _) _).alloc (by simp) _
    exact ⟨hg3.os.trans (hg2.os.trans hB.os), hg3.tape.trans (hg2.tape.trans hB.tape), hg3.output.trans (hg2.output.trans hB.output), Nat.le_trans hB.size (Nat.le_trans hg2.size hg3.size),
      fun i hi hne => (hg3.block i (Nat.lt_of_lt_of_le hi (Nat.le_trans hB.size hg2.size)) hne).trans ((hg2.block i (Nat.lt_of_lt_of_le hi hB.size) hne).trans (hB.block i hi))⟩

theorem map_start (w : World) (n : Int) (A : Option Addr) (len cap : Nat) : MapIs ((bx w n A len cap).alloc (.map #[] 0)) (w.heap.size + 1) [] := by
  have h := (MapKept.heap_alloc (bx w n A len cap) (.map #[] 0)).1
  rw [show (bx w n A len cap).heap.size = w.heap.size + 1 from by simp [bx]] at h
  exact ⟨h, by simp⟩

set_option maxRecDepth 100000 in
set_option maxHeartbeats 400000 in
theorem check_large (n : Int) (A : Option Addr) (len cap : Nat) (w : World) (hL : largeB n len = true) :
    Calls Try.prog 39 #[.agg #[.int .i64 n, .slice A len cap]] w fun e w' => e = .returned (.int .i64 1) ∧ Below w.heap.size w w' := by
  by_cases h0 : n < 0
  · clear hL
    go_enter Try.func39, Try.ntmps39
    go_wp2
    go_ret
    exact ⟨rfl, (Below.refl _ _).alloc (Nat.le_refl _) _⟩
  · by_cases h1 : 10 < n
    · clear hL
      go_enter Try.func39, Try.ntmps39
      go_wp2
      go_ret
      exact ⟨rfl, (Below.refl _ _).alloc (Nat.le_refl _) _⟩
    · have h2 : 45 < len := by simp [largeB] at hL; omega
      clear hL
      go_enter Try.func39, Try.ntmps39
      go_wp2
      go_ret
      exact ⟨rfl, (Below.refl _ _).alloc (Nat.le_refl _) _⟩

set_option maxRecDepth 100000 in
set_option maxHeartbeats 1000000 in
theorem check_small (n : Int) (A : Option Addr) (len cap : Nat) (es : List E3) (w : World) (hE : EdgesAt w w.heap.size A len es) (hn0 : 0 ≤ n) (hn1 : n ≤ 10) (hl : len ≤ 45) :
    Calls Try.prog 39 #[.agg #[.int .i64 n, .slice A len cap]] w fun e w' => e = .returned (.int .i64 (scan n [] es)) ∧ Below w.heap.size w w' := by
  have hmm := @run_makeMap Try.prog
  go_enter Try.func39, Try.ntmps39
  go_wp2
  clear hmm
  go_loopw [25] (fun j wr => ∃ k : Nat, k ≤ len ∧ j = .int .i64 k ∧ Hid (scan n [] es = scan n (es.take k) (es.drop k)) ∧ Hid (MapIs wr (w.heap.size + 1) ((es.take k).map pairP)) ∧ Below (w.heap.size + 1) (bx w n A len cap) wr) (fun j _ => len - (intOf j).toNat)
  case atStart => exact ⟨0, Nat.zero_le _, rfl, Lib.hid rfl, Lib.hid (map_start w n A len cap), (Below.refl _ _).alloc (by simp [bx]) _⟩
  case round =>
    obtain ⟨k, hk, rfl, HS, HM, hB⟩ := hrel
    have hE0 : EdgesAt (bx w n A len cap) w.heap.size A len es := hE.alloc (Nat.le_refl _) _
    have hE1 := hE0.below (hB.mono (Nat.le_succ _))
    have hbx0 : wr.cell? ⟨w.heap.size, 0, none⟩ = some (.int .i64 n) := by
      rw [hB.cell (p := ⟨w.heap.size, 0, none⟩) (Nat.lt_succ_self _)]; simp [bx, go_sem]
    have hbx1 : wr.cell? ⟨w.heap.size, 1, none⟩ = some (.slice A len cap) := by
      rw [hB.cell (p := ⟨w.heap.size, 1, none⟩) (Nat.lt_succ_self _)]; simp [bx, go_sem]
    have hsz1 : w.heap.size + 1 < wr.heap.size := HM.out.lt
    have hsz : w.heap.size < wr.heap.size := by omega
    have hBw : Below w.heap.size w wr := ((Below.refl _ _).alloc (Nat.le_refl _) _).trans (hB.mono (Nat.le_succ _))
    by_cases hlt : k < len
    · obtain ⟨b, off, ⟨a0, a1, a2⟩, rfl, hb, hx, hc0, hc1, hc2⟩ := hE1.at_ hlt
      have HX := Lib.hid hx
      clear hx hE hE0 hE1
      have HM1 : Hid (MapIs (wr.alloc (.cells #[.int .i64 a0, .int .i64 a1, .int .i64 a2] 54)) (w.heap.size + 1) ((es.take k).map pairP)) := Lib.hid (HM.out.alloc _)
      by_cases hv : edgeErr n (es.take k) (a0, a1, a2) = 0
      · have HN := Lib.hid (HS.out.trans (scan_next n es k _ HX.out hv))
        have HV := Lib.hid hv
        have HT : Hid ((es.take (k + 1)).map pairP = (es.take k).map pairP ++ [pairP (a0, a1, a2)]) := by
          obtain ⟨hkl, hxe⟩ := List.getElem?_eq_some_iff.1 HX.out
          exact Lib.hid (by rw [List.take_succ_eq_append_getElem hkl, hxe, List.map_append]; rfl)
        obtain ⟨hok1, hok2⟩ := edgeErr_zero hv
        have HP : Hid (okM (pairP (a0, a1, a2))) := Lib.hid (okP_of hn1 hok1.1 hok1.2)
        have HI : Hid (pairP (a0, a1, a2) ∉ (es.take k).map pairP) := Lib.hid (fun h => by rw [(pairP_mem _ _).1 h] at hok2; cases hok2)
        clear hv hok1 hok2
        go_wp2_with (go_at_call 49; refine (checkEdge_v n a0 a1 a2 0 (w.heap.size + 1) (es.take k) _ HM1.out hn1 HV.out).mono ?_; rintro e w' ⟨rfl, hM2, hB1⟩; have HM2 := Lib.hid hM2; clear hM2; obtain ⟨hcc, hff⟩ := bcell hB1)
        have hwr : IntKind.i64.wrap 1 = 1 := by decide
        go_region_with (go_at_call 50; refine (pairOf_put a0 a1 a2 _ (w.heap.size + 1) ((es.take k).map pairP) (by exact HM2.out) HP.out HI.out).mono ?_; rintro e w2 ⟨rfl, m, W2, W3, hr1, hr2, hr3, hr4, hr5⟩)
        all_goals
          have h2 : Below (w.heap.size + 1) (bx w n (some ⟨b, off, none⟩) len cap) w' := (hB.alloc (by omega) _).trans (hB1.mono (by simp; omega))
          have HB2 : Hid (Below (w.heap.size + 1) (bx w n (some ⟨b, off, none⟩) len cap) W3) := Lib.hid (h2.drew.grown hr5.out.2 (by have := h2.size; simpa [bx] using this) (fun g e => by cases e; exact Nat.le_refl _))
          have HM3 : Hid (MapIs W3 (w.heap.size + 1) ((es.take (k + 1)).map pairP)) := Lib.hid (by rw [HT.out]; exact hr5.out.1)
          clear hr1 hr2 hr3 hr4 hr5 hwr hcc hff h2
          go_wp2
          go_roundw
          case rel => exact ⟨k + 1, by omega, by go_num, HN, HM3, HB2.out⟩
          case measure => simp [intOf]; omega
      · have HR := Lib.hid (HS.out.trans (scan_stop n es k _ HX.out hv))
        obtain ⟨v, hve⟩ : ∃ v, edgeErr n (es.take k) (a0, a1, a2) = v := ⟨_, rfl⟩
        have HV := Lib.hid hve
        have hv0 : (v != 0) = true := by rw [← hve]; simpa using hv
        clear hv hve
        go_wp2_with (go_at_call 49; refine (checkEdge_v n a0 a1 a2 v (w.heap.size + 1) (es.take k) _ HM1.out hn1 HV.out).mono ?_; rintro e w' ⟨rfl, _, hB1⟩)
        go_ret
        exact ⟨ret_int (by rw [HR.out, HV.out]), hBw.trans (((Below.refl _ _).alloc (Nat.le_refl _) _).trans (hB1.mono (by simp)) |>.mono (by omega))⟩
    · have HZ := Lib.hid (HS.out.trans (scan_end n es k (by have := hE.1; omega)))
      go_wp2
      go_ret
      exact ⟨ret_int HZ.out.symm, hBw⟩

set_option maxRecDepth 100000 in
theorem graphCheck_any (n : Int) (A : Option Addr) (len cap : Nat) (es : List E3) (w : World) (hE : EdgesAt w w.heap.size A len es) (hcap : len ≤ cap) :
    Calls Try.prog 8 #[.agg #[.int .i64 n, .slice A len cap]] w fun e w' => e = .returned (.int .i64 (gcheck n es)) ∧ Below w.heap.size w w' := by
  cases hL : largeB n len with
  | true => rw [show gcheck n es = 1 from if_pos (by rw [hE.1]; exact hL)]; exact graphCheck_large n A len cap w hL
  | false =>
    obtain ⟨h0, h1, h2⟩ := largeB_false hL
    rw [show gcheck n es = scan n [] es from if_neg (by rw [hE.1, hL]; decide)]
    exact graphCheck_small n A len cap es w hE hcap h0 h1 h2
set_option maxRecDepth 100000 in
theorem check_any (n : Int) (A : Option Addr) (len cap : Nat) (es : List E3) (w : World) (hE : EdgesAt w w.heap.size A len es) :
    Calls Try.prog 39 #[.agg #[.int .i64 n, .slice A len cap]] w fun e w' => e = .returned (.int .i64 (gcheck n es)) ∧ Below w.heap.size w w' := by
  cases hL : largeB n len with
  | true => rw [show gcheck n es = 1 from if_pos (by rw [hE.1]; exact hL)]; exact check_large n A len cap w hL
  | false =>
    obtain ⟨h0, h1, h2⟩ := largeB_false hL
    rw [show gcheck n es = scan n [] es from if_neg (by rw [hE.1, hL]; decide)]
    exact check_small n A len cap es w hE h0 h1 h2
end Go.Proofs.Yticickicfigpbaa
