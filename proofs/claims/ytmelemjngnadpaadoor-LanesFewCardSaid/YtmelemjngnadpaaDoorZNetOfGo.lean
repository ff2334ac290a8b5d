/- lanes.netOf: the net of halves, laid arc by arc. No conditions. -/
import Derived.Test.YtmelemjngnadpaaDoorZLayArc
import Derived.Test.YtmelemjngnadpaaDoorZb3
import Derived.Test.YtmelemjngnadpaaDoorZHalfGo
import Derived.Test.YtmelemjngnadpaaDoorZBox0
import Derived.StillTailTactics
namespace Go.Proofs.YtmelemjngnadpaaDoor
open Go.RowKit

/-- What holds between two rounds. -/
structure NetW (w : World) (m : Nat) (A : Option Addr) (len cap : Nat) (N : Int) (L : List A4) (wr : World) : Prop where
  net : ∃ v, LayW (w.heap.size + 2) (w.heap.size + 3) N L v wr
  box : wr.heap[w.heap.size]? = some (.cells #[.int .i64 m, .slice A len cap] 24 (0, 0))
  res : wr.heap[w.heap.size + 1]? = some (.cells #[.int .i64 0, .slice none 0 0] 50 (0, 0))
  below : Below w.heap.size w wr
theorem NetW.lay {w wr w' : World} {m len cap : Nat} {A : Option Addr} {N : Int} {L L' : List A4} {v : Value} (h : NetW w m A len cap N L wr) (hl : LayW (w.heap.size + 2) (w.heap.size + 3) N L v wr) (h' : ∃ v', LayW (w.heap.size + 2) (w.heap.size + 3) N L' v' w') (hb : But (fun b => b = w.heap.size + 2 ∨ v.ownBlock = some b) wr w') : NetW w m A len cap N L' w' := by
  have hle := hl.le
  have hn : ∀ b, b < w.heap.size + 2 → w'.heap[b]? = wr.heap[b]? := fun b hbl => hb.block b (by omega) (by
    rintro (e | e)
    · omega
    · have := (hl.ne e).1; omega)
  exact ⟨h', (hn _ (by omega)).trans h.box, (hn _ (by omega)).trans h.res, ⟨hb.os.trans h.below.os, hb.tape.trans h.below.tape, hb.output.trans h.below.output, Nat.le_trans h.below.size hb.size, fun b hbl => (hn b (by omega)).trans (h.below.block b hbl)⟩⟩
theorem NetW.next {w wr w' : World} {m len cap : Nat} {A : Option Addr} {N : Int} {L : List A4} (h : NetW w m A len cap N L wr) (hb : Below wr.heap.size wr w') : NetW w m A len cap N L w' := by
  obtain ⟨v, hv⟩ := h.net
  have hle := hv.le
  exact ⟨⟨v, hv.below hb⟩, (hb.block _ (by omega)).trans h.box, (hb.block _ (by omega)).trans h.res, h.below.trans (hb.mono h.below.size)⟩
theorem NetW.k0 {w wr : World} {m len cap : Nat} {A : Option Addr} {N : Int} {L : List A4} (h : NetW w m A len cap N L wr) : wr.cell? ⟨w.heap.size, 0, none⟩ = some (.int .i64 m) := by simp [World.cell?, h.box]
theorem NetW.k1 {w wr : World} {m len cap : Nat} {A : Option Addr} {N : Int} {L : List A4} (h : NetW w m A len cap N L wr) : wr.cell? ⟨w.heap.size, 1, none⟩ = some (.slice A len cap) := by simp [World.cell?, h.box]

set_option maxRecDepth 100000 in
set_option maxHeartbeats 2000000 in
theorem netOf_any (m a b : Nat) (A : Option Addr) (len cap : Nat) (es : List E3) (w : World) (hE : EdgesAt w w.heap.size A len es) (hg : goodE m es) (hm : m ≤ 10) (hlen : len ≤ 45) (ha : a < m) (hb : b < m) :
    Calls Tryd.prog 19 #[.agg #[.int .i64 m, .slice A len cap], .int .i64 a, .int .i64 b] w fun e w' => ∃ A' cap', e = .returned (.agg #[.int .i64 ((2 * m : Nat) : Int), .slice A' (halfA m a b es).length cap']) ∧ ArcsAt w' w'.heap.size A' (halfA m a b es).length (halfA m a b es) ∧ Below w.heap.size w w' := by
  have HE := Lib.hid hE
  have HG := Lib.hid hg
  have hel : Hid (es.length = len) := Lib.hid hE.1
  clear hE hg
  go_enter Tryd.func19, Tryd.ntmps19
  go_wp2
  obtain ⟨W0, hW0⟩ : ∃ W0, (((w.alloc (.cells #[.int .i64 m, .slice A len cap] 24)).alloc (.cells #[.int .i64 0, .slice none 0 0] 50)).alloc (.cells #[.int .i64 (2 * (m : Int)), .slice none 0 0] 50)) = W0 := ⟨_, rfl⟩
  rw [hW0]
  have HS : Hid (NetW w m A len cap (2 * (m : Int)) [] W0) := Lib.hid (by
    have h2 : W0.heap[w.heap.size + 2]? = some (.cells #[.int .i64 (2 * (m : Int)), .slice none 0 0] 50 (0, 0)) := by
      have := (MapKept.heap_alloc ((w.alloc (.cells #[.int .i64 m, .slice A len cap] 24)).alloc (.cells #[.int .i64 0, .slice none 0 0] 50)) (.cells #[.int .i64 (2 * (m : Int)), .slice none 0 0] 50)).1
      rw [World.size_alloc, World.size_alloc] at this
      rw [← hW0]; exact this
    have h1 : W0.heap[w.heap.size + 1]? = some (.cells #[.int .i64 0, .slice none 0 0] 50 (0, 0)) := by
      rw [← hW0, Below.heap_alloc _ _ _ (by simp)]
      have := (MapKept.heap_alloc (w.alloc (.cells #[.int .i64 m, .slice A len cap] 24)) (.cells #[.int .i64 0, .slice none 0 0] 50)).1
      rwa [World.size_alloc] at this
    have h0 : W0.heap[w.heap.size]? = some (.cells #[.int .i64 m, .slice A len cap] 24 (0, 0)) := by
      rw [← hW0, Below.heap_alloc _ _ _ (by simp; omega), Below.heap_alloc _ _ _ (by simp)]
      exact (MapKept.heap_alloc w _).1
    refine ⟨⟨.slice none 0 0, h2, World.ownsRow_nil .., by omega, ?_⟩, h0, h1, ?_⟩
    · rw [← hW0]; simp
    · rw [← hW0]; exact (((Below.refl _ _).alloc (Nat.le_refl _) _).alloc (by simp) _).alloc (by simp; omega) _)
  clear hW0
  go_loopw [19] (fun j wr => ∃ k : Nat, k ≤ m ∧ j = .int .i64 k ∧ Hid (NetW w m A len cap (2 * (m : Int)) (nodeArcs k a b) wr)) (fun j _ => m - (intOf j).toNat)
  case atStart => exact ⟨0, Nat.zero_le _, rfl, HS⟩
  case round =>
    clear HS
    obtain ⟨k, hk, rfl, HN⟩ := hrel
    by_cases hlt : k < m
    · have ik0 : (0 : Int) ≤ (k : Int) := by omega
      have ik1 : (k : Int) < (m : Int) := by omega
      have hsucc := nodeArcs_succ k a b
      by_cases hka : k = a
      · have hneq : ((k : Int) != (a : Int)) = false := by simp [hka]
        have HX : Hid (nodeArcs (k + 1) a b = nodeArcs k a b) := Lib.hid (by rw [hsucc, if_neg (fun h => h.1 hka), List.append_nil])
        clear hsucc hka
        go_wp2
        go_roundw
        case rel => exact ⟨k + 1, by omega, by go_num, Lib.hid (by rw [HX.out]; exact HN.out)⟩
        case measure => simp [intOf]; omega
      · have hneq : ((k : Int) != (a : Int)) = true := by simp; omega
        by_cases hkb : k = b
        · have hneq2 : ((k : Int) != (b : Int)) = false := by simp [hkb]
          have HX : Hid (nodeArcs (k + 1) a b = nodeArcs k a b) := Lib.hid (by rw [hsucc, if_neg (fun h => h.2 hkb), List.append_nil])
          clear hsucc hka hkb
          go_wp2
          go_roundw
          case rel => exact ⟨k + 1, by omega, by go_num, Lib.hid (by rw [HX.out]; exact HN.out)⟩
          case measure => simp [intOf]; omega
        · have hneq2 : ((k : Int) != (b : Int)) = true := by simp; omega
          have HX : Hid (nodeArcs (k + 1) a b = nodeArcs k a b ++ [inArc k]) := Lib.hid (by rw [hsucc, if_pos ⟨hka, hkb⟩])
          obtain ⟨v, HV⟩ : ∃ v, Hid (LayW (w.heap.size + 2) (w.heap.size + 3) (2 * (m : Int)) (nodeArcs k a b) v wr) := by
            obtain ⟨v, h⟩ := HN.out.net
            exact ⟨v, Lib.hid h⟩
          have hnl := nodeArcs_len k a b
          clear hsucc hka hkb
          go_wp2_with fail
          refine (wayIn_any k ik0 (by omega) _).mono ?_
          rintro e w1 ⟨rfl, rfl⟩
          go_wp2_with fail
          refine (wayOut_any k ik0 (by omega) _).mono ?_
          rintro e w2 ⟨rfl, rfl⟩
          go_wp2_with fail
          refine (lay_any _ _ _ _ _ v _ _ HV.out (by omega)).mono ?_
          rintro e w3 ⟨rfl, h1, h2⟩
          have HN3 := Lib.hid (HN.out.lay HV.out h1 h2)
          clear h1 h2
          go_wp2
          go_roundw
          case rel => exact ⟨k + 1, by omega, by go_num, Lib.hid (by rw [HX.out]; exact HN3.out)⟩
          case measure => simp [intOf]; omega
    · obtain rfl : k = m := by omega
      have HB2 : Hid (NetW w k A len cap (2 * (k : Int)) (nodeArcs k a b ++ (es.take 0).flatMap edgeArcs) wr) := Lib.hid (by simpa using HN.out)
      have e0 := HN.out.k0
      have e1 := HN.out.k1
      clear HN hlt hk
      go_wp2
      clear e0 e1
      go_loopw [40] (fun j wr => ∃ q : Nat, q ≤ len ∧ j = .int .i64 q ∧ Hid (NetW w k A len cap (2 * (k : Int)) (nodeArcs k a b ++ (es.take q).flatMap edgeArcs) wr)) (fun j _ => len - (intOf j).toNat)
      case atStart => exact ⟨0, Nat.zero_le _, rfl, HB2⟩
      case round =>
        clear HB2
        obtain ⟨q, hq, rfl, HN⟩ := hrel
        by_cases hlt : q < len
        · have HE2 := Lib.hid (HE.out.below HN.out.below)
          obtain ⟨bb, off, ⟨a0, a1, a2⟩, rfl, hbb, hx, hc0, hc1, hc2⟩ := HE2.out.at_ hlt
          have HX := Lib.hid (edges_snoc hx)
          obtain ⟨p0, p1, p2, p3, _⟩ := good_mem HG.out (List.mem_of_getElem? hx)
          have hll : (nodeArcs k a b ++ (es.take q).flatMap edgeArcs).length ≤ 200 := by
            rw [List.length_append, edgeArcs_len, List.length_take]
            have := nodeArcs_len k a b
            omega
          simp only at hc0 hc1 hc2 p0 p1 p2 p3
          clear hx
          go_wp2
          obtain ⟨W1, hW1⟩ : ∃ W1, (wr.alloc (.cells #[.int .i64 a0, .int .i64 a1, .int .i64 a2] 54)) = W1 := ⟨_, rfl⟩
          rw [hW1]
          have hblk : W1.heap[wr.heap.size]? = some (.cells #[.int .i64 a0, .int .i64 a1, .int .i64 a2] 54 (0, 0)) := by rw [← hW1]; exact (MapKept.heap_alloc wr _).1
          have hlt1 : wr.heap.size < W1.heap.size := by rw [← hW1]; simp
          have HN1 : Hid (NetW w k (some ⟨bb, off, none⟩) len cap (2 * (k : Int)) (nodeArcs k a b ++ (es.take q).flatMap edgeArcs) W1) := Lib.hid (HN.out.next (by rw [← hW1]; exact (Below.refl _ _).alloc (Nat.le_refl _) _))
          obtain ⟨v, HV⟩ : ∃ v, Hid (LayW (w.heap.size + 2) (w.heap.size + 3) (2 * (k : Int)) (nodeArcs k a b ++ (es.take q).flatMap edgeArcs) v W1 ∧ v.ownBlock ≠ some wr.heap.size) := by
            obtain ⟨v, h⟩ := HN.out.net
            refine ⟨v, Lib.hid ⟨h.below (by rw [← hW1]; exact (Below.refl _ _).alloc (Nat.le_refl _) _), fun he => ?_⟩⟩
            have := (h.ne he).2
            omega
          have HBK := Lib.hid hblk
          have hne2 : wr.heap.size ≠ w.heap.size + 2 := by
            obtain ⟨v, h⟩ := HN.out.net
            have := h.le
            omega
          have y0 : W1.cell? ⟨wr.heap.size, 0, none⟩ = some (.int .i64 a0) := by simp [World.cell?, hblk]
          have y1 : W1.cell? ⟨wr.heap.size, 1, none⟩ = some (.int .i64 a1) := by simp [World.cell?, hblk]
          clear hW1 hc0 hc1 hc2 hblk HN
          refine wp_region_still_tail 7 (by kernel_rfl) (by kernel_rfl) ?_
          simp only [List.take_succ_cons, List.take_zero, List.drop_succ_cons, List.drop_zero]
          still_step
          still_step
          still_step
          still_call (wayOut_any a0 p0 (by omega) _)
          still_step
          still_step
          still_call (wayIn_any a1 p2 (by omega) _)
          refine wpStill_nil ?_
          change wpList _ _ _ _ _ W1.drew
          go_wp2_with fail
          refine (lay_any _ _ _ _ _ v _ _ (HV.out.1.below ((Below.refl _ _).drew)) (by omega)).mono ?_
          rintro e w3 ⟨rfl, h1, h2⟩
          have HN3 := Lib.hid ((HN1.out.next ((Below.refl _ _).drew)).lay (HV.out.1.below ((Below.refl _ _).drew)) h1 h2)
          have hb3 : w3.heap[wr.heap.size]? = W1.heap[wr.heap.size]? := h2.block _ hlt1 (by
            rintro (h | h)
            · exact hne2 h
            · exact HV.out.2 h)
          obtain ⟨v2, HV2⟩ : ∃ v2, Hid (LayW (w.heap.size + 2) (w.heap.size + 3) (2 * (k : Int)) ((nodeArcs k a b ++ (es.take q).flatMap edgeArcs) ++ [(2 * a0 + 1, 2 * a1, 1, 0)]) v2 w3) := by
            obtain ⟨v2, h⟩ := h1
            exact ⟨v2, Lib.hid h⟩
          have z0 : w3.cell? ⟨wr.heap.size, 0, none⟩ = some (.int .i64 a0) := by simp [World.cell?, hb3, HBK.out]
          have z1 : w3.cell? ⟨wr.heap.size, 1, none⟩ = some (.int .i64 a1) := by simp [World.cell?, hb3, HBK.out]
          clear h1 h2 hb3 y0 y1 HN1 HV HBK hlt1 hne2
          go_wp2
          refine wp_region_still_tail 7 (by kernel_rfl) (by kernel_rfl) ?_
          simp only [List.take_succ_cons, List.take_zero, List.drop_succ_cons, List.drop_zero]
          still_step
          still_step
          still_step
          still_call (wayOut_any a1 p2 (by omega) _)
          still_step
          still_step
          still_call (wayIn_any a0 p0 (by omega) _)
          refine wpStill_nil ?_
          change wpList _ _ _ _ _ w3.drew
          go_wp2_with fail
          refine (lay_any _ _ _ _ _ v2 _ _ (HV2.out.below ((Below.refl _ _).drew)) (by simp only [List.length_append, List.length_cons, List.length_nil] at hll ⊢; omega)).mono ?_
          rintro e w4 ⟨rfl, h1, h2⟩
          have HN4 : Hid (NetW w k (some ⟨bb, off, none⟩) len cap (2 * (k : Int)) (nodeArcs k a b ++ (es.take (q + 1)).flatMap edgeArcs) w4) := Lib.hid (by
            have h := (HN3.out.next ((Below.refl _ _).drew)).lay (HV2.out.below ((Below.refl _ _).drew)) h1 h2
            rw [List.append_assoc, List.append_assoc] at h
            rw [HX.out]; exact h)
          clear h1 h2 z0 z1 HN3 HV2
          go_wp2
          go_roundw
          case rel => exact ⟨q + 1, by omega, by go_num, HN4⟩
          case measure => simp [intOf]; omega
        · obtain rfl : q = len := by omega
          obtain ⟨A', cap', HV⟩ : ∃ A' cap', Hid (LayW (w.heap.size + 2) (w.heap.size + 3) (2 * (k : Int)) (halfA k a b es) (.slice A' (halfA k a b es).length cap') wr) := by
            obtain ⟨v, h⟩ := HN.out.net
            rw [List.take_of_length_le (by have := hel.out; omega)] at h
            obtain ⟨A', cap', rfl⟩ := own_form4 h.own
            exact ⟨A', cap', Lib.hid h⟩
          have h0 : wr.cell? ⟨w.heap.size + 1 + 1, 0, none⟩ = some (.int .i64 (2 * (k : Int))) := HV.out.box.cell rfl
          have h1 : wr.cell? ⟨w.heap.size + 1 + 1, 1, none⟩ = some (.slice A' (halfA k a b es).length cap') := HV.out.box.cell rfl
          have r0 : wr.cell? ⟨w.heap.size + 1, 0, none⟩ = some (.int .i64 0) := by simp [World.cell?, HN.out.res]
          have r1 : wr.cell? ⟨w.heap.size + 1, 1, none⟩ = some (.slice none 0 0) := by simp [World.cell?, HN.out.res]
          have f0 : wr.frozen? ⟨w.heap.size + 1, 0, none⟩ = false := by simp [World.frozen?, HN.out.res]
          have f1 : wr.frozen? ⟨w.heap.size + 1, 1, none⟩ = false := by simp [World.frozen?, HN.out.res]
          have HBw := Lib.hid HN.out.below
          have h2m : (2 : Int) * (k : Int) = ((2 * k : Nat) : Int) := by omega
          have HM := Lib.hid h2m
          clear h2m HN
          generalize hn : (halfA k a b es).length = n at *
          have HNn := Lib.hid hn
          clear hn
          go_wp2
          have HFIN : Hid (((wr.setCell ⟨w.heap.size + 1, 0, none⟩ (.int .i64 (2 * (k : Int)))).setCell ⟨w.heap.size + 1, 1, none⟩ (.slice A' n cap')).ownsRow (w.heap.size + 3) 65 4 (.slice A' n cap') n (cellsA (halfA k a b es))) := Lib.hid (own_keep4 (by have h := HV.out.own; rw [HNn.out] at h; exact h) fun g hg => (Below.heap_setCell _ _ _ g (by show g ≠ w.heap.size + 1; omega)).trans (Below.heap_setCell _ _ _ g (by show g ≠ w.heap.size + 1; omega)))
          refine bodyPost_ret (v := .agg #[.int .i64 (2 * (k : Int)), .slice A' n cap']) (by simp [results, Tryd.results19, go_sem, r0, r1]) rfl ⟨A', cap', by rw [HM.out, HNn.out], by rw [HNn.out]; exact ArcsAt.of_own4 HFIN.out, ?_⟩
          exact (HBw.out.setCell (p := ⟨w.heap.size + 1, 0, none⟩) (Nat.le_succ _) _).setCell (p := ⟨w.heap.size + 1, 1, none⟩) (Nat.le_succ _) _
end Go.Proofs.YtmelemjngnadpaaDoor
