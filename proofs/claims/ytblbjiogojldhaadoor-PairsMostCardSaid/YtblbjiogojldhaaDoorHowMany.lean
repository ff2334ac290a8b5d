/- pairs.nobody, pairs.howMany: how many pairs there can be, if nobody of a word may be had. -/
import Derived.Test.YtblbjiogojldhaaDoorPairUp
namespace Go.Proofs.YtblbjiogojldhaaDoor
open Go.RowKit

def nobodyL : List Int := [-1, -1, -1, -1, -1, -1, -1, -1]
def midL (k : Nat) : List Int := (List.range 8).map fun j => if j < k then -1 else 0
theorem midL_next {k : Nat} (hk : k < 8) : (midL k).set k (-1) = midL (k + 1) := by
  rcases (show k = 0 ∨ k = 1 ∨ k = 2 ∨ k = 3 ∨ k = 4 ∨ k = 5 ∨ k = 6 ∨ k = 7 by omega) with rfl | rfl | rfl | rfl | rfl | rfl | rfl | rfl <;> rfl
theorem row_new (w : World) (t : TypeId) (vs : List Value) : RowOf (w.alloc (.cells vs.toArray t)) w.heap.size t vs := (MapKept.heap_alloc w _).1
set_option maxRecDepth 100000 in
set_option maxHeartbeats 1000000 in
theorem nobody_any (w : World) : Calls Tryd.prog 29 #[] w fun e w' => e = .returned (.agg #[.int .i64 (-1), .int .i64 (-1), .int .i64 (-1), .int .i64 (-1), .int .i64 (-1), .int .i64 (-1), .int .i64 (-1), .int .i64 (-1)]) ∧ Below w.heap.size w w' := by
  have HS : Hid (RowOf ((w.alloc (.cells ((midL 0).map i64V).toArray 49)).alloc (.cells ((midL 0).map i64V).toArray 49)) w.heap.size 49 ((midL 0).map i64V) ∧ RowOf ((w.alloc (.cells ((midL 0).map i64V).toArray 49)).alloc (.cells ((midL 0).map i64V).toArray 49)) (w.heap.size + 1) 49 ((midL 0).map i64V) ∧ Below w.heap.size w ((w.alloc (.cells ((midL 0).map i64V).toArray 49)).alloc (.cells ((midL 0).map i64V).toArray 49))) := Lib.hid (by
    refine ⟨(row_new w _ _).alloc _, ?_, ((Below.refl _ _).alloc (Nat.le_refl _) _).alloc (by simp) _⟩
    have := row_new (w.alloc (.cells ((midL 0).map i64V).toArray 49)) 49 ((midL 0).map i64V)
    simpa using this)
  go_enter Tryd.func29, Tryd.ntmps29
  go_wp2_with fail
  go_loopw [3] (fun j wr => ∃ k : Nat, k ≤ 8 ∧ j = .int .i64 k ∧ Hid (RowOf wr w.heap.size 49 ((midL 0).map i64V) ∧ RowOf wr (w.heap.size + 1) 49 ((midL k).map i64V) ∧ Below w.heap.size w wr)) (fun j _ => 8 - (intOf j).toNat)
  case atStart => exact ⟨0, by omega, rfl, HS⟩
  case round =>
    clear HS
    obtain ⟨k, hk, rfl, HR⟩ := hrel
    by_cases hlt : k < 8
    · have ck : wr.cell? ⟨w.heap.size + 1, k, none⟩ = some (i64V ((midL k).getD k 0)) := HR.out.2.1.cell (by
        have hl : k < (midL k).length := by simp [midL]; omega
        rw [List.getElem?_map, List.getD_eq_getElem?_getD, List.getElem?_eq_getElem hl]; rfl)
      have fk := HR.out.2.1.frozen k
      have HN : Hid (RowOf (wr.setCell ⟨w.heap.size + 1, k, none⟩ (.int .i64 (-1))) w.heap.size 49 ((midL 0).map i64V) ∧ RowOf (wr.setCell ⟨w.heap.size + 1, k, none⟩ (.int .i64 (-1))) (w.heap.size + 1) 49 ((midL (k + 1)).map i64V) ∧ Below w.heap.size w (wr.setCell ⟨w.heap.size + 1, k, none⟩ (.int .i64 (-1)))) := Lib.hid
        ⟨HR.out.1.far (by show w.heap.size ≠ w.heap.size + 1; omega) _, by rw [← midL_next hlt, List.map_set]; exact HR.out.2.1.set_ k _, HR.out.2.2.setCell (p := ⟨w.heap.size + 1, k, none⟩) (Nat.le_succ _) _⟩
      clear HR
      unfold i64V at ck
      generalize (midL k).getD k 0 = z at ck
      have ik0 : (0 : Int) ≤ (k : Int) := by omega
      have ik1 : (k : Int) < 8 := by omega
      go_wp2_with fail
      go_roundw
      case rel => exact ⟨k + 1, by omega, by go_num, HN⟩
      case measure => simp [intOf]; omega
    · obtain rfl : k = 8 := by omega
      have H1 := HR.out.2.1
      have H0 := HR.out.1
      have c0 := H1.cell (i := 0) rfl
      have c1 := H1.cell (i := 1) rfl
      have c2 := H1.cell (i := 2) rfl
      have c3 := H1.cell (i := 3) rfl
      have c4 := H1.cell (i := 4) rfl
      have c5 := H1.cell (i := 5) rfl
      have c6 := H1.cell (i := 6) rfl
      have c7 := H1.cell (i := 7) rfl
      have d0 := H0.cell (i := 0) rfl
      have d1 := H0.cell (i := 1) rfl
      have d2 := H0.cell (i := 2) rfl
      have d3 := H0.cell (i := 3) rfl
      have d4 := H0.cell (i := 4) rfl
      have d5 := H0.cell (i := 5) rfl
      have d6 := H0.cell (i := 6) rfl
      have d7 := H0.cell (i := 7) rfl
      have f0 := H0.frozen 0
      have f1 := H0.frozen 1
      have f2 := H0.frozen 2
      have f3 := H0.frozen 3
      have f4 := H0.frozen 4
      have f5 := H0.frozen 5
      have f6 := H0.frozen 6
      have f7 := H0.frozen 7
      have HF : Hid (RowOf ((((((((wr.setCell ⟨w.heap.size, 0, none⟩ (.int .i64 (-1))).setCell ⟨w.heap.size, 1, none⟩ (.int .i64 (-1))).setCell ⟨w.heap.size, 2, none⟩ (.int .i64 (-1))).setCell ⟨w.heap.size, 3, none⟩ (.int .i64 (-1))).setCell ⟨w.heap.size, 4, none⟩ (.int .i64 (-1))).setCell ⟨w.heap.size, 5, none⟩ (.int .i64 (-1))).setCell ⟨w.heap.size, 6, none⟩ (.int .i64 (-1))).setCell ⟨w.heap.size, 7, none⟩ (.int .i64 (-1))) w.heap.size 49 (nobodyL.map i64V) ∧ Below w.heap.size w ((((((((wr.setCell ⟨w.heap.size, 0, none⟩ (.int .i64 (-1))).setCell ⟨w.heap.size, 1, none⟩ (.int .i64 (-1))).setCell ⟨w.heap.size, 2, none⟩ (.int .i64 (-1))).setCell ⟨w.heap.size, 3, none⟩ (.int .i64 (-1))).setCell ⟨w.heap.size, 4, none⟩ (.int .i64 (-1))).setCell ⟨w.heap.size, 5, none⟩ (.int .i64 (-1))).setCell ⟨w.heap.size, 6, none⟩ (.int .i64 (-1))).setCell ⟨w.heap.size, 7, none⟩ (.int .i64 (-1)))) := Lib.hid ⟨((((((((H0.set_ 0 (.int .i64 (-1))).set_ 1 (.int .i64 (-1))).set_ 2 (.int .i64 (-1))).set_ 3 (.int .i64 (-1))).set_ 4 (.int .i64 (-1))).set_ 5 (.int .i64 (-1))).set_ 6 (.int .i64 (-1))).set_ 7 (.int .i64 (-1))), ((((((((HR.out.2.2.setCell (p := ⟨w.heap.size, 0, none⟩) (Nat.le_refl _) (.int .i64 (-1))).setCell (p := ⟨w.heap.size, 1, none⟩) (Nat.le_refl _) (.int .i64 (-1))).setCell (p := ⟨w.heap.size, 2, none⟩) (Nat.le_refl _) (.int .i64 (-1))).setCell (p := ⟨w.heap.size, 3, none⟩) (Nat.le_refl _) (.int .i64 (-1))).setCell (p := ⟨w.heap.size, 4, none⟩) (Nat.le_refl _) (.int .i64 (-1))).setCell (p := ⟨w.heap.size, 5, none⟩) (Nat.le_refl _) (.int .i64 (-1))).setCell (p := ⟨w.heap.size, 6, none⟩) (Nat.le_refl _) (.int .i64 (-1))).setCell (p := ⟨w.heap.size, 7, none⟩) (Nat.le_refl _) (.int .i64 (-1)))⟩
      simp only [i64V] at c0 c1 c2 c3 c4 c5 c6 c7 d0 d1 d2 d3 d4 d5 d6 d7
      clear H1 H0 HR
      go_wp2_with fail
      generalize ((((((((wr.setCell ⟨w.heap.size, 0, none⟩ (.int .i64 (-1))).setCell ⟨w.heap.size, 1, none⟩ (.int .i64 (-1))).setCell ⟨w.heap.size, 2, none⟩ (.int .i64 (-1))).setCell ⟨w.heap.size, 3, none⟩ (.int .i64 (-1))).setCell ⟨w.heap.size, 4, none⟩ (.int .i64 (-1))).setCell ⟨w.heap.size, 5, none⟩ (.int .i64 (-1))).setCell ⟨w.heap.size, 6, none⟩ (.int .i64 (-1))).setCell ⟨w.heap.size, 7, none⟩ (.int .i64 (-1))) = W at HF ⊢
      have g0 := HF.out.1.cell (i := 0) rfl
      have g1 := HF.out.1.cell (i := 1) rfl
      have g2 := HF.out.1.cell (i := 2) rfl
      have g3 := HF.out.1.cell (i := 3) rfl
      have g4 := HF.out.1.cell (i := 4) rfl
      have g5 := HF.out.1.cell (i := 5) rfl
      have g6 := HF.out.1.cell (i := 6) rfl
      have g7 := HF.out.1.cell (i := 7) rfl
      simp only [i64V] at g0 g1 g2 g3 g4 g5 g6 g7
      exact bodyPost_ret (v := .agg #[.int .i64 (-1), .int .i64 (-1), .int .i64 (-1), .int .i64 (-1), .int .i64 (-1), .int .i64 (-1), .int .i64 (-1), .int .i64 (-1)]) (by simp [results, Tryd.results29, go_sem, g0, g1, g2, g3, g4, g5, g6, g7]) rfl ⟨rfl, HF.out.2⟩

theorem pairsH_count : ∀ (h : List Int) (r : Nat), (∀ x ∈ h, x = -1 ∨ (0 ≤ x ∧ x < (r : Int))) → pairsH h + h.count (-1) = h.length
  | [], _, _ => rfl
  | x :: h, r, hr => by
    have ih := pairsH_count h r fun y hy => hr y (List.mem_cons_of_mem _ hy)
    have e : pairsH (x :: h) = (if 0 ≤ x then 1 else 0) + pairsH h := rfl
    rw [e, List.length_cons]
    rcases hr x (List.mem_cons_self ..) with rfl | ⟨h0, _⟩
    · rw [if_neg (by omega), List.count_cons_self]; omega
    · rw [if_pos h0, List.count_cons_of_ne (by omega)]; omega
theorem pairH_start (xs : List Nat) (t : Nat) : PairH xs t 0 nobodyL ∧ pairsH nobodyL = 0 := by
  refine ⟨⟨rfl, fun x hx => .inl ?_, fun v => ?_, fun j hj h0 => ?_⟩, rfl⟩
  · simpa [nobodyL] using hx
  · rw [List.count_eq_zero_of_not_mem (by simp [nobodyL])]; omega
  · rcases (show j = 0 ∨ j = 1 ∨ j = 2 ∨ j = 3 ∨ j = 4 ∨ j = 5 ∨ j = 6 ∨ j = 7 by omega) with rfl | rfl | rfl | rfl | rfl | rfl | rfl | rfl <;> exact absurd h0 (by decide)
section
variable {xs : List Nat} {t r a1 : Nat} {h h1 : List Int}
theorem PairH.more (H : PairH xs t r h) : PairH xs t (r + 1) h := ⟨H.len, fun x hx => (H.rng x hx).imp id fun ⟨a, b⟩ => ⟨a, by omega⟩, H.one, H.near⟩
theorem PairH.next (H : PairH xs t r h) (hp : pairsH h = mxR (nearF xs) 8 r 0 (cT t)) (U : UpRel xs r t h true h1 a1) : PairH xs t (r + 1) h1 ∧ pairsH h1 = pairsH h + 1 ∧ pairsH h1 = mxR (nearF xs) 8 (r + 1) 0 (cT t) := by
  obtain ⟨u1, u2, u3⟩ := U.yes rfl
  have hrng : ∀ x ∈ h1, x = -1 ∨ (0 ≤ x ∧ x < ((r + 1 : Nat) : Int)) := fun x hx => by
    have hc := List.count_pos_iff.2 hx
    have e := u2 x
    by_cases hxr : x = (r : Int)
    · exact .inr ⟨by omega, by omega⟩
    · rw [if_neg hxr] at e
      have : x ∈ h := List.count_pos_iff.1 (by omega)
      exact (H.rng x this).imp id fun ⟨a, b⟩ => ⟨a, by omega⟩
  have hzero : h.count (r : Int) = 0 := List.count_eq_zero_of_not_mem fun hm => by
    have := H.rng _ hm
    omega
  have H1 : PairH xs t (r + 1) h1 := by
    refine ⟨u1, hrng, fun v => ?_, fun j hj h0 => ?_⟩
    · have e := u2 (v : Int)
      have := H.one v
      rw [if_neg (by omega)] at e
      by_cases hvr : (v : Int) = (r : Int)
      · rw [if_pos hvr, hvr, hzero] at e; rw [hvr]; omega
      · rw [if_neg hvr] at e; omega
    · by_cases hne : h1.getD j (-1) = h.getD j (-1)
      · rw [hne] at h0 ⊢; exact H.near j hj h0
      · obtain ⟨g1, _, g3⟩ := u3 j hj hne
        exact ⟨g3, g1⟩
  have hn : pairsH h1 = pairsH h + 1 := by
    have c1 := pairsH_count h1 (r + 1) hrng
    have c2 := pairsH_count h r H.rng
    have e := u2 (-1)
    rw [if_pos rfl, if_neg (by omega)] at e
    have := H.len
    omega
  refine ⟨H1, hn, ?_⟩
  have g1 := H1.le_mx
  have g2 := mxR_snoc_le (near := nearF xs) (n := 8) (r := r) (c := cT t)
  omega
theorem PairH.stay (H : PairH xs t r h) (hp : pairsH h = mxR (nearF xs) 8 r 0 (cT t)) (U : UpRel xs r t h false h1 a1) : h1 = h ∧ pairsH h = mxR (nearF xs) 8 (r + 1) 0 (cT t) := by
  obtain ⟨u1, u2, u3⟩ := U.no rfl
  exact ⟨u1, (stuck H u2 u3 hp).symm⟩
end

set_option maxRecDepth 100000 in
set_option maxHeartbeats 4000000 in
theorem howMany_any (len cap t : Nat) (A : Option Addr) (xs : List Nat) (w : World) (hA : WordsAt w w.heap.size A len xs) (hl : len ≤ 8) (hx : W8 xs) (ht : t < 256) :
    Calls Tryd.prog 26 #[.slice A len cap, .int .u32 t] w fun e w' => e = .returned (.int .i64 (mxR (nearF xs) 8 len 0 (cT t) : Nat)) ∧ Below w.heap.size w w' := by
  have HA := Lib.hid hA
  have HX := Lib.hid hx
  clear hA hx
  go_enter Tryd.func26, Tryd.ntmps26
  go_wp2_with fail
  refine (nobody_any _).mono ?_
  rintro e w1 ⟨rfl, hb1⟩
  have HB1 := Lib.hid hb1
  have HS : Hid (RowOf (w1.alloc (.cells (nobodyL.map i64V).toArray 49)) w1.heap.size 49 (nobodyL.map i64V) ∧ Below w.heap.size w (w1.alloc (.cells (nobodyL.map i64V).toArray 49))) := Lib.hid ⟨row_new w1 _ _, hb1.alloc hb1.size _⟩
  clear hb1
  have hsz := HB1.out.size
  have HAW : Hid (∀ wr, Below w.heap.size w wr → WordsAt wr w1.heap.size A len xs) := Lib.hid fun wr hb => (HA.out.below hb).more HB1.out.size
  go_wp2_with fail
  go_loopw [5, 12] (fun p j wr => ∃ (k : Nat) (h : List Int), k ≤ len ∧ j = .int .i64 k ∧ p = .int .i64 (pairsH h : Nat) ∧ pairsH h ≤ k ∧ Hid (PairH xs t k h ∧ pairsH h = mxR (nearF xs) 8 k 0 (cT t)) ∧ Hid (RowOf wr w1.heap.size 49 (h.map i64V) ∧ Below w.heap.size w wr)) (fun _ j _ => len - (intOf j).toNat)
  case atStart => exact ⟨0, nobodyL, Nat.zero_le _, rfl, rfl, Nat.zero_le _, Lib.hid ⟨(pairH_start xs t).1, rfl⟩, HS⟩
  case round =>
    clear HS
    obtain ⟨k, h, hk, rfl, rfl, hpk, HP, HR⟩ := hrel
    by_cases hlt : k < len
    · have hgl : w1.heap.size < wr.heap.size := HR.out.1.lt
      have HUP := Lib.hid (pairUp_any len cap w1.heap.size wr.heap.size A xs HX.out hgl 256 k t h (wr.alloc (.cells #[.int .u32 t] 31)) (by omega) ht hlt HP.out.1.len (fun x hx => (HP.out.1.rng x hx).imp id fun ⟨a, b⟩ => ⟨a, by omega⟩)
        (HAW.out _ (HR.out.2.alloc HR.out.2.size _)) (HR.out.1.alloc _) (row_new wr _ [.int .u32 (t : Int)]))
      have HBA : Hid (Below w.heap.size w (wr.alloc (.cells #[.int .u32 t] 31))) := Lib.hid (HR.out.2.alloc HR.out.2.size _)
      have HY : Hid (∀ h1 a1, UpRel xs k t h true h1 a1 → PairH xs t (k + 1) h1 ∧ pairsH h1 = pairsH h + 1 ∧ pairsH h1 = mxR (nearF xs) 8 (k + 1) 0 (cT t)) := Lib.hid fun h1 a1 hU => HP.out.1.next HP.out.2 hU
      have HN : Hid (∀ h1 a1, UpRel xs k t h false h1 a1 → h1 = h ∧ pairsH h = mxR (nearF xs) 8 (k + 1) 0 (cT t)) := Lib.hid fun h1 a1 hU => HP.out.1.stay HP.out.2 hU
      have HM := Lib.hid HP.out.1.more
      clear HP HR
      generalize hpe : pairsH h = p at hpk HY HN
      have HPE := Lib.hid hpe
      clear hpe
      go_wp2_with fail
      refine HUP.out.mono ?_
      rintro e w2 ⟨b1, h1, a1, rfl, g1, g2, g3, hU⟩
      have G1 := Lib.hid g1
      have G3 : Hid (Below w.heap.size w w2) := Lib.hid (HBA.out.trans (g3.mono (by exact hsz)))
      have GU := Lib.hid hU
      cases b1
      · have HE1 := Lib.hid (HN.out h1 a1 GU.out)
        clear g1 g2 g3 hU HUP HY HN
        go_wp2_with fail
        go_roundw
        case rel => exact ⟨k + 1, h, by omega, by go_num, by rw [HPE.out], by rw [HPE.out]; omega, Lib.hid ⟨HM.out, by rw [HPE.out]; exact HE1.out.2⟩, Lib.hid ⟨by rw [← HE1.out.1]; exact G1.out, G3.out⟩⟩
        case measure => simp [intOf]; omega
      · have HE1 := Lib.hid (HY.out h1 a1 GU.out)
        clear g1 g2 g3 hU HUP HY HN
        go_wp2_with fail
        go_roundw
        case rel => exact ⟨k + 1, h1, by omega, by go_num, by rw [HE1.out.2.1]; go_num, by rw [HE1.out.2.1]; omega, Lib.hid ⟨HE1.out.1, HE1.out.2.2⟩, Lib.hid ⟨G1.out, G3.out⟩⟩
        case measure => simp [intOf]; omega
    · obtain rfl : k = len := by omega
      have HE : Hid (pairsH h = mxR (nearF xs) 8 k 0 (cT t)) := Lib.hid HP.out.2
      have HB := Lib.hid HR.out.2
      clear HP HR
      go_wp2_with fail
      go_ret
      exact ⟨ret_int (by rw [HE.out]), HB.out⟩
end Go.Proofs.YtblbjiogojldhaaDoor
