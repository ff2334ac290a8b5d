/- The reference's Flows: is it a flow, and of which value? -/
import Derived.Test.YtmlmnmphmghdlaaValueGo
import Derived.Test.YtmlmnmphmghdlaaRangeAll
import Derived.RegionTactic
import Derived.BigRegion
import Derived.Deep.OwnRows
namespace Go.Proofs.Ytmlmnmphmghdlaa
open Go.RowKit

/-- What goes on each arc, by a list. -/
def goesF (xs : List Int) (k : Nat) : Int := xs.getD k 0
/-- Is it a flow, as far as it has been asked? -/
def FlowTo (N : NetP) (s t : Nat) (f : Nat → Int) (i : Nat) : Prop := MayP N f ∧ ∀ j, j < i → j ≠ s → j ≠ t → outP N f j = 0
def FlowsOut (N : NetP) (xs : List Int) (l2 len : Nat) (s t : Nat) (w : World) (e : Ending) (w' : World) : Prop :=
  (∃ v b, e = .returned (.tuple #[.int .i64 v, .bool b]) ∧ (b = true → l2 = len ∧ FlowP N s t (goesF xs) v) ∧ (l2 = len → ∀ v', FlowP N s t (goesF xs) v' → b = true ∧ v' = v)) ∧ Below w.heap.size w w'
theorem outTo_abs2 {n : Int} {es : List A4} {f : Nat → Int} (hG : GoodN n es) (i : Nat) {k : Nat} (hk : k ≤ es.length) (hM : ∀ j, j < k → 0 ≤ f j ∧ f j ≤ (netP n es).mo j) : -31457280 ≤ sumI (outTerm (netP n es) f i) k ∧ sumI (outTerm (netP n es) f i) k ≤ 31457280 := by
  have hl := hG.len
  obtain ⟨h1, h2⟩ := sumI_abs (h := outTerm (netP n es) f i) (c := 1048576) k fun j hj => by
    have h3 := hM j hj
    have h4 := netP_moG hG (Nat.lt_of_lt_of_le hj hk)
    unfold outTerm
    split <;> split <;> omega
  omega

def MayAt (N : NetP) (f : Nat → Int) (k : Nat) : Prop := 0 ≤ f k ∧ f k ≤ N.mo k
/-- What holds between two arcs. -/
structure FlowsW (m : Nat) (A : Option Addr) (len cap : Nat) (es : List A4) (A2 : Option Addr) (xs : List Int) (O : Nat) (w : World) (k : Nat) (wr : World) : Prop where
  arcs : ArcsAt wr w.heap.size A len es
  goes : IntsAt wr w.heap.size A2 len xs
  box : wr.cell? ⟨w.heap.size, 0, none⟩ = some (.int .i64 m)
  row : RowI wr O m (fun i => sumI (outTerm (netP (m : Int) es) (goesF xs) i) k)
  may : ∀ j, j < k → 0 ≤ goesF xs j ∧ goesF xs j ≤ (netP (m : Int) es).mo j
  below : Below w.heap.size w wr
  size : O < wr.heap.size
section
variable {m len cap O k : Nat} {A A2 : Option Addr} {es : List A4} {xs : List Int} {w wr W : World}
theorem FlowsW.next (h : FlowsW m A len cap es A2 xs O w k wr) (hb : Below wr.heap.size wr W) (hO : w.heap.size < wr.heap.size) : FlowsW m A len cap es A2 xs O w k W :=
  ⟨h.arcs.below (hb.mono (by omega)), h.goes.below (hb.mono (by omega)), (hb.cell (p := ⟨w.heap.size, 0, none⟩) hO).trans h.box, h.row.of_block (hb.block _ h.size), h.may, h.below.trans (hb.mono h.below.size), Nat.lt_of_lt_of_le h.size hb.size⟩
theorem FlowsW.drew (h : FlowsW m A len cap es A2 xs O w k wr) : FlowsW m A len cap es A2 xs O w k wr.drew := ⟨h.arcs, h.goes, h.box, h.row, h.may, h.below.drew, h.size⟩
theorem FlowsW.drewN (h : FlowsW m A len cap es A2 xs O w k wr) (z : Nat) : FlowsW m A len cap es A2 xs O w k (wr.drewN z) := ⟨h.arcs, h.goes, h.box, h.row, h.may, below_drewN h.below z, h.size⟩
theorem FlowsW.move (h : FlowsW m A len cap es A2 xs O w k wr) (hO : w.heap.size < O) (hb : But (fun b => b = O) wr W) (hr : RowI W O m (fun i => sumI (outTerm (netP (m : Int) es) (goesF xs) i) (k + 1)))
    (hm : 0 ≤ goesF xs k ∧ goesF xs k ≤ (netP (m : Int) es).mo k) : FlowsW m A len cap es A2 xs O w (k + 1) W := by
  have hs := h.size
  have hB : Below (w.heap.size + 1) wr W := hb.below (by omega) (fun b hb => by omega)
  refine ⟨h.arcs.below (hB.mono (by omega)), h.goes.below (hB.mono (by omega)), (hB.cell (p := ⟨w.heap.size, 0, none⟩) (Nat.lt_succ_self _)).trans h.box, hr, fun j hj => ?_, h.below.trans (hB.mono (by omega)), Nat.lt_of_lt_of_le hs hb.size⟩
  by_cases hjk : j = k
  · subst hjk; exact hm
  · exact h.may j (by omega)
theorem row_next {N : NetP} {f : Nat → Int} {u v k : Nat} {x : Int} (hu : N.fr k = u) (hv : N.to k = v) (hx : f k = x) (hne : u ≠ v) (i : Nat) :
    updI (updI (fun i => sumI (outTerm N f i) k) u (sumI (outTerm N f u) k + x)) v (sumI (outTerm N f v) k - x) i = sumI (outTerm N f i) (k + 1) := by
  simp only [sumI, outTerm, hu, hv, hx, updI]
  by_cases h1 : i = v
  · subst h1
    rw [if_pos rfl, if_neg hne, if_pos rfl]; omega
  · rw [if_neg h1]
    by_cases h2 : i = u
    · subst h2
      rw [if_pos rfl, if_pos rfl, if_neg (fun e => h1 e.symm)]; omega
    · rw [if_neg h2, if_neg (fun e => h2 e.symm), if_neg (fun e => h1 e.symm)]; omega
end

set_option maxRecDepth 100000 in
set_option maxHeartbeats 4000000 in
theorem flows_any (m : Nat) (A : Option Addr) (len cap : Nat) (es : List A4) (A2 : Option Addr) (l2 cap2 : Nat) (xs : List Int) (s t : Nat) (w : World)
    (hE : ArcsAt w w.heap.size A len es) (hI : IntsAt w w.heap.size A2 l2 xs) (hl2 : l2 ≤ 9223372036854775807) (hG : GoodN (m : Int) es) (hs : s < m) (ht : t < m) :
    Calls Try.prog 10 #[.agg #[.int .i64 m, .slice A len cap], .slice A2 l2 cap2, .int .i64 s, .int .i64 t] w (FlowsOut (netP (m : Int) es) xs l2 len s t w) := by
  have HE := Lib.hid hE
  have HI := Lib.hid hI
  have HG := Lib.hid hG
  have hm10 : m ≤ 10 := by have := hG.n1; omega
  have hl30 : len ≤ 30 := by have := hG.len; have := hE.1; omega
  have hlen := Lib.hid hE.1
  clear hE hI hG
  by_cases hl : l2 = len
  · subst hl
    have hmk := fun W => run_make_row' (P := Try.prog) 25 2 (.int .i64 0) 8 Try.underlying25 (by kernel_rfl) rfl .i64 .i64 m (by omega) (by omega) W
    go_enter Try.func10, Try.ntmps10
    go_wp2
    clear hmk
    obtain ⟨W0, hW0⟩ : ∃ W0, ((w.alloc (.cells #[.int .i64 m, .slice A l2 cap] 24)).alloc (.cells (madeCells #[.int .i64 0] m) 2)) = W0 := ⟨_, rfl⟩
    rw [hW0]
    have HST : Hid (FlowsW m A l2 cap es A2 xs (w.heap.size + 1) w 0 W0) := by
      rw [← hW0]
      refine Lib.hid ⟨(HE.out.alloc (Nat.le_refl _) _).alloc (by simp) _, (HI.out.alloc (Nat.le_refl _) _).alloc (by simp) _, ?_, ⟨madeCells #[.int .i64 0] m, ?_, fun j hj => by simp [madeCells, hj, Nat.mod_one, sumI]⟩, fun j hj => by omega, ((Below.refl _ _).alloc (Nat.le_refl _) _).alloc (by simp) _, by simp⟩
      · rw [World.cell?_alloc_lt _ _ _ (by simp)]
        exact cell_of_row _ _ 0 _ _ (0, 0) (MapKept.heap_alloc w _).1
      · have := (MapKept.heap_alloc (w.alloc (.cells #[.int .i64 m, .slice A l2 cap] 24)) (.cells (madeCells #[.int .i64 0] m) 2)).1
        rwa [World.size_alloc] at this
    clear hW0
    go_loopw [26] (fun b wr => ∃ k : Nat, k ≤ l2 ∧ b = .int .i64 k ∧ Hid (FlowsW m A l2 cap es A2 xs (w.heap.size + 1) w k wr)) (fun b _ => l2 - (intOf b).toNat)
    case atStart => exact ⟨0, Nat.zero_le _, rfl, HST⟩
    case round =>
      obtain ⟨k, hk, rfl, HX⟩ := hrel
      by_cases hlt : k < l2
      · obtain ⟨b, off, ⟨a0, a1, a2, a3⟩, rfl, hb, hx, q0, q1, q2, q3⟩ := HX.out.arcs.at_ hlt
        obtain ⟨b2, off2, x, rfl, hb2, hx2, q4⟩ := HX.out.goes.at_ hlt
        obtain ⟨e0, e1, e2, l0, l1, l2', m0, m1⟩ := netP_arcG HG.out hx
        simp only at e0 e1 e2
        rw [e0] at q0
        rw [e1] at q1
        rw [e2] at q2
        have hn : (netP (m : Int) es).n = m := by simp [netP]
        rw [hn] at l0 l1
        have hgx : goesF xs k = x := by unfold goesF; rw [List.getD_eq_getElem?_getD, hx2]; rfl
        have HGX := Lib.hid hgx
        have hkes : k < es.length := by have := hlen.out; omega
        have HK := Lib.hid hkes
        have hsz := HX.out.below.size
        have hOs := HX.out.size
        have hbw : b < wr.heap.size := by omega
        have hbw2 : b2 < wr.heap.size := by omega
        have ik0 : (0 : Int) ≤ (k : Int) := by omega
        have ik1 : (k : Int) < (l2 : Int) := by omega
        have HXa := Lib.hid (HX.out.next (W := wr.alloc (.cells #[.int .i64 ((netP (m : Int) es).fr k), .int .i64 ((netP (m : Int) es).to k), .int .i64 ((netP (m : Int) es).mo k), .int .i64 a3] 31)) ((Below.refl _ _).alloc (Nat.le_refl _) _) (by omega))
        have HU : Hid (∃ u, (netP (m : Int) es).fr k = u) := Lib.hid ⟨_, rfl⟩
        by_cases hx0 : x < 0
        · have HO : Hid (∀ v', ¬ FlowP (netP (m : Int) es) s t (goesF xs) v') := Lib.hid fun v' h => by have := (h.may k HK.out).1; have := HGX.out; omega
          clear hx hx2 hgx hkes e0 e1 e2 hn
          generalize (netP (m : Int) es).fr k = u at *
          generalize (netP (m : Int) es).to k = v at *
          generalize (netP (m : Int) es).mo k = mk at *
          go_wp2_with fail
          go_region
          all_goals
            go_wp2
            go_ret2
            exact ⟨⟨0, false, rfl, (fun h => by cases h), fun _ v' h => absurd h (HO.out v')⟩, HXa.out.below.drew⟩
        · by_cases hx1 : (netP (m : Int) es).mo k < x
          · have HO : Hid (∀ v', ¬ FlowP (netP (m : Int) es) s t (goesF xs) v') := Lib.hid fun v' h => by have := (h.may k HK.out).2; have := HGX.out; omega
            clear hx hx2 hgx hkes e0 e1 e2 hn
            generalize (netP (m : Int) es).fr k = u at *
            generalize (netP (m : Int) es).to k = v at *
            generalize (netP (m : Int) es).mo k = mk at *
            go_wp2_with fail
            go_quiet (fail)
            go_wp2
            go_ret2
            exact ⟨⟨0, false, rfl, (fun h => by cases h), fun _ v' h => absurd h (HO.out v')⟩, below_drewN HXa.out.below _⟩
          · have hX : Hid (FlowsW m (some ⟨b, off, none⟩) l2 cap es (some ⟨b2, off2, none⟩) xs (w.heap.size + 1) w k wr) := HX
            have HMAY : Hid (MayAt (netP (m : Int) es) (goesF xs) k) := Lib.hid ⟨by have := HGX.out; omega, by have := HGX.out; omega⟩
            have hmx : x ≤ 1048576 := by omega
            have r0 := HXa.out.row.cell l0
            have r1 := HXa.out.row.cell l1
            have hRN : Hid (∀ i, updI (updI (fun i => sumI (outTerm (netP (m : Int) es) (goesF xs) i) k) ((netP (m : Int) es).fr k) (sumI (outTerm (netP (m : Int) es) (goesF xs) ((netP (m : Int) es).fr k)) k + x)) ((netP (m : Int) es).to k) (sumI (outTerm (netP (m : Int) es) (goesF xs) ((netP (m : Int) es).to k)) k - x) i = sumI (outTerm (netP (m : Int) es) (goesF xs) i) (k + 1)) := Lib.hid (row_next rfl rfl HGX.out l2')
            have HROWa := Lib.hid HXa.out.row
            have hmk : ∀ j, j < k → 0 ≤ goesF xs j ∧ goesF xs j ≤ (netP (m : Int) es).mo j := HX.out.may
            obtain ⟨s1, s2⟩ := outTo_abs2 HG.out ((netP (m : Int) es).fr k) (Nat.le_of_lt HK.out) hmk
            obtain ⟨s3, s4⟩ := outTo_abs2 HG.out ((netP (m : Int) es).to k) (Nat.le_of_lt HK.out) hmk
            clear hx hx2 hgx hkes e0 e1 e2 hn hmk
            generalize (netP (m : Int) es).fr k = u at *
            generalize (netP (m : Int) es).to k = v at *
            generalize (netP (m : Int) es).mo k = mk at *
            generalize hhu : sumI (outTerm (netP (m : Int) es) (goesF xs) u) k = hu at *
            generalize hhv : sumI (outTerm (netP (m : Int) es) (goesF xs) v) k = hv at *
            clear hhu hhv
            go_wp2_with fail
            go_quiet (fail)
            generalize hnq : ((wr.alloc (.cells #[.int .i64 u, .int .i64 v, .int .i64 mk, .int .i64 a3] 31)).drewN _) = Wb
            have HXb : Hid (FlowsW m (some ⟨b, off, none⟩) l2 cap es (some ⟨b2, off2, none⟩) xs (w.heap.size + 1) w k Wb) := Lib.hid (by rw [← hnq]; exact HXa.out.drewN _)
            have p0 : Wb.cell? ⟨wr.heap.size, 0, none⟩ = some (.int .i64 u) := by rw [← hnq]; exact cell_of_row _ _ 0 _ _ (0, 0) (MapKept.heap_alloc wr _).1
            have p1 : Wb.cell? ⟨wr.heap.size, 1, none⟩ = some (.int .i64 v) := by rw [← hnq]; exact cell_of_row _ _ 1 _ _ (0, 0) (MapKept.heap_alloc wr _).1
            have p2 : Wb.cell? ⟨w.heap.size + 1, u, none⟩ = some (.int .i64 hu) := by rw [← hnq]; exact r0
            have p3 : Wb.cell? ⟨w.heap.size + 1, v, none⟩ = some (.int .i64 hv) := by rw [← hnq]; exact r1
            have p4 : Wb.cell? ⟨b2, off2 + k, none⟩ = some (.int .i64 x) := by rw [← hnq]; exact (World.cell?_alloc_lt _ _ _ hbw2).trans q4
            have p5 := HXb.out.row.frozen u
            have p6 := HXb.out.row.frozen v
            have hszb : wr.heap.size < Wb.heap.size := by rw [← hnq]; simp
            clear r0 r1 hnq q0 q1 q2 q3 q4
            have HBUT : Hid (∀ y z, But (fun b => b = w.heap.size + 1) Wb ((Wb.setCell ⟨w.heap.size + 1, u, none⟩ y).setCell ⟨w.heap.size + 1, v, none⟩ z).drew.drew) := Lib.hid fun y z => (((But.refl (fun b => b = w.heap.size + 1) Wb).set_ (p := ⟨w.heap.size + 1, u, none⟩) rfl y).set_ (p := ⟨w.heap.size + 1, v, none⟩) rfl z).drew.drew
            have d1 : wr.heap.size ≠ w.heap.size + 1 := by omega
            have d2 : b2 ≠ w.heap.size + 1 := by omega
            have d3 : u ≠ v := l2'
            have d4 : v ≠ u := fun e => l2' e.symm
            go_wp2_with fail
            go_region
            all_goals
              go_wp2_with fail
              go_region
              all_goals
                go_wp2_with fail
                refine ⟨⟨k + 1, by omega, by go_num, Lib.hid (HXb.out.move (by omega) (HBUT.out _ _) ((((HXb.out.row.set_ u _).set_ v _).congr fun j _ => hRN.out j).of_block rfl) HMAY.out)⟩, ?_⟩
                simp [intOf] <;> omega
      · obtain rfl : k = l2 := by omega
        have HO : Hid (∀ i, sumI (outTerm (netP (m : Int) es) (goesF xs) i) k = outP (netP (m : Int) es) (goesF xs) i) := Lib.hid fun i => by rw [outP_eq]; show _ = sumI _ es.length; rw [hlen.out]
        have HM : Hid (MayP (netP (m : Int) es) (goesF xs)) := Lib.hid fun j hj => HX.out.may j (by have h : j < es.length := hj; have := hlen.out; omega)
        have HROW : Hid (∀ i, i < m → wr.cell? ⟨w.heap.size + 1, i, none⟩ = some (.int .i64 (outP (netP (m : Int) es) (goesF xs) i))) := Lib.hid fun i hi => by rw [← HO.out]; exact HX.out.row.cell hi
        have kb := HX.out.box
        have ks := HROW.out s hs
        have HBE : Hid (Below w.heap.size w wr) := Lib.hid HX.out.below
        go_wp2
        go_loop [13] (fun b => ∃ i : Nat, i ≤ m ∧ b = .int .i64 i ∧ Hid (∀ j, j < i → j ≠ s → j ≠ t → outP (netP (m : Int) es) (goesF xs) j = 0)) (fun b => m - (intOf b).toNat)
        case atStart => exact ⟨0, Nat.zero_le _, rfl, Lib.hid fun j hj => by omega⟩
        case round =>
          obtain ⟨i, hi, rfl, HZ⟩ := hrel
          by_cases him : i < m
          · have ki := HROW.out i him
            have ii0 : (0 : Int) ≤ (i : Int) := by omega
            have ii1 : (i : Int) < (m : Int) := by omega
            by_cases h1 : i = s
            · subst h1
              have HZ2 : Hid (∀ j, j < i + 1 → j ≠ i → j ≠ t → outP (netP (m : Int) es) (goesF xs) j = 0) := Lib.hid fun j hj h1 h2 => HZ.out j (by omega) h1 h2
              go_wp2
              go_round
              case rel => exact ⟨i + 1, by omega, by go_num, HZ2⟩
              case measure => (simp [intOf] <;> omega)
            · have g1 : ((i : Int) != (s : Int)) = true := by simp; omega
              by_cases h2 : i = t
              · subst h2
                have HZ2 : Hid (∀ j, j < i + 1 → j ≠ s → j ≠ i → outP (netP (m : Int) es) (goesF xs) j = 0) := Lib.hid fun j hj h1 h2 => HZ.out j (by omega) h1 h2
                go_wp2
                go_round
                case rel => exact ⟨i + 1, by omega, by go_num, HZ2⟩
                case measure => (simp [intOf] <;> omega)
              · have g2 : ((i : Int) != (t : Int)) = true := by simp; omega
                by_cases h3 : outP (netP (m : Int) es) (goesF xs) i = 0
                · have HZ2 : Hid (∀ j, j < i + 1 → j ≠ s → j ≠ t → outP (netP (m : Int) es) (goesF xs) j = 0) := Lib.hid fun j hj h1 h2 => by
                    by_cases hji : j = i
                    · subst hji; exact h3
                    · exact HZ.out j (by omega) h1 h2
                  rw [h3] at ki
                  clear h3
                  go_wp2
                  go_round
                  case rel => exact ⟨i + 1, by omega, by go_num, HZ2⟩
                  case measure => (simp [intOf] <;> omega)
                · have HNO : Hid (∀ v', ¬ FlowP (netP (m : Int) es) s t (goesF xs) v') := Lib.hid fun v' h => h3 (h.bal i (by simpa [netP] using him) h1 h2)
                  have g3 : (outP (netP (m : Int) es) (goesF xs) i != 0) = true := by simpa using h3
                  clear h3
                  go_wp2
                  go_ret2
                  exact ⟨⟨0, false, rfl, (fun h => by cases h), fun _ v' h => absurd h (HNO.out v')⟩, HBE.out⟩
          · obtain rfl : i = m := by omega
            have HF : Hid (FlowP (netP (i : Int) es) s t (goesF xs) (outP (netP (i : Int) es) (goesF xs) s)) := Lib.hid ⟨HM.out, fun j hj h1 h2 => HZ.out j (by simpa [netP] using hj) h1 h2, rfl⟩
            go_wp2
            go_ret2
            exact ⟨⟨_, true, rfl, fun _ => ⟨rfl, HF.out⟩, fun _ v' h => ⟨rfl, h.val.symm⟩⟩, HBE.out⟩
  · have hne : ((l2 : Int) != (len : Int)) = true := by simp; omega
    go_enter Try.func10, Try.ntmps10
    go_wp2
    go_ret2
    exact ⟨⟨0, false, rfl, (fun h => by cases h), fun h => absurd h hl⟩, (Below.refl _ _).alloc (Nat.le_refl _) _⟩
end Go.Proofs.Ytmlmnmphmghdlaa
