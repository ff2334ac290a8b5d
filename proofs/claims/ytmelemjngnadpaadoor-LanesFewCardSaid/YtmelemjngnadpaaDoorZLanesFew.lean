/- LanesFew, walked: MENGER: no more ways apart than either node has edges; as many from either side; and a wall parts them. -/
import Derived.Test.YtmelemjngnadpaaDoorZWallLaneGo
import Derived.Test.YtmelemjngnadpaaDoorZApartGo
import Derived.Test.YtmelemjngnadpaaDoorZDegree
import Derived.Test.YtmelemjngnadpaaDoorZb3
namespace Go.Proofs.YtmelemjngnadpaaDoor
open Go.RowKit

theorem adj_deg (m : Nat) (i : Nat) : ∀ es : List E3, sizeP (adjE es i) m ≤ degN es i
  | [] => by rw [show sizeP (adjE [] i) m = 0 from sizeP_none fun j _ => rfl]; exact Nat.zero_le _
  | e :: r => by
    have ih := adj_deg m i r
    have hcons : ∀ j, adjE (e :: r) i j = true ↔ ((e.1 = (i : Int) ∧ e.2.1 = (j : Int)) ∨ (e.1 = (j : Int) ∧ e.2.1 = (i : Int))) ∨ adjE r i j = true := fun j => by
      unfold adjE
      rw [List.any_cons, Bool.or_eq_true]
      simp
    have hd : degN (e :: r) i = degN r i + (if touchB i e = true then 1 else 0) := by
      unfold degN
      rw [List.filter_cons]
      split <;> simp
    by_cases ht : touchB i e = true
    · rw [hd, if_pos ht]
      obtain ⟨j0, hj0⟩ : ∃ j0 : Int, ∀ j : Nat, ((e.1 = (i : Int) ∧ e.2.1 = (j : Int)) ∨ (e.1 = (j : Int) ∧ e.2.1 = (i : Int))) → (j : Int) = j0 := by
        by_cases h : e.1 = (i : Int)
        · exact ⟨e.2.1, fun j hj => by omega⟩
        · exact ⟨e.1, fun j hj => by omega⟩
      have h1 : sizeP (adjE (e :: r) i) m ≤ sizeP (fun j => decide ((j : Int) = j0)) m + sizeP (adjE r i) m := by
        have hp := sizeP_part (adjE (e :: r) i) (adjE r i) m
        have ha : sizeP (fun j => adjE (e :: r) i j && adjE r i j) m ≤ sizeP (adjE r i) m := sizeP_sub fun j _ h => by
          rw [Bool.and_eq_true] at h; exact h.2
        have hb : sizeP (fun j => adjE (e :: r) i j && !adjE r i j) m ≤ sizeP (fun j => decide ((j : Int) = j0)) m := sizeP_sub fun j _ h => by
          rw [Bool.and_eq_true, Bool.not_eq_true'] at h
          rcases (hcons j).1 h.1 with h2 | h2
          · exact decide_eq_true (hj0 j h2)
          · rw [h2] at h; cases h.2
        omega
      have h2 : sizeP (fun j => decide ((j : Int) = j0)) m ≤ 1 := by
        have h := sizeP_inj (n := m) (A := fun j => decide ((j : Int) = j0)) (B := fun j => decide (j = 0)) (m := fun _ => 0)
        rcases Nat.lt_or_ge 1 (sizeP (fun j => decide ((j : Int) = j0)) m) with h3 | h3
        · obtain ⟨x, hx, hxj, _⟩ := sizeP_two (t := j0.toNat) (show 2 ≤ sizeP (fun j => decide ((j : Int) = j0)) m by omega)
          have := of_decide_eq_true hxj
          omega
        · exact h3
      omega
    · rw [hd, if_neg ht]
      have h1 : sizeP (adjE (e :: r) i) m ≤ sizeP (adjE r i) m := sizeP_sub fun j _ h => by
        rcases (hcons j).1 h with h2 | h2
        · exfalso
          apply ht
          unfold touchB
          rw [Bool.or_eq_true, beq_iff_eq, beq_iff_eq]
          omega
        · exact h2
      omega
theorem degree_v (n i : Int) (A : Option Addr) (len cap : Nat) (es : List E3) (z : Int) (w : World) (hE : EdgesAt w w.heap.size A len es) (hl : len ≤ 45) (hz : (degN es i : Int) = z) :
    Calls Tryd.prog 9 #[.agg #[.int .i64 n, .slice A len cap], .int .i64 i] w fun e w' => e = .returned (.int .i64 z) ∧ Below w.heap.size w w' := by
  subst hz; exact degree_any n i A len cap es w hE hl
set_option maxRecDepth 100000 in
set_option maxHeartbeats 4000000 in
theorem lanesFew_any (n : Int) (A : Option Addr) (len cap : Nat) (es : List E3) (a b : Int) (w : World) (hE : EdgesAt w w.heap.size A len es) (hcap : len ≤ cap) (_ : ∀ e ∈ es, WfE e) (_ : (Lit.int .i64 n).wf = true) (_ : (Lit.int .i64 a).wf = true) (_ : (Lit.int .i64 b).wf = true) (hT : Tab w) :
    Calls Tryd.prog 4 #[.agg #[.int .i64 n, .slice A len cap], .int .i64 a, .int .i64 b] w fun e w' => e = .returned (.bool true) ∧ Below w.heap.size w w' := by
  have HX := Lib.hid (BoxG.start (n := n) (cap := cap) hE)
  have HT := Lib.hid (hT.go_ (w' := bx w n A len cap) ((Below.refl _ _).alloc (Nat.le_refl _) _))
  clear hE hT
  obtain ⟨v, hv⟩ : ∃ v, waysF n es a b = v := ⟨_, rfl⟩
  by_cases h0 : v = 0
  · subst h0
    obtain ⟨hgc, p0, p1, p2, p3, p4, hn⟩ := waysF_zero hv
    obtain ⟨g0, g1, g2, hg⟩ := good_of_gcheck hgc
    obtain ⟨m, rfl⟩ := Int.eq_ofNat_of_zero_le g0
    obtain ⟨i, rfl⟩ := Int.eq_ofNat_of_zero_le p0
    obtain ⟨j, rfl⟩ := Int.eq_ofNat_of_zero_le p2
    have hi : i < m := by omega
    have hj : j < m := by omega
    have hij : i ≠ j := by omega
    have hm10 : m ≤ 10 := by omega
    have hlen : len ≤ 45 := by have := HX.out.edges.1; omega
    have HV := Lib.hid hv
    have HV2 : Hid (waysF m es j i = 0) := Lib.hid (by rw [waysF_comm]; exact hv)
    have HG := Lib.hid hg
    have HNO : Hid (adjE es i j = false) := Lib.hid hn
    have HNO2 : Hid (adjE es j i = false) := Lib.hid (by rw [adjE_symm]; exact hn)
    clear hv hgc hg hn g2
    go_enter Tryd.func4, Tryd.ntmps4
    go_wp2_with fail
    refine (apart_good m i j A len cap es _ (by exact HX.out.edges) HV.out).mono ?_
    rintro e w1 ⟨ga, La, rfl, _, hW1, hP1, _, hWW1, hB⟩
    have HX1 := Lib.hid (HX.out.next hB)
    have HT1 := Lib.hid (HT.out.go_ hB)
    have k0 := HX1.out.c0
    have k1 := HX1.out.c1
    have HW1 := Lib.hid hW1
    have HP1 := Lib.hid hP1
    have HWW1 := Lib.hid hWW1
    clear hB hW1 hP1 hWW1
    go_wp2_with fail
    refine (apart_good m j i A len cap es _ (by exact HX1.out.edges) HV2.out).mono ?_
    rintro e w2 ⟨gb, Lb, rfl, _, hW2, hP2, _, hWW2, hB⟩
    have HX2 := Lib.hid (HX1.out.next hB)
    have HT2 := Lib.hid (HT1.out.go_ hB)
    have e0 := HX2.out.c0
    have e1 := HX2.out.c1
    have HW2 := Lib.hid hW2
    have HP2 := Lib.hid hP2
    have HWW2 := Lib.hid hWW2
    clear hB hW2 hP2 hWW2 k0 k1
    go_wp2_with fail
    refine (wallL_good m i j A len cap es _ (by exact HX2.out.edges) HV.out (by exact HT2.out)).mono ?_
    rintro e w3 ⟨⟨best, rfl, hL⟩, hB⟩
    have HX3 := Lib.hid (HX2.out.next hB)
    have f0 := HX3.out.c0
    have f1 := HX3.out.c1
    obtain ⟨hbl, hok, _, _⟩ := hL.some rfl
    obtain ⟨_, _, _, hall⟩ := least_wall HG.out hm10 hi hj hij HNO.out hL
    have hb32 : best < 4294967296 := Nat.lt_of_lt_of_le (pow10 hm10 hbl) (by decide)
    have HALL := Lib.hid hall
    have HOK := Lib.hid hok
    clear hB hL hbl hok hall e0 e1
    have hsame : La.length = Lb.length ∧ sizeW best = La.length ∧ La.length ≤ degN es i ∧ La.length ≤ degN es j := by
      have hfar := adjE_far HG.out
      have hsym : ∀ x y, adjE es x y = adjE es y x := fun x y => adjE_symm es x y
      have hA1 : ∀ l, l ∈ La.map (fun l => i :: (l ++ [j])) → WayL (adjE es) i j l := fun l hl => by
        obtain ⟨l', hl', rfl⟩ := List.mem_map.1 hl
        exact (HW1.out l' hl').1
      have hA2 : ∀ l, l ∈ Lb.map (fun l => j :: (l ++ [i])) → WayL (adjE es) j i l := fun l hl => by
        obtain ⟨l', hl', rfl⟩ := List.mem_map.1 hl
        exact (HW2.out l' hl').1
      obtain ⟨W1, hw1, hs1⟩ := HWW1.out
      obtain ⟨W2, hw2, hs2⟩ := HWW2.out
      have h1 := (hw2.back hsym).ge hA1 HP1.out
      have h2 := (hw1.back hsym).ge hA2 HP2.out
      have h3 := ways_near hij HNO.out hfar hA1 HP1.out
      have h4 := ways_near (Ne.symm hij) HNO2.out hfar hA2 HP2.out
      have h5 := adj_deg m i es
      have h6 := adj_deg m j es
      have h7 := HALL.out _ W1 hA1 HP1.out hw1 (by rw [List.length_map]; exact hs1)
      rw [List.length_map] at h1 h2 h3 h4 h7
      omega
    obtain ⟨hs1, hs2, hs3, hs4⟩ := hsame
    rw [← hs1]
    have HSZ : Hid ((sizeW best : Int) = (La.length : Int)) := Lib.hid (by rw [hs2])
    generalize La.length = r at *
    generalize hda : degN es i = da at *
    generalize hdb : degN es j = db at *
    have HDA : Hid ((degN es i : Int) = (da : Int)) := Lib.hid (by rw [hda])
    have HDB : Hid ((degN es j : Int) = (db : Int)) := Lib.hid (by rw [hdb])
    clear hs1 hs2 hda hdb
    go_wp2_with fail
    refine (waysCheck_v m 0 A len cap es i j _ (by exact HX3.out.edges) hcap HV.out).mono ?_
    rintro e w4 ⟨rfl, hB⟩
    have HX4 := Lib.hid (HX3.out.next hB)
    have d0 := HX4.out.c0
    have d1 := HX4.out.c1
    clear hB f0 f1
    go_wp2_with fail
    refine (degree_v m i A len cap es da _ (by exact HX4.out.edges) hlen HDA.out).mono ?_
    rintro e w5 ⟨rfl, hB⟩
    have HX5 := Lib.hid (HX4.out.next hB)
    have c0 := HX5.out.c0
    have c1 := HX5.out.c1
    clear hB d0 d1
    go_wp2_with fail
    refine (degree_v m j A len cap es db _ (by exact HX5.out.edges) hlen HDB.out).mono ?_
    rintro e w6 ⟨rfl, hB⟩
    have HX6 := Lib.hid (HX5.out.next hB)
    have b0 := HX6.out.c0
    have b1 := HX6.out.c1
    clear hB c0 c1
    go_wp2_with fail
    refine (size_v best r hb32 HSZ.out _).mono ?_
    rintro e w7 ⟨rfl, rfl⟩
    go_wp2_with fail
    refine (parted_any m best i j true A len cap es _ (by exact HX6.out.edges) hm10 hlen (InE.of_good HG.out) hb32 hi hj HOK.out.2.2).mono ?_
    rintro e w8 ⟨rfl, hB⟩
    have HX8 := Lib.hid (HX6.out.next hB)
    clear hB b0 b1
    go_wp2_with fail
    refine (bit_nat best i false hb32 (by omega) HOK.out.1 _).mono ?_
    rintro e w9 ⟨rfl, rfl⟩
    go_wp2_with fail
    refine (bit_nat best j false hb32 (by omega) HOK.out.2.1 _).mono ?_
    rintro e w10 ⟨rfl, rfl⟩
    go_wp2
    go_ret
    exact ⟨rfl, HX8.out.below⟩
  · have HV := Lib.hid hv
    have HV2 : Hid (waysF n es b a = v) := Lib.hid (by rw [waysF_comm]; exact hv)
    have HV0 := Lib.hid h0
    have hb0 : (v != 0) = true := by simpa using h0
    clear hv h0
    go_enter Tryd.func4, Tryd.ntmps4
    go_wp2_with fail
    refine (apart_bad n v A len cap es a b _ (by exact HX.out.edges) HV.out HV0.out).mono ?_
    rintro e w1 ⟨rfl, hB⟩
    have HX1 := Lib.hid (HX.out.next hB)
    have k0 := HX1.out.c0
    have k1 := HX1.out.c1
    clear hB
    go_wp2_with fail
    refine (apart_bad n v A len cap es b a _ (by exact HX1.out.edges) HV2.out HV0.out).mono ?_
    rintro e w2 ⟨rfl, hB⟩
    have HX2 := Lib.hid (HX1.out.next hB)
    have e0 := HX2.out.c0
    have e1 := HX2.out.c1
    clear hB k0 k1
    go_wp2_with fail
    refine (wallL_bad n v A len cap es a b _ (by exact HX2.out.edges) HV.out HV0.out).mono ?_
    rintro e w3 ⟨rfl, hB⟩
    have HX3 := Lib.hid (HX2.out.next hB)
    have f0 := HX3.out.c0
    have f1 := HX3.out.c1
    clear hB e0 e1
    go_wp2_with fail
    refine (waysCheck_v n v A len cap es a b _ (by exact HX3.out.edges) hcap HV.out).mono ?_
    rintro e w4 ⟨rfl, hB⟩
    have HX4 := Lib.hid (HX3.out.next hB)
    clear hB f0 f1
    go_wp2
    go_ret
    exact ⟨rfl, HX4.out.below⟩
end Go.Proofs.YtmelemjngnadpaaDoor
