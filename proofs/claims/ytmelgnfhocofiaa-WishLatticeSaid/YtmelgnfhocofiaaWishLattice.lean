/- CONWAY, KNUTH: the better one of both. -/
import Derived.Test.YtmelgnfhocofiaaKeepWishes
import Derived.Test.YtmelgnfhocofiaaKeepAhead
import Derived.Test.YtmelgnfhocofiaaWishAllGo
import Derived.Test.YtmelgnfhocofiaaAppRows
import Derived.Deep.QuietTactic
namespace Go.Proofs.Ytmelgnfhocofiaa
open Go.RowKit

/-- What is read in a round: the box, the wishes, both pairings, and the better one so far. -/
structure LatW (w : World) (A1 : Option Addr) (n c1 : Nat) (A2 : Option Addr) (c2 : Nat) (Ls Rs : List (List Int)) (B : Nat) (D1 D2 : Option Addr) (xs ys : List Int) (A : Option Addr) (k c : Nat) (l : List Int) (wr : World) : Prop where
  left : SideAt wr B A1 n c1 Ls
  right : SideAt wr B A2 n c2 Rs
  below : Below w.heap.size w wr
  box : Below (bxS w A1 n c1 A2 n c2).heap.size (bxS w A1 n c1 A2 n c2) wr
  one : IntsAt wr B D1 n xs
  two : IntsAt wr B D2 n ys
  big : B ≤ wr.heap.size
  lo : (bxS w A1 n c1 A2 n c2).heap.size ≤ B
  own : wr.ownsRow B 3 1 (.slice A k c) k ((l.take k).map (Value.int .i64))
section
variable {w : World} {A1 : Option Addr} {n c1 : Nat} {A2 : Option Addr} {c2 : Nat} {Ls Rs : List (List Int)} {B : Nat} {D1 D2 : Option Addr} {xs ys : List Int} {A : Option Addr} {k c : Nat} {l : List Int} {wr : World}
theorem LatW.drewN (h : LatW w A1 n c1 A2 c2 Ls Rs B D1 D2 xs ys A k c l wr) (q : Nat) : LatW w A1 n c1 A2 c2 Ls Rs B D1 D2 xs ys A k c l (wr.drewN q) := ⟨h.left.drewN q, h.right.drewN q, below_drewN h.below q, below_drewN h.box q, h.one.drewN q, h.two.drewN q, h.big, h.lo, h.own⟩
theorem LatW.k0 (h : LatW w A1 n c1 A2 c2 Ls Rs B D1 D2 xs ys A k c l wr) : wr.cell? ⟨w.heap.size, 0, none⟩ = some (.slice A1 n c1) := by
  rw [h.box.cell (p := ⟨w.heap.size, 0, none⟩) (by simp [bxS])]; exact cell_of_row _ _ 0 _ _ (0, 0) (MapKept.heap_alloc w _).1
theorem LatW.k1 (h : LatW w A1 n c1 A2 c2 Ls Rs B D1 D2 xs ys A k c l wr) : wr.cell? ⟨w.heap.size, 1, none⟩ = some (.slice A2 n c2) := by
  rw [h.box.cell (p := ⟨w.heap.size, 1, none⟩) (by simp [bxS])]; exact cell_of_row _ _ 1 _ _ (0, 0) (MapKept.heap_alloc w _).1
set_option maxRecDepth 100000 in
theorem LatW.next {w6 : World} {A5 : Option Addr} {k5 c5 : Nat} (h : LatW w A1 n c1 A2 c2 Ls Rs B D1 D2 xs ys A k c l wr) (hb : Below B wr w6) (ho : w6.ownsRow B 3 1 (.slice A5 k5 c5) k5 ((l.take k5).map (Value.int .i64))) : LatW w A1 n c1 A2 c2 Ls Rs B D1 D2 xs ys A5 k5 c5 l w6 :=
  ⟨h.left.below hb, h.right.below hb, h.below.trans (hb.mono (by have := h.lo; simp [bxS] at this; omega)), h.box.trans (hb.mono h.lo), h.one.below hb, h.two.below hb, Nat.le_trans h.big hb.size, h.lo, ho⟩
set_option maxRecDepth 100000 in
/-- One more number. -/
theorem LatW.put {w6 : World} {v' : Value} {z : Int} (h : LatW w A1 n c1 A2 c2 Ls Rs B D1 D2 xs ys A k c l wr) (hk : k < l.length) (hz : l.getD k (-1) = z) (ho : w6.ownsRow B 3 1 v' (k + 1) (((l.map (Value.int .i64)).take k) ++ [.int .i64 z])) (hg : (wr.alloc (.cells #[.int .i64 z] 3)).grownBy w6 (Value.slice A k c).ownBlock) :
    ∃ A5 c5, v' = .slice A5 (k + 1) c5 ∧ Hid (LatW w A1 n c1 A2 c2 Ls Rs B D1 D2 xs ys A5 (k + 1) c5 l w6) := by
  have hbb : Below B wr w6 := ((Below.refl _ wr).alloc h.big _).grown hg (by have := h.big; simp; omega) (fun g hg => own_base h.own g hg)
  obtain ⟨A5, c5, rfl⟩ := own_form1 ho
  refine ⟨A5, c5, rfl, Lib.hid (h.next hbb ?_)⟩
  have e : (l.take (k + 1)).map (Value.int .i64) = (l.map (Value.int .i64)).take k ++ [.int .i64 z] := by
    rw [List.take_add_one, List.getElem?_eq_getElem hk, List.map_append, List.map_take]
    have : l[k]'hk = z := by rw [← hz, List.getD_eq_getElem?_getD, List.getElem?_eq_getElem hk]; rfl
    simp [this]
  rw [e]; exact ho
end
set_option maxRecDepth 100000 in
set_option maxHeartbeats 8000000 in
theorem wishLattice_good (A1 : Option Addr) (n c1 : Nat) (A2 : Option Addr) (c2 : Nat) (Ls Rs : List (List Int)) (x y : Int) (w : World) (S1 : SideAt w w.heap.size A1 n c1 Ls) (S2 : SideAt w w.heap.size A2 n c2 Rs) (hr : wishF Ls Rs = 0) (hn : n ≤ 8) (hx0 : 0 ≤ x) (hx1 : x < 256) (hy0 : 0 ≤ y) (hy1 : y < 256) :
    Calls Try.prog 10 #[.agg #[.slice A1 n c1, .slice A2 n c2], .int .u8 x, .int .u8 y] w fun e w' => e = .returned (.bool true) ∧ Below w.heap.size w w' := by
  have HX := Lib.hid (BoxS.start S1 S2)
  have hk0 := HX.out.k0
  have hk1 := HX.out.k1
  have HC := Lib.hid (fun W (h1 : BoxS w A1 n c1 A2 n c2 Ls Rs W) => wishesK_any A1 A2 n c1 n c2 Ls Rs true W h1.left h1.right (by rw [hr]; rfl))
  obtain ⟨q8, q1, o1, o2, W⟩ := wishOK_of hr
  have e1 := S1.len
  rw [e1] at o1 o2 W
  have HP := Lib.hid (fun W1 (h1 : BoxS w A1 n c1 A2 n c2 Ls Rs W1) => wishAll_good A1 A2 n c1 c2 Ls Rs W1 h1.left h1.right hr hn o1 o2 W)
  have hml := allW_length (L := sd Ls) (R := sd Rs) hn
  have hm0 : 0 < (allW n (sd Ls) (sd Rs)).length := List.length_pos_iff.2 (allW_ne W)
  have hmod0 := Int.tmod_nonneg ((allW n (sd Ls) (sd Rs)).length : Int) hx0
  have hmod1 := Int.tmod_lt_of_pos x (show (0 : Int) < ((allW n (sd Ls) (sd Rs)).length : Int) by omega)
  have hmod2 := Int.tmod_nonneg ((allW n (sd Ls) (sd Rs)).length : Int) hy0
  have hmod3 := Int.tmod_lt_of_pos y (show (0 : Int) < ((allW n (sd Ls) (sd Rs)).length : Int) by omega)
  obtain ⟨p, hp⟩ := Int.eq_ofNat_of_zero_le hmod0
  obtain ⟨s, hs⟩ := Int.eq_ofNat_of_zero_le hmod2
  have hpm : p < (allW n (sd Ls) (sd Rs)).length := by omega
  have hsm : s < (allW n (sd Ls) (sd Rs)).length := by omega
  obtain ⟨xs, hxs⟩ : ∃ xs, (allW n (sd Ls) (sd Rs))[p]? = some xs := ⟨_, List.getElem?_eq_getElem hpm⟩
  obtain ⟨ys, hys⟩ : ∃ ys, (allW n (sd Ls) (sd Rs))[s]? = some ys := ⟨_, List.getElem?_eq_getElem hsm⟩
  have hX := mem_allW.1 (List.mem_of_getElem? hxs)
  have hY := mem_allW.1 (List.mem_of_getElem? hys)
  have HLAT : Hid (ansW Ls Rs (betP (sd Ls) n xs ys) = true ∧ errW Ls Rs (betP (sd Ls) n xs ys) = 0) := Lib.hid (by
    obtain ⟨l0, hl0⟩ := best_ex W
    have h5 := lattice W hl0 hX hY
    rw [← e1] at h5 ⊢
    exact ⟨ansW_hold hr h5, errW_pair hr h5.pair⟩)
  have HXL := Lib.hid hX.pair.len
  have HYL := Lib.hid hY.pair.len
  have HO1 := Lib.hid o1
  obtain ⟨l, hl⟩ : ∃ l, betP (sd Ls) n xs ys = l := ⟨_, rfl⟩
  have HLG : Hid (∀ k, k < n → l.getD k (-1) = if ahd (sd Ls k) (ys.getD k (-1)) < ahd (sd Ls k) (xs.getD k (-1)) then ys.getD k (-1) else xs.getD k (-1)) := Lib.hid fun k hk => by rw [← hl]; exact betP_get hk
  have HLL : Hid (l.length = n) := Lib.hid (by rw [← hl]; simp [betP])
  rw [hl] at HLAT
  have HXS := Lib.hid hxs
  have HYS := Lib.hid hys
  generalize allW n (sd Ls) (sd Rs) = xss at HP hml hm0 hp hs hpm hsm HXS HYS
  generalize xss.length = m at HP hml hm0 hp hs hpm hsm
  have hmb : ((m : Int) == 0) = false := by simp; omega
  have hmne : ¬ ((m : Int) = 0) := by omega
  have pp0 : (0 : Int) ≤ (p : Int) := by omega
  have pp1 : (p : Int) < (m : Int) := by omega
  have ss0 : (0 : Int) ≤ (s : Int) := by omega
  have ss1 : (s : Int) < (m : Int) := by omega
  obtain ⟨i0, hi, hz0, hz1, hz2⟩ := info_parts infoInt
  have HI := Lib.hid hi
  have HI0 := Lib.hid hz0
  have HI1 := Lib.hid hz1
  have HI2 := Lib.hid hz2
  clear S1 S2 hr q8 q1 o1 o2 W e1 hX hY hl hxs hys hmod0 hmod1 hmod2 hmod3 hi hz0 hz1 hz2
  go_enter Try.func10, Try.ntmps10
  go_wp2_with fail
  refine (HP.out _ (by exact HX.out)).mono ?_
  rintro e w1 ⟨Aa, ca, rfl, hL, hb1⟩
  have HX1 := Lib.hid (HX.out.next hb1)
  have HL := Lib.hid hL
  have l0 := HX1.out.k0
  have l1 := HX1.out.k1
  clear hb1 hk0 hk1 hL HP HX
  go_wp2_with fail
  refine (HC.out _ (by exact HX1.out)).mono ?_
  rintro e w2 ⟨rfl, hb2⟩
  have HX2 := Lib.hid (HX1.out.next hb2)
  have k0 := HX2.out.k0
  have k1 := HX2.out.k1
  have hL2 := HL.out.go_ hb2
  obtain ⟨ba, oa, xs', D1, d1, hAa, _, hxs', hcx, hIx⟩ := hL2.at_ hpm
  obtain ⟨ba', oa', ys', D2, d2, hAa', _, hys', hcy, hIy⟩ := hL2.at_ hsm
  obtain rfl : xs' = xs := by have := HXS.out; rw [hxs'] at this; injection this
  obtain rfl : ys' = ys := by have := HYS.out; rw [hys'] at this; injection this
  obtain ⟨rfl, rfl⟩ : ba = ba' ∧ oa = oa' := by rw [hAa] at hAa'; injection hAa' with h; injection h with h1 h2; exact ⟨h1, h2⟩
  rw [HXL.out] at hcx hIx
  rw [HYL.out] at hcy hIy
  have HS0 := Lib.hid (show LatW w A1 n c1 A2 c2 Ls Rs w2.heap.size D1 D2 xs' ys' none 0 0 l w2 from ⟨HX2.out.left, HX2.out.right, HX2.out.below, HX2.out.box, hIx, hIy, Nat.le_refl _, HX2.out.box.size, World.ownsRow_nil ..⟩)
  have hnn : ((n : Int) != (n : Int)) = false := by simp
  subst hAa
  clear hb2 l0 l1 HC HX1 HL hL2 hxs' hys' hIx hIy hAa' HX2
  go_wp2_with fail
  generalize hB : w2.heap.size = B at HS0
  clear hB k0 k1 hcx hcy
  go_loopw [11, 12] (fun v t wr => ∃ (k : Nat) (Ao : Option Addr) (co : Nat), k ≤ n ∧ t = .int .i64 k ∧ v = .slice Ao k co ∧ Hid (LatW w A1 n c1 A2 c2 Ls Rs B D1 D2 xs' ys' Ao k co l wr)) (fun _ t _ => n - (intOf t).toNat)
  case atStart => exact ⟨0, none, 0, Nat.zero_le _, rfl, rfl, HS0⟩
  case round =>
    clear HS0
    obtain ⟨k, Ao, co, hk, rfl, rfl, HR⟩ := hrel
    have k0 := HR.out.k0
    have k1 := HR.out.k1
    by_cases hkn : k < n
    · obtain ⟨b1, f1, l1, B1, e1, hA1, _, hl1, hc1, hB1, _, _⟩ := HR.out.left.get hkn
      obtain ⟨b3, f3, gx, hD1, _, hx, hcx⟩ := HR.out.one.at_ hkn
      obtain ⟨b4, f4, gy, hD2, _, hy, hcy⟩ := HR.out.two.at_ hkn
      have m1 : l1.length ≤ 8 := Nat.le_trans (len_le (eachB_iff.1 (HO1.out l1 (List.mem_of_getElem? hl1))).1 (eachB_iff.1 (HO1.out l1 (List.mem_of_getElem? hl1))).2) hn
      have s1 : sd Ls k = l1 := by unfold sd; rw [List.getD_eq_getElem?_getD, hl1]; rfl
      have hgx : xs'.getD k (-1) = gx := by rw [List.getD_eq_getElem?_getD, hx]; rfl
      have hgy : ys'.getD k (-1) = gy := by rw [List.getD_eq_getElem?_getD, hy]; rfl
      have hlg := HLG.out k hkn
      rw [s1, hgx, hgy] at hlg
      obtain ⟨v1, hv1⟩ : ∃ v : Int, ((ahd l1 gx : Nat) : Int) = v := ⟨_, rfl⟩
      obtain ⟨v2, hv2⟩ : ∃ v : Int, ((ahd l1 gy : Nat) : Int) = v := ⟨_, rfl⟩
      have hB1' := hB1.more HR.out.big
      have HAH : Hid (∀ (u z : Int), ((u = gx ∧ z = v1) ∨ (u = gy ∧ z = v2)) → ∀ q, Calls Try.prog 23 #[.slice B1 l1.length e1, .int .i64 u] (wr.drewN q) fun e w' => e = .returned (.int .i64 z) ∧ w' = wr.drewN q) := Lib.hid (by
        rintro u z (⟨rfl, rfl⟩ | ⟨rfl, rfl⟩) q
        · rw [← hv1]; exact ahead_any l1.length _ _ _ l1 (wr.drewN q) (hB1'.drewN q) (by omega)
        · rw [← hv2]; exact ahead_any l1.length _ _ _ l1 (wr.drewN q) (hB1'.drewN q) (by omega))
      have kk0 : (0 : Int) ≤ (k : Int) := by omega
      have kk1 : (k : Int) < (n : Int) := by omega
      obtain ⟨bb, hbb⟩ : ∃ bb, decide (v2 < v1) = bb := ⟨_, rfl⟩
      have hkl : k < l.length := by rw [HLL.out]; exact hkn
      have HKL := Lib.hid hkl
      have HKN := Lib.hid hkn
      cases bb with
      | true =>
        have hzz : l.getD k (-1) = gy := by rw [hlg, if_pos]; have := of_decide_eq_true hbb; omega
        have HZ := Lib.hid hzz
        clear hzz hlg hv1 hv2 hB1 hB1' hgx hgy hx hy s1 hl1 hkl
        generalize l1.length = ll at hc1 HAH m1
        subst hA1 hD1 hD2
        go_wp2_with fail
        go_quiet ((go_at_call 23; exact Calls.quiet_of_same (HAH.out _ _ (by first | exact Or.inl ⟨rfl, rfl⟩ | exact Or.inr ⟨rfl, rfl⟩) _)))
        obtain ⟨wq, hwq⟩ : ∃ wq : World, wq = wr.drewN nq := ⟨_, rfl⟩
        have HRQ := Lib.hid (HR.out.drewN nq)
        rw [← hwq] at HRQ ⊢
        have dcx : wq.cell? ⟨b4, f4 + k, none⟩ = _ := (by rw [hwq]; exact hcy : wq.cell? ⟨b4, f4 + k, none⟩ = some (.int .i64 gy))
        have HOW := Lib.hid HRQ.out.own
        have HSZ := Lib.hid HRQ.out.big
        clear hwq HR k0 k1 hc1 hcx hcy HAH
        go_wp2_with (at_builtin; refine wpList_append_own _ rfl _ _ 28 rfl B 3 i0 (.int .i64 0) 1 8 Try.underlying28 HI.out HI0.out HI1.out HI2.out rfl (by decide) _ _ _ rfl (HOW.out.alloc _) ⟨wq.heap.size, 0, none⟩ 1 1 [.int .i64 gy] rfl rfl ?c1 ?c2 ?c3 ?c4 ?c5 ?_)
        try (case c1 => exact cell_one_new _ _ _)
        case c2 => simp [Value.oneCell']
        case c3 => unfold maxLen; omega
        case c4 => omega
        case c5 => have := HSZ.out; simp; omega
        intro v' w6 hown' hgrow _
        obtain ⟨A5, c5, rfl, HR6⟩ := HRQ.out.put HKL.out HZ.out (by rw [← List.map_take] at hown' ⊢; exact hown') hgrow
        clear hown' hgrow HOW HRQ
        go_wp2_with fail
        go_roundw
        case rel => exact ⟨k + 1, A5, c5, by have := HKN.out; omega, by go_num, rfl, HR6⟩
        case measure => have := HKN.out; simp [intOf]; omega
      | false =>
        have hzz : l.getD k (-1) = gx := by rw [hlg, if_neg]; have := of_decide_eq_false hbb; omega
        have HZ := Lib.hid hzz
        clear hzz hlg hv1 hv2 hB1 hB1' hgx hgy hx hy s1 hl1 hkl
        generalize l1.length = ll at hc1 HAH m1
        subst hA1 hD1 hD2
        go_wp2_with fail
        go_quiet ((go_at_call 23; exact Calls.quiet_of_same (HAH.out _ _ (by first | exact Or.inl ⟨rfl, rfl⟩ | exact Or.inr ⟨rfl, rfl⟩) _)))
        obtain ⟨wq, hwq⟩ : ∃ wq : World, wq = wr.drewN nq := ⟨_, rfl⟩
        have HRQ := Lib.hid (HR.out.drewN nq)
        rw [← hwq] at HRQ ⊢
        have dcx : wq.cell? ⟨b4, f4 + k, none⟩ = _ := (by rw [hwq]; exact hcy : wq.cell? ⟨b4, f4 + k, none⟩ = some (.int .i64 gy))
        have HOW := Lib.hid HRQ.out.own
        have HSZ := Lib.hid HRQ.out.big
        clear hwq HR k0 k1 hc1 hcx hcy HAH
        go_wp2_with (at_builtin; refine wpList_append_own _ rfl _ _ 28 rfl B 3 i0 (.int .i64 0) 1 8 Try.underlying28 HI.out HI0.out HI1.out HI2.out rfl (by decide) _ _ _ rfl (HOW.out.alloc _) ⟨wq.heap.size, 0, none⟩ 1 1 [.int .i64 gx] rfl rfl ?c1 ?c2 ?c3 ?c4 ?c5 ?_)
        try (case c1 => exact cell_one_new _ _ _)
        case c2 => simp [Value.oneCell']
        case c3 => unfold maxLen; omega
        case c4 => omega
        case c5 => have := HSZ.out; simp; omega
        intro v' w6 hown' hgrow _
        obtain ⟨A5, c5, rfl, HR6⟩ := HRQ.out.put HKL.out HZ.out (by rw [← List.map_take] at hown' ⊢; exact hown') hgrow
        clear hown' hgrow HOW HRQ
        go_wp2_with fail
        go_roundw
        case rel => exact ⟨k + 1, A5, c5, by have := HKN.out; omega, by go_num, rfl, HR6⟩
        case measure => have := HKN.out; simp [intOf]; omega
    · obtain rfl : k = n := by omega
      have HIL : Hid (IntsAt wr wr.heap.size Ao k l) := Lib.hid (by
        have h1 := HR.out.own
        rw [List.take_of_length_le (by rw [HLL.out]; exact Nat.le_refl _)] at h1
        exact IntsAt.of_own h1 (Nat.le_refl _))
      have HN0 : Hid (Ao = none → k = 0) := Lib.hid fun e => by
        rcases HR.out.own.2 with ⟨_, h0⟩ | ⟨g, cap, cur, hv, _⟩
        · exact h0
        · injection hv with h1
          rw [e] at h1; cases h1
      have HH := Lib.hid (wishHolds_go A1 A2 Ao k c1 k c2 k co Ls Rs l wr (HR.out.left.more HR.out.big) (HR.out.right.more HR.out.big) HIL.out HN0.out)
      rw [HLAT.out.1, HLAT.out.2] at HH
      have HBW := Lib.hid HR.out.below
      clear HR HIL HN0
      go_wp2_with fail
      refine HH.out.mono ?_
      rintro e w3 ⟨rfl, hb3⟩
      have HE := Lib.hid (HBW.out.trans (hb3.mono HBW.out.size))
      clear hb3 HH
      go_wp2_with fail
      go_ret
      exact ⟨rfl, HE.out⟩
set_option maxRecDepth 100000 in
set_option maxHeartbeats 1000000 in
theorem wishLattice_any (A1 : Option Addr) (n1 c1 : Nat) (A2 : Option Addr) (n2 c2 : Nat) (Ls Rs : List (List Int)) (x y : Int) (w : World) (S1 : SideAt w w.heap.size A1 n1 c1 Ls) (S2 : SideAt w w.heap.size A2 n2 c2 Rs) (wx : (Lit.int .u8 x).wf = true) (wy : (Lit.int .u8 y).wf = true) :
    Calls Try.prog 10 #[.agg #[.slice A1 n1 c1, .slice A2 n2 c2], .int .u8 x, .int .u8 y] w fun e w' => e = .returned (.bool true) ∧ Below w.heap.size w w' := by
  obtain ⟨r, hr⟩ : ∃ r, wishF Ls Rs = r := ⟨_, rfl⟩
  have h1 : IntKind.u8.min = 0 := rfl
  have h2 : IntKind.u8.max = 255 := rfl
  by_cases hr0 : r = 0
  · subst hr0
    obtain ⟨q8, q1, o1, o2, W⟩ := wishOK_of hr
    have e1 := S1.len
    have e2 := S2.len
    obtain rfl : n1 = n2 := by omega
    simp only [Lit.wf, Bool.and_eq_true, decide_eq_true_eq] at wx wy
    rw [h1, h2] at wx wy
    exact wishLattice_good A1 n1 c1 A2 c2 Ls Rs x y w S1 S2 hr (by omega) wx.1 (by omega) wy.1 (by omega)
  · have HX := Lib.hid (BoxS.start S1 S2)
    have hk0 := HX.out.k0
    have hk1 := HX.out.k1
    have hr1 : (r != 0) = true := by simpa using hr0
    have HC := Lib.hid (fun W (h1 : BoxS w A1 n1 c1 A2 n2 c2 Ls Rs W) => wishesK_any A1 A2 n1 c1 n2 c2 Ls Rs false W h1.left h1.right (by rw [hr]; simpa using hr0))
    have HP := Lib.hid (fun W1 (h1 : BoxS w A1 n1 c1 A2 n2 c2 Ls Rs W1) => wishAll_bad A1 A2 n1 c1 n2 c2 Ls Rs r W1 h1.left h1.right hr hr0)
    clear S1 S2 hr wx wy
    go_enter Try.func10, Try.ntmps10
    go_wp2_with fail
    refine (HP.out _ (by exact HX.out)).mono ?_
    rintro e w1 ⟨rfl, hb1⟩
    have HX1 := Lib.hid (HX.out.next hb1)
    have l0 := HX1.out.k0
    have l1 := HX1.out.k1
    clear hb1 hk0 hk1
    go_wp2_with fail
    refine (HC.out _ (by exact HX1.out)).mono ?_
    rintro e w2 ⟨rfl, hb2⟩
    have HX2 := Lib.hid (HX1.out.next hb2)
    clear hb2
    go_wp2_with fail
    go_ret
    exact ⟨rfl, HX2.out.below⟩
end Go.Proofs.Ytmelgnfhocofiaa
