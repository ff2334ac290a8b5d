/- The reference's AllPairings and Pairing. -/
import Derived.Test.YtmelgnfhocofiaaRefAllPairs
import Derived.Deep.QuietTactic
import Derived.OwnWalk
namespace Go.Proofs.Ytmelgnfhocofiaa
open Go.RowKit

theorem RowsV.lists {w : World} {base n m c : Nat} {A : Option Addr} {us : List Value} {xss : List (List Int)} (h : RowsV w base n (.slice A m c) us xss) (hm : m = xss.length) : ListsAt w w.heap.size A m xss := by
  subst hm
  obtain ⟨_, h2, h3, _⟩ := h.cells
  refine ⟨rfl, fun hp => ?_⟩
  obtain ⟨g, cap, cur, hv, _, hg, _⟩ := h.own.2.resolve_left (fun e => by omega)
  obtain rfl : A = some ⟨g, 0, none⟩ := by injection hv
  refine ⟨g, 0, rfl, (Array.getElem?_eq_some_iff.1 hg).1, fun k xs hk => ?_⟩
  obtain ⟨A', c', h4, h5⟩ := h.row k xs hk
  have h6 := h3 _ rfl k _ h4
  rw [Addr.add_lit] at h6
  have hl := h5.1
  subst hl
  exact ⟨A', c', h6, h5.ints⟩
set_option maxRecDepth 100000 in
set_option maxHeartbeats 1000000 in
theorem allPairings_any (A1 A2 : Option Addr) (n c1 c2 : Nat) (Ls Rs : List (List Int)) (w : World) (hn : n ≤ 8) (o1 : ∀ l ∈ Ls, eachB n l = true) (o2 : ∀ l ∈ Rs, eachB n l = true) (S1 : SideAt w w.heap.size A1 n c1 Ls) (S2 : SideAt w w.heap.size A2 n c2 Rs) :
    Calls Try.prog 21 #[.agg #[.slice A1 n c1, .slice A2 n c2]] w fun e w' => ∃ A c, e = .returned (.slice A (allW n (sd Ls) (sd Rs)).length c) ∧ ListsAt w' w'.heap.size A (allW n (sd Ls) (sd Rs)).length (allW n (sd Ls) (sd Rs)) ∧ Below w.heap.size w w' := by
  have HX := Lib.hid (BoxS.start S1 S2)
  have hk0 := HX.out.k0
  have hk1 := HX.out.k1
  have HC := Lib.hid (fun W (h1 : BoxS w A1 n c1 A2 n c2 Ls Rs W) => pairings_any A1 A2 n c1 c2 Ls Rs hn o1 o2 n 0 none 0 [] W (by omega) (PreOK.nil n) (ArgAt.nil W) h1.left h1.right)
  have e : allP (holdB n (sd Ls) (sd Rs)) n n [] = allW n (sd Ls) (sd Rs) := rfl
  rw [e] at HC
  obtain ⟨xss, hx⟩ : ∃ xss, xss = allW n (sd Ls) (sd Rs) := ⟨_, rfl⟩
  rw [← hx] at HC ⊢
  obtain ⟨m, hm⟩ : ∃ m, m = xss.length := ⟨_, rfl⟩
  rw [← hm] at HC ⊢
  have HM := Lib.hid hm
  clear S1 S2 o1 o2 e hx hm
  go_enter Try.func21, Try.ntmps21
  go_wp2_with fail
  refine (HC.out _ (by exact HX.out)).mono ?_
  rintro e w1 ⟨A, c, rfl, hO, hb1⟩
  have HO := Lib.hid hO
  have HX1 := Lib.hid (HX.out.next hb1)
  clear hb1 hO HC hk0 hk1
  go_wp2_with fail
  go_ret
  obtain ⟨us, h⟩ := HO.out
  exact ⟨A, c, rfl, h.lists HM.out, HX1.out.below⟩
theorem bestF_snoc (l xs : List Int) (x b : Int) : bestF l (xs ++ [x]) b = if ahd l x < ahd l (bestF l xs b) then x else bestF l xs b := by
  unfold bestF
  rw [List.foldl_append]; rfl
theorem allW_len {n : Nat} {L R : Nat → List Int} (hn : n ≤ 8) : (allW n L R).length ≤ 43046721 := by
  have h : ∀ (r : Nat) (pre : List Int), (allP (holdB n L R) n r pre).length ≤ 9 ^ r := allP_len hn
  exact Nat.le_trans (h n []) (Nat.le_trans (Nat.pow_le_pow_right (by decide) hn) (by decide : 9 ^ 8 ≤ 43046721))
/-- What is read in a round: the box, the wishes, and all lists. -/
structure PgW (w : World) (A1 : Option Addr) (n c1 : Nat) (A2 : Option Addr) (c2 : Nat) (Ls : List (List Int)) (B : Nat) (Aa : Option Addr) (m : Nat) (xss : List (List Int)) (A : Option Addr) (k c : Nat) (l : List Int) (wr : World) : Prop where
  left : SideAt wr B A1 n c1 Ls
  below : Below w.heap.size w wr
  box : Below (bxS w A1 n c1 A2 n c2).heap.size (bxS w A1 n c1 A2 n c2) wr
  all : ListsAt wr B Aa m xss
  big : B ≤ wr.heap.size
  lo : (bxS w A1 n c1 A2 n c2).heap.size ≤ B
  own : wr.ownsRow B 3 1 (.slice A k c) k ((l.take k).map (Value.int .i64))
section
variable {w : World} {A1 : Option Addr} {n c1 : Nat} {A2 : Option Addr} {c2 : Nat} {Ls : List (List Int)} {B : Nat} {Aa : Option Addr} {m : Nat} {xss : List (List Int)} {A : Option Addr} {k c : Nat} {l : List Int} {wr : World}
theorem PgW.drewN (h : PgW w A1 n c1 A2 c2 Ls B Aa m xss A k c l wr) (q : Nat) : PgW w A1 n c1 A2 c2 Ls B Aa m xss A k c l (wr.drewN q) := ⟨h.left.drewN q, below_drewN h.below q, below_drewN h.box q, h.all.drewN q, h.big, h.lo, h.own⟩
theorem PgW.k0 (h : PgW w A1 n c1 A2 c2 Ls B Aa m xss A k c l wr) : wr.cell? ⟨w.heap.size, 0, none⟩ = some (.slice A1 n c1) := by
  rw [h.box.cell (p := ⟨w.heap.size, 0, none⟩) (by simp [bxS])]; exact cell_of_row _ _ 0 _ _ (0, 0) (MapKept.heap_alloc w _).1
theorem PgW.k1 (h : PgW w A1 n c1 A2 c2 Ls B Aa m xss A k c l wr) : wr.cell? ⟨w.heap.size, 1, none⟩ = some (.slice A2 n c2) := by
  rw [h.box.cell (p := ⟨w.heap.size, 1, none⟩) (by simp [bxS])]; exact cell_of_row _ _ 1 _ _ (0, 0) (MapKept.heap_alloc w _).1
set_option maxRecDepth 100000 in
theorem PgW.next {w6 : World} {A5 : Option Addr} {k5 c5 : Nat} (h : PgW w A1 n c1 A2 c2 Ls B Aa m xss A k c l wr) (hb : Below B wr w6) (ho : w6.ownsRow B 3 1 (.slice A5 k5 c5) k5 ((l.take k5).map (Value.int .i64))) : PgW w A1 n c1 A2 c2 Ls B Aa m xss A5 k5 c5 l w6 :=
  ⟨h.left.below hb, h.below.trans (hb.mono (by have := h.lo; simp [bxS] at this; omega)), h.box.trans (hb.mono h.lo), h.all.below hb, Nat.le_trans h.big hb.size, h.lo, ho⟩
end
set_option maxRecDepth 100000 in
set_option maxHeartbeats 4000000 in
theorem refPairing_any (A1 A2 : Option Addr) (n c1 c2 : Nat) (Ls Rs : List (List Int)) (l : List Int) (w : World) (hn : n ≤ 8) (o1 : ∀ l ∈ Ls, eachB n l = true) (o2 : ∀ l ∈ Rs, eachB n l = true) (S1 : SideAt w w.heap.size A1 n c1 Ls) (S2 : SideAt w w.heap.size A2 n c2 Rs) (W : WishOK n (sd Ls) (sd Rs)) (HB : BestL n (sd Ls) (sd Rs) l) :
    Calls Try.prog 18 #[.agg #[.slice A1 n c1, .slice A2 n c2]] w fun e w' => ∃ A c, e = .returned (.slice A n c) ∧ IntsAt w' w'.heap.size A n l ∧ Below w.heap.size w w' := by
  have HX := Lib.hid (BoxS.start S1 S2)
  have hk0 := HX.out.k0
  have hk1 := HX.out.k1
  have HC := Lib.hid (fun W (h1 : BoxS w A1 n c1 A2 n c2 Ls Rs W) => allPairings_any A1 A2 n c1 c2 Ls Rs W hn o1 o2 h1.left h1.right)
  have HBE := Lib.hid (fun i (hi : i < n) => bestF_best W HB hi)
  have HLN := Lib.hid HB.1.pair.len
  have hml := allW_len (L := sd Ls) (R := sd Rs) hn
  have HHL := Lib.hid (fun xs (hx : xs ∈ allW n (sd Ls) (sd Rs)) => (mem_allW.1 hx).pair.len)
  obtain ⟨xss, hx⟩ : ∃ xss, xss = allW n (sd Ls) (sd Rs) := ⟨_, rfl⟩
  rw [← hx] at HC HBE HHL hml
  obtain ⟨m, hm⟩ : ∃ m, m = xss.length := ⟨_, rfl⟩
  rw [← hm] at HC hml
  have HM := Lib.hid hm
  have HO1 := Lib.hid o1
  obtain ⟨i0, hi, hz0, hz1, hz2⟩ := info_parts infoInt
  have HI := Lib.hid hi
  have HI0 := Lib.hid hz0
  have HI1 := Lib.hid hz1
  have HI2 := Lib.hid hz2
  clear S1 S2 o1 o2 hx hm W HB hi hz0 hz1 hz2
  go_enter Try.func18, Try.ntmps18
  go_wp2_with fail
  refine (HC.out _ (by exact HX.out)).mono ?_
  rintro e w1 ⟨Aa, ca, rfl, hL, hb1⟩
  have hs1 := hb1.size
  have HS0 : Hid (PgW w A1 n c1 A2 c2 Ls w1.heap.size Aa m xss none 0 0 l w1) := Lib.hid ⟨(HX.out.next hb1).left, (HX.out.next hb1).below, (HX.out.next hb1).box, hL, Nat.le_refl _, (HX.out.next hb1).box.size, World.ownsRow_nil ..⟩
  have q0 := HS0.out.k0
  have q1 := HS0.out.k1
  clear hb1 hL HC hk0 hk1 hs1
  go_wp2_with fail
  generalize hB : w1.heap.size = B at HS0
  clear hB q0 q1 HX
  go_loopw [4, 5] (fun v t wr => ∃ (k : Nat) (Ao : Option Addr) (co : Nat), k ≤ n ∧ t = .int .i64 k ∧ v = .slice Ao k co ∧ Hid (PgW w A1 n c1 A2 c2 Ls B Aa m xss Ao k co l wr)) (fun _ t _ => n - (intOf t).toNat)
  case atStart => exact ⟨0, none, 0, Nat.zero_le _, rfl, rfl, HS0⟩
  case round =>
    clear HS0
    obtain ⟨k, Ao, co, hk, rfl, rfl, HR⟩ := hrel
    have k0 := HR.out.k0
    have k1 := HR.out.k1
    by_cases hkn : k < n
    · obtain ⟨b1, f1, l1, B1, d1, hA1, _, hl1, hc1, hB1, _, _⟩ := HR.out.left.get hkn
      subst hA1
      have m1 : l1.length ≤ 8 := Nat.le_trans (len_le (eachB_iff.1 (HO1.out l1 (List.mem_of_getElem? hl1))).1 (eachB_iff.1 (HO1.out l1 (List.mem_of_getElem? hl1))).2) hn
      have HSD := Lib.hid (sd_of hl1)
      have HB1 := Lib.hid (hB1.more HR.out.big)
      have HKN := Lib.hid hkn
      have kk0 : (0 : Int) ≤ (k : Int) := by omega
      have kk1 : (k : Int) < (n : Int) := by omega
      clear hl1 hB1
      go_wp2_with fail
      obtain ⟨wo, hwo⟩ : ∃ wo : World, wo = wr := ⟨_, rfl⟩
      rw [← hwo] at HR HB1 k0 k1 hc1
      have HWO := Lib.hid hwo
      clear hwo
      go_loopw [6, 20] (fun v t wr => ∃ (q z : Nat) (x : Int), q ≤ m ∧ t = .int .i64 q ∧ v = .int .i64 x ∧ Hid (x = bestF l1 ((xss.take q).map fun y => y.getD k (-1)) (-1) ∧ wr = wo.drewN z)) (fun _ t _ => m - (intOf t).toNat)
      case atStart => exact ⟨0, 0, -1, Nat.zero_le _, rfl, rfl, Lib.hid ⟨rfl, HWO.out.symm⟩⟩
      case round =>
        obtain ⟨q, z, x, hq, rfl, rfl, HQ⟩ := hrel
        by_cases hqm : q < m
        · obtain ⟨b2, f2, xs, A', c', hA2, _, hxs, hcx, hIx⟩ := HR.out.all.at_ hqm
          have hxl := HHL.out xs (List.mem_of_getElem? hxs)
          rw [hxl] at hcx hIx
          obtain ⟨b3, f3, y, hA3, _, hy, hcy⟩ := hIx.at_ hkn
          subst hA2 hA3
          have e1 : ∀ p : Addr, wr.cell? p = wo.cell? p := fun p => by rw [HQ.out.2]; rfl
          have j0 : wr.cell? ⟨w.heap.size, 0, none⟩ = _ := (e1 _).trans k0
          have j1 : wr.cell? ⟨w.heap.size, 1, none⟩ = _ := (e1 _).trans k1
          have j2 : wr.cell? ⟨b1, f1 + k, none⟩ = _ := (e1 _).trans hc1
          have j3 : wr.cell? ⟨b2, f2 + q, none⟩ = _ := (e1 _).trans hcx
          have j4 : wr.cell? ⟨b3, f3 + k, none⟩ = _ := (e1 _).trans hcy
          have qq0 : (0 : Int) ≤ (q : Int) := by omega
          have qq1 : (q : Int) < (m : Int) := by omega
          have hyg : xs.getD k (-1) = y := by rw [List.getD_eq_getElem?_getD, hy]; rfl
          have hstep : bestF l1 ((xss.take (q + 1)).map fun y => y.getD k (-1)) (-1) = if ahd l1 y < ahd l1 x then y else x := by
            rw [List.take_add_one, hxs, List.map_append]
            show bestF l1 (_ ++ [xs.getD k (-1)]) (-1) = _
            rw [bestF_snoc, ← HQ.out.1, hyg]
          obtain ⟨p, hp⟩ : ∃ p, decide (ahd l1 y < ahd l1 x) = p := ⟨_, rfl⟩
          have HRA := Lib.hid (fun u => rather_any l1.length d1 y x p B1 l1 (wr.drewN u) (by rw [HQ.out.2]; exact (HB1.out.drewN z).drewN u) (by omega) hp)
          have HQM := Lib.hid hqm
          cases p with
          | true =>
            have HN : Hid (bestF l1 ((xss.take (q + 1)).map fun y => y.getD k (-1)) (-1) = y) := Lib.hid (by rw [hstep, if_pos (of_decide_eq_true hp)])
            clear hstep hp hyg hy hxs hIx
            go_wp2_with fail
            go_quiet ((go_at_call 36; exact Calls.quiet_of_same (HRA.out _)))
            go_wp2
            go_roundw
            case rel => exact ⟨q + 1, _, y, by have := HQM.out; omega, by go_num, rfl, Lib.hid ⟨HN.out.symm, by rw [HQ.out.2, World.drewN_drewN]⟩⟩
            case measure => have := HQM.out; simp [intOf]; omega
          | false =>
            have HN : Hid (bestF l1 ((xss.take (q + 1)).map fun y => y.getD k (-1)) (-1) = x) := Lib.hid (by rw [hstep, if_neg (of_decide_eq_false hp)])
            clear hstep hp hyg hy hxs hIx
            go_wp2_with fail
            go_quiet ((go_at_call 36; exact Calls.quiet_of_same (HRA.out _)))
            go_wp2
            go_roundw
            case rel => exact ⟨q + 1, _, x, by have := HQM.out; omega, by go_num, rfl, Lib.hid ⟨HN.out.symm, by rw [HQ.out.2, World.drewN_drewN]⟩⟩
            case measure => have := HQM.out; simp [intOf]; omega
        · obtain rfl : q = m := by omega
          have HXB : Hid (x = l.getD k (-1)) := Lib.hid (by
            have h1 := HQ.out.1
            rw [List.take_of_length_le (by rw [HM.out]; exact Nat.le_refl _), ← HSD.out] at h1
            rw [h1]; exact HBE.out k hkn)
          have HR2 := Lib.hid (show PgW w (some ⟨b1, f1, none⟩) n c1 A2 c2 Ls B Aa q xss Ao k co l wr by rw [HQ.out.2]; exact HR.out.drewN z)
          clear HR HB1 HQ HSD k0 k1 hc1
          have HFIN : Hid (∀ (v' : Value) (w6 : World), w6.ownsRow B 3 1 v' (k + 1) ((l.take k).map (Value.int .i64) ++ [.int .i64 x]) → (wr.alloc (.cells #[.int .i64 x] 3)).grownBy w6 (Value.slice Ao k co).ownBlock → ∃ A5 c5, v' = .slice A5 (k + 1) c5 ∧ Hid (PgW w (some ⟨b1, f1, none⟩) n c1 A2 c2 Ls B Aa q xss A5 (k + 1) c5 l w6)) := Lib.hid fun v' w6 h1 h2 => by
            have hbb : Below B wr w6 := ((Below.refl _ wr).alloc HR2.out.big _).grown h2 (by have := HR2.out.big; simp; omega) (fun g hg => own_base HR2.out.own g hg)
            obtain ⟨A5, c5, rfl⟩ := own_form1 h1
            refine ⟨A5, c5, rfl, Lib.hid (HR2.out.next hbb ?_)⟩
            · have e : (l.take (k + 1)).map (Value.int .i64) = (l.take k).map (Value.int .i64) ++ [.int .i64 x] := by
                rw [List.take_add_one, List.getElem?_eq_getElem (by rw [HLN.out]; exact hkn), List.map_append]
                have : l[k]'(by rw [HLN.out]; exact hkn) = x := by rw [HXB.out, List.getD_eq_getElem?_getD, List.getElem?_eq_getElem (by rw [HLN.out]; exact hkn)]; rfl
                simp [this]
              rw [e]; exact h1
          have HOW := Lib.hid HR2.out.own
          have HSZ := Lib.hid HR2.out.big
          go_wp2_with (at_builtin; refine wpList_append_own _ rfl _ _ 28 rfl B 3 i0 (.int .i64 0) 1 8 Try.underlying28 HI.out HI0.out HI1.out HI2.out rfl (by decide) _ _ _ rfl (HOW.out.alloc _) ⟨wr.heap.size, 0, none⟩ 1 1 [.int .i64 x] rfl rfl ?c1 ?c2 ?c3 ?c4 ?c5 ?_)
          try (case c1 => exact cell_one_new _ _ _)
          case c2 => simp [Value.oneCell']
          case c3 => unfold maxLen; omega
          case c4 => omega
          case c5 => have := HSZ.out; simp; omega
          intro v' w6 hown' hgrow _
          obtain ⟨A5, c5, rfl, HR6⟩ := HFIN.out v' w6 (by rw [List.map_take]; exact hown') hgrow
          clear hown' hgrow HFIN HOW HR2
          go_wp2_with fail
          go_roundw
          case rel => exact ⟨k + 1, A5, c5, by omega, by go_num, rfl, HR6⟩
          case measure => simp [intOf]; omega
    · obtain rfl : k = n := by omega
      have HE : Hid (IntsAt wr wr.heap.size Ao k l ∧ Below w.heap.size w wr) := Lib.hid ⟨by
        have h1 := HR.out.own
        rw [List.take_of_length_le (by rw [HLN.out]; exact Nat.le_refl _)] at h1
        exact IntsAt.of_own h1 (Nat.le_refl _), HR.out.below⟩
      clear HR
      go_wp2_with fail
      go_ret
      exact ⟨Ao, co, rfl, HE.out⟩
end Go.Proofs.Ytmelgnfhocofiaa
