/- The law TourEuler: graphs with a tour. -/
import Derived.Test.YthfgbgmkiggjmabDoorTourEulerA
import Derived.Test.YthfgbgmkiggjmabDoorInside
import Derived.Test.YthfgbgmkiggjmabDoorRefTour
import Derived.Deep.QuietTactic
import Derived.BigQuiet
namespace Go.Proofs.YthfgbgmkiggjmabDoor
open Go.RowKit

theorem way_mem : ∀ (x : Nat) (l : List Nat) (y : Nat), y ∈ l → ∃ z, pr z y ∈ prs x l
  | _, [], _, h => by simp at h
  | x, v :: l, y, h => by
    rcases List.mem_cons.1 h with rfl | h
    · exact ⟨x, by simp [prs]⟩
    · obtain ⟨z, hz⟩ := way_mem v l y h
      exact ⟨z, List.mem_cons_of_mem _ hz⟩
theorem endN_get : ∀ (x : Nat) (l : List Nat), (x :: l)[l.length]? = some (endN x l)
  | _, [] => rfl
  | _, v :: l => by
    simp only [List.length_cons, List.getElem?_cons_succ]
    exact endN_get v l

/-- What is left of the edges at a place of the tour. -/
structure EulInv (m B : Nat) (full : List Nat) (w : World) (c : Nat) (esc : List E3) (A : Option Addr) (n cap : Nat) (wr : World) : Prop where
  some_ : SomeE m esc
  perm : (prsE esc).Perm (prs (full.getD c 0) (full.drop (c + 1)))
  box : RowOf wr B 24 [.int .i64 m, .slice A n cap]
  edges : EdgesAt wr wr.heap.size A n esc
  sep : ∀ a, A = some a → 0 < n → a.block ≠ B
  small : n ≤ 45
  bel : Below B w wr
def EulAt (m B : Nat) (full : List Nat) (w : World) (c : Nat) (wr : World) : Prop := ∃ esc A n cap, EulInv m B full w c esc A n cap wr
theorem drop_step {full : List Nat} {c : Nat} (h : c + 1 < full.length) : full.drop (c + 1) = full.getD (c + 1) 0 :: full.drop (c + 2) := by
  rw [List.drop_eq_getElem_cons h, List.getD_eq_getElem?_getD, List.getElem?_eq_getElem h]
  rfl

set_option maxRecDepth 100000 in
set_option maxHeartbeats 4000000 in
theorem tourEuler_some (m : Nat) (A : Option Addr) (len cap : Nat) (es : List E3) (w : World) (hE : EdgesAt w w.heap.size A len es) (hcap : len ≤ cap) (hv : gcheck m es = 0) (hm : 0 < m) (hT : Tab w) (ht : Tg (prsE es) (tourS m es) (tourS m es)) :
    Calls Tryd.prog 8 #[.agg #[.int .i64 m, .slice A len cap]] w fun e w' => e = .returned (.bool true) ∧ Below w.heap.size w w' := by
  obtain ⟨_, hm10', hl45, hgood⟩ := good_of_gcheck hv
  have hm10 : m ≤ 10 := by omega
  have hlen : len ≤ 45 := by have := hE.1; omega
  have HE := Lib.hid (show EdgesAt (bx w m A len cap) (bx w m A len cap).heap.size A len es from (hE.alloc (Nat.le_refl _) _).more (by simp [bx]))
  have HEL := Lib.hid hE.1
  have HT := Lib.hid (show Tab (bx w m A len cap) from hT.alloc _)
  have HV := Lib.hid hv
  have HTg := Lib.hid ht
  have HGd := Lib.hid hgood
  have HMI := Lib.hid (may_iff hm10 hgood hm)
  have HG : Hid ((gcheck m es == 0) = true) := Lib.hid (by rw [hv]; rfl)
  have hm0 : ((m : Int) == 0) = false := by simp; omega
  clear hE hv hT ht hgood hl45
  go_enter Tryd.func8, Tryd.ntmps8
  go_wp2_with fail
  have HC1 := Lib.hid (tour_good m A len cap es _ HE.out HV.out hm HT.out)
  refine HC1.out.mono ?_
  rintro e w1 ⟨hend, hb1⟩
  obtain ⟨l, A1, cap1, HK, HI1, HLL, rfl⟩ : ∃ l A1 cap1, Hid (Wk (prsE es) (tourS m es) [] l) ∧ Hid (IntsAt w1 w1.heap.size A1 (len + 1) (natsI (tourS m es :: l))) ∧ Hid (l.length = len) ∧ e = .returned (.tuple #[.slice A1 (len + 1) cap1, .int .i64 0]) := by
    obtain ⟨l, A1, cap1, h1, h2, h3⟩ := hend.1 HTg.out
    have hl : l.length = len := by
      have h4 := h1.length
      have h5 := HEL.out
      unfold prsE at h4
      simp at h4
      omega
    rw [hl] at h2 h3
    exact ⟨l, A1, cap1, Lib.hid h1, Lib.hid h3, Lib.hid hl, h2⟩
  have hx0 : w1.cell? ⟨w.heap.size, 0, none⟩ = some (.int .i64 (m : Int)) := by rw [hb1.cell (p := ⟨w.heap.size, 0, none⟩) (by simp [bx])]; simp [bx, go_sem]
  have hx1 : w1.cell? ⟨w.heap.size, 1, none⟩ = some (.slice A len cap) := by rw [hb1.cell (p := ⟨w.heap.size, 1, none⟩) (by simp [bx])]; simp [bx, go_sem]
  have hs1 : w.heap.size < w1.heap.size := by have := hb1.size; simp [bx] at this; omega
  have HE1 := Lib.hid (HE.out.go_ hb1)
  have HT1 := Lib.hid (HT.out.go_ hb1)
  have HB1 : Hid (Below (w.heap.size + 1) (bx w m A len cap) w1) := Lib.hid (hb1.mono (by simp [bx]))
  clear hb1 hend HC1
  go_wp2_with (first
    | (go_at_call 28; refine (degrees_good m A len cap es _ (by exact HE1.out) HV.out).mono ?_; rintro e w2 ⟨gd, rfl, hrow, hgd, hb2⟩; have HRd2 := Lib.hid hrow; have hy0 : w2.cell? ⟨w.heap.size, 0, none⟩ = some (.int .i64 (m : Int)) := ((hb2.cell (p := ⟨w.heap.size, 0, none⟩) hs1).trans hx0); have hy1 : w2.cell? ⟨w.heap.size, 1, none⟩ = some (.slice A len cap) := ((hb2.cell (p := ⟨w.heap.size, 1, none⟩) hs1).trans hx1); have HE2 := Lib.hid (EdgesAt.go_ HE1.out hb2); have HT2 := Lib.hid (Tab.go_ HT1.out hb2); have HB2 := Lib.hid hb2; have hs2 : w.heap.size < w2.heap.size := (by have := hb2.size; omega); clear hrow hb2 hgd)
    | (go_at_call 15; refine (parts_good m A len cap es _ (by exact HE2.out) HV.out (by exact HT2.out)).mono ?_; rintro e w3 ⟨gp, rfl, hrow, hgp, hb3⟩; have HRp3 := Lib.hid hrow; have hz0 : w3.cell? ⟨w.heap.size, 0, none⟩ = some (.int .i64 (m : Int)) := ((hb3.cell (p := ⟨w.heap.size, 0, none⟩) hs2).trans hy0); have hz1 : w3.cell? ⟨w.heap.size, 1, none⟩ = some (.slice A len cap) := ((hb3.cell (p := ⟨w.heap.size, 1, none⟩) hs2).trans hy1); have HE3 := Lib.hid (EdgesAt.go_ HE2.out hb3); have HB3 := Lib.hid hb3; have hs3 : w.heap.size < w3.heap.size := (by have := hb3.size; omega); clear hrow hb3 hgp)
    | (go_at_call 22; refine (good_v m A len cap es true _ (by exact HE3.out) hcap HG.out).mono ?_; rintro e w4 ⟨rfl, hb4⟩; have HB4 := Lib.hid hb4; have hu0 : w4.cell? ⟨w.heap.size, 0, none⟩ = some (.int .i64 (m : Int)) := ((hb4.cell (p := ⟨w.heap.size, 0, none⟩) hs3).trans hz0); have hu1 : w4.cell? ⟨w.heap.size, 1, none⟩ = some (.slice A len cap) := ((hb4.cell (p := ⟨w.heap.size, 1, none⟩) hs3).trans hz1); have HE4 := Lib.hid (EdgesAt.go_ HE3.out hb4); clear hb4))
  have HRd := Lib.hid ((HRd2.out.keep HB3.out).keep HB4.out)
  have HRp := Lib.hid (HRp3.out.keep HB4.out)
  have HBa : Hid (Below w1.heap.size w1 w4) := Lib.hid ((HB2.out.trans (HB3.out.mono HB2.out.size)).trans (HB4.out.mono (Nat.le_trans HB2.out.size HB3.out.size)))
  have HBw : Hid (Below w.heap.size w w4) := Lib.hid ((((Below.refl _ _).alloc (Nat.le_refl _) _).trans (HB1.out.mono (Nat.le_succ _))).trans (HBa.out.mono (by omega)))
  clear hx0 hx1 hy0 hy1 hz0 hz1 HRd2 HRp3 HB2 HB3 HB4 HE HE1 HE2 HE3 HT HT1 HT2
  go_loop [9, 10, 11] (fun mb pt ii => ∃ (i : Nat) (b : Bool) (p : Int), i ≤ m ∧ ii = .int .i64 i ∧ mb = .bool b ∧ pt = .int .i64 p ∧ Hid (p = partAt m es i) ∧ Hid (b = true ↔ MayAt m es i)) (fun _ _ ii => m - (intOf ii).toNat)
  case atStart => exact ⟨0, true, -1, Nat.zero_le _, rfl, rfl, rfl, Lib.hid partAt_zero.symm, Lib.hid ⟨fun _ y hy => by omega, fun _ => rfl⟩⟩
  case round =>
    obtain ⟨i, b, p, hi, rfl, rfl, rfl, HP, HM⟩ := hrel
    by_cases hlt : i < m
    · have hci : w4.cell? ⟨gd, i, none⟩ = some (.int .i64 (degN es (i : Int) : Int)) := HRd.out.cell (by rw [List.getElem?_map, degL_get es hlt]; rfl)
      have hpi : w4.cell? ⟨gp, i, none⟩ = some (.int .i64 (partN m es i : Int)) := HRp.out.cell (by rw [List.getElem?_map, partsL_get hlt]; rfl)
      have hDl := degN_le es (i : Int)
      have hel : es.length ≤ 45 := by have := HEL.out; omega
      have HNX := Lib.hid (MayAt.next (m := m) (es := es) (i := i))
      have ii0 : (0 : Int) ≤ (i : Int) := by omega
      have ii1 : (i : Int) < (m : Int) := by omega
      by_cases hD : degN es (i : Int) = 0
      · have HP2 : Hid (p = partAt m es (i + 1)) := Lib.hid (by rw [HP.out, partAt_none hD])
        have HM2 : Hid (b = true ↔ MayAt m es (i + 1)) := Lib.hid (by rw [HNX.out, HM.out]; exact ⟨fun h => ⟨h, by rw [hD], .inl hD⟩, fun h => h.1⟩)
        rw [hD] at hci
        clear hD hDl HNX HP HM
        cases b
        all_goals
          go_wp2_with fail
          go_round
          case rel => exact ⟨i + 1, _, p, by omega, by go_num, rfl, rfl, HP2, HM2⟩
          case measure => simp [intOf]; omega
      · have hDp : 0 < degN es (i : Int) := by omega
        have hspos : 0 < degN es (tourS m es : Int) := tourS_pos HGd.out hm hDp
        have hsi : tourS m es ≤ i := by
          rcases Nat.lt_or_ge i (tourS m es) with h | h
          · have := (tourS_props HGd.out hm).2 i h; omega
          · exact h
        have HP2 : Hid ((partN m es (tourS m es) : Int) = partAt m es (i + 1)) := Lib.hid (partAt_set hspos (by omega)).symm
        have hpold : (p = -1 ∧ partN m es i = partN m es (tourS m es)) ∨ p = (partN m es (tourS m es) : Int) := by
          rcases Nat.lt_or_ge (tourS m es) i with h | h
          · right; rw [HP.out, partAt_set hspos h]
          · have he : i = tourS m es := by omega
            left
            refine ⟨?_, by rw [← he]⟩
            rw [HP.out, he, partAt_first]
        have hD0 : ((degN es (i : Int) : Int) == 0) = false := by simp; omega
        have HM2 : Hid (∀ (e : Bool) (f : Bool), ((degN es (i : Int) : Int) % 2 == 0) = e → ((partN m es i : Int) == (partN m es (tourS m es) : Int)) = f → ((b && e && f) = true ↔ MayAt m es (i + 1))) := Lib.hid fun e f he hf => by
          rw [HNX.out, Bool.and_eq_true, Bool.and_eq_true, HM.out, ← he, ← hf]
          simp only [beq_iff_eq]
          constructor
          · rintro ⟨⟨h1, h2⟩, h3⟩
            exact ⟨h1, by omega, .inr (by omega)⟩
          · rintro ⟨h1, h2, h3⟩
            refine ⟨⟨h1, by omega⟩, ?_⟩
            rcases h3 with h3 | h3
            · omega
            · omega
        clear HNX HP HM hspos hsi hD
        generalize partN m es (tourS m es) = Q at *
        generalize partN m es i = P at *
        generalize degN es (i : Int) = D at *
        obtain ⟨e, he⟩ : ∃ e : Bool, ((D : Int) % 2 == 0) = e := ⟨_, rfl⟩
        obtain ⟨f, hf⟩ : ∃ f : Bool, ((P : Int) == (Q : Int)) = f := ⟨_, rfl⟩
        have HM3 := Lib.hid (HM2.out e f he hf)
        clear HM2
        rcases hpold with ⟨rfl, rfl⟩ | rfl
        · have hff : f = true := by rw [← hf]; simp
          subst hff
          clear hf
          cases b <;> cases e
          all_goals
            go_wp2_with fail
            go_round
            case rel => exact ⟨i + 1, _, _, by omega, by go_num, rfl, rfl, HP2, HM3⟩
            case measure => simp [intOf]; omega
        · have hQ0 : decide ((Q : Int) < 0) = false := by simp
          cases b <;> cases e <;> cases f
          all_goals
            go_wp2_with fail
            go_round
            case rel => exact ⟨i + 1, _, _, by omega, by go_num, rfl, rfl, HP2, HM3⟩
            case measure => simp [intOf]; omega
    · obtain rfl : i = m := by omega
      obtain rfl : b = true := HM.out.2 (HMI.out.1 HTg.out)
      clear HM HP
      have HSo := Lib.hid (SomeE.of_good HGd.out)
      have HWAY := Lib.hid (HK.out.way _ HSo.out.simp HTg.out.1)
      have hsm := (tourS_props HGd.out hm).1
      have HIN : Hid (∀ y ∈ tourS i es :: l, y < i) := Lib.hid fun y hy => by
        rcases List.mem_cons.1 hy with rfl | hy
        · exact hsm
        · obtain ⟨z, hz⟩ := way_mem _ l y hy
          exact (HSo.out.inG z y (HWAY.out.2.1.mem_iff.1 (List.mem_append_left _ hz))).2
      have HI4 := Lib.hid (HI1.out.go_ HBa.out)
      have HALL : Hid ((natsI (tourS i es :: l)).all (isIn i) = true) := Lib.hid (by
        rw [List.all_eq_true]
        intro x hx
        unfold natsI at hx
        obtain ⟨y, hy, rfl⟩ := List.mem_map.1 hx
        have := HIN.out y hy
        simp [isIn]
        omega)
      obtain ⟨b1, off1, HA1, hc0, hcl⟩ : ∃ b1 off1, Hid (A1 = some ⟨b1, off1, none⟩) ∧ w4.cell? ⟨b1, off1 + 0, none⟩ = some (.int .i64 (tourS i es : Nat)) ∧ w4.cell? ⟨b1, off1 + len, none⟩ = some (.int .i64 (tourS i es : Nat)) := by
        obtain ⟨b1, off1, h1, _, h2⟩ := HI4.out.2 (by omega)
        refine ⟨b1, off1, Lib.hid h1, h2 0 _ (by simp [natsI]), h2 len _ ?_⟩
        have h3 : (tourS i es :: l)[l.length]? = some (endN (tourS i es) l) := endN_get _ l
        unfold natsI
        rw [← HLL.out, List.getElem?_map, h3, HWAY.out.1]
        rfl
      obtain rfl := HA1.out
      rw [Nat.add_zero] at hc0
      clear HA1
      have hl45 : len ≤ 45 := hlen
      generalize hse : tourS i es = s at *
      have HSE := Lib.hid hse
      clear hse
      generalize hne : len = n at *
      have HNE : Hid (l.length = n) := Lib.hid HLL.out
      clear hne HLL
      have hn1 : (n : Int) + 1 - 1 = (n : Int) := by omega
      have hi1 : (0 : Int) < (n : Int) + 1 := by omega
      have hi2 : (n : Int) < (n : Int) + 1 := by omega
      have hi3 : (0 : Int) ≤ (n : Int) := by omega
      go_wp2_with fail
      go_quiet ((go_at_call 23; exact Calls.quiet_of_same ((inside_v i (some ⟨b1, off1, none⟩) (n + 1) cap1 (natsI (s :: l)) true _ (by exact HI4.out) (by omega) HALL.out).mono fun e w' h => ⟨h.1, h.2.symm⟩)))
      have HE5 : Hid (EdgesAt (w4.drewN nq) (w4.drewN nq).heap.size A n es) := Lib.hid HE4.out
      have HI5 : Hid (IntsAt (w4.drewN nq) (w4.drewN nq).heap.size (some ⟨b1, off1, none⟩) (n + 1) (natsI (s :: l))) := Lib.hid HI4.out
      have HBq : Hid (Below w.heap.size w (w4.drewN nq)) := Lib.hid (below_drewN HBw.out nq)
      have hd0 : (w4.drewN nq).cell? ⟨w.heap.size, 0, none⟩ = some (.int .i64 (i : Int)) := hu0
      have hd1 : (w4.drewN nq).cell? ⟨w.heap.size, 1, none⟩ = some (.slice A n cap) := hu1
      have hd2 : (w4.drewN nq).cell? ⟨b1, off1, none⟩ = some (.int .i64 (s : Nat)) := hc0
      clear hc0 hcl HE4 HI4 HI1 HRd HRp HBa HBw hu0 hu1
      generalize w4.drewN nq = wq at *
      go_wp2_with fail
      have HEU : Hid (EulAt i wq.heap.size (s :: l) wq 0 (wq.alloc (.cells #[.int .i64 (i : Int), .slice A n cap] 24))) := Lib.hid (by
        refine ⟨es, A, n, cap, ⟨HSo.out, ?_, (MapKept.heap_alloc wq _).1, (HE5.out.alloc (Nat.le_refl _) _).more (by simp), fun a ha hn => ?_, hl45, (Below.refl _ _).alloc (Nat.le_refl _) _⟩⟩
        · have h := HWAY.out.2.1
          rw [List.append_nil] at h
          exact h.symm
        · obtain ⟨b, off, h1, h2, _⟩ := HE5.out.2 hn
          rw [ha] at h1
          injection h1 with h1
          subst h1
          show b ≠ wq.heap.size
          omega)
      have hb1 : b1 < wq.heap.size := by
        rcases Nat.lt_or_ge b1 wq.heap.size with h1 | h1
        · exact h1
        · simp [World.cell?, Array.getElem?_eq_none h1] at hd2
      have HCEL : Hid (∀ c, c < n + 1 → wq.cell? ⟨b1, off1 + c, none⟩ = some (.int .i64 ((s :: l).getD c 0 : Nat))) := Lib.hid fun c hc => by
        obtain ⟨b2, off2, h1, _, h2⟩ := HI5.out.2 (by omega)
        injection h1 with h1
        injection h1 with h3 h4
        subst h3 h4
        refine h2 c _ ?_
        have hlt : c < (s :: l).length := by simp; have := HNE.out; omega
        unfold natsI
        rw [List.getElem?_map, List.getD_eq_getElem?_getD, List.getElem?_eq_getElem hlt]
        rfl
      have HLEN : Hid ((s :: l).length = n + 1) := Lib.hid (by simp; exact HNE.out)
      clear HE5 HI5 HALL HIN HWAY HK HTg HMI
      go_loopw [13] (fun kk wr => ∃ c : Nat, c ≤ n ∧ kk = .int .i64 ((c : Int) + 1) ∧ Hid (EulAt i wq.heap.size (s :: l) wq c wr)) (fun kk _ => n + 2 - (intOf kk).toNat)
      case atStart => exact ⟨0, Nat.zero_le _, rfl, HEU⟩
      case round =>
        clear HEU
        obtain ⟨c, hc, rfl, HEA⟩ := hrel
        obtain ⟨esc, Ac, nc, capc, HX⟩ : ∃ esc A n cap, Hid (EulInv i wq.heap.size (s :: l) wq c esc A n cap wr) := by
          obtain ⟨esc, A, n, cap, h⟩ := HEA.out
          exact ⟨esc, A, n, cap, Lib.hid h⟩
        clear HEA
        by_cases hcn : c < n
        · have hq0 : wr.cell? ⟨wq.heap.size, 0, none⟩ = some (.int .i64 (i : Int)) := HX.out.box.cell rfl
          have hq1 : wr.cell? ⟨wq.heap.size, 1, none⟩ = some (.slice Ac nc capc) := HX.out.box.cell rfl
          have hbx := HX.out.box.lt
          obtain ⟨v, HVc⟩ : ∃ v, Hid ((s :: l).getD c 0 = v) := ⟨_, Lib.hid rfl⟩
          obtain ⟨v', HVn⟩ : ∃ v', Hid ((s :: l).getD (c + 1) 0 = v') := ⟨_, Lib.hid rfl⟩
          have HLc : Hid (wq.cell? ⟨b1, off1 + c, none⟩ = some (.int .i64 (v : Nat))) := Lib.hid (by rw [← HVc.out]; exact HCEL.out c (by omega))
          have HLn : Hid (wq.cell? ⟨b1, off1 + (c + 1), none⟩ = some (.int .i64 (v' : Nat))) := Lib.hid (by rw [← HVn.out]; exact HCEL.out (c + 1) (by omega))
          have HPERM : Hid ((prsE esc).Perm (pr v v' :: prs v' ((s :: l).drop (c + 2)))) := Lib.hid (by
            have h := HX.out.perm
            rw [drop_step (by rw [HLEN.out]; omega), HVc.out, HVn.out] at h
            exact h)
          have HMEM : Hid (pr v v' ∈ prsE esc) := Lib.hid (HPERM.out.mem_iff.2 (List.mem_cons_self ..))
          have HSm := Lib.hid HX.out.some_
          have hnc := HX.out.small
          have HEc := Lib.hid HX.out.edges
          have HBc := Lib.hid HX.out.bel
          obtain ⟨wo, rfl⟩ : ∃ wo : World, wo = wr := ⟨_, rfl⟩
          go_wp2_with fail
          go_loopw [14, 149] (fun kk ii wr => ∃ (x : Nat) (z : Int), x ≤ nc ∧ ii = .int .i64 x ∧ kk = .int .i64 z ∧ Hid (KInv esc v v' x z) ∧ Below wo.heap.size wo wr) (fun _ ii _ => nc - (intOf ii).toNat)
          case atStart => exact ⟨0, -1, Nat.zero_le _, rfl, rfl, Lib.hid (.inl ⟨rfl, fun x e hx => by omega⟩), Below.refl _ _⟩
          case round =>
            obtain ⟨x, z, hx, rfl, rfl, HK, hBi⟩ := hrel
            by_cases hxn : x < nc
            · obtain ⟨b, off, ⟨a0, a1, a2⟩, rfl, hb, hxe, hd0, hd1, hd2⟩ := (HEc.out.below hBi).at_ hxn
              simp only at hd0 hd1 hd2
              obtain ⟨q0, _, q2, _⟩ := HSm.out.inn _ (List.mem_of_getElem? hxe)
              simp only at q0 q2
              have hpe := prE_eq (e := (a0, a1, a2)) (i := v) (j := v') q0 q2
              simp only at hpe
              have HBo : Hid (Below wq.heap.size wq wr) := Lib.hid (HBc.out.trans (hBi.mono (by omega)))
              have hlc : wr.cell? ⟨b1, off1 + c, none⟩ = some (.int .i64 (v : Nat)) := (HBo.out.cell (p := ⟨b1, off1 + c, none⟩) hb1).trans HLc.out
              have hln : wr.cell? ⟨b1, off1 + (c + 1), none⟩ = some (.int .i64 (v' : Nat)) := (HBo.out.cell (p := ⟨b1, off1 + (c + 1), none⟩) hb1).trans HLn.out
              have hszr := hBi.size
              have hb1r : b1 < wr.heap.size := by omega
              have ic0 : (0 : Int) ≤ (c : Int) := by omega
              have ic1 : (c : Int) < (n : Int) + 1 := by omega
              have ic2 : (0 : Int) ≤ (c : Int) + 1 := by omega
              have ic3 : (c : Int) + 1 < (n : Int) + 1 := by omega
              have ic4 : ((c : Int) + 1).toNat = c + 1 := by omega
              have ic5 : IntKind.i64.wrap ((c : Int) + 1 - 1) = (c : Int) := by rw [show (c : Int) + 1 - 1 = (c : Int) by omega]; exact IntWalk.i64_in _ (by omega)
              by_cases hmt : prE (a0, a1, a2) = pr v v'
              · have HK2 : Hid (KInv esc v v' (x + 1) (x : Int)) := Lib.hid (.inr ⟨x, _, rfl, Nat.lt_succ_self _, hxe, hmt⟩)
                have hw : ((a0 == (v : Int)) = true ∧ (a1 == (v' : Int)) = true) ∨ ((a0 == (v : Int)) = false ∧ (a1 == (v : Int)) = true ∧ (a0 == (v' : Int)) = true) ∨ ((a0 == (v : Int)) = true ∧ (a1 == (v' : Int)) = false ∧ (a1 == (v : Int)) = true ∧ (a0 == (v' : Int)) = true) := by
                  have := hpe.1 hmt
                  simp
                  omega
                clear hpe hmt hxe HK
                rcases hw with ⟨h1, h2⟩ | ⟨h1, h2, h3⟩ | ⟨h1, h2, h3, h4⟩
                all_goals
                  go_wp2_with fail
                  go_quiet (fail)
                  go_wp2_with fail
                  go_roundw
                  case rel => exact ⟨x + 1, x, by omega, by go_num, rfl, HK2, below_drewN (hBi.alloc hBi.size _) _⟩
                  case measure => simp [intOf]; omega
              · have HK2 : Hid (KInv esc v v' (x + 1) z) := Lib.hid (by
                  rcases HK.out with ⟨p1, p2⟩ | ⟨y, e, p1, p2, p3, p4⟩
                  · refine .inl ⟨p1, fun y e hyi hye => ?_⟩
                    rcases Nat.lt_or_ge y x with h | h
                    · exact p2 y e h hye
                    · obtain rfl : y = x := by omega
                      rw [hxe] at hye
                      injection hye with hye
                      subst hye
                      exact hmt
                  · exact .inr ⟨y, e, p1, by omega, p3, p4⟩)
                have hw : ((a0 == (v : Int)) = true ∧ (a1 == (v' : Int)) = false ∧ (a1 == (v : Int)) = false) ∨ ((a0 == (v : Int)) = true ∧ (a1 == (v' : Int)) = false ∧ (a1 == (v : Int)) = true ∧ (a0 == (v' : Int)) = false) ∨ ((a0 == (v : Int)) = false ∧ (a1 == (v : Int)) = true ∧ (a0 == (v' : Int)) = false) ∨ ((a0 == (v : Int)) = false ∧ (a1 == (v : Int)) = false) := by
                  have : ¬ ((a0 = (v : Int) ∧ a1 = (v' : Int)) ∨ (a0 = (v' : Int) ∧ a1 = (v : Int))) := fun h => hmt (hpe.2 h)
                  simp
                  omega
                clear hpe hmt hxe HK
                rcases hw with ⟨h1, h2, h3⟩ | ⟨h1, h2, h3, h4⟩ | ⟨h1, h2, h3⟩ | ⟨h1, h2⟩
                all_goals
                  go_wp2_with fail
                  go_quiet (fail)
                  go_wp2_with fail
                  go_roundw
                  case rel => exact ⟨x + 1, z, by omega, by go_num, rfl, HK2, below_drewN (hBi.alloc hBi.size _) _⟩
                  case measure => simp [intOf]; omega
            · obtain rfl : x = nc := by omega
              obtain ⟨y, e, HZ, hyx, HYE, HPE⟩ : ∃ (y : Nat) (e : E3), Hid (z = (y : Nat)) ∧ y < x ∧ Hid (esc[y]? = some e) ∧ Hid (prE e = pr v v') := by
                rcases HK.out with ⟨_, p2⟩ | ⟨y, e, p1, p2, p3, p4⟩
                · exfalso
                  obtain ⟨e, he, hpe⟩ := List.mem_map.1 HMEM.out
                  obtain ⟨y, hy⟩ := List.getElem?_of_mem he
                  have hyi : y < x := by have := (List.getElem?_eq_some_iff.1 hy).1; have := HEc.out.1; omega
                  exact p2 y e hyi hy hpe
                · exact ⟨y, e, Lib.hid p1, p2, Lib.hid p3, Lib.hid p4⟩
              obtain rfl := HZ.out
              clear HZ HK hq0 hq1
              have hszr := hBi.size
              have hq0 : wr.cell? ⟨wq.heap.size, 0, none⟩ = some (.int .i64 (i : Int)) := (hBi.cell (p := ⟨wq.heap.size, 0, none⟩) hbx).trans (HX.out.box.cell rfl)
              have hq1 : wr.cell? ⟨wq.heap.size, 1, none⟩ = some (.slice Ac x capc) := (hBi.cell (p := ⟨wq.heap.size, 1, none⟩) hbx).trans (HX.out.box.cell rfl)
              have hy0 : decide ((y : Int) < 0) = false := by simp
              have HPM : Hid ((prsE (esc.eraseIdx y)).Perm (prs v' ((s :: l).drop (c + 2)))) := Lib.hid (by
                have h := erase_perm HYE.out
                rw [HPE.out] at h
                have h2 := HPERM.out.erase (pr v v')
                rw [List.erase_cons_head] at h2
                exact h.trans h2)
              have HS2 := Lib.hid (HSm.out.less y)
              have hL45 : (esc.eraseIdx y).length ≤ 45 := by
                have h1 := List.length_eraseIdx_le (l := esc) (i := y)
                have h2 := HEc.out.1
                omega
              have HCALL := Lib.hid (fewer_any i y Ac x capc esc wr (HEc.out.go_ hBi) hnc)
              go_wp2_with fail
              refine HCALL.out.mono ?_
              rintro en w5 ⟨hlo, hb5⟩
              obtain ⟨A5, cap5, HE5, HA5, rfl⟩ : ∃ A5 cap5, Hid (EdgesAt w5 w5.heap.size A5 (esc.eraseIdx y).length (esc.eraseIdx y)) ∧ Hid (∀ a, A5 = some a → wr.heap.size ≤ a.block) ∧ en = .returned (.agg #[.int .i64 (i : Int), .slice A5 (esc.eraseIdx y).length cap5]) := by
                obtain ⟨A5, cap5, h1, h2, h3⟩ := hlo
                exact ⟨A5, cap5, Lib.hid h2, Lib.hid (fun a ha => (h3 a ha).1), h1⟩
              have HBX := Lib.hid ((HX.out.box.keep hBi).keep hb5)
              have hs0' : w5.cell? ⟨wq.heap.size, 0, none⟩ = some (.int .i64 (i : Int)) := HBX.out.cell rfl
              have hs1' : w5.cell? ⟨wq.heap.size, 1, none⟩ = some (.slice Ac x capc) := HBX.out.cell rfl
              have hf0' := HBX.out.frozen 0
              have hf1' := HBX.out.frozen 1
              have HNEW : Hid (EulAt i wq.heap.size (s :: l) wq (c + 1) ((w5.setCell ⟨wq.heap.size, 0, none⟩ (.int .i64 (i : Int))).setCell ⟨wq.heap.size, 1, none⟩ (.slice A5 (esc.eraseIdx y).length cap5))) := Lib.hid (by
                refine ⟨esc.eraseIdx y, A5, (esc.eraseIdx y).length, cap5, ⟨HS2.out, ?_, (HBX.out.set_ 0 (.int .i64 (i : Int))).set_ 1 (.slice A5 (esc.eraseIdx y).length cap5), ?_, fun a ha _ => ?_, hL45, ?_⟩⟩
                · rw [HVn.out]; exact HPM.out
                · refine HE5.out.move (fun a ha => ?_) (by simp)
                  have := HA5.out a ha
                  exact (Below.heap_setCell _ _ _ a.block (by show a.block ≠ wq.heap.size; omega)).trans (Below.heap_setCell _ _ _ a.block (by show a.block ≠ wq.heap.size; omega))
                · have := HA5.out a ha
                  omega
                · exact (((HBc.out.trans (hBi.mono (by omega))).trans (hb5.mono (by omega))).setCell (p := ⟨wq.heap.size, 0, none⟩) (Nat.le_refl _) _).setCell (p := ⟨wq.heap.size, 1, none⟩) (Nat.le_refl _) _)
              clear hlo hb5 HCALL
              generalize (esc.eraseIdx y).length = nl at *
              go_wp2_with fail
              go_roundw
              case rel => exact ⟨c + 1, by omega, by go_num, HNEW⟩
              case measure => simp [intOf]; omega
        · obtain rfl : c = n := by omega
          have HBF : Hid (Below w.heap.size w wr) := Lib.hid (HBq.out.trans (HX.out.bel.mono HBq.out.size))
          go_wp2_with fail
          go_ret
          exact ⟨rfl, HBF.out⟩

set_option maxRecDepth 100000 in
theorem tourEuler_any (n : Int) (A : Option Addr) (len cap : Nat) (es : List E3) (w : World) (hE : EdgesAt w w.heap.size A len es) (hcap : len ≤ cap) (_ : ∀ e ∈ es, WfE e) (_ : (Lit.int .i64 n).wf = true) (hT : Tab w) :
    Calls Tryd.prog 8 #[.agg #[.int .i64 n, .slice A len cap]] w fun e w' => e = .returned (.bool true) ∧ Below w.heap.size w w' := by
  by_cases h : gcheck n es = 0
  · obtain ⟨m, rfl⟩ := Int.eq_ofNat_of_zero_le (good_of_gcheck h).1
    rcases Nat.eq_zero_or_pos m with rfl | hm
    · exact tourEuler_zero A len cap es w hE hcap h hT
    · by_cases ht : Tg (prsE es) (tourS m es) (tourS m es)
      · exact tourEuler_some m A len cap es w hE hcap h hm hT ht
      · exact tourEuler_none m A len cap es w hE hcap h hm hT ht
  · exact tourEuler_bad n A len cap es _ w hE hcap rfl h
end Go.Proofs.YthfgbgmkiggjmabDoor
