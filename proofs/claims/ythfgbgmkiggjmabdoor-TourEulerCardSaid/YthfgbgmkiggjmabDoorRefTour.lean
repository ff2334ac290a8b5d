/- The reference's Tour: step by step the least one behind which all that is left can be met. -/
import Derived.Test.YthfgbgmkiggjmabDoorTourGo
import Derived.Test.YthfgbgmkiggjmabDoorTouring
import Derived.Test.YthfgbgmkiggjmabDoorLess
import Derived.Deep.LoopGhost
namespace Go.Proofs.YthfgbgmkiggjmabDoor
open Go.RowKit

theorem start_eq {m : Nat} {ar : List Nat} {G : List Pr} (h : WordsOf m ar G) (hs : Simp G) (hin : InG m G) (hm : 0 < m) {s : Nat} (hst : (0 < degP G s ∧ ∀ y, y < s → degP G y = 0) ∨ (s = 0 ∧ ∀ y, y < m → degP G y = 0)) : s = firstL ar := by
  obtain ⟨h1, h2, h3⟩ := firstL_props h hs hin hm
  rcases hst with ⟨p1, p2⟩ | ⟨rfl, p2⟩
  · rcases h3 with q | ⟨_, q⟩
    · rcases Nat.lt_trichotomy s (firstL ar) with hh | hh | hh
      · have := h2 s hh; omega
      · exact hh
      · have := p2 _ hh; omega
    · have := q s; omega
  · rcases h3 with q | ⟨q, _⟩
    · have := p2 _ h1; omega
    · exact q.symm
/-- As far as the nodes were looked at, from the last one on. -/
def StartInv (m : Nat) (G : List Pr) (c s : Nat) : Prop := (0 < degP G s ∧ s < m ∧ c ≤ s ∧ ∀ y, c ≤ y → y < s → degP G y = 0) ∨ (s = 0 ∧ ∀ y, c ≤ y → y < m → degP G y = 0)

/-- The place of the edge between two nodes, as far as one looked. -/
def KInv (esc : List E3) (v j i : Nat) (kk : Int) : Prop := (kk = -1 ∧ ∀ x e, x < i → esc[x]? = some e → prE e ≠ pr v j) ∨ ∃ x e, kk = (x : Nat) ∧ x < i ∧ esc[x]? = some e ∧ prE e = pr v j

structure TourInv (m s base : Nat) (full : List Nat) (w : World) (v : Nat) (r : List Nat) (esc : List E3) (A : Option Addr) (n cap : Nat) (vl : Value) (done : List Nat) (wr : World) : Prop where
  sum : done ++ r = full
  lt : v < m
  fin : endN v r = s
  grd : Grd s [] v r
  some_ : SomeE m esc
  perm : (prsE esc).Perm (prs v r)
  box : RowOf wr w.heap.size 24 [.int .i64 m, .slice A n cap]
  edges : EdgesAt wr wr.heap.size A n esc
  sep : ∀ a, A = some a → 0 < n → a.block ≠ w.heap.size ∧ vl.ownBlock ≠ some a.block
  own : wr.ownsRow base 3 1 vl done.length (done.map natV)
  bel : Below w.heap.size w wr
  small : n ≤ 45
  dn : done.length ≤ 46
def RT (m s base : Nat) (full : List Nat) (w : World) (c : Nat) (vl va : Value) (wr : World) : Prop :=
  ∃ v r esc A n cap done, r.length = c ∧ va = .int .i64 (v : Nat) ∧ TourInv m s base full w v r esc A n cap vl done wr

set_option maxRecDepth 100000 in
theorem own_lit (w : World) (base x : Nat) (hb : base ≤ w.heap.size) : (w.alloc (.cells #[.int .i64 (x : Int)] 3)).ownsRow base 3 1 (.slice (some ⟨w.heap.size, 0, none⟩) 1 1) 1 ([x].map natV) :=
  ⟨rfl, .inr ⟨w.heap.size, 1, _, rfl, hb, (MapKept.heap_alloc w _).1, Nat.le_refl _, by unfold maxLen; omega, rfl, rfl⟩⟩

set_option maxRecDepth 100000 in
set_option maxHeartbeats 4000000 in
theorem refTour_some (m : Nat) (A : Option Addr) (len cap : Nat) (es : List E3) (l : List Nat) (w : World) (hE : EdgesAt w w.heap.size A len es) (hv : gcheck m es = 0) (hm : 0 < m) (hw : Wk (prsE es) (tourS m es) [] l) (ht : Tg (prsE es) (tourS m es) (tourS m es)) :
    Calls Tryd.prog 27 #[.agg #[.int .i64 m, .slice A len cap]] w fun e w' => (∃ v, e = .returned v ∧ w'.ownsRow w.heap.size 3 1 v (l.length + 1) ((tourS m es :: l).map natV)) ∧ Below w.heap.size w w' := by
  obtain ⟨_, hm10', hl45, hgood⟩ := good_of_gcheck hv
  have hm10 : m ≤ 10 := by omega
  have hlen : len ≤ 45 := by have := hE.1; omega
  have hsome := SomeE.of_good hgood
  have hwords := words_good hgood
  obtain ⟨hsm, _, _⟩ := firstL_props hwords hsome.simp hsome.inG hm
  have HE := Lib.hid (show EdgesAt (bx w m A len cap) (bx w m A len cap).heap.size A len es from (hE.alloc (Nat.le_refl _) _).more (by simp [bx]))
  have HEw := Lib.hid hE
  have HS := Lib.hid hsome
  have HWk := Lib.hid hw
  have HTg := Lib.hid ht
  have HST : Hid (∀ s, (0 < degP (prsE es) s ∧ ∀ y, y < s → degP (prsE es) y = 0) ∨ (s = 0 ∧ ∀ y, y < m → degP (prsE es) y = 0) → s = tourS m es) := Lib.hid fun s h => start_eq hwords hsome.simp hsome.inG hm h
  have HIN := Lib.hid hsome.inn
  clear hE hv hw ht hsome hwords hgood hl45
  change tourS m es < m at hsm
  obtain ⟨i0, hi, hz0, hz1, hz2⟩ := info_parts infoInt
  have HI := Lib.hid hi
  have HI0 := Lib.hid hz0
  have HI1 := Lib.hid hz1
  have HI2 := Lib.hid hz2
  clear hi hz0 hz1 hz2
  go_enter Tryd.func27, Tryd.ntmps27
  go_wp2_with fail
  go_loopw [3, 4] (fun st j wr => ∃ (s : Nat) (z : Int), s < m ∧ -1 ≤ z ∧ z < m ∧ st = .int .i64 s ∧ j = .int .i64 z ∧ Hid (StartInv m (prsE es) (z + 1).toNat s) ∧ Below (w.heap.size + 1) (bx w m A len cap) wr) (fun _ j _ => (intOf j + 1).toNat)
  case atStart => exact ⟨0, (m : Int) - 1, hm, by omega, by omega, rfl, rfl, Lib.hid (.inr ⟨rfl, fun y h1 h2 => by omega⟩), Below.refl _ _⟩
  case round =>
    obtain ⟨s, z, hs, hz1, hz2, rfl, rfl, HSI, hB⟩ := hrel
    have hs0 : w.heap.size < wr.heap.size := by have := hB.size; simp [bx] at this; omega
    have hbx0 : wr.cell? ⟨w.heap.size, 0, none⟩ = some (.int .i64 m) := by
      rw [hB.cell (p := ⟨w.heap.size, 0, none⟩) (Nat.lt_succ_self _)]; simp [bx, go_sem]
    have hbx1 : wr.cell? ⟨w.heap.size, 1, none⟩ = some (.slice A len cap) := by
      rw [hB.cell (p := ⟨w.heap.size, 1, none⟩) (Nat.lt_succ_self _)]; simp [bx, go_sem]
    have HE2 := Lib.hid (HE.out.go_ (hB.mono (by simp [bx])))
    by_cases hz : 0 ≤ z
    · obtain ⟨i, rfl⟩ := Int.eq_ofNat_of_zero_le hz
      have HDeg := Lib.hid (degree_any m i A len cap es wr HE2.out hlen)
      have HD : Hid (degN es (i : Int) = degP (prsE es) i) := Lib.hid (degE_pairs HIN.out i)
      have hDl := degN_le es (i : Int)
      have hel : es.length ≤ 45 := by have := HEw.out.1; omega
      generalize degN es (i : Int) = D at *
      go_wp2_with fail
      refine HDeg.out.mono ?_
      rintro e wd ⟨rfl, hbd⟩
      have HBd : Hid (Below (w.heap.size + 1) (bx w m A len cap) wd) := Lib.hid (hB.trans (hbd.mono hs0))
      clear hbd
      by_cases hD : D = 0
      · have hDb : decide (0 < D) = false := by simp; omega
        have HN : Hid (StartInv m (prsE es) ((i : Int) - 1 + 1).toNat s) := Lib.hid (by
          have e : ((i : Int) - 1 + 1).toNat = i := by omega
          have e2 : ((i : Int) + 1).toNat = i + 1 := by omega
          rw [e]
          have h := HSI.out
          rw [e2] at h
          have h0 : degP (prsE es) i = 0 := by rw [← HD.out]; exact hD
          rcases h with ⟨p1, p2, p3, p4⟩ | ⟨p1, p2⟩
          · refine .inl ⟨p1, p2, by omega, fun y h1 h2 => ?_⟩
            rcases Nat.lt_or_ge i y with h3 | h3
            · exact p4 y h3 h2
            · obtain rfl : y = i := by omega
              exact h0
          · refine .inr ⟨p1, fun y h1 h2 => ?_⟩
            rcases Nat.lt_or_ge i y with h3 | h3
            · exact p2 y h3 h2
            · obtain rfl : y = i := by omega
              exact h0)
        clear hD
        go_wp2_with fail
        go_roundw
        case rel => exact ⟨s, (i : Int) - 1, hs, by omega, by omega, rfl, rfl, HN, HBd.out⟩
        case measure => simp [intOf]
      · have hDp : 0 < D := by omega
        have HN : Hid (StartInv m (prsE es) ((i : Int) - 1 + 1).toNat i) := Lib.hid (by
          have e : ((i : Int) - 1 + 1).toNat = i := by omega
          rw [e]
          exact .inl ⟨by rw [← HD.out]; exact hDp, by omega, Nat.le_refl _, fun y h1 h2 => by omega⟩)
        go_wp2_with fail
        go_roundw
        case rel => exact ⟨i, (i : Int) - 1, by omega, by omega, by omega, rfl, rfl, HN, HBd.out⟩
        case measure => simp [intOf]
    · obtain rfl : z = -1 := by omega
      obtain rfl : s = tourS m es := HST.out s (by
        rcases HSI.out with ⟨p1, p2, p3, p4⟩ | ⟨p1, p2⟩
        · exact .inl ⟨p1, fun y hy => p4 y (by simp) hy⟩
        · exact .inr ⟨p1, fun y hy => p2 y (by simp) hy⟩)
      clear HSI HST
      have HTo := Lib.hid (touring_v m (tourS m es) (tourS m es) A len cap es true wr HE2.out hm10 hlen HS.out hsm hsm ⟨fun _ => HTg.out, fun _ => rfl⟩)
      have hll45 : l.length ≤ 45 := by
        have h1 := HWk.out.length
        have h2 := HEw.out.1
        unfold prsE at h1
        simp at h1
        omega
      generalize hte : tourS m es = s at *
      have HTE := Lib.hid hte
      clear hte
      go_wp2_with fail
      refine HTo.out.mono ?_
      rintro e wt ⟨rfl, hbt⟩
      go_wp2_with fail
      have HWAY := Lib.hid (HWk.out.way s HS.out.simp HTg.out.1)
      have HFST := Lib.hid (HWk.out.first s [] s HS.out.simp HTg.out.1 (fun y hy => by simp at hy) (by simp [prs]))
      have HRT : Hid (RT m s (w.heap.size + 1) (s :: l) w l.length (.slice (some ⟨wt.heap.size, 0, none⟩) 1 1) (.int .i64 s) (wt.alloc (.cells #[.int .i64 (s : Int)] 3))) := Lib.hid (by
        have hst := hbt.size
        refine ⟨s, l, es, A, len, cap, [s], rfl, rfl, ⟨rfl, hsm, HWAY.out.1, HFST.out, HS.out, ?_, ?_, ?_, ?_, own_lit wt _ s (by omega), ?_, hlen, by simp⟩⟩
        · have h := HWAY.out.2.1
          rw [List.append_nil] at h
          exact h.symm
        · have h : RowOf (bx w m A len cap) w.heap.size 24 [.int .i64 m, .slice A len cap] := (MapKept.heap_alloc w _).1
          exact ((h.below hB (Nat.lt_succ_self _)).keep hbt).alloc _
        · exact ((HE2.out.go_ hbt).alloc (Nat.le_refl _) _).more (by simp)
        · intro a ha hn
          obtain ⟨b, off, h1, h2, _⟩ := HEw.out.2 hn
          rw [ha] at h1
          injection h1 with h1
          subst h1
          refine ⟨by show b ≠ w.heap.size; omega, fun h => ?_⟩
          simp only [Value.ownBlock, Option.some.injEq] at h
          omega
        · exact ((((Below.refl _ _).alloc (Nat.le_refl _) _).trans (hB.mono (Nat.le_succ _))).trans (hbt.mono (by omega))).alloc (by omega) _)
      clear HWAY HFST hbx0 hbx1 hbt HE2 hB HTo HWk HTg HE
      go_loopg [5, 6] l.length (fun c vl va wr => Hid (RT m s (w.heap.size + 1) (s :: l) w c vl va wr))
      case atStart => exact HRT
      case round =>
        clear HRT
        obtain ⟨v, r, esc, Ac, nc, capc, done, HC, HVA, HTI⟩ : ∃ v r esc A n cap done, Hid (r.length = gk) ∧ Hid (u6 = .int .i64 (v : Nat)) ∧ Hid (TourInv m s (w.heap.size + 1) (s :: l) w v r esc A n cap u5 done wr) := by
          obtain ⟨v, r, esc, A, n, cap, done, h1, h2, h3⟩ := hrel.out
          exact ⟨v, r, esc, A, n, cap, done, Lib.hid h1, Lib.hid h2, Lib.hid h3⟩
        clear hrel
        obtain rfl := HVA.out
        clear HVA
        have hb0 : wr.cell? ⟨w.heap.size, 0, none⟩ = some (.int .i64 m) := HTI.out.box.cell rfl
        have hb1 : wr.cell? ⟨w.heap.size, 1, none⟩ = some (.slice Ac nc capc) := HTI.out.box.cell rfl
        have hbl := HTI.out.box.lt
        have HRL : Hid (r.length = nc) := Lib.hid (by
          have h1 := HTI.out.perm.length_eq
          rw [prs_length] at h1
          have h2 := HTI.out.edges.1
          unfold prsE at h1
          rw [List.length_map] at h1
          omega)
        by_cases hn : nc = 0
        · have hnb : decide (0 < nc) = false := by simp; omega
          have HEND : Hid (wr.ownsRow w.heap.size 3 1 u5 (l.length + 1) ((s :: l).map natV)) := Lib.hid (by
            have h1 : r = [] := List.length_eq_zero_iff.1 (by rw [HRL.out]; exact hn)
            have h2 := HTI.out.sum
            rw [h1, List.append_nil] at h2
            have h3 := HTI.out.own
            rw [h2] at h3
            exact own_low h3 (Nat.le_succ _))
          have HBE := Lib.hid HTI.out.bel
          clear hn
          go_wp2_with fail
          go_ret
          exact ⟨⟨_, rfl, by rw [HTE.out]; exact HEND.out⟩, HBE.out⟩
        · have hnp : 0 < nc := by omega
          obtain ⟨v', r', HRC⟩ : ∃ v' r', Hid (r = v' :: r') := by
            cases r with
            | nil => have := HRL.out; simp at this; omega
            | cons v' r' => exact ⟨v', r', Lib.hid rfl⟩
          obtain rfl := HRC.out
          clear HRC hn
          have HMEM : Hid (pr v v' ∈ prsE esc) := Lib.hid (HTI.out.perm.mem_iff.2 (by simp [prs]))
          have hv' : v' < m := (HTI.out.some_.inG v v' HMEM.out).2
          have hvm := HTI.out.lt
          have HNOT : Hid (∀ j, j < v' → pr v j ∈ prsE esc → ¬ Tg ((prsE esc).erase (pr v j)) j s) := Lib.hid fun j hj hp ht => by
            have h1 := HTI.out.grd.1 j hj
            rw [List.append_nil] at h1
            exact h1 (HTI.out.perm.mem_iff.1 hp) (ht.perm (HTI.out.perm.erase _))
          have HYES : Hid (((prsE esc).erase (pr v v')).Perm (prs v' r')) := Lib.hid (by
            have h1 := HTI.out.perm.erase (pr v v')
            simp only [prs, List.erase_cons_head] at h1
            exact h1)
          have HTGY : Hid (Tg (prs v' r') v' s) := Lib.hid (by
            have h1 := tg_way v' r' (fun p hp => HTI.out.some_.simp.lt p (HTI.out.perm.mem_iff.2 (List.mem_cons_of_mem _ hp)))
            rw [show endN v' r' = s from HTI.out.fin] at h1
            exact h1)
          obtain ⟨wo, rfl⟩ : ∃ wo : World, wo = wr := ⟨_, rfl⟩
          obtain ⟨vl, rfl⟩ : ∃ vl : Value, vl = u5 := ⟨_, rfl⟩
          have HEo := Lib.hid HTI.out.edges
          have HSo := Lib.hid HTI.out.some_
          have hnc45 : nc ≤ 45 := HTI.out.small
          go_wp2_with fail
          go_loopw [5, 6, 7] (fun s5 s6 jj wr => ∃ j : Nat, j ≤ v' ∧ s5 = vl ∧ s6 = .int .i64 (v : Nat) ∧ jj = .int .i64 j ∧ Below wo.heap.size wo wr) (fun _ _ jj _ => m - (intOf jj).toNat)
          case atStart => exact ⟨0, Nat.zero_le _, rfl, rfl, rfl, Below.refl _ _⟩
          case round =>
            obtain ⟨j, hj, rfl, rfl, rfl, hBj⟩ := hrel
            have hjm : j < m := by omega
            clear hb0 hb1
            have hb0 : wr.cell? ⟨w.heap.size, 0, none⟩ = some (.int .i64 m) := (hBj.cell (p := ⟨w.heap.size, 0, none⟩) hbl).trans (HTI.out.box.cell rfl)
            have hb1 : wr.cell? ⟨w.heap.size, 1, none⟩ = some (.slice Ac nc capc) := (hBj.cell (p := ⟨w.heap.size, 1, none⟩) hbl).trans (HTI.out.box.cell rfl)
            obtain ⟨wj, rfl⟩ : ∃ wo : World, wo = wr := ⟨_, rfl⟩
            have HEj := Lib.hid (HEo.out.go_ hBj)
            have hszj := hBj.size
            go_wp2_with fail
            go_loopw [8, 44] (fun kk ii wr => ∃ (i : Nat) (z : Int), i ≤ nc ∧ ii = .int .i64 i ∧ kk = .int .i64 z ∧ Hid (KInv esc v j i z) ∧ Below wj.heap.size wj wr) (fun _ ii _ => nc - (intOf ii).toNat)
            case atStart => exact ⟨0, -1, Nat.zero_le _, rfl, rfl, Lib.hid (.inl ⟨rfl, fun x e hx => by omega⟩), Below.refl _ _⟩
            case round =>
              obtain ⟨i, z, hi, rfl, rfl, HK, hBi⟩ := hrel
              by_cases hin : i < nc
              · obtain ⟨b, off, ⟨a0, a1, a2⟩, rfl, hb, hx, hc0, hc1, hc2⟩ := (HEj.out.below hBi).at_ hin
                simp only at hc0 hc1 hc2
                obtain ⟨q0, _, q2, _⟩ := HSo.out.inn _ (List.mem_of_getElem? hx)
                simp only at q0 q2
                have hpe := prE_eq (e := (a0, a1, a2)) (i := v) (j := j) q0 q2
                simp only at hpe
                by_cases hmt : prE (a0, a1, a2) = pr v j
                · have HK2 : Hid (KInv esc v j (i + 1) (i : Int)) := Lib.hid (.inr ⟨i, _, rfl, Nat.lt_succ_self _, hx, hmt⟩)
                  have hw : ((a0 == (v : Int)) = true ∧ (a1 == (j : Int)) = true) ∨ ((a0 == (v : Int)) = false ∧ (a0 == (j : Int)) = true ∧ (a1 == (v : Int)) = true) ∨ ((a0 == (v : Int)) = true ∧ (a1 == (j : Int)) = false ∧ (a0 == (j : Int)) = true ∧ (a1 == (v : Int)) = true) := by
                    have := hpe.1 hmt
                    simp
                    omega
                  clear hpe hmt hx HK
                  rcases hw with ⟨h1, h2⟩ | ⟨h1, h2, h3⟩ | ⟨h1, h2, h3, h4⟩
                  all_goals
                    go_wp2_with fail
                    go_roundw
                    case rel => exact ⟨i + 1, i, by omega, by go_num, rfl, HK2, hBi.alloc hBi.size _⟩
                    case measure => simp [intOf]; omega
                · have HK2 : Hid (KInv esc v j (i + 1) z) := Lib.hid (by
                    rcases HK.out with ⟨p1, p2⟩ | ⟨x, e, p1, p2, p3, p4⟩
                    · refine .inl ⟨p1, fun x e hxi hxe => ?_⟩
                      rcases Nat.lt_or_ge x i with h | h
                      · exact p2 x e h hxe
                      · obtain rfl : x = i := by omega
                        rw [hx] at hxe
                        injection hxe with hxe
                        subst hxe
                        exact hmt
                    · exact .inr ⟨x, e, p1, by omega, p3, p4⟩)
                  have hw : ((a0 == (v : Int)) = true ∧ (a1 == (j : Int)) = false ∧ (a0 == (j : Int)) = false) ∨ ((a0 == (v : Int)) = true ∧ (a1 == (j : Int)) = false ∧ (a0 == (j : Int)) = true ∧ (a1 == (v : Int)) = false) ∨ ((a0 == (v : Int)) = false ∧ (a0 == (j : Int)) = true ∧ (a1 == (v : Int)) = false) ∨ ((a0 == (v : Int)) = false ∧ (a0 == (j : Int)) = false) := by
                    have : ¬ ((a0 = (v : Int) ∧ a1 = (j : Int)) ∨ (a0 = (j : Int) ∧ a1 = (v : Int))) := fun h => hmt (hpe.2 h)
                    simp
                    omega
                  clear hpe hmt hx HK
                  rcases hw with ⟨h1, h2, h3⟩ | ⟨h1, h2, h3, h4⟩ | ⟨h1, h2, h3⟩ | ⟨h1, h2⟩
                  all_goals
                    go_wp2_with fail
                    go_roundw
                    case rel => exact ⟨i + 1, z, by omega, by go_num, rfl, HK2, hBi.alloc hBi.size _⟩
                    case measure => simp [intOf]; omega
              · obtain rfl : i = nc := by omega
                have hszi := hBi.size
                have HBoi : Hid (Below wo.heap.size wo wr) := Lib.hid (hBj.trans (hBi.mono hszj))
                clear hb0 hb1
                have hb0 : wr.cell? ⟨w.heap.size, 0, none⟩ = some (.int .i64 m) := (HBoi.out.cell (p := ⟨w.heap.size, 0, none⟩) hbl).trans (HTI.out.box.cell rfl)
                have hb1 : wr.cell? ⟨w.heap.size, 1, none⟩ = some (.slice Ac i capc) := (HBoi.out.cell (p := ⟨w.heap.size, 1, none⟩) hbl).trans (HTI.out.box.cell rfl)
                have HEi := Lib.hid (HEo.out.go_ HBoi.out)
                by_cases hz : z = -1
                · subst hz
                  have hjv : j < v' := by
                    rcases HK.out with ⟨_, p2⟩ | ⟨x, e, p1, _⟩
                    · rcases Nat.lt_or_ge j v' with h | h
                      · exact h
                      · obtain rfl : j = v' := by omega
                        exfalso
                        obtain ⟨e, he, hpe⟩ := List.mem_map.1 HMEM.out
                        obtain ⟨x, hx⟩ := List.getElem?_of_mem he
                        have hxi : x < i := by have := (List.getElem?_eq_some_iff.1 hx).1; have := HEo.out.1; omega
                        exact p2 x e hxi hx hpe
                    · omega
                  clear HK
                  go_wp2_with fail
                  go_roundw
                  case rel => exact ⟨j + 1, by omega, rfl, rfl, by go_num, HBoi.out⟩
                  case measure => simp [intOf]; omega
                · obtain ⟨x, e, HX, hxi, HXE, HPE⟩ : ∃ (x : Nat) (e : E3), Hid (z = (x : Nat)) ∧ x < i ∧ Hid (esc[x]? = some e) ∧ Hid (prE e = pr v j) := by
                    rcases HK.out with ⟨p1, _⟩ | ⟨x, e, p1, p2, p3, p4⟩
                    · exact absurd p1 hz
                    · exact ⟨x, e, Lib.hid p1, p2, Lib.hid p3, Lib.hid p4⟩
                  obtain rfl := HX.out
                  clear HX hz HK
                  have HPM : Hid ((prsE (esc.eraseIdx x)).Perm ((prsE esc).erase (pr v j))) := Lib.hid (by
                    have h := erase_perm HXE.out
                    rwa [HPE.out] at h)
                  have HS2 := Lib.hid (HSo.out.less x)
                  have hL45 : (esc.eraseIdx x).length ≤ 45 := by
                    have h1 := List.length_eraseIdx_le (l := esc) (i := x)
                    have h2 := HEo.out.1
                    omega
                  have HCALL := Lib.hid (less_any m x Ac i capc esc wr HEi.out hnc45)
                  go_wp2_with fail
                  refine HCALL.out.mono ?_
                  rintro en wl ⟨hlo, hbl2⟩
                  obtain ⟨Al, capl, HEl, rfl⟩ : ∃ Al capl, Hid (EdgesAt wl wl.heap.size Al (esc.eraseIdx x).length (esc.eraseIdx x)) ∧ en = .returned (.agg #[.int .i64 m, .slice Al (esc.eraseIdx x).length capl]) := by
                    obtain ⟨Al, capl, h1, h2, _⟩ := hlo
                    exact ⟨Al, capl, Lib.hid h2, h1⟩
                  clear hlo HCALL
                  have HBl : Hid (Below wr.heap.size wr wl) := Lib.hid hbl2
                  clear hbl2
                  by_cases hjv : j < v'
                  · have HTOU := Lib.hid (touring_v m j s Al (esc.eraseIdx x).length capl (esc.eraseIdx x) false wl HEl.out hm10 hL45 HS2.out hjm hsm ⟨fun h => (by cases h), fun h => absurd (h.perm HPM.out) (HNOT.out j hjv (by rw [← HPE.out]; exact List.mem_map_of_mem (List.mem_of_getElem? HXE.out)))⟩)
                    generalize (esc.eraseIdx x).length = nl at *
                    go_wp2_with fail
                    refine HTOU.out.mono ?_
                    rintro en wt2 ⟨rfl, hbt2⟩
                    have HB5 : Hid (Below wo.heap.size wo wt2) := Lib.hid ((HBoi.out.trans (HBl.out.mono HBoi.out.size)).trans (hbt2.mono (Nat.le_trans HBoi.out.size HBl.out.size)))
                    clear hbt2
                    go_wp2_with fail
                    go_roundw
                    case rel => exact ⟨j + 1, by omega, rfl, rfl, by go_num, HB5.out⟩
                    case measure => simp [intOf]; omega
                  · obtain rfl : j = v' := by omega
                    have HPM2 := Lib.hid (HPM.out.trans HYES.out)
                    have HTOU := Lib.hid (touring_v m j s Al (esc.eraseIdx x).length capl (esc.eraseIdx x) true wl HEl.out hm10 hL45 HS2.out hjm hsm ⟨fun _ => HTGY.out.perm HPM2.out.symm, fun _ => rfl⟩)
                    have hdl : done.length + 1 ≤ 46 := by
                      have h1 := congrArg List.length HTI.out.sum
                      simp at h1
                      omega
                    generalize hnl : (esc.eraseIdx x).length = nl at *
                    have HNL := Lib.hid hnl
                    clear hnl
                    go_wp2_with fail
                    refine HTOU.out.mono ?_
                    rintro en wt2 ⟨rfl, hbt2⟩
                    have HB5 : Hid (Below wo.heap.size wo wt2) := Lib.hid ((HBoi.out.trans (HBl.out.mono HBoi.out.size)).trans (hbt2.mono (Nat.le_trans HBoi.out.size HBl.out.size)))
                    clear hbt2
                    have hr0 : wt2.cell? ⟨w.heap.size, 0, none⟩ = some (.int .i64 m) := (HB5.out.cell (p := ⟨w.heap.size, 0, none⟩) hbl).trans (HTI.out.box.cell rfl)
                    have hr1 : wt2.cell? ⟨w.heap.size, 1, none⟩ = some (.slice Ac i capc) := (HB5.out.cell (p := ⟨w.heap.size, 1, none⟩) hbl).trans (HTI.out.box.cell rfl)
                    have HCALL2 := Lib.hid (less_any m x Ac i capc esc wt2 (HEo.out.go_ HB5.out) hnc45)
                    go_wp2_with fail
                    refine HCALL2.out.mono ?_
                    rintro en w5 ⟨hlo, hb5⟩
                    obtain ⟨A5, cap5, HE5, HA5, rfl⟩ : ∃ A5 cap5, Hid (EdgesAt w5 w5.heap.size A5 nl (esc.eraseIdx x)) ∧ Hid (∀ a, A5 = some a → wt2.heap.size ≤ a.block ∧ ∃ cur, w5.heap[a.block]? = some (.cells cur 43 (0, 0))) ∧ en = .returned (.agg #[.int .i64 m, .slice A5 nl cap5]) := by
                      obtain ⟨A5, cap5, h1, h2, h3⟩ := hlo
                      rw [HNL.out] at h1 h2
                      exact ⟨A5, cap5, Lib.hid h2, Lib.hid h3, h1⟩
                    have HB6 : Hid (Below wo.heap.size wo w5) := Lib.hid (HB5.out.trans (hb5.mono HB5.out.size))
                    have h52 := hb5.size
                    have hwo2 := HB5.out.size
                    have HBX := Lib.hid (HTI.out.box.keep HB6.out)
                    have HOW := Lib.hid (HTI.out.own.kept (grown_of_below HB6.out none) (Classical.em _))
                    have HOB : Hid (∀ g, u5.ownBlock = some g → w.heap.size + 1 ≤ g ∧ g < wo.heap.size) := Lib.hid fun g hg => HTI.out.own.lt g hg
                    have hs0' : w5.cell? ⟨w.heap.size, 0, none⟩ = some (.int .i64 m) := HBX.out.cell rfl
                    have hs1' : w5.cell? ⟨w.heap.size, 1, none⟩ = some (.slice Ac i capc) := HBX.out.cell rfl
                    have hf0' := HBX.out.frozen 0
                    have hf1' := HBX.out.frozen 1
                    have HROW : Hid (RowOf ((w5.setCell ⟨w.heap.size, 0, none⟩ (.int .i64 m)).setCell ⟨w.heap.size, 1, none⟩ (.slice A5 nl cap5)) w.heap.size 24 [.int .i64 m, .slice A5 nl cap5]) := Lib.hid ((HBX.out.set_ 0 (.int .i64 m)).set_ 1 (.slice A5 nl cap5))
                    have HOW2 : Hid (((w5.setCell ⟨w.heap.size, 0, none⟩ (.int .i64 m)).setCell ⟨w.heap.size, 1, none⟩ (.slice A5 nl cap5)).ownsRow (w.heap.size + 1) 3 1 u5 done.length (done.map natV)) := Lib.hid (own_keep_far HOW.out fun g hg => (Below.heap_setCell _ _ _ g (by show g ≠ w.heap.size; omega)).trans (Below.heap_setCell _ _ _ g (by show g ≠ w.heap.size; omega)))
                    have HBW2 : Hid (Below w.heap.size w ((w5.setCell ⟨w.heap.size, 0, none⟩ (.int .i64 m)).setCell ⟨w.heap.size, 1, none⟩ (.slice A5 nl cap5))) := Lib.hid (((HTI.out.bel.trans (HB6.out.mono (by omega))).setCell (p := ⟨w.heap.size, 0, none⟩) (Nat.le_refl _) _).setCell (p := ⟨w.heap.size, 1, none⟩) (Nat.le_refl _) _)
                    have HFAR : Hid (∀ g, g ≠ w.heap.size → ((w5.setCell ⟨w.heap.size, 0, none⟩ (.int .i64 m)).setCell ⟨w.heap.size, 1, none⟩ (.slice A5 nl cap5)).heap[g]? = w5.heap[g]?) := Lib.hid fun g hg => (Below.heap_setCell _ _ _ g (by exact hg)).trans (Below.heap_setCell _ _ _ g (by exact hg))
                    have HSZ : Hid (((w5.setCell ⟨w.heap.size, 0, none⟩ (.int .i64 m)).setCell ⟨w.heap.size, 1, none⟩ (.slice A5 nl cap5)).heap.size = w5.heap.size) := Lib.hid (by simp)
                    clear hlo hb5 HCALL2 hb0 hb1 hr0 hr1
                    go_wp2_with (at_builtin; refine wpList_append_own _ rfl _ _ 25 rfl (w.heap.size + 1) 3 i0 (.int .i64 0) 1 8 Tryd.underlying25 HI.out HI0.out HI1.out HI2.out rfl (by decide) _ _ _ rfl (HOW2.out.alloc _) ⟨w5.heap.size, 0, none⟩ 1 1 [.int .i64 (j : Int)] rfl rfl ?c1 ?c2 ?c3 ?c4 ?c5 ?_)
                    case c1 =>
                      intro a u ha
                      rcases a with _ | a
                      · simp at ha
                        subst ha
                        simp [go_sem, Addr.add]
                      · simp at ha
                    case c2 => simp [Value.oneCell']
                    case c3 => unfold maxLen; omega
                    case c4 => omega
                    case c5 => simp; omega
                    intro v6 w6 hown' hgrow _
                    have hne : ∀ g, g < w5.heap.size → u5.ownBlock ≠ some g → w6.heap[g]? = ((w5.setCell ⟨w.heap.size, 0, none⟩ (.int .i64 m)).setCell ⟨w.heap.size, 1, none⟩ (.slice A5 nl cap5)).heap[g]? := fun g h1 h2 =>
                      (hgrow.block g (by simp; omega) (fun he => h2 he.symm)).trans (Below.heap_alloc _ _ g (by rw [HSZ.out]; exact h1))
                    have HRT : Hid (RT m s (w.heap.size + 1) (s :: l) w r'.length v6 (.int .i64 (j : Nat)) w6) := Lib.hid (by
                      have h56 : w5.heap.size ≤ w6.heap.size := by have := hgrow.size; simp at this; omega
                      have hA : ∀ a, A5 = some a → w6.heap[a.block]? = w5.heap[a.block]? ∧ a.block ≠ w.heap.size := fun a ha => by
                        obtain ⟨p1, cur, p2⟩ := HA5.out a ha
                        have hlt : a.block < w5.heap.size := (Array.getElem?_eq_some_iff.1 p2).1
                        have hn1 : a.block ≠ w.heap.size := by omega
                        exact ⟨(hne a.block hlt (fun he => by have := (HOB.out _ he).2; omega)).trans (HFAR.out _ hn1), hn1⟩
                      refine ⟨j, r', esc.eraseIdx x, A5, nl, cap5, done ++ [j], rfl, rfl, ⟨?_, hjm, HTI.out.fin, HTI.out.grd.2, HS2.out, HPM2.out, ?_, HE5.out.move (fun a ha => (hA a ha).1) h56, fun a ha _ => ⟨(hA a ha).2, fun he => ?_⟩, ?_, ?_, by omega, by simp; omega⟩⟩
                      · rw [List.append_assoc]; exact HTI.out.sum
                      · exact (hne _ (by omega) (fun he => by have := (HOB.out _ he).1; omega)).trans HROW.out
                      · obtain ⟨_, cur, p2⟩ := HA5.out a ha
                        rw [← (hA a ha).1] at p2
                        rcases hown'.2 with ⟨h0, _⟩ | ⟨g, capg, cur', hv, _, hg, _⟩
                        · rw [h0] at he; simp [Value.ownBlock] at he
                        · rw [hv] at he
                          simp only [Value.ownBlock, Option.some.injEq] at he
                          rw [← he, hg] at p2
                          injection p2 with p2
                          injection p2 with _ p3
                          exact absurd p3 (by decide)
                      · rw [List.length_append, List.map_append]
                        exact hown'
                      · exact (HBW2.out.alloc (by rw [HSZ.out]; omega) _).grown hgrow (by simp; omega) (fun g hg => by have := (HOB.out g hg).1; omega))
                    clear hown' hgrow hne
                    go_wp2_with fail
                    go_roundg r'.length
                    case measure => have := HC.out; simp at this; omega
                    case rel => exact HRT
end Go.Proofs.YthfgbgmkiggjmabDoor
