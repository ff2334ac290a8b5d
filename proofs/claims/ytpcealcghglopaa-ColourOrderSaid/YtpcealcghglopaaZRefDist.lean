/- The reference's Dist: by detours, for any graph whose edges lie among its nodes. -/
import Derived.Test.YtpcealcghglopaaZb2
import Derived.Test.YtpcealcghglopaaZNear
import Derived.IntWalk
import Derived.Deep.QuietTactic
import Derived.BigQuiet
import Derived.BigRegion
namespace Go.Proofs.Ytpcealcghglopaa
open Go.RowKit

/-- All edges lie among the nodes. -/
def InE (m : Nat) (es : List E3) : Prop := ∀ e ∈ es, 0 ≤ e.1 ∧ e.1 < (m : Int) ∧ 0 ≤ e.2.1 ∧ e.2.1 < (m : Int)
theorem InE.of_good {m : Nat} {es : List E3} (h : goodE m es) : InE m es := fun e he => by
  obtain ⟨k, hk⟩ := List.getElem?_of_mem he
  obtain ⟨p0, p1, p2, p3, _, _⟩ := edge_ok (h k e hk)
  exact ⟨p0, p1, p2, p3⟩
theorem InE.lt {m : Nat} {es : List E3} (h : InE m es) {i j : Nat} (ha : adjE es i j = true) : i < m ∧ j < m := by
  unfold adjE at ha
  rw [List.any_eq_true] at ha
  obtain ⟨e, he, ha⟩ := ha
  have := h e he
  simp only [Bool.or_eq_true, Bool.and_eq_true, beq_iff_eq] at ha
  omega

/-- What the reference's Dist answers. -/
def DistOut (m : Nat) (es : List E3) (base : Nat) (e : Ending) (w' : World) : Prop := ∃ v bs cs, e = .returned v ∧ Rows1 w' base m m v bs cs (distI (adjE es))
def StartOut (m i : Nat) (es : List E3) (base : Nat) (v : Value) (w' : World) : Prop := ∃ bs cs, Rows1 w' base m i v bs cs (fwStart (adjE es))
def FwOut (m : Nat) (es : List E3) (base k i j : Nat) (v : Value) (bs cs : Nat → Nat) (w' : World) : Prop := ∃ D, Rows1 w' base m m v bs cs D ∧ FwInv (adjE es) m k i j D

theorem fwStart_push (es : List E3) (i k : Nat) (x : Int) (hx : fwStart (adjE es) i k = x) : (List.range (k + 1)).map (fun j => Value.int .i64 (fwStart (adjE es) i j)) = (List.range k).map (fun j => Value.int .i64 (fwStart (adjE es) i j)) ++ [.int .i64 x] := by
  rw [List.range_succ, List.map_append, ← hx]; rfl

set_option maxRecDepth 100000 in
set_option maxHeartbeats 4000000 in
theorem refDist_any (m : Nat) (A : Option Addr) (len cap : Nat) (es : List E3) (w : World) (hE : EdgesAt w w.heap.size A len es) (hm10 : m ≤ 10) (hlen : len ≤ 45) (hin : InE m es) :
    Calls Try.prog 46 #[.agg #[.int .i64 m, .slice A len cap]] w fun e w' => DistOut m es w.heap.size e w' ∧ Below w.heap.size w w' := by
  have HE := Lib.hid (show EdgesAt (bx w m A len cap) (bx w m A len cap).heap.size A len es from (hE.alloc (Nat.le_refl _) _).more (by simp [bx]))
  have HN := Lib.hid hin
  clear hE hin
  obtain ⟨i0, hi, hz0, hz1, hz2⟩ := info_parts infoInt
  have HI := Lib.hid hi
  have HI0 := Lib.hid hz0
  have HI1 := Lib.hid hz1
  have HI2 := Lib.hid hz2
  clear hi hz0 hz1 hz2
  obtain ⟨i1, hi, hz0, hz1, hz2⟩ := info_parts infoInts
  have HJ := Lib.hid hi
  have HJ0 := Lib.hid hz0
  have HJ1 := Lib.hid hz1
  have HJ2 := Lib.hid hz2
  clear hi hz0 hz1 hz2
  go_enter Try.func46, Try.ntmps46
  go_wp2
  go_loopw [3, 4] (fun v j wr => ∃ i : Nat, i ≤ m ∧ j = .int .i64 i ∧ Hid (StartOut m i es (w.heap.size + 1) v wr) ∧ Below (w.heap.size + 1) (bx w m A len cap) wr) (fun _ j _ => m - (intOf j).toNat)
  case atStart => exact ⟨0, Nat.zero_le _, rfl, Lib.hid ⟨fun _ => 0, fun _ => 0, Rows1.nil ..⟩, Below.refl _ _⟩
  case round =>
    obtain ⟨i, hi, rfl, HS, hB⟩ := hrel
    have hs0 : w.heap.size < wr.heap.size := by have := hB.size; simp [bx] at this; omega
    have hbx0 : wr.cell? ⟨w.heap.size, 0, none⟩ = some (.int .i64 m) := by
      rw [hB.cell (p := ⟨w.heap.size, 0, none⟩) (Nat.lt_succ_self _)]; simp [bx, go_sem]
    by_cases hlt : i < m
    · have HE2 := Lib.hid (HE.out.go_ (hB.mono (by simp [bx])))
      obtain ⟨wo, rfl⟩ : ∃ wo : World, wo = wr := ⟨_, rfl⟩
      have HBo := Lib.hid hB
      clear hB
      go_wp2
      go_loopw [5, 6] (fun r j wr => ∃ k : Nat, k ≤ m ∧ j = .int .i64 k ∧ Hid (wr.ownsRow wo.heap.size 3 1 r k ((List.range k).map fun x => .int .i64 (fwStart (adjE es) i x))) ∧ Below wo.heap.size wo wr) (fun _ j _ => m - (intOf j).toNat)
      case atStart => exact ⟨0, Nat.zero_le _, rfl, Lib.hid (World.ownsRow_nil ..), Below.refl _ _⟩
      case round =>
        obtain ⟨k, hk, rfl, HO, hB⟩ := hrel
        clear hbx0
        have hbx0 : wr.cell? ⟨w.heap.size, 0, none⟩ = some (.int .i64 m) := by
          rw [hB.cell (p := ⟨w.heap.size, 0, none⟩) hs0, HBo.out.cell (p := ⟨w.heap.size, 0, none⟩) (Nat.lt_succ_self _)]; simp [bx, go_sem]
        have hbx1 : wr.cell? ⟨w.heap.size, 1, none⟩ = some (.slice A len cap) := by
          rw [hB.cell (p := ⟨w.heap.size, 1, none⟩) hs0, HBo.out.cell (p := ⟨w.heap.size, 1, none⟩) (Nat.lt_succ_self _)]; simp [bx, go_sem]
        by_cases hkm : k < m
        · have HE3 := Lib.hid (HE2.out.go_ hB)
          obtain ⟨bn, hbn⟩ : ∃ bn : Bool, nearI es i k = bn := ⟨_, rfl⟩
          have HBN := Lib.hid hbn
          have HX : Hid (fwStart (adjE es) i k = if i = k then 0 else if bn = true then 1 else -1) := Lib.hid (by rw [← hbn]; rfl)
          clear hbn
          by_cases hik : i = k
          · have hikb : ((i : Int) == (k : Int)) = true := by simp [hik]
            have HP := Lib.hid (fwStart_push es i k 0 (by rw [HX.out, if_pos hik]))
            clear hik
            cases bn
            all_goals
              go_wp2_with (first
                | (go_at_call 43; refine (near_v m i k A len cap es _ _ (by exact HE3.out) hlen HBN.out).mono ?_; rintro e wd ⟨rfl, hbd⟩; have HOd := Lib.hid (HO.out.kept (grown_of_below hbd none) (Classical.em _)); have hszd := hbd.size)
                | (at_builtin; refine wpList_append_own _ rfl _ _ 25 rfl wo.heap.size 3 i0 (.int .i64 0) 1 8 Try.underlying25 HI.out HI0.out HI1.out HI2.out rfl (by decide) _ _ _ rfl (HOd.out.alloc _) ⟨wd.heap.size, 0, none⟩ 1 1 [.int .i64 0] rfl rfl ?c1 ?c2 ?c3 ?c4 ?c5 ?_))
              case c1 => exact cell_one_new _ _ _
              case c2 => simp [Value.oneCell']
              case c3 => unfold maxLen; omega
              case c4 => omega
              case c5 => have := hB.size; simp; omega
              intro v' w3 hown' hgrow _
              have HO' : Hid (w3.ownsRow wo.heap.size 3 1 v' (k + 1) ((List.range (k + 1)).map fun x => .int .i64 (fwStart (adjE es) i x))) := Lib.hid (by rw [HP.out]; exact hown')
              have HB3 : Hid (Below wo.heap.size wo w3) := Lib.hid (((hB.trans (hbd.mono hB.size)).alloc (by have := hB.size; omega) _).grown hgrow (by have := hB.size; simp; omega) (own_base HO.out))
              clear hown' hgrow hbd
              go_wp2
              go_roundw
              case rel => exact ⟨k + 1, by omega, by go_num, HO', HB3.out⟩
              case measure => simp [intOf]; omega
          · have hikb : ((i : Int) == (k : Int)) = false := by simp; omega
            have HIK := Lib.hid hik
            clear hik
            cases bn
            · have HP := Lib.hid (fwStart_push es i k (-1) (by rw [HX.out, if_neg HIK.out]; rfl))
              go_wp2_with (first
                | (go_at_call 43; refine (near_v m i k A len cap es _ _ (by exact HE3.out) hlen HBN.out).mono ?_; rintro e wd ⟨rfl, hbd⟩; have HOd := Lib.hid (HO.out.kept (grown_of_below hbd none) (Classical.em _)); have hszd := hbd.size)
                | (at_builtin; refine wpList_append_own _ rfl _ _ 25 rfl wo.heap.size 3 i0 (.int .i64 0) 1 8 Try.underlying25 HI.out HI0.out HI1.out HI2.out rfl (by decide) _ _ _ rfl (HOd.out.alloc _) ⟨wd.heap.size, 0, none⟩ 1 1 [.int .i64 (-1)] rfl rfl ?d1 ?d2 ?d3 ?d4 ?d5 ?_))
              case d1 => exact cell_one_new _ _ _
              case d2 => simp [Value.oneCell']
              case d3 => unfold maxLen; omega
              case d4 => omega
              case d5 => have := hB.size; simp; omega
              intro v' w3 hown' hgrow _
              have HO' : Hid (w3.ownsRow wo.heap.size 3 1 v' (k + 1) ((List.range (k + 1)).map fun x => .int .i64 (fwStart (adjE es) i x))) := Lib.hid (by rw [HP.out]; exact hown')
              have HB3 : Hid (Below wo.heap.size wo w3) := Lib.hid (((hB.trans (hbd.mono hB.size)).alloc (by have := hB.size; omega) _).grown hgrow (by have := hB.size; simp; omega) (own_base HO.out))
              clear hown' hgrow hbd
              go_wp2
              go_roundw
              case rel => exact ⟨k + 1, by omega, by go_num, HO', HB3.out⟩
              case measure => simp [intOf]; omega
            · have HP := Lib.hid (fwStart_push es i k 1 (by rw [HX.out, if_neg HIK.out]; rfl))
              go_wp2_with (first
                | (go_at_call 43; refine (near_v m i k A len cap es _ _ (by exact HE3.out) hlen HBN.out).mono ?_; rintro e wd ⟨rfl, hbd⟩; have HOd := Lib.hid (HO.out.kept (grown_of_below hbd none) (Classical.em _)); have hszd := hbd.size)
                | (at_builtin; refine wpList_append_own _ rfl _ _ 25 rfl wo.heap.size 3 i0 (.int .i64 0) 1 8 Try.underlying25 HI.out HI0.out HI1.out HI2.out rfl (by decide) _ _ _ rfl (HOd.out.alloc _) ⟨wd.heap.size, 0, none⟩ 1 1 [.int .i64 (1)] rfl rfl ?e1 ?e2 ?e3 ?e4 ?e5 ?_))
              case e1 => exact cell_one_new _ _ _
              case e2 => simp [Value.oneCell']
              case e3 => unfold maxLen; omega
              case e4 => omega
              case e5 => have := hB.size; simp; omega
              intro v' w3 hown' hgrow _
              have HO' : Hid (w3.ownsRow wo.heap.size 3 1 v' (k + 1) ((List.range (k + 1)).map fun x => .int .i64 (fwStart (adjE es) i x))) := Lib.hid (by rw [HP.out]; exact hown')
              have HB3 : Hid (Below wo.heap.size wo w3) := Lib.hid (((hB.trans (hbd.mono hB.size)).alloc (by have := hB.size; omega) _).grown hgrow (by have := hB.size; simp; omega) (own_base HO.out))
              clear hown' hgrow hbd
              go_wp2
              go_roundw
              case rel => exact ⟨k + 1, by omega, by go_num, HO', HB3.out⟩
              case measure => simp [intOf]; omega
        · obtain rfl : k = m := by omega
          have hmp : 0 < k := by omega
          obtain ⟨gr, capr, HGR⟩ : ∃ gr capr, Hid (u5 = Value.slice (some ⟨gr, 0, none⟩) k capr) := by
            rcases HO.out.2 with ⟨_, h0⟩ | ⟨gr, capr, cur, hv, _⟩
            · omega
            · exact ⟨gr, capr, Lib.hid hv⟩
          obtain rfl := HGR.out
          clear HGR
          obtain ⟨bs, cs, HR1⟩ : ∃ bs cs, Hid (Rows1 wo (w.heap.size + 1) k i u3 bs cs (fwStart (adjE es))) := by obtain ⟨bs, cs, h⟩ := HS.out; exact ⟨bs, cs, Lib.hid h⟩
          go_wp2_with (at_builtin; refine wpList_append_own _ rfl _ _ 71 rfl (w.heap.size + 1) 25 i1 (.slice none 0 0) 1 24 Try.underlying71 HJ.out HJ0.out HJ1.out HJ2.out rfl (by decide) _ _ _ rfl ((HR1.out.keep hB).own.alloc _) ⟨wr.heap.size, 0, none⟩ 1 1 [.slice (some ⟨gr, 0, none⟩) k capr] rfl rfl ?f1 ?f2 ?f3 ?f4 ?f5 ?_)
          case f1 => exact cell_one_new _ _ _
          case f2 => simp [Value.oneCell']
          case f3 => unfold maxLen; omega
          case f4 => omega
          case f5 => have := hB.size; simp; omega
          intro v' w3 hown' hgrow _
          have HO' : Hid (StartOut k (i + 1) es (w.heap.size + 1) v' w3) := Lib.hid ⟨_, _, HR1.out.next (hB.alloc hB.size _) (HO.out.alloc _) hs0 hgrow hown'⟩
          have HB3 : Hid (Below (w.heap.size + 1) (bx w k A len cap) w3) := Lib.hid (((HBo.out.trans (hB.mono hs0)).alloc (by have := hB.size; omega) _).grown hgrow (by have := hB.size; simp; omega) (own_base HR1.out.own))
          clear hown' hgrow
          go_wp2
          go_roundw
          case rel => exact ⟨i + 1, by omega, by go_num, HO', HB3.out⟩
          case measure => simp [intOf]; omega
    · obtain rfl : i = m := by omega
      obtain ⟨bs, cs, HR1⟩ : ∃ bs cs, Hid (FwOut i es (w.heap.size + 1) 0 0 0 u3 bs cs wr) := by
        obtain ⟨bs, cs, h⟩ := HS.out
        exact ⟨bs, cs, Lib.hid ⟨_, h, fw_start _ _⟩⟩
      have HBo := Lib.hid hB
      obtain ⟨wo, rfl⟩ : ∃ wo : World, wo = wr := ⟨_, rfl⟩
      clear hB HS
      go_wp2
      go_loopw [8] (fun j wr => ∃ k : Nat, k ≤ i ∧ j = .int .i64 k ∧ Hid (FwOut i es (w.heap.size + 1) k 0 0 u3 bs cs wr) ∧ Hid (Below (w.heap.size + 1) (bx w i A len cap) wr)) (fun j _ => i - (intOf j).toNat)
      case atStart => exact ⟨0, Nat.zero_le _, rfl, HR1, HBo⟩
      case round =>
        clear hbx0 HBo HR1
        obtain ⟨k, hk, rfl, HF, HB⟩ := hrel
        have hbx0 : wr.cell? ⟨w.heap.size, 0, none⟩ = some (.int .i64 i) := by
          rw [HB.out.cell (p := ⟨w.heap.size, 0, none⟩) (Nat.lt_succ_self _)]; simp [bx, go_sem]
        by_cases hkm : k < i
        · obtain ⟨w8, rfl⟩ : ∃ wo : World, wo = wr := ⟨_, rfl⟩
          go_wp2
          go_loopw [9] (fun j wr => ∃ a : Nat, a ≤ i ∧ j = .int .i64 a ∧ Hid (FwOut i es (w.heap.size + 1) k a 0 u3 bs cs wr) ∧ Hid (Below (w.heap.size + 1) (bx w i A len cap) wr)) (fun j _ => i - (intOf j).toNat)
          case atStart => exact ⟨0, Nat.zero_le _, rfl, HF, HB⟩
          case round =>
            clear hbx0 HB HF
            obtain ⟨a, ha, rfl, HF, HB⟩ := hrel
            have hbx0 : wr.cell? ⟨w.heap.size, 0, none⟩ = some (.int .i64 i) := by
              rw [HB.out.cell (p := ⟨w.heap.size, 0, none⟩) (Nat.lt_succ_self _)]; simp [bx, go_sem]
            by_cases ham : a < i
            · obtain ⟨w9, rfl⟩ : ∃ wo : World, wo = wr := ⟨_, rfl⟩
              go_wp2
              go_loopw [10] (fun j wr => ∃ b : Nat, b ≤ i ∧ j = .int .i64 b ∧ Hid (FwOut i es (w.heap.size + 1) k a b u3 bs cs wr) ∧ Hid (Below (w.heap.size + 1) (bx w i A len cap) wr)) (fun j _ => i - (intOf j).toNat)
              case atStart => exact ⟨0, Nat.zero_le _, rfl, HF, HB⟩
              case round =>
                clear hbx0 HB HF
                obtain ⟨b, hb, rfl, HF, HB⟩ := hrel
                have hbx0 : wr.cell? ⟨w.heap.size, 0, none⟩ = some (.int .i64 i) := by
                  rw [HB.out.cell (p := ⟨w.heap.size, 0, none⟩) (Nat.lt_succ_self _)]; simp [bx, go_sem]
                by_cases hbm : b < i
                · obtain ⟨D, HR, HD⟩ : ∃ D, Hid (Rows1 wr (w.heap.size + 1) i i u3 bs cs D) ∧ Hid (FwInv (adjE es) i k a b D) := by obtain ⟨D, h1, h2⟩ := HF.out; exact ⟨D, Lib.hid h1, Lib.hid h2⟩
                  obtain ⟨g, capg, HV, HC⟩ : ∃ g capg, Hid (u3 = Value.slice (some ⟨g, 0, none⟩) i capg) ∧ Hid (∀ x, x < i → wr.cell? ⟨g, x, none⟩ = some (.slice (some ⟨bs x, 0, none⟩) i (cs x))) := by
                    obtain ⟨g, capg, h1, _, _, h2⟩ := HR.out.top (by omega)
                    exact ⟨g, capg, Lib.hid h1, Lib.hid h2⟩
                  obtain rfl := HV.out
                  clear HV HF
                  have k0 := HC.out a ham
                  have k1 := HC.out k hkm
                  have c0 := HR.out.cell ham hkm
                  have c1 := HR.out.cell hkm hbm
                  have c2 := HR.out.cell ham hbm
                  have f2 := (HR.out.row a ham).2.frozen b
                  have HSTEP := Lib.hid (fun h1 h2 h3 => fw_step HD.out hkm ham hbm h1 h2 h3)
                  have HSTAY := Lib.hid (fun h0 => fw_stay HD.out hkm ham hbm h0)
                  obtain ⟨b0, b1⟩ : D a k ≤ 1024 ∧ D k b ≤ 1024 := by
                    have h1 := (HD.out.cross a ham hkm).1
                    have h2 := (HD.out.cross b hbm hkm).2
                    have h3 : (2 : Int) ^ k ≤ 1024 := by
                      have h4 : 2 ^ k ≤ 2 ^ 10 := Nat.pow_le_pow_right (by decide) (by omega)
                      have h5 : ((2 ^ k : Nat) : Int) ≤ 1024 := by omega
                      simpa using h5
                    omega
                  have ia0 : (0 : Int) ≤ (a : Int) := by omega
                  have ia1 : (a : Int) < (i : Int) := by omega
                  have ib0 : (0 : Int) ≤ (b : Int) := by omega
                  have ib1 : (b : Int) < (i : Int) := by omega
                  have ik0 : (0 : Int) ≤ (k : Int) := by omega
                  have ik1 : (k : Int) < (i : Int) := by omega
                  have hp0 : D a k < 0 ∨ 0 ≤ D a k := by omega
                  have hq0 : D k b < 0 ∨ 0 ≤ D k b := by omega
                  have hr0 : D a b < 0 ∨ 0 ≤ D a b := by omega
                  clear HC HD
                  generalize D a k = p at c0 HSTEP HSTAY b0 hp0
                  generalize D k b = q at c1 HSTEP HSTAY b1 hq0
                  generalize D a b = r at c2 HSTEP HSTAY hr0
                  rcases hp0 with hp | hp
                  · have hpd : decide (0 ≤ p) = false := by simp; omega
                    have HF2 := Lib.hid (HSTAY.out (.inl hp))
                    · clear HSTAY HSTEP
                      go_wp2
                      go_quiet (fail)
                      go_wp2
                      go_roundw
                      case rel => exact ⟨b + 1, by omega, by go_num, Lib.hid ⟨_, HR.out.drewN _, HF2.out⟩, Lib.hid (below_drewN HB.out _)⟩
                      case measure => simp [intOf]; omega
                  · rcases hq0 with hq | hq
                    · have hqd : decide (0 ≤ q) = false := by simp; omega
                      have HF2 := Lib.hid (HSTAY.out (.inr (.inl hq)))
                      clear HSTAY HSTEP
                      go_wp2
                      go_quiet (fail)
                      go_wp2
                      go_roundw
                      case rel => exact ⟨b + 1, by omega, by go_num, Lib.hid ⟨_, HR.out.drewN _, HF2.out⟩, Lib.hid (below_drewN HB.out _)⟩
                      case measure => simp [intOf]; omega
                    · rcases hr0 with hr | hr
                      · have HF2 := Lib.hid (HSTEP.out hp hq (.inl hr))
                        clear HSTAY HSTEP
                        go_wp2
                        go_quiet (fail)
                        go_wp2
                        go_region
                        go_wp2
                        go_roundw
                        case rel => exact ⟨b + 1, by omega, by go_num, Lib.hid ⟨_, (HR.out.drewN _).set_ ham hbm _, HF2.out⟩, Lib.hid ((below_drewN HB.out _).setCell (p := ⟨bs a, b, none⟩) (HR.out.row a ham).1 _)⟩
                        case measure => simp [intOf]; omega
                      · have hrd : decide (r < 0) = false := by simp; omega
                        by_cases hs : p + q < r
                        · have HF2 := Lib.hid (HSTEP.out hp hq (.inr hs))
                          clear HSTAY HSTEP
                          go_wp2
                          go_quiet (fail)
                          go_wp2
                          go_region
                          go_wp2
                          go_roundw
                          case rel => exact ⟨b + 1, by omega, by go_num, Lib.hid ⟨_, (HR.out.drewN _).set_ ham hbm _, HF2.out⟩, Lib.hid ((below_drewN HB.out _).setCell (p := ⟨bs a, b, none⟩) (HR.out.row a ham).1 _)⟩
                          case measure => simp [intOf]; omega
                        · have hsd : decide (p + q < r) = false := by simp; omega
                          have HF2 := Lib.hid (HSTAY.out (.inr (.inr ⟨hr, by omega⟩)))
                          clear HSTAY HSTEP
                          go_wp2
                          go_quiet (fail)
                          go_wp2
                          go_roundw
                          case rel => exact ⟨b + 1, by omega, by go_num, Lib.hid ⟨_, HR.out.drewN _, HF2.out⟩, Lib.hid (below_drewN HB.out _)⟩
                          case measure => simp [intOf]; omega
                · obtain rfl : b = i := by omega
                  go_wp2
                  go_roundw
                  case rel => exact ⟨a + 1, by omega, by go_num, Lib.hid (by obtain ⟨D, h1, h2⟩ := HF.out; exact ⟨D, h1, fw_row h2⟩), HB⟩
                  case measure => simp [intOf]; omega
            · obtain rfl : a = i := by omega
              go_wp2
              go_roundw
              case rel => exact ⟨k + 1, by omega, by go_num, Lib.hid (by obtain ⟨D, h1, h2⟩ := HF.out; exact ⟨D, h1, fw_phase h2⟩), HB⟩
              case measure => simp [intOf]; omega
        · obtain rfl : k = i := by omega
          have HOUT : Hid (DistOut k es w.heap.size (.returned u3) wr) := Lib.hid (by
            obtain ⟨D, h1, h2⟩ := HF.out
            exact ⟨u3, bs, cs, rfl, (h1.low (Nat.le_succ _)).congr fun a b ha hb => fw_end h2 (fun x j h => (HN.out.lt h).1) ha hb⟩)
          go_wp2
          go_ret
          exact ⟨HOUT.out, ((Below.refl _ _).alloc (Nat.le_refl _) _).trans (HB.out.mono (Nat.le_succ _))⟩
end Go.Proofs.Ytpcealcghglopaa
