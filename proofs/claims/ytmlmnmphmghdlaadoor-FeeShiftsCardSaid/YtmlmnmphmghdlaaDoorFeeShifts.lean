/- FeeShifts, walked: when all fees of a row are more by a number the same list is the best, and costs so much more. -/
import Derived.Test.YtmlmnmphmghdlaaDoorFeeAssigns
namespace Go.Proofs.YtmlmnmphmghdlaaDoor
open Go.RowKit

set_option maxRecDepth 100000 in
theorem infoI64 : (Tryd.prog.info? 2).map (fun i => (i.zero, i.size, i.bytes)) = some (some (.int .i64 0), 1, 8) := by kernel_rfl
theorem costA_same {f g : Nat → Nat → Int} {n : Nat} (h : ∀ i j, i < n → j < n → f i j = g i j) : ∀ (m : List Nat) i, (∀ x ∈ m, x < n) → i + m.length ≤ n → costA f i m = costA g i m
  | [], _, _, _ => rfl
  | x :: m, i, hx, hl => by
    simp only [List.length_cons] at hl
    simp only [costA]
    rw [h i x (by omega) (hx x (List.mem_cons_self ..)), costA_same h m (i + 1) (fun y hy => hx y (List.mem_cons_of_mem _ hy)) (by omega)]
theorem BestA.same {f g : Nat → Nat → Int} {n : Nat} {m : List Nat} (h : ∀ i j, i < n → j < n → f i j = g i j) (hb : BestA f n [] m) : BestA g n [] m ∧ costA g 0 m = costA f 0 m := by
  have hc : ∀ m', ExtA n [] m' → costA g 0 m' = costA f 0 m' := fun m' hm => (costA_same h m' 0 hm.lt (by rw [hm.len]; omega)).symm
  refine ⟨⟨hb.ext, fun m' hm => ?_⟩, hc m hb.ext⟩
  rw [hc m hb.ext, hc m' hm]
  exact hb.least m' hm
/-- The fees of a row are more. -/
def moreF (fee : Nat → Nat → Int) (k : Nat) (d : Int) (i j : Nat) : Int := fee i j + if i = k then d else 0
def rowsOf (n : Nat) (f : Nat → Nat → Int) : List (List Int) := (List.range n).map fun i => (List.range n).map (f i)
theorem feeQ_rows {n : Nat} {f : Nat → Nat → Int} {i j : Nat} (hi : i < n) (hj : j < n) : feeQ (rowsOf n f) i j = f i j := by
  refine feeQ_at (xs := (List.range n).map (f i)) ?_ ?_
  · unfold rowsOf; rw [List.getElem?_map, List.getElem?_range hi]; rfl
  · rw [List.getElem?_map, List.getElem?_range hj]; rfl
theorem shift_asg {Ls : List (List Int)} {n k : Nat} {d : Int} (hk : k < n) : (asgR (feeQ (rowsOf n (moreF (feeQ Ls) k d))) n n []).1 = (asgR (feeQ Ls) n n []).1 ∧ (asgR (feeQ (rowsOf n (moreF (feeQ Ls) k d))) n n []).2 = (asgR (feeQ Ls) n n []).2 + d := by
  obtain ⟨b1, c1⟩ := asg_best (Ls := Ls) (n := n)
  obtain ⟨b2, c2⟩ := asg_best (Ls := rowsOf n (moreF (feeQ Ls) k d)) (n := n)
  obtain ⟨b3, c3⟩ := best_shift (fee' := moreF (feeQ Ls) k d) (d := d) hk (fun i j => rfl) b1
  obtain ⟨b4, c4⟩ := BestA.same (g := feeQ (rowsOf n (moreF (feeQ Ls) k d))) (fun i j hi hj => (feeQ_rows hi hj).symm) b3
  have e := b2.one b4
  refine ⟨e, ?_⟩
  rw [← c2, e, c4, c3, c1]
set_option maxRecDepth 100000 in
theorem RowsQ.side {w : World} {base n : Nat} {v : Value} {bs cs : Nat → Nat} {f : Nat → Nat → Int} (h : RowsQ w base n n v bs cs f) (hc : ∀ k, k < n → n ≤ cs k ∧ cs k ≤ maxLen) (hn : 0 < n) :
    ∃ g cap, v = .slice (some ⟨g, 0, none⟩) n cap ∧ SideAt w w.heap.size (some ⟨g, 0, none⟩) n cap (rowsOf n f) := by
  rcases h.own.2 with ⟨_, h0⟩ | ⟨g, cap, cur, rfl, hb, hg, hle, hmx, _, htake⟩
  · omega
  · refine ⟨g, cap, rfl, by simp [rowsOf], (fun e => (by cases e)), hle, hmx, fun _ => ⟨g, 0, rfl, (Array.getElem?_eq_some_iff.1 hg).1, fun i xs hx => ?_⟩⟩
    unfold rowsOf at hx
    rw [List.getElem?_map] at hx
    have hi : i < n := by
      cases hq : (List.range n)[i]? with
      | none => rw [hq] at hx; cases hx
      | some y => have := (List.getElem?_eq_some_iff.1 hq).1; simpa using this
    rw [List.getElem?_range hi] at hx
    simp only [Option.map_some, Option.some.injEq] at hx
    subst hx
    have h1 : (cur.toList.take (n * 1))[i]? = some (rowQ n bs cs i) := by rw [htake]; simp [hi]
    rw [List.getElem?_take, if_pos (by omega)] at h1
    have h2 : cur[i]? = some (rowQ n bs cs i) := by simpa using h1
    have hl : ((List.range n).map (f i)).length = n := by simp
    obtain ⟨c1, c2⟩ := hc i hi
    refine ⟨some ⟨bs i, 0, none⟩, cs i, ?_, ⟨rfl, fun _ => ⟨bs i, 0, rfl, (h.row i hi).2.lt, fun j x hj => ?_⟩⟩, by omega, c2⟩
    · rw [hl, Nat.zero_add]
      simp [World.cell?, hg, h2, rowQ]
    · have hjn : j < n := by have := (List.getElem?_eq_some_iff.1 hj).1; rw [hl] at this; exact this
      rw [List.getElem?_map, List.getElem?_range hjn] at hj
      simp only [Option.map_some, Option.some.injEq] at hj
      rw [Nat.zero_add, (h.row i hi).2.cell hjn, hj]
/-- What was laid so far. -/
def ShiftOut (n i : Nat) (f : Nat → Nat → Int) (base : Nat) (v : Value) (w' : World) : Prop := ∃ bs cs, RowsQ w' base n i v bs cs f ∧ ∀ k, k < i → n ≤ cs k ∧ cs k ≤ maxLen
theorem row_push (f : Nat → Nat → Int) (i k : Nat) (x : Int) (hx : f i k = x) : (List.range (k + 1)).map (fun j => Value.int .i64 (f i j)) = (List.range k).map (fun j => Value.int .i64 (f i j)) ++ [.int .i64 x] := by
  rw [List.range_succ, List.map_append, ← hx]; rfl
set_option maxRecDepth 100000 in
set_option maxHeartbeats 8000000 in
theorem feeShifts_any (A : Option Addr) (n c : Nat) (Ls : List (List Int)) (q by_ : Int) (w : World) (S : SideAt w w.heap.size A n c Ls) (hq : (Lit.int .u8 q).wf = true) (hby : (Lit.int .i16 by_).wf = true) (hT : Tab w) :
    Calls Tryd.prog 5 #[.slice A n c, .int .u8 q, .int .i16 by_] w fun e w' => e = .returned (.bool true) ∧ Below w.heap.size w w' := by
  have hq0 : 0 ≤ q ∧ q < 256 := by
    simp [Lit.wf] at hq
    have e1 : IntKind.u8.min = 0 := by decide
    have e2 : IntKind.u8.max = 255 := by decide
    omega
  have hb0 : -32768 ≤ by_ ∧ by_ ≤ 32767 := by
    simp [Lit.wf] at hby
    have e1 : IntKind.i16.min = -32768 := by decide
    have e2 : IntKind.i16.max = 32767 := by decide
    omega
  obtain ⟨q1, q2⟩ := hq0
  obtain ⟨y1, y2⟩ := hb0
  clear hq hby
  obtain ⟨x, hx⟩ : ∃ x, feesF Ls = x := ⟨_, rfl⟩
  have HS := Lib.hid S
  have HF := Lib.hid hx
  have HT := Lib.hid hT
  by_cases h0 : x = 0
  · subst h0
    have HA := Lib.hid (assign_good A n c Ls w S hx hT)
    have hlen : (asgR (feeQ Ls) n n []).1.length = n := asg_best.1.ext.len
    obtain ⟨hn8, hsq, hrg⟩ := feesF_zero hx
    rw [S.len] at hn8
    have HL := Lib.hid hlen
    have HSQ := Lib.hid hsq
    have HRG := Lib.hid hrg
    have hzb : -8388608 ≤ (asgR (feeQ Ls) n n []).2 ∧ (asgR (feeQ Ls) n n []).2 ≤ 8388608 := by
      have h1 := asgR_abs (fee := feeQ Ls) (n := n) (M := 1048576) (feeQ_abs hrg) (by decide) (r := n) (l := []) (by simp)
      have h2 : (n : Int) * 1048576 ≤ 8 * 1048576 := Int.mul_le_mul_of_nonneg_right (by omega) (by decide)
      omega
    have HZ0 : Hid (n = 0 → (asgR (feeQ Ls) n n []).2 = 0) := Lib.hid fun e => by subst e; rfl
    clear S hx hT hlen hsq hrg
    obtain ⟨m, hm⟩ : ∃ m, m = (asgR (feeQ Ls) n n []).1 := ⟨_, rfl⟩
    obtain ⟨z, hz⟩ : ∃ z, z = (asgR (feeQ Ls) n n []).2 := ⟨_, rfl⟩
    have HM := Lib.hid (And.intro hm hz)
    unfold AssignOut at HA
    rw [← hm] at HL HA
    rw [← hz] at HA hzb HZ0
    obtain ⟨zb1, zb2⟩ := hzb
    clear hm hz
    obtain ⟨i0, hi, hz0, hz1, hz2⟩ := info_parts infoI64
    have HI := Lib.hid hi
    have HI0 := Lib.hid hz0
    have HI1 := Lib.hid hz1
    have HI2 := Lib.hid hz2
    clear hi hz0 hz1 hz2
    obtain ⟨i1, hi, hz0, hz1, hz2⟩ := info_parts infoI64s
    have HJ := Lib.hid hi
    have HJ0 := Lib.hid hz0
    have HJ1 := Lib.hid hz1
    have HJ2 := Lib.hid hz2
    clear hi hz0 hz1 hz2
    go_enter Tryd.func5, Tryd.ntmps5
    go_wp2_with fail
    refine HA.out.mono ?_
    rintro e w1 ⟨g, rfl, hrow, hb1⟩
    have HR1 := Lib.hid (RowC.intsOf hrow HL.out)
    have HB1 := Lib.hid hb1
    clear HA hrow hb1
    go_wp2_with fail
    refine ((feesCheck_any A n c Ls w1 (HS.out.go_ HB1.out)).mono (R' := fun e w' => e = .returned (.int .i64 0) ∧ w' = w1) (fun e w' h => by rw [HF.out] at h; exact h)).mono ?_
    rintro e w2 ⟨rfl, rfl⟩
    by_cases hn0 : n = 0
    · have hzz : z = 0 := HZ0.out hn0
      subst hzz
      have hnb : ((n : Int) == 0) = true := by simp [hn0]
      go_wp2_with fail
      go_ret
      exact ⟨rfl, HB1.out⟩
    · have hnb : ((n : Int) == 0) = false := by simp [hn0]
      have hnpos : 0 < n := by omega
      obtain ⟨k0, hk0, hrem⟩ : ∃ k0 : Nat, k0 < n ∧ Int.tmod q (n : Int) = (k0 : Int) := by
        obtain ⟨qn, rfl⟩ := Int.eq_ofNat_of_zero_le q1
        refine ⟨qn % n, Nat.mod_lt _ hnpos, ?_⟩
        simp [Int.tmod]
      have hnz : ((n : Int) == 0) = false := hnb
      have hne0 : (n : Int) ≠ 0 := by omega
      obtain ⟨f, hf⟩ : ∃ f, f = moreF (feeQ Ls) k0 by_ := ⟨_, rfl⟩
      have HFF := Lib.hid hf
      have HK0 := Lib.hid hk0
      clear hf hn0 HZ0
      go_wp2_with fail
      go_loopw [10, 41] (fun v j wr => ∃ i : Nat, i ≤ n ∧ j = .int .i64 i ∧ Hid (ShiftOut n i f w2.heap.size v wr) ∧ Hid (Below w2.heap.size w2 wr)) (fun _ j _ => n - (intOf j).toNat)
      case atStart => exact ⟨0, Nat.zero_le _, rfl, Lib.hid ⟨fun _ => 0, fun _ => 0, RowsQ.nil .., fun k hk => by omega⟩, Lib.hid (Below.refl _ _)⟩
      case round =>
        obtain ⟨i, hi, rfl, HSO, HB⟩ := hrel
        by_cases hin : i < n
        · obtain ⟨wo, rfl⟩ : ∃ wo : World, wo = wr := ⟨_, rfl⟩
          have HSo := Lib.hid ((HS.out.go_ HB1.out).go_ HB.out)
          obtain ⟨bb, off, xs, A', c', rfl, _, hxs, hc, hI, _, _⟩ := HSo.out.get hin
          have hxl : xs.length = n := by have := HSQ.out xs (List.mem_of_getElem? hxs); rw [this]; exact HSo.out.len
          have HXI := Lib.hid (And.intro hxs hI)
          rw [hxl] at hc
          have HXL := Lib.hid hxl
          have ii0 : (0 : Int) ≤ (i : Int) := by omega
          have ii1 : (i : Int) < (n : Int) := by omega
          clear hxs hI hxl
          go_wp2_with fail
          go_loopw [13, 48] (fun r j wr => ∃ k : Nat, k ≤ n ∧ j = .int .i64 k ∧ Hid (wr.ownsRow wo.heap.size 2 1 r k ((List.range k).map fun x => .int .i64 (f i x))) ∧ Hid (Below wo.heap.size wo wr)) (fun _ j _ => n - (intOf j).toNat)
          case atStart => exact ⟨0, Nat.zero_le _, rfl, Lib.hid (World.ownsRow_nil ..), Lib.hid (Below.refl _ _)⟩
          case round =>
            obtain ⟨k, hk, rfl, HO, HBi⟩ := hrel
            by_cases hkn : k < n
            · obtain ⟨b', off', y, rfl, _, hyy, hcy⟩ := (HXI.out.2.go_ HBi.out).at_ (show k < xs.length by rw [HXL.out]; exact hkn)
              have hfee := feeQ_at HXI.out.1 hyy
              obtain ⟨f1, f2⟩ := HRG.out xs (List.mem_of_getElem? HXI.out.1) y (List.mem_of_getElem? hyy)
              have ik0 : (0 : Int) ≤ (k : Int) := by omega
              have ik1 : (k : Int) < (n : Int) := by omega
              by_cases hik : i = k0
              · have hikb : ((i : Int) == (k0 : Int)) = true := by simp [hik]
                have HP := Lib.hid (row_push f i k (y + by_) (by rw [HFF.out]; unfold moreF; rw [hfee, if_pos hik]))
                clear hik hyy hfee
                go_wp2_with (at_builtin; refine wpList_append_own _ rfl _ _ 32 rfl wo.heap.size 2 i0 (.int .i64 0) 1 8 Tryd.underlying32 HI.out HI0.out HI1.out HI2.out rfl (by decide) _ _ _ rfl (HO.out.alloc _) ⟨wr.heap.size, 0, none⟩ 1 1 [.int .i64 (y + by_)] rfl rfl ?c1 ?c2 ?c3 ?c4 ?c5 ?_)
                case c1 => exact cell_one_new _ _ _
                case c2 => simp [Value.oneCell']
                case c3 => unfold maxLen; omega
                case c4 => omega
                case c5 => have := HBi.out.size; simp; omega
                intro v' w3 hown' hgrow _
                have HO' : Hid (w3.ownsRow wo.heap.size 2 1 v' (k + 1) ((List.range (k + 1)).map fun x => .int .i64 (f i x))) := Lib.hid (by rw [HP.out]; exact hown')
                have HB3 : Hid (Below wo.heap.size wo w3) := Lib.hid ((HBi.out.alloc HBi.out.size _).grown hgrow (by have := HBi.out.size; simp; omega) (own_base HO.out))
                clear hown' hgrow
                go_wp2
                go_roundw
                case rel => exact ⟨k + 1, by omega, by go_num, HO', HB3⟩
                case measure => simp [intOf]; omega
              · have hikb : ((i : Int) == (k0 : Int)) = false := by simp; omega
                have HP := Lib.hid (row_push f i k y (by rw [HFF.out]; unfold moreF; rw [hfee, if_neg hik, Int.add_zero]))
                clear hik hyy hfee
                go_wp2_with (at_builtin; refine wpList_append_own _ rfl _ _ 32 rfl wo.heap.size 2 i0 (.int .i64 0) 1 8 Tryd.underlying32 HI.out HI0.out HI1.out HI2.out rfl (by decide) _ _ _ rfl (HO.out.alloc _) ⟨wr.heap.size, 0, none⟩ 1 1 [.int .i64 y] rfl rfl ?d1 ?d2 ?d3 ?d4 ?d5 ?_)
                case d1 => exact cell_one_new _ _ _
                case d2 => simp [Value.oneCell']
                case d3 => unfold maxLen; omega
                case d4 => omega
                case d5 => have := HBi.out.size; simp; omega
                intro v' w3 hown' hgrow _
                have HO' : Hid (w3.ownsRow wo.heap.size 2 1 v' (k + 1) ((List.range (k + 1)).map fun x => .int .i64 (f i x))) := Lib.hid (by rw [HP.out]; exact hown')
                have HB3 : Hid (Below wo.heap.size wo w3) := Lib.hid ((HBi.out.alloc HBi.out.size _).grown hgrow (by have := HBi.out.size; simp; omega) (own_base HO.out))
                clear hown' hgrow
                go_wp2
                go_roundw
                case rel => exact ⟨k + 1, by omega, by go_num, HO', HB3⟩
                case measure => simp [intOf]; omega
            · obtain rfl : k = n := by omega
              obtain ⟨gr, capr, HU, hcp1, hcp2⟩ : ∃ gr capr, Hid (u13 = .slice (some ⟨gr, 0, none⟩) k capr) ∧ k ≤ capr ∧ capr ≤ maxLen := by
                rcases HO.out.2 with ⟨_, h0⟩ | ⟨g, cap, cur, hv, _, _, h1, h2, _⟩
                · omega
                · exact ⟨g, cap, Lib.hid hv, h1, h2⟩
              obtain rfl := HU.out
              obtain ⟨bs, cs, HR⟩ : ∃ bs cs, Hid (RowsQ wo w2.heap.size k i u10 bs cs f ∧ ∀ q, q < i → k ≤ cs q ∧ cs q ≤ maxLen) := by
                obtain ⟨bs, cs, h⟩ := HSO.out
                exact ⟨bs, cs, Lib.hid h⟩
              have HCP := Lib.hid (And.intro hcp1 hcp2)
              clear hcp1 hcp2
              go_wp2_with (at_builtin; refine wpList_append_own _ rfl _ _ 22 rfl w2.heap.size 32 i1 (.slice none 0 0) 1 24 Tryd.underlying22 HJ.out HJ0.out HJ1.out HJ2.out rfl (by decide) _ _ _ rfl ((HR.out.1.keep HBi.out).own.alloc _) ⟨wr.heap.size, 0, none⟩ 1 1 [.slice (some ⟨gr, 0, none⟩) k capr] rfl rfl ?f1 ?f2 ?f3 ?f4 ?f5 ?_)
              try (case f1 => exact cell_one_new _ _ _)
              case f2 => simp [Value.oneCell']
              case f3 => unfold maxLen; omega
              case f4 => omega
              case f5 => have h1 := HBi.out.size; have h2 := HB.out.size; simp; omega
              intro v' w3 hown' hgrow _
              have HO' : Hid (ShiftOut k (i + 1) f w2.heap.size v' w3) := Lib.hid ⟨_, _, HR.out.1.next (HBi.out.alloc HBi.out.size _) (HO.out.alloc _) HB.out.size hgrow hown', fun q hq => by
                by_cases e : q = i
                · simp only [e, if_true]; exact HCP.out
                · simp only [if_neg e]; exact HR.out.2 q (by omega)⟩
              have HB3 : Hid (Below w2.heap.size w2 w3) := Lib.hid (((HB.out.trans (HBi.out.mono HB.out.size)).alloc (by have h1 := HBi.out.size; have h2 := HB.out.size; omega) _).grown hgrow (by have h1 := HBi.out.size; have h2 := HB.out.size; simp; omega) (own_base HR.out.1.own))
              clear hown' hgrow
              go_wp2
              go_roundw
              case rel => exact ⟨i + 1, by omega, by go_num, HO', HB3⟩
              case measure => simp [intOf]; omega
        · obtain rfl : i = n := by omega
          obtain ⟨g2, cap2, HU, HSN⟩ : ∃ g2 cap2, Hid (u10 = .slice (some ⟨g2, 0, none⟩) i cap2) ∧ Hid (SideAt wr wr.heap.size (some ⟨g2, 0, none⟩) i cap2 (rowsOf i f)) := by
            obtain ⟨bs, cs, h1, h2⟩ := HSO.out
            obtain ⟨g2, cap2, h3, h4⟩ := h1.side h2 hnpos
            exact ⟨g2, cap2, Lib.hid h3, Lib.hid h4⟩
          obtain rfl := HU.out
          have HBw : Hid (Below w.heap.size w wr) := Lib.hid (HB1.out.trans (HB.out.mono HB1.out.size))
          have HTw := Lib.hid (HT.out.go_ HBw.out)
          have HRw := Lib.hid (HR1.out.go_ HB.out)
          obtain ⟨y, hy⟩ : ∃ y, feesF (rowsOf i f) = y := ⟨_, rfl⟩
          have HY := Lib.hid hy
          clear HSO HB
          by_cases hy0 : y = 0
          · subst hy0
            have HA := Lib.hid (assign_good (some ⟨g2, 0, none⟩) i cap2 (rowsOf i f) wr HSN.out hy HTw.out)
            unfold AssignOut at HA
            have hsh := shift_asg (Ls := Ls) (n := i) (k := k0) (d := by_) HK0.out
            rw [← HFF.out, ← HM.out.1, ← HM.out.2] at hsh
            rw [hsh.1, hsh.2] at HA
            clear hy hsh
            go_wp2_with fail
            refine HA.out.mono ?_
            rintro e w5 ⟨g5, rfl, hrow5, hb5⟩
            have HR5 := Lib.hid (RowC.intsOf hrow5 HL.out)
            have HB5 := Lib.hid hb5
            clear HA hrow5 hb5
            have HRz := Lib.hid (HRw.out.go_ HB5.out)
            have HBz : Hid (Below w.heap.size w w5) := Lib.hid (HBw.out.trans (HB5.out.mono HBw.out.size))
            go_wp2_with fail
            refine ((feesCheck_any (some ⟨g2, 0, none⟩) i cap2 (rowsOf i f) w5 (HSN.out.go_ HB5.out)).mono (R' := fun e w' => e = .returned (.int .i64 0) ∧ w' = w5) (fun e w' h => by rw [HY.out] at h; exact h)).mono ?_
            rintro e w6 ⟨rfl, rfl⟩
            go_wp2_with (go_at_call 9; refine (ints_v _ _ i i _ _ _ _ true _ HRz.out HR5.out (by omega) (by omega) (by simp)).mono ?_; rintro e w7 ⟨rfl, q7, rfl⟩)
            go_ret
            exact ⟨rfl, below_drewN HBz.out _⟩
          · have HA := Lib.hid (assign_bad (some ⟨g2, 0, none⟩) i cap2 (rowsOf i f) y wr HSN.out hy hy0)
            have hyb : (y != 0) = true := by simpa using hy0
            clear hy hy0
            go_wp2_with fail
            refine HA.out.mono ?_
            rintro e w5 ⟨rfl, hb5⟩
            have HB5 := Lib.hid hb5
            have HBz : Hid (Below w.heap.size w w5) := Lib.hid (HBw.out.trans (HB5.out.mono HBw.out.size))
            clear HA hb5
            go_wp2_with fail
            refine ((feesCheck_any (some ⟨g2, 0, none⟩) i cap2 (rowsOf i f) w5 (HSN.out.go_ HB5.out)).mono (R' := fun e w' => e = .returned (.int .i64 y) ∧ w' = w5) (fun e w' h => by rw [HY.out] at h; exact h)).mono ?_
            rintro e w6 ⟨rfl, rfl⟩
            go_wp2_with fail
            go_ret
            exact ⟨rfl, HBz.out⟩
  · have HA := Lib.hid (assign_bad A n c Ls x w S hx h0)
    have hx0 : (x != 0) = true := by simpa using h0
    clear S hx hT h0
    go_enter Tryd.func5, Tryd.ntmps5
    go_wp2_with fail
    refine HA.out.mono ?_
    rintro e w1 ⟨rfl, hb1⟩
    have HB1 := Lib.hid hb1
    clear HA hb1
    go_wp2_with fail
    refine ((feesCheck_any A n c Ls w1 (HS.out.go_ HB1.out)).mono (R' := fun e w' => e = .returned (.int .i64 x) ∧ w' = w1) (fun e w' h => by rw [HF.out] at h; exact h)).mono ?_
    rintro e w2 ⟨rfl, rfl⟩
    go_wp2_with fail
    go_ret
    exact ⟨rfl, HB1.out⟩
end Go.Proofs.YtmlmnmphmghdlaaDoor
