/- span.without: what is left of a table when the nodes of a word go. -/
import Derived.Test.YthfgbgmkiggjmabDoorTbl
import Derived.Test.YthfgbgmkiggjmabDoorWords
namespace Go.Proofs.YthfgbgmkiggjmabDoor
open Go.RowKit

theorem shr_one (W k : Nat) (hW : W < 1024) : bits .and .u32 ((W : Int) / 2 ^ k) 1 = if W.testBit k = true then 1 else 0 := by
  have h1 : ((W : Int) / 2 ^ k) = ((W / 2 ^ k : Nat) : Int) := by rw [Int.natCast_ediv]; simp
  have h2 : W / 2 ^ k ≤ W := Nat.div_le_self _ _
  have h3 := and_u32 (W / 2 ^ k) 1 (by omega) (by omega)
  rw [h1]
  have e1 : ((1 : Nat) : Int) = 1 := rfl
  rw [e1] at h3
  rw [h3, Nat.and_one_is_mod, Nat.testBit_eq_decide_div_mod_eq]
  have h4 := Nat.mod_two_eq_zero_or_one (W / 2 ^ k)
  rcases h4 with h4 | h4 <;> simp [h4]
def keepB (W : Nat) (a : Nat) : Bool := !W.testBit a
def keepL (n W : Nat) : List Nat := (List.range n).filter (keepB W)
def keepF (n W : Nat) (A : Nat → Nat → Int) (i j : Nat) : Int := A ((keepL n W).getD i 0) ((keepL n W).getD j 0)
def WithoutOut (w : World) (n W : Nat) (A : Nat → Nat → Int) (e : Ending) (w' : World) : Prop :=
  (∃ v bs cs, e = .returned v ∧ RowsL w' w.heap.size (keepL n W).length (keepL n W).length v bs cs (keepF n W A)) ∧ Below w.heap.size w w'

set_option maxRecDepth 100000 in
set_option maxHeartbeats 4000000 in
theorem without_any (n g base W cap : Nat) (bs cs : Nat → Nat) (A : Nat → Nat → Int) (w : World) (hT : Tbl w base g n n bs cs A) (hn : n ≤ 10) (hW : W < 1024) :
    Calls Tryd.prog 67 #[.int .u32 W, .slice (some ⟨g, 0, none⟩) n cap] w (WithoutOut w n W A) := by
  have HT := Lib.hid hT
  clear hT
  obtain ⟨i0, hi, hz0, hz1, hz2⟩ := info_parts infoInt64
  have HI := Lib.hid hi
  have HI0 := Lib.hid hz0
  have HI1 := Lib.hid hz1
  have HI2 := Lib.hid hz2
  clear hi hz0 hz1 hz2
  obtain ⟨i1, hi, hz0, hz1, hz2⟩ := info_parts infoInts64
  have HJ := Lib.hid hi
  have HJ0 := Lib.hid hz0
  have HJ1 := Lib.hid hz1
  have HJ2 := Lib.hid hz2
  clear hi hz0 hz1 hz2
  go_enter Tryd.func67, Tryd.ntmps67
  go_wp2
  go_loopw [5, 13] (fun v j wr => ∃ k : Nat, k ≤ n ∧ j = .int .i64 k ∧ Hid (∃ bs' cs', RowsL wr w.heap.size (keepL n W).length (cntP (keepB W) k) v bs' cs' (keepF n W A)) ∧ Hid (Below w.heap.size w wr)) (fun _ j _ => n - (intOf j).toNat)
  case atStart => exact ⟨0, Nat.zero_le _, rfl, Lib.hid ⟨fun _ => 0, fun _ => 0, RowsL.nil ..⟩, Lib.hid (Below.refl _ _)⟩
  case round =>
    obtain ⟨k, hk, rfl, HR, HB⟩ := hrel
    have hsz := HB.out.size
    by_cases hkn : k < n
    · have HTr := Lib.hid (HT.out.below HB.out)
      have hgl := HTr.out.tlt
      have htk := HTr.out.tcell hkn
      have ik0 : (0 : Int) ≤ (k : Int) := by omega
      have ik1 : (k : Int) < (n : Int) := by omega
      have ik2 : (k : Int) ≤ 32 := by omega
      have hsh := shr_one W k hW
      by_cases hbk : W.testBit k = true
      · have hs1 : bits .and .u32 ((W : Int) / 2 ^ k) 1 = 1 := by rw [hsh, if_pos hbk]
        have HN : Hid (cntP (keepB W) (k + 1) = cntP (keepB W) k) := Lib.hid (by rw [cntP_succ, if_neg (by simp [keepB, hbk])]; rfl)
        clear hsh hbk
        go_wp2
        go_roundw
        case rel => exact ⟨k + 1, by omega, by go_num, Lib.hid (by rw [HN.out]; exact HR.out), HB⟩
        case measure => simp [intOf]; omega
      · have hs1 : bits .and .u32 ((W : Int) / 2 ^ k) 1 = 0 := by rw [hsh, if_neg hbk]
        have hpk : keepB W k = true := by simp [keepB]; simpa using hbk
        have HN : Hid (cntP (keepB W) (k + 1) = cntP (keepB W) k + 1) := Lib.hid (by rw [cntP_succ, if_pos hpk])
        have HGk : Hid ((keepL n W).getD (cntP (keepB W) k) 0 = k) := Lib.hid (cntP_get hkn hpk)
        have hcq : cntP (keepB W) k ≤ 10 := by have := cntP_le (keepB W) k; omega
        clear hsh hbk hpk
        generalize hq : cntP (keepB W) k = q at *
        have HQ := Lib.hid hq
        clear hq
        obtain ⟨wo, rfl⟩ : ∃ wo : World, wo = wr := ⟨_, rfl⟩
        go_wp2
        go_loopw [8, 25] (fun v j wr => ∃ b : Nat, b ≤ n ∧ j = .int .i64 b ∧ Hid (wr.ownsRow wo.heap.size 2 1 v (cntP (keepB W) b) ((List.range (cntP (keepB W) b)).map fun x => .int .i64 (keepF n W A q x))) ∧ Hid (Below wo.heap.size wo wr)) (fun _ j _ => n - (intOf j).toNat)
        case atStart => exact ⟨0, Nat.zero_le _, rfl, Lib.hid (by simpa [cntP] using World.ownsRow_nil ..), Lib.hid (Below.refl _ _)⟩
        case round =>
          obtain ⟨b, hb, rfl, HO, HBi⟩ := hrel
          have hszi := HBi.out.size
          by_cases hbn : b < n
          · have hcb : wr.cell? ⟨bs k, b, none⟩ = some (.int .i64 (A k b)) := (HTr.out.below HBi.out).cell hkn hbn
            have ib0 : (0 : Int) ≤ (b : Int) := by omega
            have ib1 : (b : Int) < (n : Int) := by omega
            have ib2 : (b : Int) ≤ 32 := by omega
            have hsb := shr_one W b hW
            by_cases hbb : W.testBit b = true
            · have hs2 : bits .and .u32 ((W : Int) / 2 ^ b) 1 = 1 := by rw [hsb, if_pos hbb]
              have HNb : Hid (cntP (keepB W) (b + 1) = cntP (keepB W) b) := Lib.hid (by rw [cntP_succ, if_neg (by simp [keepB, hbb])]; rfl)
              clear hsb hbb
              go_wp2
              go_roundw
              case rel => exact ⟨b + 1, by omega, by go_num, Lib.hid (by rw [HNb.out]; exact HO.out), HBi⟩
              case measure => simp [intOf]; omega
            · have hs2 : bits .and .u32 ((W : Int) / 2 ^ b) 1 = 0 := by rw [hsb, if_neg hbb]
              have hpb : keepB W b = true := by simp [keepB]; simpa using hbb
              have HNb : Hid (cntP (keepB W) (b + 1) = cntP (keepB W) b + 1) := Lib.hid (by rw [cntP_succ, if_pos hpb])
              have HV : Hid (keepF n W A q (cntP (keepB W) b) = A k b) := Lib.hid (by
                unfold keepF
                rw [HGk.out]
                congr 1
                exact cntP_get hbn hpb)
              have hcb10 : cntP (keepB W) b ≤ 10 := by have := cntP_le (keepB W) b; omega
              clear hsb hbb hpb
              generalize cntP (keepB W) b = c at *
              generalize A k b = z at *
              go_wp2_with (at_builtin; refine wpList_append_own _ rfl _ _ 98 rfl wo.heap.size 2 i0 (.int .i64 0) 1 8 Tryd.underlying98 HI.out HI0.out HI1.out HI2.out rfl (by decide) _ _ _ rfl (HO.out.alloc _) ⟨wr.heap.size, 0, none⟩ 1 1 [.int .i64 z] rfl rfl ?c1 ?c2 ?c3 ?c4 ?c5 ?_)
              try (case c1 => exact cell_one_new _ _ _)
              case c2 => simp [Value.oneCell']
              case c3 => unfold maxLen; omega
              case c4 => omega
              case c5 => simp; omega
              intro v' w3 hown' hgrow _
              have HO' : Hid (w3.ownsRow wo.heap.size 2 1 v' (cntP (keepB W) (b + 1)) ((List.range (cntP (keepB W) (b + 1))).map fun x => .int .i64 (keepF n W A q x))) := Lib.hid (by
                rw [HNb.out, List.range_succ, List.map_append, List.map_singleton, HV.out]
                exact hown')
              have HB3 : Hid (Below wo.heap.size wo w3) := Lib.hid ((HBi.out.alloc hszi _).grown hgrow (by simp; omega) (own_base HO.out))
              clear hown' hgrow
              go_wp2
              go_roundw
              case rel => exact ⟨b + 1, by omega, by go_num, HO', HB3⟩
              case measure => simp [intOf]; omega
          · obtain rfl : b = n := by omega
            have hrl : cntP (keepB W) b = (keepL b W).length := rfl
            have hqr : q + 1 ≤ (keepL b W).length := by
              have h1 := cntP_mono (keepB W) (k := k + 1) (n := b) hkn
              rw [HN.out, hrl] at h1
              exact h1
            have hr10 : (keepL b W).length ≤ 10 := by have := cntP_le (keepB W) b; omega
            obtain ⟨gk, ck, HU, HOk⟩ : ∃ gk ck, Hid (u8 = .slice (some ⟨gk, 0, none⟩) (keepL b W).length ck) ∧ Hid (wr.ownsRow wo.heap.size 2 1 (.slice (some ⟨gk, 0, none⟩) (keepL b W).length ck) (keepL b W).length ((List.range (keepL b W).length).map fun x => .int .i64 (keepF b W A q x))) := by
              have h := HO.out
              rw [hrl] at h
              rcases h.2 with ⟨_, h0⟩ | ⟨gk, ck, cur, hv, _⟩
              · omega
              · rw [hv] at h
                exact ⟨gk, ck, Lib.hid hv, Lib.hid h⟩
            obtain rfl := HU.out
            obtain ⟨bs', cs', HRo⟩ : ∃ bs' cs', Hid (RowsL wo w.heap.size (keepL b W).length q u5 bs' cs' (keepF b W A)) := by
              obtain ⟨bs', cs', h⟩ := HR.out
              exact ⟨bs', cs', Lib.hid h⟩
            have HRr := Lib.hid (HRo.out.keep HBi.out)
            clear HU HO HR hrl
            generalize hrr : (keepL b W).length = r at *
            have HRR := Lib.hid hrr
            clear hrr
            go_wp2_with (at_builtin; refine wpList_append_own _ rfl _ _ 78 rfl w.heap.size 98 i1 (.slice none 0 0) 1 24 Tryd.underlying78 HJ.out HJ0.out HJ1.out HJ2.out rfl (by decide) _ _ _ rfl (HRr.out.own.alloc _) ⟨wr.heap.size, 0, none⟩ 1 1 [.slice (some ⟨gk, 0, none⟩) r ck] rfl rfl ?d1 ?d2 ?d3 ?d4 ?d5 ?_)
            try (case d1 => exact cell_one_new _ _ _)
            case d2 => simp [Value.oneCell']
            case d3 => unfold maxLen; omega
            case d4 => omega
            case d5 => simp; omega
            intro v' w3 hown' hgrow _
            have HNXT : Hid (∃ bs' cs', RowsL w3 w.heap.size r (cntP (keepB W) (k + 1)) v' bs' cs' (keepF b W A)) := Lib.hid (by
              rw [HN.out]
              exact ⟨_, _, HRo.out.next (HBi.out.alloc hszi _) (HOk.out.alloc _) hsz hgrow hown'⟩)
            have HB3 : Hid (Below w.heap.size w w3) := Lib.hid (((HB.out.trans (HBi.out.mono hsz)).alloc (by omega) _).grown hgrow (by simp; omega) (fun g hg => (HRr.out.own.lt g hg).1))
            clear hown' hgrow
            go_wp2
            go_roundw
            case rel => exact ⟨k + 1, by omega, by go_num, Lib.hid (by rw [HRR.out]; exact HNXT.out), HB3⟩
            case measure => simp [intOf]; omega
    · obtain rfl : k = n := by omega
      have HO : Hid (WithoutOut w k W A (.returned u5) wr) := Lib.hid (by
        obtain ⟨bs', cs', h⟩ := HR.out
        exact ⟨⟨_, bs', cs', rfl, h⟩, HB.out⟩)
      go_wp2
      go_ret
      exact HO.out
end Go.Proofs.YthfgbgmkiggjmabDoor
