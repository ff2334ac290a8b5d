/- sides.firstRound: the first list of nodes that goes from a node back to it in so many steps. -/
import Derived.Test.YthfgbgmkiggjmabDoorWaysBack
import Derived.Test.YthfgbgmkiggjmabDoorOwn
import Derived.Test.YthfgbgmkiggjmabDoorUnite
import Derived.Deep.AppendLies
import Derived.Deep.RegionLaw
namespace Go.Proofs.YthfgbgmkiggjmabDoor
open Go.RowKit

def nV (x : Nat) : Value := .int .i64 (x : Int)
theorem shr_bitR (W k : Nat) (hW : W < 1024) : bits .and .u32 ((W : Int) / 2 ^ k) 1 = if W.testBit k = true then 1 else 0 := by
  have h1 : ((W : Int) / 2 ^ k) = ((W / 2 ^ k : Nat) : Int) := by rw [Int.natCast_ediv]; simp
  have h2 : W / 2 ^ k ≤ W := Nat.div_le_self _ _
  have h3 := and_u32 (W / 2 ^ k) 1 (by omega) (by omega)
  rw [h1]
  have e1 : ((1 : Nat) : Int) = 1 := rfl
  rw [e1] at h3
  rw [h3, Nat.and_one_is_mod, Nat.testBit_eq_decide_div_mod_eq]
  have h4 := Nat.mod_two_eq_zero_or_one (W / 2 ^ k)
  rcases h4 with h4 | h4 <;> simp [h4]
set_option maxRecDepth 100000 in
theorem back_cell {w : World} {g n m s dest : Nat} {adj : Nat → Nat → Bool} {bl : List Nat} (hB : BackTo adj m dest n bl n) (hR : RowOf w g 59 (bl.map u32V)) (hs : s ≤ n) : w.cell? ⟨g, s, none⟩ = some (.int .u32 (bl.getD s 0 : Nat)) := by
  have hl : s < bl.length := by have := hB.len; omega
  exact hR.cell (by rw [List.getElem?_map, List.getD_eq_getElem?_getD, List.getElem?_eq_getElem hl]; rfl)
/-- The least node that both words have. -/
theorem least_both {adj : Nat → Nat → Bool} {m first n s k X : Nat} {bl : List Nat} (hm : m ≤ 10) (h : BackTo adj m first n bl n) (hs : s ≤ n) (hX : ∀ j, X.testBit j = adj k j) (hw : wk adj (s + 1) k first) :
    X &&& bl.getD s 0 ≠ 0 ∧ X &&& bl.getD s 0 < 1024 ∧ adj k (Lib.ctz 32 (X &&& bl.getD s 0)) = true ∧ wk adj s (Lib.ctz 32 (X &&& bl.getD s 0)) first ∧ ∀ u, u < Lib.ctz 32 (X &&& bl.getD s 0) → adj k u = true → ¬ wk adj s u first := by
  have hlt := pow10 hm (Nat.and_lt_two_pow X (h.lt s hs))
  have hne : X &&& bl.getD s 0 ≠ 0 := by
    obtain ⟨b, h1, h2⟩ := wk_uncons hw
    intro h0
    have : (X &&& bl.getD s 0).testBit b = true := by
      rw [Nat.testBit_and, Bool.and_eq_true, hX]
      exact ⟨h1, (h.bit s hs b).2 h2⟩
    rw [h0] at this
    simp at this
  obtain ⟨h1, h2⟩ := ctz_dec _ hlt hne
  rw [Nat.testBit_and, Bool.and_eq_true, hX] at h1
  refine ⟨hne, hlt, h1.1, (h.bit s hs _).1 h1.2, fun u hu ha hw => ?_⟩
  have h3 := h2 u hu
  rw [Nat.testBit_and, hX, ha, (h.bit s hs u).2 hw] at h3
  cases h3

set_option maxRecDepth 100000 in
set_option maxHeartbeats 1000000 in
theorem firstRound_none (m first n : Nat) (hm10 : m ≤ 10) (hd : first < m) (hn : n ≤ 10) (A : Option Addr) (cap : Nat) (es : List E3) (hg : goodE m es) (w : World) (hA : WordsAt w w.heap.size A m (nbL m es)) (hw : ¬ wk (adjE es) n first first) :
    Calls Tryd.prog 60 #[.slice A m cap, .int .i64 first, .int .i64 n] w fun e w' => e = .returned (.slice none 0 0) ∧ Below w.heap.size w w' := by
  have HA := Lib.hid hA
  have HG := Lib.hid hg
  have HW := Lib.hid hw
  clear hA hg hw
  have if0 : (0 : Int) ≤ (first : Int) := by omega
  have if32 : (first : Int) ≤ 32 := by omega
  have in0 : (0 : Int) ≤ (n : Int) := by omega
  have in1 : (n : Int) < (n : Int) + 1 := by omega
  go_enter Tryd.func60, Tryd.ntmps60
  go_wp2_with (go_at_call 77; refine (waysBack_any m first n hm10 hd hn A cap es HG.out _ (by exact HA.out)).mono ?_; rintro e w1 ⟨⟨bl, rfl, hbk, hrow⟩, hb1⟩; have HBK := Lib.hid hbk; have hcY := back_cell hbk hrow (Nat.le_refl n); have hYs : bl.getD n 0 < 1024 := pow10 hm10 (hbk.lt n (Nat.le_refl _)); have hYb : ¬ (bl.getD n 0).testBit first = true := (fun h => HW.out ((hbk.bit n (Nat.le_refl _) first).1 h)); have hsh : bits .and .u32 ((bl.getD n 0 : Nat) / 2 ^ first : Int) 1 = 0 := (by rw [shr_bitR _ _ hYs, if_neg hYb]); clear hbk hrow hYb; generalize bl.getD n 0 = Y at hcY hYs hsh)
  go_ret
  exact ⟨rfl, hb1⟩

set_option maxRecDepth 100000 in
set_option maxHeartbeats 2000000 in
theorem firstRound_some (m first n : Nat) (hm10 : m ≤ 10) (hd : first < m) (hn : n ≤ 10) (hn1 : 1 ≤ n) (A : Option Addr) (cap : Nat) (es : List E3) (hg : goodE m es) (w : World) (hA : WordsAt w w.heap.size A m (nbL m es)) (hT : Tab w) (hw : wk (adjE es) n first first) :
    Calls Tryd.prog 60 #[.slice A m cap, .int .i64 first, .int .i64 n] w fun e w' => (∃ l v, e = .returned v ∧ RoundL (adjE es) first n l n ∧ w'.ownsRow w.heap.size 3 1 v n (l.map nV)) ∧ Below w.heap.size w w' := by
  have HA := Lib.hid hA
  have HG := Lib.hid hg
  have HW := Lib.hid hw
  have HT := Lib.hid hT
  have HWD := Lib.hid (nbL_words hg)
  clear hA hg hw hT
  obtain ⟨i0, hi, hz0, hz1, hz2⟩ := info_parts infoInt
  have HI := Lib.hid hi
  have HI0 := Lib.hid hz0
  have HI1 := Lib.hid hz1
  have HI2 := Lib.hid hz2
  clear hi hz0 hz1 hz2
  have if0 : (0 : Int) ≤ (first : Int) := by omega
  have if32 : (first : Int) ≤ 32 := by omega
  have in0 : (0 : Int) ≤ (n : Int) := by omega
  have in1 : (n : Int) < (n : Int) + 1 := by omega
  go_enter Tryd.func60, Tryd.ntmps60
  go_wp2_with (go_at_call 77; refine (waysBack_any m first n hm10 hd hn A cap es HG.out _ (by exact HA.out)).mono ?_; rintro e w1 ⟨⟨bl, rfl, hbk, hrow⟩, hb1⟩; have HBK := Lib.hid hbk; have HRW := Lib.hid hrow; have hcY := back_cell hbk hrow (Nat.le_refl n); have hYs : bl.getD n 0 < 1024 := pow10 hm10 (hbk.lt n (Nat.le_refl _)); have hYb : (bl.getD n 0).testBit first = true := ((hbk.bit n (Nat.le_refl _) first).2 HW.out); have hsh : bits .and .u32 ((bl.getD n 0 : Nat) / 2 ^ first : Int) 1 = 1 := (by rw [shr_bitR _ _ hYs, if_pos hYb]); clear hbk hrow hYb; generalize bl.getD n 0 = Y at hcY hYs hsh)
  clear hcY hYs hsh
  have hs1 : w.heap.size < w1.heap.size := HRW.out.lt
  have HB1 := Lib.hid hb1
  clear hb1
  go_loopw [8, 9, 10] (fun v j _ wr => ∃ (k left : Nat) (l : List Nat), 1 ≤ k ∧ k + left = n ∧ j = .int .i64 left ∧ Hid (RoundL (adjE es) first n l k) ∧ Hid (wr.ownsRow w1.heap.size 3 1 v k (l.map nV)) ∧ Below w1.heap.size w1 wr) (fun _ j _ _ => (intOf j).toNat)
  case atStart =>
    refine ⟨1, n - 1, [first], Nat.le_refl _, by omega, ?_, Lib.hid (RoundL.one HW.out), Lib.hid ?_, (Below.refl _ _).alloc (Nat.le_refl _) _⟩
    · congr 1; omega
    · exact ⟨rfl, .inr ⟨w1.heap.size, 1, _, rfl, Nat.le_refl _, (MapKept.heap_alloc w1 _).1, Nat.le_refl _, by unfold maxLen; omega, rfl, rfl⟩⟩
  case round =>
    obtain ⟨k, left, l, hk1, hkl, rfl, HL, HO, hB⟩ := hrel
    have HBE : Hid (Below w.heap.size w wr) := Lib.hid (HB1.out.trans (hB.mono (by omega)))
    by_cases hlt : left = 0
    · subst hlt
      obtain rfl : k = n := by omega
      have HO2 := Lib.hid (own_low HO.out (show w.heap.size ≤ w1.heap.size by omega))
      go_wp2
      go_ret
      exact ⟨⟨l, _, rfl, HL.out, HO2.out⟩, HBE.out⟩
    · obtain ⟨s, rfl⟩ : ∃ s, left = s + 1 := ⟨left - 1, by omega⟩
      obtain ⟨q, rfl⟩ : ∃ q, k = q + 1 := ⟨k - 1, by omega⟩
      obtain ⟨Av, capv, HVF⟩ : ∃ Av capv, Hid (u8 = .slice Av (q + 1) capv) := by
        obtain ⟨Av, capv, hv⟩ := own_form HO.out
        exact ⟨Av, capv, Lib.hid hv⟩
      obtain rfl := HVF.out
      clear HVF hlt
      have hback := HL.out.back q (by omega)
      rw [show n - q = s + 1 + 1 by omega] at hback
      have hl0 := HL.out.len
      have hym : l.getD q 0 < m := by
        obtain ⟨b, hb, _⟩ := wk_uncons hback
        exact (adjE_lt HG.out hb).1
      have hread : wr.cell? = wr.cell? := rfl
      have hmap : l.map nV = (l.map fun x : Nat => (x : Int)).map (Value.int .i64) := by simp [nV]
      obtain ⟨bv, ov, x, rfl, _, hx, hcv⟩ := (IntsAt.of_own (t := 3) (by have h := HO.out; rw [hmap] at h; exact h) (Nat.le_refl wr.heap.size)).at_ (show q < q + 1 by omega)
      obtain rfl : ((l.getD q 0 : Nat) : Int) = x := by
        rw [List.getElem?_map, List.getElem?_eq_getElem (by omega)] at hx
        injection hx with hx
        rw [← hx, List.getD_eq_getElem?_getD, List.getElem?_eq_getElem (by omega)]
        rfl
      obtain ⟨ba, oa, rfl, _, hck⟩ := (HA.out.below HBE.out).at_ hym
      have hXb : ∀ j, ((nbL m es).getD (l.getD q 0) 0).testBit j = adjE es (l.getD q 0) j := fun j => nbL_bit HG.out hym j
      have hXs := pow10 hm10 (HWD.out (l.getD q 0))
      have hcY : wr.cell? ⟨w.heap.size, s + 1, none⟩ = some (.int .u32 (bl.getD (s + 1) 0 : Nat)) := (hB.cell (p := ⟨w.heap.size, s + 1, none⟩) hs1).trans (back_cell HBK.out HRW.out (by omega))
      have hYs := pow10 hm10 (HBK.out.lt (s + 1) (by omega))
      obtain ⟨z1, z2, z3, z4, z5⟩ := least_both hm10 HBK.out (show s + 1 ≤ n by omega) hXb hback
      have hand := and_u32 ((nbL m es).getD (l.getD q 0) 0) (bl.getD (s + 1) 0) (by omega) (by omega)
      have HNX : Hid (RoundL (adjE es) first n (l ++ [Lib.ctz 32 ((nbL m es).getD (l.getD q 0) 0 &&& bl.getD (s + 1) 0)]) (q + 1 + 1)) := Lib.hid (HL.out.next (by omega) z3 (by rw [show n - (q + 1) = s + 1 by omega]; exact z4) (fun u hu ha => by rw [show n - (q + 1) = s + 1 by omega]; exact z5 u hu ha))
      have HTZ := Lib.hid (fun W hW => tz_any _ W (Nat.lt_of_lt_of_le z2 (by decide)) z1 hW)
      have hcm : Lib.ctz 32 ((nbL m es).getD (l.getD q 0) 0 &&& bl.getD (s + 1) 0) < m := (adjE_lt HG.out z3).2.1
      have HTr : Hid (Tab wr) := Lib.hid (HT.out.go_ HBE.out)
      clear z1 z3 z4 z5 hback hXb hx hl0 hmap hread
      generalize (nbL m es).getD (l.getD q 0) 0 &&& bl.getD (s + 1) 0 = Z at *
      generalize (nbL m es).getD (l.getD q 0) 0 = X at *
      generalize bl.getD (s + 1) 0 = Y at *
      generalize Lib.ctz 32 Z = c at *
      generalize hy : l.getD q 0 = y at *
      clear hy
      have iy0 : (0 : Int) ≤ (y : Int) := by omega
      have iy1 : (y : Int) < (m : Int) := by omega
      have is1 : (s : Int) + 1 < (n : Int) + 1 := by omega
      have iq0 : (0 : Int) ≤ (q : Int) := by omega
      have hsz := hB.size
      go_wp2
      have is2 : s < n := by omega
      have is3 : (s : Int) < (n : Int) := by omega
      have is4 : (0 : Int) ≤ (s : Int) + 1 := by omega
      have iy2 : y < m := by omega
      go_region_law (first
        | (refine step_append_lies _ (by rfl) (.tmp 37) (.tmp 48) 25 (by rfl) w1.heap.size 3 i0 (.int .i64 0) 1 8 Tryd.underlying25 HI.out HI0.out HI1.out HI2.out rfl (by decide) (.slice (some ⟨bv, ov, none⟩) (q + 1) capv) (q + 1) (l.map nV) (by rfl) (HO.out.drew.alloc _) ⟨wr.heap.size, 0, none⟩ 1 1 [.int .i64 (c : Int)] (by rfl) (by rfl) (World.news_of_block (cs := #[.int .i64 (c : Int)]) (t := 3) (fr := (0, 0)) (heap_alloc_new wr.drew _)) (by simp [Value.oneCell']) (by decide) (by unfold maxLen; omega) (by omega) (by simp; omega) (wr.heap.size + 1) (by simp) ?_; intro g5 cap5 w5 hown5 hgrow5 hat5 hlt5)
        | (go_simp; go_at_call 42; refine (HTZ.out _ (by exact HTr.out)).mono ?_; rintro e w9 ⟨rfl, rfl⟩))
      all_goals
        have HO5 : Hid (w5.ownsRow w1.heap.size 3 1 (.slice (some ⟨g5, 0, none⟩) (q + 1 + 1) cap5) (q + 1 + 1) ((l ++ [c]).map nV)) := Lib.hid (by rw [List.map_append]; exact hown5)
        have HB5 : Hid (Below w1.heap.size w1 w5) := Lib.hid ((hB.drew.alloc (by simpa using hsz) _).grown hgrow5 (by simp; omega) (fun g hg => own_base HO.out g hg))
        clear hown5 hgrow5 hat5
        go_wp2
        go_roundw
        case rel => exact ⟨q + 1 + 1, s, l ++ [c], by omega, by omega, by go_num, HNX, HO5, HB5.out⟩
        case measure => simp [intOf]
end Go.Proofs.YthfgbgmkiggjmabDoor
