/- tour.walk: how it uses up the edges, as words. -/
import Derived.Test.YthfgbgmkiggjmabDoorWordsOf
import Derived.Test.YthfgbgmkiggjmabDoorNeigh
import Derived.Test.YthfgbgmkiggjmabDoorOwn
import Derived.Deep.LoopGhost
namespace Go.Proofs.YthfgbgmkiggjmabDoor
open Go.RowKit

def natV (n : Nat) : Value := .int .i64 (n : Int)
/-- What walk has done with some of a node's edges. -/
def WalkInv (m ga base x : Nat) (G : List Pr) (k : Nat) (xs : List Nat) (w : World) (c : Nat) (v : Value) (wr : World) : Prop :=
  ∃ Gc acc ar, Gc.length = c ∧ Simp Gc ∧ InG m Gc ∧ (∀ G' l, Wk Gc x G' l → Wk G x G' (l ++ acc)) ∧ WordsOf m ar Gc ∧ RowOf wr ga 59 (ar.map u32V) ∧ wr.ownsRow base 3 1 v (k + acc.length) ((xs ++ acc.reverse).map natV) ∧ Below ga w wr ∧ Gc.length + acc.length = G.length
def WalkPost (m ga base x : Nat) (G : List Pr) (k : Nat) (xs : List Nat) (w : World) (e : Ending) (w' : World) : Prop :=
  ∃ G' l ar v, e = .returned v ∧ Wk G x G' l ∧ WordsOf m ar G' ∧ RowOf w' ga 59 (ar.map u32V) ∧ w'.ownsRow base 3 1 v (k + l.length + 1) ((xs ++ (x :: l).reverse).map natV) ∧ Below ga w w'
theorem own_keep_far {w w' : World} {base : Nat} {t : TypeId} {v : Value} {n : Nat} {xs : List Value} (h : w.ownsRow base t 1 v n xs) (hb : ∀ g, base ≤ g → w'.heap[g]? = w.heap[g]?) : w'.ownsRow base t 1 v n xs := by
  refine ⟨h.1, ?_⟩
  rcases h.2 with h0 | ⟨g, cap, cur, hv, hg, hr, hrest⟩
  · exact .inl h0
  · exact .inr ⟨g, cap, cur, hv, hg, (hb g hg).trans hr, hrest⟩

set_option maxRecDepth 100000 in
set_option maxHeartbeats 2000000 in
theorem walk_any (m ga base : Nat) (hm10 : m ≤ 10) (hgb : ga < base) (hgt : 0 < ga) (n : Nat) :
    ∀ (G : List Pr) (x : Nat) (ar : List Nat) (v : Value) (k : Nat) (xs : List Nat) (w : World), G.length ≤ n → k + G.length ≤ 1000 → x < m → Simp G → InG m G → WordsOf m ar G → RowOf w ga 59 (ar.map u32V) → w.ownsRow base 3 1 v k (xs.map natV) → base ≤ w.heap.size → Tab w →
    Calls Tryd.prog 48 #[.slice (some ⟨ga, 0, none⟩) m m, .int .i64 x, v] w fun e w' => WalkPost m ga base x G k xs w e w' := by
  induction n using Nat.strongRecOn with
  | ind n ih =>
    intro G x ar v k xs w hGn hk hx hs hin hW hR hO hbase hT
    have HIH := Lib.hid ih
    have HT := Lib.hid hT
    have HS : Hid (WalkInv m ga base x G k xs w G.length v w) := Lib.hid ⟨G, [], ar, rfl, hs, hin, fun G' l h => by rw [List.append_nil]; exact h, hW, hR, by simpa using hO, Below.refl _ _, by simp⟩
    clear hs hin hW hR hO ih hT
    obtain ⟨i0, hi, hz0, hz1, hz2⟩ := info_parts infoInt
    have HI := Lib.hid hi
    have HI0 := Lib.hid hz0
    have HI1 := Lib.hid hz1
    have HI2 := Lib.hid hz2
    clear hi hz0 hz1 hz2
    go_enter Tryd.func48, Tryd.ntmps48
    go_wp2_with fail
    go_loopg [2] G.length (fun c v wr => Hid (WalkInv m ga base x G k xs w c v wr))
    case atStart => exact HS
    case round =>
      clear HS
      obtain ⟨Gc, acc, ar', HC, HSi, HIN, HWK, HWO, HRo, HOw, hB, hlen⟩ : ∃ Gc acc ar, Hid (Gc.length = gk) ∧ Hid (Simp Gc) ∧ Hid (InG m Gc) ∧ Hid (∀ G' l, Wk Gc x G' l → Wk G x G' (l ++ acc)) ∧ Hid (WordsOf m ar Gc) ∧ Hid (RowOf wr ga 59 (ar.map u32V)) ∧ Hid (wr.ownsRow base 3 1 u2 (k + acc.length) ((xs ++ acc.reverse).map natV)) ∧ Below ga w wr ∧ Hid (Gc.length + acc.length = G.length) := by
        obtain ⟨Gc, acc, ar, h1, h2, h3, h4, h5, h6, h7, h8, h9⟩ := hrel.out
        exact ⟨Gc, acc, ar, Lib.hid h1, Lib.hid h2, Lib.hid h3, Lib.hid h4, Lib.hid h5, Lib.hid h6, Lib.hid h7, h8, Lib.hid h9⟩
      clear hrel
      have hsz := hB.size
      have hal : acc.length ≤ 1000 := by have := hlen.out; omega
      have hkl : k + acc.length ≤ 1000 := by have := hlen.out; omega
      have hcx : wr.cell? ⟨ga, x, none⟩ = some (.int .u32 (ar'.getD x 0 : Nat)) := HRo.out.cell (by
        have hl : x < ar'.length := by have := HWO.out.len; omega
        rw [List.getElem?_map, List.getD_eq_getElem?_getD, List.getElem?_eq_getElem hl]; rfl)
      have ix0 : (0 : Int) ≤ (x : Int) := by omega
      have ix1 : (x : Int) < (m : Int) := by omega
      by_cases hX : ar'.getD x 0 = 0
      · have hcx0 : wr.cell? ⟨ga, x, none⟩ = some (.int .u32 0) := by rw [hcx, hX]; rfl
        have HSTOP := Lib.hid (HWK.out Gc [] (.stop (HWO.out.zero hx hX)))
        clear hcx hX
        go_wp2_with (at_builtin; refine wpList_append_own _ rfl _ _ 25 rfl base 3 i0 (.int .i64 0) 1 8 Tryd.underlying25 HI.out HI0.out HI1.out HI2.out rfl (by decide) _ _ _ rfl (HOw.out.alloc _) ⟨wr.heap.size, 0, none⟩ 1 1 [.int .i64 (x : Int)] rfl rfl ?c1 ?c2 ?c3 ?c4 ?c5 ?_)
        try (case c1 => exact cell_one_new _ _ _)
        case c2 => simp [Value.oneCell']
        case c3 => unfold maxLen; omega
        case c4 => omega
        case c5 => simp; omega
        intro v' w3 hown' hgrow _
        have HPOST : Hid (WalkPost m ga base x G k xs w (.returned v') w3) := Lib.hid (by
          refine ⟨Gc, acc, ar', v', rfl, HSTOP.out, HWO.out, ?_, ?_, (hB.alloc (by omega) _).grown hgrow (by simp; omega) (fun g hg => by have := own_base HOw.out g hg; omega)⟩
          · exact (hgrow.block ga (by simp; omega) (fun he => by have := own_base HOw.out ga he.symm; omega)).trans (HRo.out.alloc _)
          · have e : (xs ++ (x :: acc).reverse).map natV = xs.map natV ++ ((acc.map natV).reverse ++ [.int .i64 (x : Int)]) := by simp [natV]
            rw [e]
            exact hown')
        clear hown' hgrow
        go_wp2_with fail
        go_ret
        exact HPOST.out
      · obtain ⟨hmem, hleast⟩ := HWO.out.least hm10 hx hX
        have HTZ := Lib.hid (fun W hW => tz_any (ar'.getD x 0) W (Nat.lt_of_lt_of_le (pow10 hm10 (HWO.out.lt x hx)) (by decide)) hX hW)
        generalize hue : Lib.ctz 32 (ar'.getD x 0) = u at hmem hleast HTZ
        clear hue
        have hu : u < m := (HIN.out x u hmem).2
        have hxu : x ≠ u := HSi.out.ne hmem
        have hux : ¬ u = x := fun e => hxu e.symm
        have hcu : wr.cell? ⟨ga, u, none⟩ = some (.int .u32 (ar'.getD u 0 : Nat)) := HRo.out.cell (by
          have hl : u < ar'.length := by have := HWO.out.len; omega
          rw [List.getElem?_map, List.getD_eq_getElem?_getD, List.getElem?_eq_getElem hl]; rfl)
        have hfx := HRo.out.frozen x
        have hfu := HRo.out.frozen u
        have hXs := pow10 hm10 (HWO.out.lt x hx)
        have hUs := pow10 hm10 (HWO.out.lt u hu)
        have hpx : 2 ^ x < 1024 := pow10 hm10 (Nat.pow_lt_pow_right (by decide) hx)
        have hpu : 2 ^ u < 1024 := pow10 hm10 (Nat.pow_lt_pow_right (by decide) hu)
        have hd1 := andNot_u32 (ar'.getD x 0) (2 ^ u) (by omega) (by omega)
        have hd2 := andNot_u32 (ar'.getD u 0) (2 ^ x) (by omega) (by omega)
        have hsx : (2 : Int) ^ x % 4294967296 = ((2 ^ x : Nat) : Int) := pow_mod x (by omega)
        have hsu : (2 : Int) ^ u % 4294967296 = ((2 ^ u : Nat) : Int) := pow_mod u (by omega)
        have htx : IntKind.u32.wrap ((2 : Int) ^ x) = ((2 ^ x : Nat) : Int) := by rw [wrap_u32n]; exact hsx
        have htu : IntKind.u32.wrap ((2 : Int) ^ u) = ((2 ^ u : Nat) : Int) := by rw [wrap_u32n]; exact hsu
        have HW2 := Lib.hid (HWO.out.step hm10 HSi.out hx hu hxu)
        have HROW : Hid (RowOf ((wr.setCell ⟨ga, x, none⟩ (.int .u32 (diffW (ar'.getD x 0) (2 ^ u) : Nat))).setCell ⟨ga, u, none⟩ (.int .u32 (diffW (ar'.getD u 0) (2 ^ x) : Nat))) ga 59 (((ar'.set x (diffW (ar'.getD x 0) (2 ^ u))).set u (diffW (ar'.getD u 0) (2 ^ x))).map u32V)) := Lib.hid (by
          rw [List.map_set, List.map_set]
          exact (HRo.out.set_ x _).set_ u _)
        have hXne : ((ar'.getD x 0 : Nat) : Int) ≠ 0 := by omega
        have hXb : (((ar'.getD x 0 : Nat) : Int) != 0) = true := by simpa using hXne
        have iu0 : (0 : Int) ≤ (u : Int) := by omega
        have iu1 : (u : Int) < (m : Int) := by omega
        have ix32 : (x : Int) ≤ 32 := by omega
        have iu32 : (u : Int) ≤ 32 := by omega
        have HMEM := Lib.hid hmem
        have HLEA := Lib.hid hleast
        have hgl := HRo.out.lt
        clear hmem hleast
        generalize diffW (ar'.getD x 0) (2 ^ u) = d1 at hd1 HW2 HROW
        generalize diffW (ar'.getD u 0) (2 ^ x) = d2 at hd2 HW2 HROW
        generalize ar'.getD x 0 = X at hcx hX HTZ hXs hd1 hXne hXb
        generalize ar'.getD u 0 = U at hcu hUs hd2
        generalize 2 ^ x = px at hpx hd2 hsx htx
        generalize 2 ^ u = pu at hpu hd1 hsu htu
        have HTr := Lib.hid (HT.out.below hB hgt)
        go_wp2_with (go_at_call 42; refine (HTZ.out _ (by exact HTr.out)).mono ?_; rintro e w1 ⟨rfl, rfl⟩)
        go_region
        go_wp2_with fail
        go_region
        have HBW : Hid (Below ga w ((wr.setCell ⟨ga, x, none⟩ (.int .u32 (d1 : Nat))).setCell ⟨ga, u, none⟩ (.int .u32 (d2 : Nat)))) := Lib.hid ((hB.setCell (p := ⟨ga, x, none⟩) (Nat.le_refl _) _).setCell (p := ⟨ga, u, none⟩) (Nat.le_refl _) _)
        have HOW : Hid (((wr.setCell ⟨ga, x, none⟩ (.int .u32 (d1 : Nat))).setCell ⟨ga, u, none⟩ (.int .u32 (d2 : Nat))).ownsRow base 3 1 u2 (k + acc.length) ((xs ++ acc.reverse).map natV)) := Lib.hid (own_keep_far HOw.out fun g hg => (Below.heap_setCell _ _ _ g (by show g ≠ ga; omega)).trans (Below.heap_setCell _ _ _ g (by show g ≠ ga; omega)))
        have HSZ : Hid (base ≤ ((wr.setCell ⟨ga, x, none⟩ (.int .u32 (d1 : Nat))).setCell ⟨ga, u, none⟩ (.int .u32 (d2 : Nat))).heap.size) := Lib.hid (Nat.le_trans hbase HBW.out.size)
        have HTW := Lib.hid (HT.out.below HBW.out hgt)
        have HEL : Hid ((Gc.erase (pr x u)).length + 1 = Gc.length) := Lib.hid (by
          have h1 := List.length_erase_of_mem HMEM.out
          have h2 := List.length_pos_of_mem HMEM.out
          omega)
        have HCALL : Hid (Calls Tryd.prog 48 #[.slice (some ⟨ga, 0, none⟩) m m, .int .i64 u, u2] ((wr.setCell ⟨ga, x, none⟩ (.int .u32 (d1 : Nat))).setCell ⟨ga, u, none⟩ (.int .u32 (d2 : Nat))).drew.drew (WalkPost m ga base u (Gc.erase (pr x u)) (k + acc.length) (xs ++ acc.reverse) ((wr.setCell ⟨ga, x, none⟩ (.int .u32 (d1 : Nat))).setCell ⟨ga, u, none⟩ (.int .u32 (d2 : Nat))).drew.drew)) := Lib.hid
          (HIH.out _ (by have := HEL.out; have := hlen.out; omega) (Gc.erase (pr x u)) u _ u2 (k + acc.length) (xs ++ acc.reverse) _ (Nat.le_refl _) (by have := HEL.out; have := hlen.out; omega) hu (HSi.out.erase _) (fun a b h => HIN.out a b (List.mem_of_mem_erase h)) HW2.out HROW.out.drew.drew HOW.out HSZ.out HTW.out)
        go_wp2_with (go_at_call 48; refine HCALL.out.mono ?_; rintro e w2 ⟨G1, l1, ar2, v2, rfl, hwk1, hW2, hR2, hO2, hB2⟩; have HK1 := Lib.hid hwk1; have HWW := Lib.hid hW2; have HRR := Lib.hid hR2; have HOO := Lib.hid hO2; have HBB := Lib.hid hB2; clear hwk1 hW2 hR2 hO2 hB2)
        go_roundg G1.length
        case measure => have h1 := HK1.out.length; have h2 := HEL.out; have h3 := HC.out; omega
        case rel =>
          refine Lib.hid ⟨G1, u :: l1 ++ acc, ar2, rfl, (HSi.out.erase _).sub HK1.out.sub, fun a b h => HIN.out a b (List.mem_of_mem_erase (HK1.out.sub.subset h)), fun G' l h => ?_, HWW.out, HRR.out, ?_, HBW.out.drew.drew.trans HBB.out, ?_⟩
          · have h1 := HWK.out G' _ (Wk.go HMEM.out HLEA.out HK1.out h)
            rwa [List.append_assoc] at h1
          · have h1 := HOO.out
            have e1 : k + (u :: l1 ++ acc).length = k + acc.length + l1.length + 1 := by simp; omega
            have e2 : xs ++ (u :: l1 ++ acc).reverse = xs ++ acc.reverse ++ (u :: l1).reverse := by simp
            rw [e1, e2]
            exact h1
          · have h1 := HK1.out.length
            have h2 := HEL.out
            have h3 := hlen.out
            simp
            omega
end Go.Proofs.YthfgbgmkiggjmabDoor
