/- The reference's Pairs: the first of the best pairings. -/
import Derived.Test.YtblbjiogojldhaaDoorMostRef
import Derived.Test.YtblbjiogojldhaaDoorMostGo
import Derived.Test.YtblbjiogojldhaaDoorOwn
import Derived.OwnWalk
namespace Go.Proofs.YtblbjiogojldhaaDoor
open Go.RowKit Go.Maps

/-- As far as those on the right from k on were tried, from the last one on: z: the least one that fits. -/
def TakeInv (xs : List Nat) (r i t : Nat) (k : Int) (z : Int) : Prop := (z = -1 ∧ ∀ j : Nat, k ≤ (j : Int) → j < 8 → fitP (nearF xs) 8 r i (cT t) j = false) ∨ ∃ p : Nat, z = (p : Int) ∧ p < 8 ∧ k ≤ (p : Int) ∧ fitP (nearF xs) 8 r i (cT t) p = true ∧ ∀ j : Nat, k ≤ (j : Int) → j < p → fitP (nearF xs) 8 r i (cT t) j = false
section
variable {xs : List Nat} {r i t : Nat} {z : Int} {k : Nat}
theorem TakeInv.start : TakeInv xs r i t 8 (-1) := .inl ⟨rfl, fun j h1 h2 => by omega⟩
theorem TakeInv.skip (H : TakeInv xs r i t ((k : Int) + 1) z) (hf : fitP (nearF xs) 8 r i (cT t) k = false) : TakeInv xs r i t (k : Int) z := by
  have hs : ∀ j : Nat, (k : Int) ≤ (j : Int) → (k : Int) + 1 ≤ (j : Int) ∨ j = k := fun j h => by omega
  rcases H with ⟨h1, h2⟩ | ⟨p, h1, h2, h3, h4, h5⟩
  · refine .inl ⟨h1, fun j hj h8 => ?_⟩
    rcases hs j hj with h | rfl
    · exact h2 j h h8
    · exact hf
  · refine .inr ⟨p, h1, h2, by omega, h4, fun j hj hp => ?_⟩
    rcases hs j hj with h | rfl
    · exact h5 j h hp
    · exact hf
theorem TakeInv.take (_ : TakeInv xs r i t ((k : Int) + 1) z) (hk : k < 8) (hf : fitP (nearF xs) 8 r i (cT t) k = true) : TakeInv xs r i t (k : Int) (k : Int) :=
  .inr ⟨k, rfl, hk, Int.le_refl _, hf, fun j h1 h2 => by omega⟩
theorem TakeInv.done (H : TakeInv xs r i t 0 z) : frZ xs r i t = z := by
  rcases H with ⟨rfl, h2⟩ | ⟨p, rfl, h2, h3, h4, h5⟩
  · unfold frZ
    rw [find_not fun k hk => h2 k (by omega) hk]
  · unfold frZ
    rw [find_of h2 h4 fun j hj => h5 j (by omega) hj]
end
theorem fit_free {xs : List Nat} {r i t j : Nat} (h1 : nearF xs i j = true) (h2 : t.testBit j = false) : fitP (nearF xs) 8 r i (cT t) j = decide (1 + mxR (nearF xs) 8 r (i + 1) (cT (t ||| 2 ^ j)) = mxR (nearF xs) 8 (r + 1) i (cT t)) := by
  unfold fitP
  rw [h1, cT_dec h2, decide_eq_true (show 0 < cT t j by unfold cT; rw [if_neg (by simp [h2])]; omega)]
  simp
theorem fit_not {xs : List Nat} {r i t j : Nat} (h : ¬ (nearF xs i j = true ∧ t.testBit j = false)) : fitP (nearF xs) 8 r i (cT t) j = false := by
  rw [Bool.eq_false_iff]
  intro hf
  obtain ⟨g1, g2, _⟩ := fitP_iff.1 hf
  exact h ⟨g1, by
    unfold cT at g2
    cases hb : t.testBit j with
    | false => rfl
    | true => rw [hb, if_pos rfl] at g2; omega⟩
theorem own_keep_map {w w' : World} {base gm : Nat} {t : TypeId} {v : Value} {n : Nat} {xs : List Value} (h : w.ownsRow base t 1 v n xs) (hg : w.grownBy w' (some gm)) (hb : gm < base) : w'.ownsRow base t 1 v n xs := by
  refine ⟨h.1, ?_⟩
  rcases h.2 with h0 | ⟨g, cap, cur, hv, hge, hr, hrest⟩
  · exact .inl h0
  · exact .inr ⟨g, cap, cur, hv, hge, (hg.block g (Array.getElem?_eq_some_iff.1 hr).1 (fun e => by injection e; omega)).trans hr, hrest⟩
theorem frZ_free {xs : List Nat} {r i t j : Nat} (h : frZ xs r i t = (j : Int)) : t.testBit j = false := by
  unfold frZ at h
  split at h
  · rename_i k hk
    obtain ⟨_, h2, _⟩ := find_some hk
    have := (fitP_iff.1 h2).2.1
    have e : k = j := by omega
    subst e
    exact (by unfold cT at this; cases hb : t.testBit k with | false => rfl | true => (rw [hb, if_pos rfl] at this; omega))
  · omega
theorem map_more {xs : List Nat} {len gm n n' : Nat} {w : World} (h : MapOK xs len gm n w) (hn : n ≤ n') : MapOK xs len gm n' w := by
  obtain ⟨D, h1, h2⟩ := h
  exact ⟨D, h1.mono hn, h2⟩
theorem map_keep {xs : List Nat} {len gm n : Nat} {w w' : World} {row : Option Nat} (h : MapOK xs len gm n w) (hg : w.grownBy w' row) (hr : some gm ≠ row) : MapOK xs len gm n w' := by
  obtain ⟨D, h1, h2⟩ := h
  exact ⟨D, h1.kept hg hr, h2⟩

set_option maxRecDepth 100000 in
set_option maxHeartbeats 4000000 in
theorem refPairs_any (len cap : Nat) (A : Option Addr) (xs : List Nat) (w : World) (hA : WordsAt w w.heap.size A len xs) (hl : len ≤ 8) (hx : W8 xs) :
    Calls Tryd.prog 10 #[.slice A len cap] w fun e w' => (∃ v, e = .returned v ∧ w'.ownsRow (w.heap.size + 1) 3 1 v len ((bestW xs).map (Value.int .i64))) ∧ Below w.heap.size w w' := by
  have HL : Hid (xs.length = len) := Lib.hid hA.1
  have HA := Lib.hid hA
  have HX := Lib.hid hx
  have HMO := Lib.hid (fun (r i t n : Nat) (W : World) h1 h2 h3 h4 h5 => refMost_any len cap w.heap.size A xs hl hx r i t n W h1 h2 h3 h4 h5)
  obtain ⟨i0, hi, hz0, hz1, hz2⟩ := info_parts infoInt
  have HI := Lib.hid hi
  have HI0 := Lib.hid hz0
  have HI1 := Lib.hid hz1
  have HI2 := Lib.hid hz2
  have HS : Hid (MapOK xs len w.heap.size 0 (w.alloc (.map #[] 0)) ∧ Below w.heap.size w (w.alloc (.map #[] 0))) := Lib.hid ⟨⟨.map [], World.ownsMap_made _ _ _ _, fun i t _ _ h => by cases h⟩, (Below.refl _ _).alloc (Nat.le_refl _) _⟩
  clear hi hz0 hz1 hz2 hA hx
  have hmm := @run_makeMap Tryd.prog
  go_enter Tryd.func10, Tryd.ntmps10
  go_wp2_with fail
  clear hmm
  go_loopw [4, 5, 6] (fun u v j wr => ∃ (k t : Nat) (p : List Int), k ≤ len ∧ t < 256 ∧ j = .int .i64 k ∧ u = .int .u32 t ∧ Hid (MostInv xs k t p) ∧ Hid (wr.ownsRow (w.heap.size + 1) 3 1 v k (p.map (Value.int .i64))) ∧ Hid (MapOK xs len w.heap.size (k * 1000000000) wr ∧ Below w.heap.size w wr)) (fun _ _ j _ => len - (intOf j).toNat)
  case atStart => exact ⟨0, 0, [], Nat.zero_le _, by omega, rfl, rfl, Lib.hid (MostInv.start xs), Lib.hid (World.ownsRow_nil ..), by rw [Nat.zero_mul]; exact HS⟩
  case round =>
    clear HS
    obtain ⟨k, t, p, hk, ht, rfl, rfl, HMI, HO, HM⟩ := hrel
    by_cases hlt : k < len
    · obtain ⟨r, hr⟩ : ∃ r, len = k + (r + 1) := ⟨len - k - 1, by omega⟩
      have HRR := Lib.hid hr
      have hr8 : r < 8 := by omega
      have hpw : 10 ^ (r + 1) ≤ 100000000 := by rw [show 100000000 = 10 ^ 8 from rfl]; exact Nat.pow_le_pow_right (by decide) (by omega)
      have hpw2 : 10 ^ r ≤ 100000000 := by rw [show 100000000 = 10 ^ 8 from rfl]; exact Nat.pow_le_pow_right (by decide) (by omega)
      have HP1 := Lib.hid hpw
      have HP2 := Lib.hid hpw2
      have HC1 : Hid (Calls Tryd.prog 21 #[.slice A len cap, .int .i64 k, .int .u32 t, .map (some w.heap.size)] wr fun e w' => e = .returned (.int .i64 (mxR (nearF xs) 8 (r + 1) k (cT t) : Nat)) ∧ MapOK xs len w.heap.size (k * 1000000000 + 100000000) w' ∧ wr.grownBy w' (some w.heap.size)) := Lib.hid
        ((HMO.out (r + 1) k t (k * 1000000000) wr (by omega) ht (by omega) (HA.out.below HM.out.2) HM.out.1).mono fun e w' h => ⟨h.1, map_more h.2.1 (by omega), h.2.2⟩)
      have HNX := Lib.hid (HMI.out.next (by rw [HL.out]; exact hlt))
      rw [HL.out, show len - k - 1 = r by omega] at HNX
      have m1 := mxR_le_len (near := nearF xs) (n := 8) (r + 1) k (cT t)
      clear hpw hpw2 HMI hr
      generalize hwant : mxR (nearF xs) 8 (r + 1) k (cT t) = M at HC1 m1
      have HWANT := Lib.hid hwant
      clear hwant
      go_wp2_with fail
      refine HC1.out.mono ?_
      rintro e w1 ⟨rfl, hM1, hG1⟩
      have HM1 := Lib.hid hM1
      have HG1 := Lib.hid hG1
      have e77 : (7 - (7 : Int)).toNat * 100000000 = 0 := by decide
      have HM1' : Hid (MapOK xs len w.heap.size (k * 1000000000 + 100000000 + (7 - (7 : Int)).toNat * 100000000) w1) := Lib.hid (by rw [e77]; exact hM1)
      clear e77
      clear hM1 hG1 HC1
      obtain ⟨wo, rfl⟩ : ∃ wo : World, wo = wr := ⟨_, rfl⟩
      go_wp2_with fail
      go_loopw [8, 9] (fun a j wq => ∃ (z y : Int), -1 ≤ z ∧ z ≤ 7 ∧ -1 ≤ y ∧ y < 8 ∧ j = .int .i64 z ∧ a = .int .i64 y ∧ Hid (TakeInv xs r k t (z + 1) y) ∧ Hid (MapOK xs len w.heap.size (k * 1000000000 + 100000000 + (7 - z).toNat * 100000000) wq) ∧ Hid (wo.grownBy wq (some w.heap.size))) (fun _ j _ => (intOf j + 1).toNat)
      case atStart => exact ⟨7, -1, by omega, by omega, by omega, by omega, rfl, rfl, Lib.hid TakeInv.start, HM1', HG1⟩
      case round =>
        clear HM1 HM1' HG1
        obtain ⟨z, y, hz0, hz7, hy0, hy8, rfl, rfl, HTI, HMQ, HGQ⟩ := hrel
        by_cases hz : 0 ≤ z
        · obtain ⟨j, rfl⟩ := Int.eq_ofNat_of_zero_le hz
          have hj : j < 8 := by omega
          have HW : Hid (WordsAt wr w.heap.size A len xs) := Lib.hid ((HA.out.below HM.out.2).grown HGQ.out HM.out.2.size)
          obtain ⟨b, off, rfl, _, hc⟩ := HW.out.at_ hlt
          have hxi := HX.out.at_ k
          have HNI : Hid (nearF xs k j = (xs.getD k 0).testBit j) := Lib.hid rfl
          have HZ : Hid ((j : Int) - 1 + 1 = (j : Int)) := Lib.hid (by omega)
          have HMN : Hid (MapOK xs len w.heap.size (k * 1000000000 + 100000000 + (7 - ((j : Int) - 1)).toNat * 100000000) wr) := Lib.hid (map_more HMQ.out (by omega))
          have ik0 : (0 : Int) ≤ (k : Int) := by omega
          have ik1 : (k : Int) < (len : Int) := by omega
          have ij0 : (0 : Int) ≤ (j : Int) := by omega
          have hj32 : j < 32 := by omega
          generalize xs.getD k 0 = X at hc hxi HNI
          cases hb1 : X.testBit j
          · have HS : Hid (TakeInv xs r k t ((j : Int) - 1 + 1) y) := Lib.hid (by rw [HZ.out]; exact HTI.out.skip (fit_not (by rw [HNI.out, hb1]; rintro ⟨h, _⟩; cases h)))
            have HB1' := Lib.hid hb1
            clear hb1 HNI HTI HMQ
            go_wp2_with fail
            refine (bit_nat X j false (by omega) hj32 HB1'.out _).mono ?_
            rintro e w2 ⟨rfl, rfl⟩
            go_wp2_with fail
            go_roundw
            case rel => exact ⟨(j : Int) - 1, y, by omega, by omega, hy0, hy8, rfl, rfl, HS, HMN, HGQ⟩
            case measure => simp [intOf]
          · have HB1' := Lib.hid hb1
            cases hb2 : t.testBit j
            · have HB2' := Lib.hid hb2
              have hpk : 2 ^ j < 2 ^ 8 := Nat.pow_lt_pow_right (by decide) hj
              rw [show 2 ^ 8 = 256 from rfl] at hpk
              have htp : t + 2 ^ j < 256 := by rw [← or_add_dec t ht j hj hb2]; exact Nat.or_lt_two_pow (n := 8) ht hpk
              have hsk : (2 : Int) ^ j % 4294967296 = ((2 ^ j : Nat) : Int) := pow_mod j (by omega)
              have htk : IntKind.u32.wrap ((2 : Int) ^ j) = ((2 ^ j : Nat) : Int) := by rw [wrap_u32n]; exact hsk
              have HCALL : Hid (Calls Tryd.prog 21 #[.slice (some ⟨b, off, none⟩) len cap, .int .i64 ((k : Int) + 1), .int .u32 ((t : Int) + ((2 ^ j : Nat) : Int)), .map (some w.heap.size)] wr fun e w' => e = .returned (.int .i64 (mxR (nearF xs) 8 r (k + 1) (cT (t + 2 ^ j)) : Nat)) ∧ MapOK xs len w.heap.size (k * 1000000000 + 100000000 + (7 - ((j : Int) - 1)).toNat * 100000000) w' ∧ wr.grownBy w' (some w.heap.size)) := Lib.hid
                ((HMO.out r (k + 1) (t + 2 ^ j) _ wr (by have := HRR.out; omega) htp (by have := HP2.out; omega) HW.out HMQ.out).mono fun e w' h => ⟨h.1, map_more h.2.1 (by have := HP2.out; omega), h.2.2⟩)
              have HF : Hid (fitP (nearF xs) 8 r k (cT t) j = decide (1 + mxR (nearF xs) 8 r (k + 1) (cT (t + 2 ^ j)) = M)) := Lib.hid (by rw [fit_free (by rw [HNI.out]; exact hb1) hb2, or_add_dec t ht j hj hb2, HWANT.out])
              have m2 := mxR_le_len (near := nearF xs) (n := 8) r (k + 1) (cT (t + 2 ^ j))
              clear hb1 hb2 HNI HMQ HMN
              generalize mxR (nearF xs) 8 r (k + 1) (cT (t + 2 ^ j)) = M2 at HCALL HF m2
              generalize 2 ^ j = pj at hpk htp hsk htk HCALL
              go_wp2_with fail
              refine (bit_nat X j true (by omega) hj32 HB1'.out _).mono ?_
              rintro e w2 ⟨rfl, rfl⟩
              go_wp2_with fail
              refine (bit_nat t j false (by omega) hj32 HB2'.out _).mono ?_
              rintro e w2 ⟨rfl, rfl⟩
              go_wp2_with fail
              refine HCALL.out.mono ?_
              rintro e w2 ⟨rfl, hM2, hG2⟩
              have HM2 := Lib.hid hM2
              have HG2 : Hid (wo.grownBy w2 (some w.heap.size)) := Lib.hid (grown_two HGQ.out hG2)
              clear hM2 hG2 HCALL
              by_cases hmx : 1 + M2 = M
              · have HS : Hid (TakeInv xs r k t ((j : Int) - 1 + 1) (j : Int)) := Lib.hid (by rw [HZ.out]; exact HTI.out.take hj (by rw [HF.out]; exact decide_eq_true hmx))
                have hd : ((1 : Int) + (M2 : Int) == (M : Int)) = true := by
                  have : (1 : Int) + (M2 : Int) = (M : Int) := by omega
                  simpa using this
                clear HF HTI hmx
                go_wp2_with fail
                go_roundw
                case rel => exact ⟨(j : Int) - 1, (j : Int), by omega, by omega, by omega, by omega, rfl, rfl, HS, HM2, HG2⟩
                case measure => simp [intOf]
              · have HS : Hid (TakeInv xs r k t ((j : Int) - 1 + 1) y) := Lib.hid (by rw [HZ.out]; exact HTI.out.skip (by rw [HF.out]; exact decide_eq_false hmx))
                have hd : ((1 : Int) + (M2 : Int) == (M : Int)) = false := by
                  have : ¬ (1 : Int) + (M2 : Int) = (M : Int) := by omega
                  simpa using this
                clear HF HTI hmx
                go_wp2_with fail
                go_roundw
                case rel => exact ⟨(j : Int) - 1, y, by omega, by omega, hy0, hy8, rfl, rfl, HS, HM2, HG2⟩
                case measure => simp [intOf]
            · have HB2' := Lib.hid hb2
              have HS : Hid (TakeInv xs r k t ((j : Int) - 1 + 1) y) := Lib.hid (by rw [HZ.out]; exact HTI.out.skip (fit_not (by rw [hb2]; rintro ⟨_, h⟩; cases h)))
              clear hb1 hb2 HNI HTI HMQ
              go_wp2_with fail
              refine (bit_nat X j true (by omega) hj32 HB1'.out _).mono ?_
              rintro e w2 ⟨rfl, rfl⟩
              go_wp2_with fail
              refine (bit_nat t j true (by omega) hj32 HB2'.out _).mono ?_
              rintro e w2 ⟨rfl, rfl⟩
              go_wp2_with fail
              go_roundw
              case rel => exact ⟨(j : Int) - 1, y, by omega, by omega, hy0, hy8, rfl, rfl, HS, HMN, HGQ⟩
              case measure => simp [intOf]
        · obtain rfl : z = -1 := by omega
          have HFR : Hid (frZ xs r k t = y) := Lib.hid (HTI.out.done)
          have e78 : (7 - (-1 : Int)).toNat = 8 := by decide
          rw [e78] at HMQ
          clear e78
          have HM3 : Hid (MapOK xs len w.heap.size ((k + 1) * 1000000000) wr) := Lib.hid (map_more HMQ.out (by omega))
          have HO3 : Hid (wr.ownsRow (w.heap.size + 1) 3 1 u5 k (p.map (Value.int .i64))) := Lib.hid (own_keep_map HO.out HGQ.out (Nat.lt_succ_self _))
          have HB3 : Hid (Below w.heap.size w wr) := Lib.hid (HM.out.2.grown HGQ.out HM.out.2.size (fun j hj => by cases hj; exact Nat.le_refl _))
          have hszw : w.heap.size + 1 ≤ wr.heap.size := by
            obtain ⟨D, h1, _⟩ := HM3.out
            exact h1.lt
          have HAPP : Hid (∀ (x : Int) (v' : Value) (w3 : World), w3.ownsRow (w.heap.size + 1) 3 1 v' (k + 1) (p.map (Value.int .i64) ++ [.int .i64 x]) → (wr.alloc (.cells #[.int .i64 x] 3)).grownBy w3 u5.ownBlock → w3.ownsRow (w.heap.size + 1) 3 1 v' (k + 1) ((p ++ [x]).map (Value.int .i64)) ∧ MapOK xs len w.heap.size ((k + 1) * 1000000000) w3 ∧ Below w.heap.size w w3) := Lib.hid fun x v' w3 h1 h2 => by
            refine ⟨by rw [List.map_append]; exact h1, ?_, (HB3.out.alloc (by omega) _).grown h2 (by simp; omega) (fun g hg => by have := own_base HO3.out g hg; omega)⟩
            refine map_keep (map_keep HM3.out (World.grownBy_alloc wr _ none) (by simp)) h2 fun e => ?_
            have := own_base HO3.out w.heap.size e.symm
            omega
          clear HTI HMQ HM HGQ
          rcases HNX.out with ⟨j, hj, hfz, hN⟩ | ⟨hfz, hN⟩
          · have htj : t.testBit j = false := frZ_free hfz
            obtain rfl : y = (j : Int) := by rw [← HFR.out]; exact hfz
            have hpj : 2 ^ j < 2 ^ 8 := Nat.pow_lt_pow_right (by decide) hj
            rw [show 2 ^ 8 = 256 from rfl] at hpj
            have hq : t ||| 2 ^ j < 256 := Nat.or_lt_two_pow (n := 8) ht hpj
            have hqe := or_add_dec t ht j hj htj
            have hsj : (2 : Int) ^ j % 4294967296 = ((2 ^ j : Nat) : Int) := pow_mod j (by omega)
            have htj2 : IntKind.u32.wrap ((2 : Int) ^ j) = ((2 ^ j : Nat) : Int) := by rw [wrap_u32n]; exact hsj
            have HQ : Hid ((t : Int) + ((2 ^ j : Nat) : Int) = ((t ||| 2 ^ j : Nat) : Int)) := Lib.hid (by omega)
            have HN := Lib.hid hN
            have hsum : t + 2 ^ j < 256 := by omega
            clear hN HNX hfz hqe htj HFR
            generalize t ||| 2 ^ j = q at hq HQ HN
            generalize 2 ^ j = pj at hpj hsj htj2 HQ hsum
            go_wp2_with (at_builtin; refine wpList_append_own _ rfl _ _ 23 rfl (w.heap.size + 1) 3 i0 (.int .i64 0) 1 8 Tryd.underlying23 HI.out HI0.out HI1.out HI2.out rfl (by decide) _ _ _ rfl (HO3.out.alloc _) ⟨wr.heap.size, 0, none⟩ 1 1 [.int .i64 (j : Int)] rfl rfl ?c1 ?c2 ?c3 ?c4 ?c5 ?_)
            try (case c1 => exact cell_one_new _ _ _)
            case c2 => simp [Value.oneCell']
            case c3 => unfold maxLen; omega
            case c4 => omega
            case c5 => first | omega | (simp; omega)
            intro v' w3 hown' hgrow _
            have HR3 := Lib.hid (HAPP.out _ v' w3 hown' hgrow)
            clear hown' hgrow
            go_wp2_with fail
            go_roundw
            case rel => exact ⟨k + 1, q, p ++ [(j : Int)], by omega, hq, by go_num, by rw [HQ.out], HN, Lib.hid HR3.out.1, Lib.hid HR3.out.2⟩
            case measure => simp [intOf]; omega
          · obtain rfl : y = -1 := by rw [← HFR.out]; exact hfz
            have HN := Lib.hid hN
            clear hN HNX hfz HFR
            go_wp2_with (at_builtin; refine wpList_append_own _ rfl _ _ 23 rfl (w.heap.size + 1) 3 i0 (.int .i64 0) 1 8 Tryd.underlying23 HI.out HI0.out HI1.out HI2.out rfl (by decide) _ _ _ rfl (HO3.out.alloc _) ⟨wr.heap.size, 0, none⟩ 1 1 [.int .i64 (-1)] rfl rfl ?d1 ?d2 ?d3 ?d4 ?d5 ?_)
            try (case d1 => exact cell_one_new _ _ _)
            case d2 => simp [Value.oneCell']
            case d3 => unfold maxLen; omega
            case d4 => omega
            case d5 => first | omega | (simp; omega)
            intro v' w3 hown' hgrow _
            have HR3 := Lib.hid (HAPP.out _ v' w3 hown' hgrow)
            clear hown' hgrow
            go_wp2_with fail
            go_roundw
            case rel => exact ⟨k + 1, t, p ++ [-1], by omega, ht, by go_num, rfl, HN, Lib.hid HR3.out.1, Lib.hid HR3.out.2⟩
            case measure => simp [intOf]; omega
    · obtain rfl : k = len := by omega
      have HE : Hid (p = bestW xs) := Lib.hid (HMI.out.end_ HL.out.symm)
      go_wp2_with fail
      go_ret
      exact ⟨⟨_, rfl, by rw [← HE.out]; exact HO.out⟩, HM.out.2⟩
end Go.Proofs.YtblbjiogojldhaaDoor
