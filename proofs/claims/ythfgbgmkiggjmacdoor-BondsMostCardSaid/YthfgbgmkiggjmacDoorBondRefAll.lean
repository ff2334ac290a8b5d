/- The reference's Bond: the first of the bonds with the most edges. -/
import Derived.Test.YthfgbgmkiggjmacDoorBondRef
import Derived.Test.YthfgbgmkiggjmacDoorOwn
import Derived.Deep.RegionHeld3
import Derived.RegionTactic
namespace Go.Proofs.YthfgbgmkiggjmacDoor
open Go.RowKit Go.Maps

/-- What the reference has of the bond behind k edges. -/
def BondInv (es : List E3) (k u : Nat) (l : List Nat) : Prop := bndL es es.length 0 0 = l ++ bndL es (es.length - k) k u
section
variable {es : List E3} {k u : Nat} {l : List Nat}
theorem BondInv.start : BondInv es 0 0 [] := rfl
theorem BondInv.take (h : BondInv es k u l) (hk : k < es.length) (h1 : freeK es u k = true) (h2 : 1 + bN es (es.length - (k + 1)) (k + 1) (withK es u k) = bN es (es.length - k) k u) : BondInv es (k + 1) (withK es u k) (l ++ [k]) := by
  unfold BondInv at h ⊢
  rw [h]
  rw [show es.length - k = (es.length - (k + 1)) + 1 by omega] at h2 ⊢
  conv => lhs; rw [bndL]
  rw [if_pos ⟨h1, h2⟩, List.append_assoc]; rfl
theorem BondInv.skip (h : BondInv es k u l) (hk : k < es.length) (h1 : freeK es u k = true → ¬ 1 + bN es (es.length - (k + 1)) (k + 1) (withK es u k) = bN es (es.length - k) k u) : BondInv es (k + 1) u l := by
  unfold BondInv at h ⊢
  rw [h]
  rw [show es.length - k = (es.length - (k + 1)) + 1 by omega] at h1 ⊢
  conv => lhs; rw [bndL]
  rw [if_neg fun hh => h1 hh.1 hh.2]
theorem BondInv.done (h : BondInv es es.length u l) : l = bndL es es.length 0 0 := by
  unfold BondInv at h
  rw [Nat.sub_self] at h
  rw [h]; simp [bndL]
end
/-- The world in a round of the reference's Bond. -/
structure RB (w : World) (m : Nat) (A : Option Addr) (len cap : Nat) (es : List E3) (v : Value) (l : List Nat) (q : Nat) (W : World) : Prop where
  c0 : W.cell? ⟨w.heap.size, 0, none⟩ = some (.int .i64 m)
  c1 : W.cell? ⟨w.heap.size, 1, none⟩ = some (.slice A len cap)
  edges : EdgesAt W w.heap.size A len es
  map : RefMap es (w.heap.size + 1) q W
  own : W.ownsRow (w.heap.size + 2) 3 1 v l.length (bV l)
  below : Below w.heap.size w W
  size : w.heap.size + 2 ≤ W.heap.size
section
variable {w W W' : World} {m len cap q q' : Nat} {A : Option Addr} {es : List E3} {v : Value} {l : List Nat}
theorem RB.drew (h : RB w m A len cap es v l q W) : RB w m A len cap es v l q W.drew := ⟨h.c0, h.c1, h.edges, h.map, h.own, h.below.drew, h.size⟩
theorem RB.call (h : RB w m A len cap es v l q W) (hg : W.grownBy W' (some (w.heap.size + 1))) (hM : RefMap es (w.heap.size + 1) q' W') : RB w m A len cap es v l q' W' := by
  have hs := h.size
  have hk : ∀ o, W'.cell? ⟨w.heap.size, o, none⟩ = W.cell? ⟨w.heap.size, o, none⟩ := fun o => World.cell?_of_block (w := W) (hg.block w.heap.size (by omega) (fun e => by injection e; omega))
  exact ⟨(hk 0).trans h.c0, (hk 1).trans h.c1, h.edges.keep fun p hp => World.cell?_of_block (w := W) (hg.block p.block (by omega) (fun e => by injection e; omega)), hM, own_keep_map h.own hg (by omega), h.below.grown hg (by omega) (fun j hj => by cases hj; omega), Nat.le_trans hs hg.size⟩
set_option maxRecDepth 100000 in
theorem RB.keep {v' : Value} {l' : List Nat} (h : RB w m A len cap es v l q W) (hb : Below (w.heap.size + 2) W W') (ho : W'.ownsRow (w.heap.size + 2) 3 1 v' l'.length (bV l')) : RB w m A len cap es v' l' q W' :=
  ⟨(hb.cell (p := ⟨w.heap.size, 0, none⟩) (by show w.heap.size < _; omega)).trans h.c0, (hb.cell (p := ⟨w.heap.size, 1, none⟩) (by show w.heap.size < _; omega)).trans h.c1, h.edges.below (hb.mono (by omega)), h.map.below hb (by omega), ho, h.below.trans (hb.mono (by omega)), Nat.le_trans h.size hb.size⟩
theorem RB.more (h : RB w m A len cap es v l q W) (hq : q ≤ q') : RB w m A len cap es v l q' W := ⟨h.c0, h.c1, h.edges, h.map.more hq, h.own, h.below, h.size⟩
end

/-- Room for what each call of bond may lay into the table: its numbers are not looked at. -/
theorem room_ex : ∃ (L G : Nat) (R : Nat → Nat), L ≤ 10000000000000000 ∧ R 0 = 0 ∧ (∀ k, R (k + 1) = R k + G + G) ∧ (∀ x, x ≤ 45 → 2 ^ x ≤ G) ∧ ∀ k, k < 45 → R k + G + G ≤ L := by
  refine ⟨10000000000000000, 35184372088832, fun k => k * 70368744177664, Nat.le_refl _, Nat.zero_mul _, fun k => ?_, fun x hx => ?_, fun k hk => ?_⟩
  · show (k + 1) * 70368744177664 = k * 70368744177664 + 35184372088832 + 35184372088832
    rw [Nat.succ_mul, Nat.add_assoc]
  · rw [show 35184372088832 = 2 ^ 45 from rfl]; exact Nat.pow_le_pow_right (by decide) hx
  · show k * 70368744177664 + 35184372088832 + 35184372088832 ≤ 10000000000000000
    omega

set_option maxRecDepth 100000 in
set_option maxHeartbeats 4000000 in
theorem refBondAll_any (m : Nat) (A : Option Addr) (len cap : Nat) (es : List E3) (w : World) (hE : EdgesAt w w.heap.size A len es) (hm : m ≤ 10) (hlen : len ≤ 45) (hg : goodE m es) :
    Calls Tryd.prog 15 #[.agg #[.int .i64 m, .slice A len cap]] w fun e w' => (∃ v, e = .returned v ∧ w'.ownsRow w.heap.size 3 1 v (bndL es es.length 0 0).length (bV (bndL es es.length 0 0))) ∧ Below w.heap.size w w' := by
  have HL := Lib.hid hE.1
  have HG := Lib.hid hg
  obtain ⟨i0, hi, hz0, hz1, hz2⟩ := info_parts infoInt
  have HI := Lib.hid hi
  have HI0 := Lib.hid hz0
  have HI1 := Lib.hid hz1
  have HI2 := Lib.hid hz2
  have hbm : Below w.heap.size w ((bx w m A len cap).alloc (.map #[] 0)) := ((Below.refl _ _).alloc (Nat.le_refl _) _).alloc (by simp) _
  have HS : Hid (RB w m A len cap es (.slice none 0 0) [] 0 ((bx w m A len cap).alloc (.map #[] 0))) := Lib.hid (by
    have hs0 : (bx w m A len cap).heap.size = w.heap.size + 1 := by simp [bx]
    refine ⟨?_, ?_, hE.below hbm, ?_, World.ownsRow_nil .., hbm, by simp [hs0]⟩
    · simp [bx, go_sem]
    · simp [bx, go_sem]
    · have := Memo.start (bondV es) (bx w m A len cap)
      rw [hs0] at this; exact this)
  obtain ⟨L, G, R, hL, hR0, hRS, hGP, hRL⟩ := room_ex
  have HRS := Lib.hid hRS
  have HGP := Lib.hid hGP
  have HRL := Lib.hid hRL
  have HRF := Lib.hid (fun (r k u q : Nat) (W : World) h1 h2 (h3 : q + 2 ^ r ≤ L) h4 h5 => refBond_any m len cap (w.heap.size + 1) A es hm hg hlen hE.1 r k u q W h1 h2 (Nat.le_trans h3 hL) h4 h5)
  replace HS : Hid (RB w m A len cap es (.slice none 0 0) [] (R 0) ((bx w m A len cap).alloc (.map #[] 0))) := Lib.hid (by rw [hR0]; exact HS.out)
  clear hL hR0 hRS hGP hRL
  clear hE hg hi hz0 hz1 hz2 hbm
  have hmm := @run_makeMap Tryd.prog
  go_enter Tryd.func15, Tryd.ntmps15
  go_wp2_with fail
  clear hmm
  go_loopw [4, 5, 13] (fun f v j wr => ∃ (k u : Nat) (l : List Nat), k ≤ len ∧ u < 2 ^ m ∧ l.length ≤ k ∧ j = .int .i64 k ∧ f = .int .u32 u ∧ Hid (BondInv es k u l) ∧ Hid (RB w m A len cap es v l (R k) wr)) (fun _ _ j _ => len - (intOf j).toNat)
  case atStart => exact ⟨0, 0, [], Nat.zero_le _, Nat.two_pow_pos m, Nat.le_refl _, rfl, rfl, Lib.hid BondInv.start, HS⟩
  case round =>
    clear HS
    obtain ⟨k, u, l, hk, hu, hll, rfl, rfl, HBI, HRB⟩ := hrel
    have hu10 := pow10 hm hu
    by_cases hlt : k < len
    · obtain ⟨b, off, ⟨a0, a1, a2⟩, rfl, hb, hx, hc0, hc1, hc2⟩ := HRB.out.edges.at_ hlt
      have hkl : k < es.length := by rw [HL.out]; exact hlt
      obtain ⟨c, hx2, hAn, hBn, hne, _⟩ := ends HG.out hkl
      rw [hx2] at hx
      injection hx with hx
      injection hx with e0 hx
      injection hx with e1 e2
      subst e0 e1 e2
      simp only at hc0 hc1 hc2
      have hbr : b < wr.heap.size := by have := HRB.out.size; omega
      have HFK : Hid (freeK es u k = (!u.testBit (eA es k) && !u.testBit (eB es k))) := Lib.hid rfl
      have HWK : Hid (withK es u k = u ||| 2 ^ eA es k ||| 2 ^ eB es k) := Lib.hid rfl
      have HBA := Lib.hid (fun (bb : Bool) (h : u.testBit (eA es k) = bb) (W : World) => bit_nat u (eA es k) bb (by omega) (by omega) h W)
      have HBB := Lib.hid (fun (bb : Bool) (h : u.testBit (eB es k) = bb) (W : World) => bit_nat u (eB es k) bb (by omega) (by omega) h W)
      have HRA : Hid (RB w m (some ⟨b, off, none⟩) len cap es u5 l (R k) (wr.alloc (.cells #[.int .i64 (eA es k), .int .i64 (eB es k), .int .i64 c] 53))) := Lib.hid (HRB.out.keep ((Below.refl _ _).alloc HRB.out.size _) (HRB.out.own.alloc _))
      have ia32 : eA es k < 32 := by omega
      have ib32 : eB es k < 32 := by omega
      by_cases hfree : freeK es u k = true
      · have hbits : u.testBit (eA es k) = false ∧ u.testBit (eB es k) = false := by
          rw [HFK.out] at hfree
          simpa using hfree
        have HTK := Lib.hid (fun h2 => HBI.out.take hkl hfree h2)
        have HSK := Lib.hid (fun h2 => HBI.out.skip hkl (fun _ => h2))
        have hor1 := or_add_dec10 u hu10 (eA es k) (by omega) hbits.1
        have hpi : 2 ^ eA es k < 1024 := pow10 hm (Nat.pow_lt_pow_right (by decide) hAn)
        have hpj : 2 ^ eB es k < 1024 := pow10 hm (Nat.pow_lt_pow_right (by decide) hBn)
        have hu2 : u ||| 2 ^ eA es k < 1024 := Nat.or_lt_two_pow (n := 10) hu10 hpi
        have hor2 := or_add_dec10 (u ||| 2 ^ eA es k) hu2 (eB es k) (by omega) (by rw [Nat.testBit_or, hbits.2, Nat.testBit_two_pow]; simp [hne])
        have hwl : withK es u k < 2 ^ m := Nat.or_lt_two_pow (Nat.or_lt_two_pow hu (Nat.pow_lt_pow_right (by decide) hAn)) (Nat.pow_lt_pow_right (by decide) hBn)
        have hsum : u + 2 ^ eA es k + 2 ^ eB es k = withK es u k := by rw [HWK.out, hor2, hor1]
        have hwl10 := pow10 hm hwl
        have HLE := HL.out
        have hb1 : bN es (es.length - (k + 1)) (k + 1) (withK es u k) ≤ 45 := Nat.le_trans (bN_le_r es (es.length - (k + 1)) (k + 1) (withK es u k)) (by omega)
        have hb2 : bN es (es.length - k) k u ≤ 45 := Nat.le_trans (bN_le_r es (es.length - k) k u) (by omega)
        have HPW := HGP.out
        have HC : Hid (∀ (W : World) (q : Nat) (a d : Int) (M : Nat), ((a = (k : Int) + 1 ∧ d = (u : Int) + ((2 ^ eA es k : Nat) : Int) + ((2 ^ eB es k : Nat) : Int) ∧ M = bN es (es.length - (k + 1)) (k + 1) (withK es u k)) ∨ (a = (k : Int) ∧ d = (u : Int) ∧ M = bN es (es.length - k) k u)) → RB w m (some ⟨b, off, none⟩) len cap es u5 l q W → q + G ≤ L →
            Calls Tryd.prog 33 #[.agg #[.int .i64 m, .slice (some ⟨b, off, none⟩) len cap], .int .i64 a, .int .u32 d, .map (some (w.heap.size + 1))] W fun e w' => e = .returned (.int .i64 (M : Int)) ∧ RB w m (some ⟨b, off, none⟩) len cap es u5 l (q + G) w') := Lib.hid fun W q a d M hor hW hq => by
          rcases hor with ⟨rfl, rfl, rfl⟩ | ⟨rfl, rfl, rfl⟩
          · have hp := HPW (es.length - (k + 1)) (by omega)
            have h := HRF.out (es.length - (k + 1)) (k + 1) (withK es u k) q W (by omega) hwl (by omega) (hW.edges.more (by omega)) hW.map
            rw [show (u : Int) + ((2 ^ eA es k : Nat) : Int) + ((2 ^ eB es k : Nat) : Int) = ((withK es u k : Nat) : Int) by rw [← hsum]; omega]
            exact h.mono fun e w' ⟨h1, h2, h3⟩ => ⟨h1, hW.call h3 (h2.more (by omega))⟩
          · have hp := HPW (es.length - k) (by omega)
            have h := HRF.out (es.length - k) k u q W (by omega) hu (by omega) (hW.edges.more (by omega)) hW.map
            exact h.mono fun e w' ⟨h1, h2, h3⟩ => ⟨h1, hW.call h3 (h2.more (by omega))⟩
        have hsi : (2 : Int) ^ eA es k % 4294967296 = ((2 ^ eA es k : Nat) : Int) := pow_mod _ (by omega)
        have hsj : (2 : Int) ^ eB es k % 4294967296 = ((2 ^ eB es k : Nat) : Int) := pow_mod _ (by omega)
        have hti : IntKind.u32.wrap ((2 : Int) ^ eA es k) = ((2 ^ eA es k : Nat) : Int) := by rw [wrap_u32n]; exact hsi
        have htj : IntKind.u32.wrap ((2 : Int) ^ eB es k) = ((2 ^ eB es k : Nat) : Int) := by rw [wrap_u32n]; exact hsj
        have HWL := Lib.hid hwl
        have HSUM : Hid ((u : Int) + ((2 ^ eA es k : Nat) : Int) + ((2 ^ eB es k : Nat) : Int) = ((withK es u k : Nat) : Int)) := Lib.hid (by rw [← hsum]; omega)
        have HBA1 := Lib.hid (HBA.out false hbits.1)
        have HBB1 := Lib.hid (HBB.out false hbits.2)
        have hk0 : (0 : Int) ≤ (k : Int) := by omega
        have hki : (k : Int) < (len : Int) := by omega
        clear hfree hbits hor1 hor2 hu2 hwl hsum hwl10 HWK HFK HBA HBB HPW HLE hx2 HBI
        generalize bN es (es.length - (k + 1)) (k + 1) (withK es u k) = M1 at hb1 HC HTK HSK
        generalize bN es (es.length - k) k u = M2 at hb2 HC HTK HSK
        generalize withK es u k = T at HWL HSUM HTK
        generalize 2 ^ eA es k = pi at hpi hsi hti HSUM HC
        generalize 2 ^ eB es k = pj at hpj hsj htj HSUM HC
        generalize eA es k = ia at *
        generalize eB es k = ib at *
        have hr0 := HRA.out.c0
        have hr1 := HRA.out.c1
        have hw1 : IntKind.i64.wrap ((k : Int) + 1) = (k : Int) + 1 := IntWalk.i64_in _ (by omega)
        have hw2 : IntKind.i64.wrap (1 + (M1 : Int)) = 1 + (M1 : Int) := IntWalk.i64_in _ (by omega)
        have hqb : R k + G + G ≤ L := HRL.out k (by omega)
        have hqa : R k + G ≤ L := by omega
        have HQ := Lib.hid (HRS.out k)
        go_wp2_with fail
        refine (HBA1.out _).mono ?_
        rintro e w2 ⟨rfl, rfl⟩
        go_wp2_with fail
        refine (HBB1.out _).mono ?_
        rintro e w2 ⟨rfl, rfl⟩
        go_wp2_with fail
        by_cases hmx : 1 + M1 = M2
        · have hd : ((1 : Int) + (M1 : Int) == (M2 : Int)) = true := by
            have : (1 : Int) + (M1 : Int) = (M2 : Int) := by omega
            simpa using this
          have HN := Lib.hid (HTK.out hmx)
          clear HTK HSK hmx
          replace HRA := Lib.hid HRA.out.drew
          go_region_held3 (fun W => W.cell? ⟨w.heap.size, 0, none⟩ = some (.int .i64 m) ∧ W.cell? ⟨w.heap.size, 1, none⟩ = some (.slice (some ⟨b, off, none⟩) len cap))
            (first | exact ⟨hr0, hr1⟩ | exact ⟨q0, q1⟩ | go_keep)
            (first | (go_at_call 33; refine (HC.out _ _ _ _ _ (by first | exact Or.inl ⟨by with_reducible rfl, by with_reducible rfl, rfl⟩ | exact Or.inr ⟨by with_reducible rfl, by with_reducible rfl, rfl⟩) (by exact HRA.out) (by first | exact hqa | exact hqb)).mono ?_; rintro e W3 ⟨rfl, hJ⟩; have HRA := Lib.hid hJ; clear hJ; have q0 := HRA.out.c0; have q1 := HRA.out.c1))
          have HSZ := Lib.hid HRA.out.size
          have HOW := Lib.hid HRA.out.own
          have HFIN : Hid (∀ (v' : Value) (w6 : World), w6.ownsRow (w.heap.size + 2) 3 1 v' (l.length + 1) (bV l ++ [.int .i64 (k : Int)]) → (W3.alloc (.cells #[.int .i64 k] 3)).grownBy w6 u5.ownBlock → RB w m (some ⟨b, off, none⟩) len cap es v' (l ++ [k]) (R (k + 1)) w6) := Lib.hid fun v' w6 h1 h2 => by
            rw [HQ.out]
            refine HRA.out.keep (((Below.refl _ _).alloc HSZ.out _).grown h2 (by have := HSZ.out; simp; omega) (own_base HOW.out)) ?_
            rw [bV_snoc, List.length_append]; exact h1
          have HTE : Hid ((u : Int) + (pi : Int) + (pj : Int) = (T : Int)) := HSUM
          clear HC HBA1 HBB1 q0 q1 hr0 hr1 HRA HRB
          go_wp2_with (at_builtin; refine wpList_append_own _ rfl _ _ 33 rfl (w.heap.size + 2) 3 i0 (.int .i64 0) 1 8 Tryd.underlying33 HI.out HI0.out HI1.out HI2.out rfl (by decide) _ _ _ rfl (HOW.out.alloc _) ⟨W3.heap.size, 0, none⟩ 1 1 [.int .i64 (k : Int)] rfl rfl ?c1 ?c2 ?c3 ?c4 ?c5 ?_)
          try (case c1 => exact cell_one_new _ _ _)
          case c2 => simp [Value.oneCell']
          case c3 => unfold maxLen; omega
          case c4 => omega
          case c5 => have := HSZ.out; simp; omega
          intro v' w6 hown' hgrow _
          have HR6 := Lib.hid (HFIN.out v' w6 hown' hgrow)
          clear hown' hgrow
          go_wp2_with fail
          go_roundw
          case rel => exact ⟨k + 1, T, l ++ [k], by omega, HWL.out, by simp; omega, by go_num, by rw [HTE.out], HN, HR6⟩
          case measure => simp [intOf]; omega
        · have hd : ((1 : Int) + (M1 : Int) == (M2 : Int)) = false := by
            have : ¬ (1 : Int) + (M1 : Int) = (M2 : Int) := by omega
            simpa using this
          have HN := Lib.hid (HSK.out hmx)
          clear HTK HSK hmx
          replace HRA := Lib.hid HRA.out.drew
          go_region_held3 (fun W => W.cell? ⟨w.heap.size, 0, none⟩ = some (.int .i64 m) ∧ W.cell? ⟨w.heap.size, 1, none⟩ = some (.slice (some ⟨b, off, none⟩) len cap))
            (first | exact ⟨hr0, hr1⟩ | exact ⟨q0, q1⟩ | go_keep)
            (first | (go_at_call 33; refine (HC.out _ _ _ _ _ (by first | exact Or.inl ⟨by with_reducible rfl, by with_reducible rfl, rfl⟩ | exact Or.inr ⟨by with_reducible rfl, by with_reducible rfl, rfl⟩) (by exact HRA.out) (by first | exact hqa | exact hqb)).mono ?_; rintro e W3 ⟨rfl, hJ⟩; have HRA := Lib.hid hJ; clear hJ; have q0 := HRA.out.c0; have q1 := HRA.out.c1))
          have HR6 : Hid (RB w m (some ⟨b, off, none⟩) len cap es u5 l (R (k + 1)) W3) := Lib.hid (by rw [HQ.out]; exact HRA.out)
          clear HC HBA1 HBB1 q0 q1 hr0 hr1 HRA HRB
          go_wp2_with fail
          go_roundw
          case rel => exact ⟨k + 1, u, l, by omega, hu, by omega, by go_num, rfl, HN, HR6⟩
          case measure => simp [intOf]; omega
      · have hff : freeK es u k = false := by simpa using hfree
        have HN := Lib.hid (HBI.out.skip hkl (fun h => absurd h hfree))
        have hbb : u.testBit (eA es k) = true ∨ (u.testBit (eA es k) = false ∧ u.testBit (eB es k) = true) := by
          rw [HFK.out] at hff
          cases h1 : u.testBit (eA es k) with
          | true => exact .inl rfl
          | false => rw [h1] at hff; exact .inr ⟨rfl, by simpa using hff⟩
        have HR6 : Hid (RB w m (some ⟨b, off, none⟩) len cap es u5 l (R (k + 1)) (wr.alloc (.cells #[.int .i64 (eA es k), .int .i64 (eB es k), .int .i64 c] 53))) := Lib.hid (HRA.out.more (by rw [HRS.out]; omega))
        have hk0 : (0 : Int) ≤ (k : Int) := by omega
        have hki : (k : Int) < (len : Int) := by omega
        clear hfree hff HFK HWK HBI hx2
        rcases hbb with h1 | ⟨h1, h2⟩
        · have HBA1 := Lib.hid (HBA.out true h1)
          clear h1 HBA HBB
          generalize eA es k = ia at *
          generalize eB es k = ib at *
          go_wp2_with fail
          refine (HBA1.out _).mono ?_
          rintro e w2 ⟨rfl, rfl⟩
          go_wp2_with fail
          go_roundw
          case rel => exact ⟨k + 1, u, l, by omega, hu, by omega, by go_num, rfl, HN, HR6⟩
          case measure => simp [intOf]; omega
        · have HBA1 := Lib.hid (HBA.out false h1)
          have HBB1 := Lib.hid (HBB.out true h2)
          clear h1 h2 HBA HBB
          generalize eA es k = ia at *
          generalize eB es k = ib at *
          go_wp2_with fail
          refine (HBA1.out _).mono ?_
          rintro e w2 ⟨rfl, rfl⟩
          go_wp2_with fail
          refine (HBB1.out _).mono ?_
          rintro e w2 ⟨rfl, rfl⟩
          go_wp2_with fail
          go_roundw
          case rel => exact ⟨k + 1, u, l, by omega, hu, by omega, by go_num, rfl, HN, HR6⟩
          case measure => simp [intOf]; omega
    · obtain rfl : k = len := by omega
      have HE : Hid (l = bndL es es.length 0 0) := Lib.hid (by have h := HBI.out; rw [← HL.out] at h; exact h.done)
      have HOW : Hid (wr.ownsRow w.heap.size 3 1 u5 (bndL es es.length 0 0).length (bV (bndL es es.length 0 0))) := Lib.hid (by rw [← HE.out]; exact own_low HRB.out.own (by omega))
      clear HBI
      go_wp2_with fail
      go_ret
      exact ⟨⟨_, rfl, HOW.out⟩, HRB.out.below⟩
end Go.Proofs.YthfgbgmkiggjmacDoor
