/- ColourBrooks, walked, over what Least tells. -/
import Derived.Test.YtpcealcghglopaaZColourWelsh
import Derived.Test.YtpcealcghglopaaZb9
import Derived.Test.YtpcealcghglopaaZb1
import Derived.Test.YtpcealcghglopaaZRefPartsR
namespace Go.Proofs.Ytpcealcghglopaa
open Go.RowKit

/-- The greatest degree so far; and whether all are two. -/
structure DegI (es : List E3) (t mo : Nat) (rb : Bool) : Prop where
  le : ∀ i : Nat, i < t → degN es i ≤ mo
  att : mo = 0 ∨ ∃ i : Nat, i < t ∧ degN es i = mo
  ring : rb = true ↔ ∀ i : Nat, i < t → degN es i = 2
section
variable {m k mo t : Nat} {es : List E3} {rb : Bool} {l : List Nat}
theorem DegI.start (es : List E3) : DegI es 0 0 true := ⟨fun _ h => absurd h (by omega), .inl rfl, ⟨fun _ _ h => absurd h (by omega), fun _ => rfl⟩⟩
theorem DegI.step (h : DegI es t mo rb) {d : Nat} {b2 : Bool} (hd : degN es t = d) (hb : ((d : Int) == 2) = b2) : DegI es (t + 1) (if mo < d then d else mo) (rb && b2) := by
  refine ⟨fun i hi => ?_, ?_, ?_⟩
  · rcases Nat.lt_or_eq_of_le (Nat.le_of_lt_succ hi) with h1 | rfl
    · have := h.le i h1
      split <;> omega
    · split <;> omega
  · split
    · exact .inr ⟨t, by omega, hd⟩
    · rcases h.att with e | ⟨i, h1, h2⟩
      · exact .inl e
      · exact .inr ⟨i, by omega, h2⟩
  · have hb' : b2 = true ↔ d = 2 := by rw [← hb, beq_iff_eq]; omega
    rw [Bool.and_eq_true, h.ring, hb']
    constructor
    · rintro ⟨h1, h2⟩ i hi
      rcases Nat.lt_or_eq_of_le (Nat.le_of_lt_succ hi) with h3 | rfl
      · exact h1 i h3
      · omega
    · intro h1
      exact ⟨fun i hi => h1 i (by omega), by have := h1 t (by omega); omega⟩
theorem DegI.top (h : DegI es m mo rb) (hm : 0 < m) : ∃ i : Nat, i < m ∧ degN es i = mo := by
  rcases h.att with e | h1
  · exact ⟨0, hm, by have := h.le 0 hm; omega⟩
  · exact h1
theorem linked_of (hg : goodE m es) (h : unlikeT (partsR m es) m = 1) : ∀ a b, a < m → b < m → ∃ k, lnkS (adjE es) m allB k a b := fun a b ha hb => by
  obtain ⟨f, h1, h2⟩ := unlike_rank (partsR m es) m (partsR_len m es)
  have ea := h1 a ha
  have eb := h1 b hb
  have e := h2 a b ha hb (by omega)
  rw [List.getD_eq_getElem?_getD, List.getD_eq_getElem?_getD, partsR_get ha, partsR_get hb] at e
  simp only [Option.getD_some] at e
  obtain ⟨q, hq⟩ := minR_eq.1 (show minR es a = minR es b by omega)
  refine ⟨q, ?_⟩
  clear e
  induction q generalizing b with
  | zero => exact hq
  | succ q ih =>
    obtain ⟨x, h3, h4⟩ := hq
    have hx := (adjE_lt hg h4).1
    exact ⟨x, hx, rfl, ih x hx (h1 x hx) h3, h4⟩
theorem br_up (hg : goodE m es) (hL : LeastC (adjE es) m k l) (h : DegI es m mo rb) : k ≤ mo + 1 := by
  rcases Nat.lt_or_ge mo m with hd | hd
  · obtain ⟨c, hc⟩ := col_more (d := mo) hd (adjE_symm es) (adjE_irr hg) _ allB rfl fun x hx _ => by rw [degs_eq hg]; exact h.le x hx
    exact hL.le (col := c) (fun i hi => hc.lt i hi rfl) fun i j hi hj ha => hc.ne j i (by omega) hi rfl rfl ha
  · have := hL.le_n
    omega
theorem br_low {d : Nat} (hg : goodE m es) (hL : LeastC (adjE es) m k l) (h : ∀ c, ¬ ColP (adjE es) m d allB c) : d < k := by
  apply Nat.lt_of_not_le
  intro hkd
  refine h (fun i => l.getD i 0) ⟨fun i hi _ => ?_, fun i j hi hj _ _ ha => part_ne hL.part.1 hL.part.2 (adjE_symm es) (adjE_irr hg) hi hj ha⟩
  have := hL.part.1.lt i (by have := hL.part.2; omega)
  omega
theorem br_full (hg : goodE m es) (hL : LeastC (adjE es) m k l) (h : DegI es m mo rb) (hm : 0 < m) (hf : es.length = m * (m - 1) / 2) : k = mo + 1 := by
  have h1 := br_up hg hL h
  obtain ⟨i, hi, hd⟩ := h.top hm
  have h2 := deg_less hg hi
  have h3 := br_low (d := mo) hg hL fun c hc => by
    have := clique_col (fun a b ha hb hab => (full_iff hg).1 hf a b ha hb hab) hc
    omega
  omega
theorem br_ring (hg : goodE m es) (hL : LeastC (adjE es) m k l) (h : DegI es m mo true) (hm : 0 < m) (ho : m % 2 = 1) : k = mo + 1 := by
  have h1 := br_up hg hL h
  obtain ⟨i, hi, hd⟩ := h.top hm
  have hr := h.ring.1 rfl
  have h2 := hr i hi
  obtain rfl : mo = 2 := by omega
  have h3 := br_low (d := 2) hg hL fun c hc => odd_ring (adjE_symm es) (fun x hx => by rw [degs_eq hg]; exact hr x hx) ho hc
  omega
theorem br_else (hg : goodE m es) (hL : LeastC (adjE es) m k l) (h : DegI es m mo rb) (hm : 0 < m) (hc : unlikeT (partsR m es) m = 1) (hf : es.length ≠ m * (m - 1) / 2) (hr : ¬ (rb = true ∧ m % 2 = 1)) : k ≤ mo := by
  obtain ⟨c, hcc⟩ := brooks_all (d := mo) (adjE_symm es) (adjE_irr hg) hm (linked_of hg hc) (fun x hx => by rw [degs_eq hg]; exact h.le x hx) (by
    obtain ⟨i, hi, hd⟩ := h.top hm
    exact ⟨i, hi, by rw [degs_eq hg]; exact hd⟩) (by
    apply Classical.byContradiction
    intro hno
    exact hf ((full_iff hg).2 fun a b ha hb hab => by
      apply Classical.byContradiction
      intro h1
      exact hno ⟨a, b, ha, hb, hab, by simpa using h1⟩)) (fun ⟨h1, h2⟩ => hr ⟨h.ring.2 fun i hi => by have := h1 i hi; rwa [degs_eq hg] at this, h2⟩)
  exact hL.le (col := c) (fun i hi => hcc.lt i hi rfl) fun i j hi hj ha => hcc.ne j i (by omega) hi rfl rfl ha
end
theorem wrap_half {t : Nat} (h : t ≤ 10) : wrap64 ((wrap64 ((t : Int) * ((t : Int) - 1))).tdiv 2) = ((t * (t - 1) / 2 : Nat) : Int) := by
  obtain rfl | rfl | rfl | rfl | rfl | rfl | rfl | rfl | rfl | rfl | rfl : t = 0 ∨ t = 1 ∨ t = 2 ∨ t = 3 ∨ t = 4 ∨ t = 5 ∨ t = 6 ∨ t = 7 ∨ t = 8 ∨ t = 9 ∨ t = 10 := by omega
  all_goals kernel_rfl
set_option maxRecDepth 100000 in
theorem partsB_v (m : Nat) (A : Option Addr) (len cap : Nat) (es : List E3) (w : World) (hE : EdgesAt w w.heap.size A len es) (hm10 : m ≤ 10) (hlen : len ≤ 45) (hin : InE m es) :
    Calls Try.prog 29 #[.agg #[.int .i64 m, .slice A len cap]] w fun e w' => ∃ A3 c3, e = .returned (.slice A3 m c3) ∧ IntsAt w' w'.heap.size A3 m (partsR m es) ∧ m ≤ c3 ∧ Below w.heap.size w w' := by
  refine (refPartsR_any m A len cap es w hE hm10 hlen hin).mono fun e w' ⟨⟨v, h1, h2⟩, h3⟩ => ?_
  obtain ⟨A3, c3, rfl⟩ := own_form h2
  refine ⟨A3, c3, h1, IntsAt.of_own h2 (Nat.le_refl _), ?_, h3⟩
  rcases h2.2 with ⟨h4, h5⟩ | ⟨g, cap', cur, h4, _, _, h5, _⟩
  · rw [h5]; exact Nat.zero_le _
  · injection h4 with _ _ h6
    omega
set_option maxRecDepth 100000 in
set_option maxHeartbeats 4000000 in
theorem colourBrooks_of (n : Int) (A : Option Addr) (len cap : Nat) (es : List E3) (w : World) (hE : EdgesAt w w.heap.size A len es) (hcap : len ≤ cap)
    (HO : ∀ W, EdgesAt W W.heap.size A len es → Calls Try.prog 15 #[.agg #[.int .i64 n, .slice A len cap]] W (LeastTop W n es)) :
    Calls Try.prog 8 #[.agg #[.int .i64 n, .slice A len cap]] w fun e w' => e = .returned (.bool true) ∧ Below w.heap.size w w' := by
  have HX := Lib.hid (BoxG.start (n := n) (cap := cap) hE)
  have HOO := Lib.hid HO
  obtain ⟨x, hx⟩ : ∃ x, gcheck n es = x := ⟨_, rfl⟩
  have HCX := Lib.hid hx
  have k0 := HX.out.c0
  have k1 := HX.out.c1
  have HLE : Hid (es.length = len) := Lib.hid hE.1
  clear hE HO
  by_cases h0 : x = 0
  · subst h0
    obtain ⟨hn0, hn1, hl, hg⟩ := good_of_gcheck hx
    obtain ⟨m, rfl⟩ := Int.eq_ofNat_of_zero_le hn0
    have hm10 : m ≤ 10 := by omega
    have hlen : len ≤ 45 := by have := HLE.out; omega
    have HG := Lib.hid hg
    have HCK := Lib.hid (fun W hW => good_v (m : Int) A len cap es true W hW hcap (by rw [hx]; rfl))
    have HPV := Lib.hid (fun W hW => partsB_v m A len cap es W hW hm10 hlen (InE.of_good hg))
    clear hx hg hl
    go_enter Try.func8, Try.ntmps8
    go_wp2_with fail
    refine (HOO.out _ HX.out.edges).mono ?_
    rintro e w1 ⟨_, h2, hB⟩
    obtain ⟨k, l, A1, c1, hL, rfl, hi, _⟩ := h2 HCX.out
    have e0 : ((m : Int)).toNat = m := rfl
    rw [e0] at hL hi
    rw [e0]
    have HLC := Lib.hid hL
    have HX1 := Lib.hid (HX.out.next hB)
    have k0' := HX1.out.c0
    have k1' := HX1.out.c1
    have hkm : k ≤ m := hL.le_n
    clear h2 hB hi hL HOO e0 k0 k1
    go_wp2_with fail
    refine (HCK.out _ HX1.out.edges).mono ?_
    rintro e w2 ⟨rfl, hB⟩
    have HX2 := Lib.hid (HX1.out.next hB)
    have q0 := HX2.out.c0
    have q1 := HX2.out.c1
    clear hB k0' k1'
    rcases Nat.eq_zero_or_pos m with hm | hm
    · subst hm
      obtain rfl : k = 0 := by omega
      go_wp2_with fail
      go_loopw [6, 7, 8] (fun x _ z wr => x = .int .i64 0 ∧ z = .int .i64 0 ∧ Hid (Below w2.heap.size w2 wr)) (fun _ _ _ _ => 0)
      case atStart => exact ⟨rfl, rfl, Lib.hid (Below.refl _ _)⟩
      case round =>
        obtain ⟨rfl, rfl, HB⟩ := hrel
        have HXr := Lib.hid (HX2.out.next HB.out)
        have c0 := HXr.out.c0
        have c1 := HXr.out.c1
        go_wp2_with fail
        go_ret
        exact ⟨rfl, HXr.out.below⟩
    · have hk1 : 1 ≤ k := by
        have := HLC.out.part.1.lt 0 (by have := HLC.out.part.2; omega)
        omega
      have a1 : decide ((0 : Int) < (m : Int)) = true := by simp; omega
      have a2 : decide (0 < m) = true := by simp; omega
      have a3 : decide ((k : Int) < 1) = false := by simp; omega
      have a4 : decide (k < 1) = false := by simp; omega
      go_wp2_with fail
      go_loopw [6, 7, 8] (fun x y z wr => ∃ t mo : Nat, ∃ rb : Bool, t ≤ m ∧ mo ≤ 45 ∧ x = .int .i64 mo ∧ y = .bool rb ∧ z = .int .i64 t ∧ Hid (DegI es t mo rb) ∧ Hid (Below w2.heap.size w2 wr)) (fun _ _ z _ => m - (intOf z).toNat)
      case atStart => exact ⟨0, 0, true, by omega, by omega, rfl, rfl, rfl, Lib.hid (DegI.start es), Lib.hid (Below.refl _ _)⟩
      case round =>
        obtain ⟨t, mo, rb, ht, hmo, rfl, rfl, rfl, HD, HB⟩ := hrel
        have HXr := Lib.hid (HX2.out.next HB.out)
        have c0 := HXr.out.c0
        have c1 := HXr.out.c1
        clear q0 q1
        by_cases htm : t < m
        · obtain ⟨d, hd⟩ : ∃ d, degN es t = d := ⟨_, rfl⟩
          have hd45 : d ≤ 45 := by have := degN_le es t; have := HLE.out; omega
          have HDV := Lib.hid (fun W hW => degree_v (m : Int) (t : Int) A len cap es (d : Int) W hW hlen (by rw [hd]))
          obtain ⟨b2, hb2⟩ : ∃ b : Bool, ((d : Int) == 2) = b := ⟨_, rfl⟩
          have HST := Lib.hid (HD.out.step hd hb2)
          clear hd
          go_wp2_with fail
          refine (HDV.out _ HXr.out.edges).mono ?_
          rintro e w3 ⟨rfl, hB⟩
          have HB3 : Hid (Below w2.heap.size w2 w3) := Lib.hid (HB.out.trans (hB.mono HB.out.size))
          have HXs := Lib.hid (HX2.out.next HB3.out)
          have d0 := HXs.out.c0
          have d1 := HXs.out.c1
          clear hB c0 c1
          by_cases hmd : mo < d
          · have g1 : decide ((mo : Int) < (d : Int)) = true := by simp; omega
            have HS2 : Hid (DegI es (t + 1) d (rb && b2)) := Lib.hid (by have h := HST.out; rwa [if_pos hmd] at h)
            clear HST
            cases rb with
            | true =>
              go_wp2_with fail
              go_roundw
              case rel => exact ⟨t + 1, d, b2, by omega, hd45, rfl, rfl, by go_num, HS2, HB3⟩
              case measure => simp [intOf]; omega
            | false =>
              go_wp2_with fail
              go_roundw
              case rel => exact ⟨t + 1, d, false, by omega, hd45, rfl, rfl, by go_num, HS2, HB3⟩
              case measure => simp [intOf]; omega
          · have g1 : decide ((mo : Int) < (d : Int)) = false := by simp; omega
            have HS2 : Hid (DegI es (t + 1) mo (rb && b2)) := Lib.hid (by have h := HST.out; rwa [if_neg hmd] at h)
            clear HST
            cases rb with
            | true =>
              go_wp2_with fail
              go_roundw
              case rel => exact ⟨t + 1, mo, b2, by omega, hmo, rfl, rfl, by go_num, HS2, HB3⟩
              case measure => simp [intOf]; omega
            | false =>
              go_wp2_with fail
              go_roundw
              case rel => exact ⟨t + 1, mo, false, by omega, hmo, rfl, rfl, by go_num, HS2, HB3⟩
              case measure => simp [intOf]; omega
        · obtain rfl : t = m := by omega
          have b1 : ((t : Int) == 0) = false := by simp; omega
          go_wp2_with fail
          refine (HPV.out _ HXr.out.edges).mono ?_
          rintro e w4 ⟨A3, c3, rfl, hi, hc, hB⟩
          have HI4 := Lib.hid hi
          have HX4 := Lib.hid (HXr.out.next hB)
          have d0 := HX4.out.c0
          have d1 := HX4.out.c1
          clear hB hi c0 c1
          go_wp2_with fail
          refine (unlikeT_any A3 t c3 _ _ HI4.out (by omega) hc).mono ?_
          rintro e w5 ⟨rfl, rfl⟩
          obtain ⟨u, hu⟩ : ∃ u, unlikeT (partsR t es) t = u := ⟨_, rfl⟩
          rw [hu]
          have hup := br_up HG.out HLC.out HD.out
          have i1 : decide ((k : Int) ≤ (mo : Int) + 1) = true := by simp; omega
          have i2 : decide (k ≤ mo + 1) = true := by simp; omega
          by_cases hu1 : u = 1
          · subst hu1
            obtain ⟨f, hfe⟩ : ∃ f, t * (t - 1) / 2 = f := ⟨_, rfl⟩
            have hw : wrap64 ((wrap64 ((t : Int) * ((t : Int) - 1))).tdiv 2) = (f : Int) := by rw [← hfe]; exact wrap_half hm10
            by_cases hf : len = f
            · have hk := br_full HG.out HLC.out HD.out hm (by rw [HLE.out, hfe]; exact hf)
              have j1 : ((len : Int) == (f : Int)) = true := by simp; omega
              have j2 : (len == f) = true := by simp; omega
              have j3 : ((k : Int) == (mo : Int) + 1) = true := by simp; omega
              have j4 : (k == mo + 1) = true := by simp; omega
              have j5 : (len : Int) = (f : Int) := by omega
              clear hk hf hu hfe hup i1 i2
              go_wp2_with fail
              go_ret
              exact ⟨rfl, HX4.out.below⟩
            · have j1 : ((len : Int) == (f : Int)) = false := by simp; omega
              have j2 : (len == f) = false := by simp; omega
              have j5 : ¬ (len : Int) = (f : Int) := by omega
              obtain ⟨ob, hob⟩ : ∃ ob : Bool, ((t : Int) % 2 == 1) = ob := ⟨_, rfl⟩
              have ho1 : ob = true ↔ t % 2 = 1 := by rw [← hob, beq_iff_eq]; omega
              by_cases hr : rb = true ∧ t % 2 = 1
              · obtain ⟨rfl, hr2⟩ := hr
                have hk := br_ring HG.out HLC.out HD.out hm hr2
                obtain rfl := ho1.2 hr2
                have j3 : ((k : Int) == (mo : Int) + 1) = true := by simp; omega
                have j4 : (k == mo + 1) = true := by simp; omega
                clear hk hf hu hfe hup i1 i2 ho1 hr2
                go_wp2_with fail
                go_ret
                exact ⟨rfl, HX4.out.below⟩
              · have hk := br_else HG.out HLC.out HD.out hm hu (by rw [HLE.out, hfe]; exact hf) hr
                have j3 : decide ((k : Int) ≤ (mo : Int)) = true := by simp; omega
                have j4 : decide (k ≤ mo) = true := by simp; omega
                clear hf hu hfe hup i1 i2 hk
                cases rb with
                | true =>
                  obtain rfl : ob = false := by
                    cases ob with
                    | false => rfl
                    | true => exact absurd ⟨rfl, ho1.1 rfl⟩ hr
                  clear ho1 hr
                  go_wp2_with fail
                  go_ret
                  exact ⟨rfl, HX4.out.below⟩
                | false =>
                  clear ho1 hr
                  go_wp2_with fail
                  go_ret
                  exact ⟨rfl, HX4.out.below⟩
          · have j1 : ((u : Int) == 1) = false := by simp; omega
            have j2 : ((u : Int) != 1) = true := by simp; omega
            clear hu
            go_wp2_with fail
            go_ret
            exact ⟨rfl, HX4.out.below⟩
  · have HH0 := Lib.hid h0
    have hx0 : (x != 0) = true := by simpa using h0
    have HCK := Lib.hid (fun W hW => good_v n A len cap es false W hW hcap (by rw [hx]; simpa using h0))
    clear hx h0
    go_enter Try.func8, Try.ntmps8
    go_wp2_with fail
    refine (HOO.out _ HX.out.edges).mono ?_
    rintro e w1 ⟨h1, _, hB⟩
    obtain rfl := h1 (by rw [HCX.out]; exact HH0.out)
    rw [HCX.out]
    have HX1 := Lib.hid (HX.out.next hB)
    have k0' := HX1.out.c0
    have k1' := HX1.out.c1
    clear h1 hB HOO k0 k1
    go_wp2_with fail
    refine (HCK.out _ HX1.out.edges).mono ?_
    rintro e w2 ⟨rfl, hB⟩
    have HX2 := Lib.hid (HX1.out.next hB)
    clear hB k0' k1'
    go_wp2_with fail
    go_ret
    exact ⟨rfl, HX2.out.below⟩
end Go.Proofs.Ytpcealcghglopaa
