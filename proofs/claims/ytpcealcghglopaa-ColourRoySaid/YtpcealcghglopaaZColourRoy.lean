/- ColourRoy, walked, over what Least tells. -/
import Derived.Test.YtpcealcghglopaaZColourOrder
import Derived.Test.YtpcealcghglopaaZLongest
namespace Go.Proofs.Ytpcealcghglopaa
open Go.RowKit

section
variable {o : List Nat} {n : Nat} {adj : Nat → Nat → Bool} {b pos : Nat → Nat}
theorem rows_c (P : PlaceP o n pos) (hlt : ∀ i ∈ o, i < n) (h : RowB adj o n b) : RowsC n adj pos b := by
  refine ⟨fun i j hi hj hp ha => ?_, fun i hi => ?_⟩
  · have h1 := (h.row (pos i) i (P.lt i hi) (P.at_ i hi)).1 j (List.mem_of_getElem? (i := pos j) (by rw [List.getElem?_take, if_pos hp]; exact P.at_ j hj)) ha
    omega
  · rcases (h.row (pos i) i (P.lt i hi) (P.at_ i hi)).2 with e | ⟨j, h1, h2, h3⟩
    · exact .inl e
    · exact .inr ⟨j, hlt j (List.mem_of_mem_take h1), P.take _ _ h1, h2, h3⟩
/-- GALLAI, ROY, VITAVER: no fewer than it needs colours. -/
theorem roy_ge {k m : Nat} {l : List Nat} (hL : LeastC adj n k l) (hsym : ∀ i j, adj i j = adj j i) (hirr : ∀ i, adj i i = false) (hnd : o.Nodup) (hlt : ∀ i ∈ o, i < n) (hl : o.length = n) (h : RowB adj o n b) (hm : MostB o n b m) : k ≤ m := by
  obtain ⟨pos, P⟩ := place_of hnd hlt hl
  have R := rows_c P hlt h
  have hb : ∀ i, i < n → 1 ≤ b i ∧ b i ≤ m := fun i hi => by
    refine ⟨?_, hm.ge i ?_⟩
    · rcases R.least i hi with e | ⟨j, _, _, _, e⟩ <;> omega
    · rw [List.take_of_length_le (by omega)]
      exact List.mem_of_getElem? (P.at_ i hi)
  refine hL.le (col := fun i => b i - 1) (fun i hi => ?_) (fun i j hi hj ha e => ?_)
  · have := hb i hi
    show b i - 1 < m
    omega
  · have h1 := hb i hi
    have h2 := hb j (by omega)
    have e' : b j - 1 = b i - 1 := e
    exact roy_col R hsym P.inj hirr i j hi (by omega) (by rw [hsym]; exact ha) (by omega)
/-- .. and in the order of the best colouring just as many. -/
theorem roy_own {k m : Nat} {l : List Nat} (hL : LeastC adj n k l) (hsym : ∀ i j, adj i j = adj j i) (hirr : ∀ i, adj i i = false) (O : OwnO l n o) (h : RowB adj o n b) (hm : MostB o n b m) : m = k := by
  apply Nat.le_antisymm
  · obtain ⟨pos, P⟩ := place_of O.nd O.lt O.len
    have R := rows_c P O.lt h
    rcases hm.att with ⟨e, _⟩ | ⟨i, h1, h2⟩
    · omega
    · have hi := O.lt i (List.mem_of_mem_take h1)
      have h3 := roy_row R (c := fun i => l.getD i 0) (fun i j hi hj ha => part_ne hL.part.1 hL.part.2 hsym hirr hi hj ha) (fun i j hi hj hp => own_up O P hi hj hp) (pos i + 1) i (by omega) hi
      have h4 := hL.part.1.lt i (by have := hL.part.2; omega)
      have h5 : b i ≤ l.getD i 0 + 1 := h3
      omega
  · exact roy_ge hL hsym hirr O.nd O.lt O.len h hm
end
set_option maxRecDepth 100000 in
set_option maxHeartbeats 4000000 in
theorem colourRoy_of (n : Int) (A : Option Addr) (len cap : Nat) (es : List E3) (Aq : Option Addr) (lenq capq : Nat) (xs : List Int) (w : World) (hE : EdgesAt w w.heap.size A len es) (hcap : len ≤ cap) (hI : IntsAt w w.heap.size Aq lenq xs) (hcapq : lenq ≤ capq) (hmq : lenq ≤ 9223372036854775807)
    (HO : ∀ W, EdgesAt W W.heap.size A len es → Calls Try.prog 15 #[.agg #[.int .i64 n, .slice A len cap]] W (LeastTop W n es)) :
    Calls Try.prog 11 #[.agg #[.int .i64 n, .slice A len cap], .slice Aq lenq capq] w fun e w' => e = .returned (.bool true) ∧ Below w.heap.size w w' := by
  have HX := Lib.hid (BoxG.start (n := n) (cap := cap) hE)
  have HQ := Lib.hid (hI.go_ (show Below w.heap.size w (bx w n A len cap) from (Below.refl _ _).alloc (Nat.le_refl _) _))
  have HLX : Hid (xs.length = lenq) := Lib.hid hI.1
  have HOO := Lib.hid HO
  obtain ⟨x, hx⟩ : ∃ x, gcheck n es = x := ⟨_, rfl⟩
  have HCX := Lib.hid hx
  have k0 := HX.out.c0
  have k1 := HX.out.c1
  have HLE : Hid (es.length = len) := Lib.hid hE.1
  clear hE HO hI
  by_cases h0 : x = 0
  · subst h0
    obtain ⟨hn0, hnz, hl, hg⟩ := good_of_gcheck hx
    obtain ⟨m, rfl⟩ := Int.eq_ofNat_of_zero_le hn0
    have hm10 : m ≤ 10 := by omega
    have hlen : len ≤ 45 := by have := HLE.out; omega
    clear hnz
    have HG := Lib.hid hg
    have HCK := Lib.hid (fun W hW => good_v (m : Int) A len cap es true W hW hcap (by rw [hx]; rfl))
    have HEV := Lib.hid (fun v W hW hv => each_v Aq lenq capq m xs v W hW hmq (by omega) hcapq hv)
    have HLG := Lib.hid (fun A2 c2 o W hW hW2 hc2 hnd hlt => longest_any m A len cap es A2 c2 o W hW hW2 hm10 hlen hc2 hnd hlt)
    obtain ⟨i0, hi, hz0, hz1, hz2⟩ := info_parts infoInt
    have HI := Lib.hid hi
    have HI0 := Lib.hid hz0
    have HI1 := Lib.hid hz1
    have HI2 := Lib.hid hz2
    clear hx hg hl hi hz0 hz1 hz2
    go_enter Try.func11, Try.ntmps11
    go_wp2_with fail
    refine (HOO.out _ HX.out.edges).mono ?_
    rintro e w1 ⟨_, h2, hB⟩
    obtain ⟨k, l, A1, c1, hL, rfl, hi, _⟩ := h2 HCX.out
    have e0 : ((m : Int)).toNat = m := rfl
    rw [e0] at hL hi
    rw [e0]
    have HLC := Lib.hid hL
    have hkm := hL.le_n
    have HX1 := Lib.hid (HX.out.next hB)
    have HQ1 := Lib.hid (HQ.out.go_ hB)
    have HA1 := Lib.hid hi
    have k0' := HX1.out.c0
    have k1' := HX1.out.c1
    clear h2 hB hi hL HOO e0 k0 k1
    go_wp2_with fail
    refine (HCK.out _ HX1.out.edges).mono ?_
    rintro e w2 ⟨rfl, hB⟩
    have HX2 := Lib.hid (HX1.out.next hB)
    have HQ2 := Lib.hid (HQ1.out.go_ hB)
    have HA2 := Lib.hid (HA1.out.go_ hB)
    have q0 := HX2.out.c0
    clear hB k0' k1'
    go_wp2_with fail
    clear q0
    go_loopw [8, 9] (fun a y wr => ∃ (c n1 c2 : Nat) (A3 : Option Addr), c ≤ k ∧ y = .int .i64 c ∧ a = .slice A3 n1 c2 ∧ n1 ≤ 10 ∧ Hid (n1 = (ordTo l m c 0).length) ∧ Hid (wr.ownsRow w2.heap.size 3 1 (.slice A3 n1 c2) n1 ((natG (ordTo l m c 0)).map (Value.int .i64))) ∧ Hid (Below w2.heap.size w2 wr)) (fun _ y _ => k - (intOf y).toNat)
    case atStart => exact ⟨0, 0, 0, none, Nat.zero_le _, rfl, rfl, by omega, Lib.hid rfl, Lib.hid (World.ownsRow_nil ..), Lib.hid (Below.refl _ _)⟩
    case round =>
      obtain ⟨c, n1, c2, A3, hck, rfl, rfl, hn1, HNL, HOW, HB⟩ := hrel
      by_cases hc : c < k
      · obtain ⟨wo, rfl⟩ : ∃ wo : World, wo = wr := ⟨_, rfl⟩
        go_wp2_with fail
        go_loopw [8, 10] (fun a y wr => ∃ (i n1 c2 : Nat) (A3 : Option Addr), i ≤ m ∧ y = .int .i64 i ∧ a = .slice A3 n1 c2 ∧ n1 ≤ 10 ∧ Hid (n1 = (ordTo l m c i).length) ∧ Hid (wr.ownsRow w2.heap.size 3 1 (.slice A3 n1 c2) n1 ((natG (ordTo l m c i)).map (Value.int .i64))) ∧ Hid (Below w2.heap.size w2 wr)) (fun _ y _ => m - (intOf y).toNat)
        case atStart => exact ⟨0, n1, c2, A3, Nat.zero_le _, rfl, rfl, hn1, HNL, HOW, HB⟩
        case round =>
          clear HOW HB HNL
          obtain ⟨i, n1, c2, A3, him, rfl, rfl, hn1, HNL, HOW, HB⟩ := hrel
          have HXr := Lib.hid (HX2.out.next HB.out)
          have q0 := HXr.out.c0
          by_cases hi : i < m
          · obtain ⟨b, off, y, rfl, hb, hy, hcy⟩ := (HA2.out.go_ HB.out).at_ hi
            obtain ⟨z, hz, rfl⟩ := natG_get hy
            have HZ : Hid (l.getD i 0 = z) := Lib.hid (by rw [List.getD_eq_getElem?_getD, hz]; rfl)
            have HST := Lib.hid (ordTo_step l m c i)
            have ii0 : (0 : Int) ≤ (i : Int) := by omega
            have ii1 : (i : Int) < (m : Int) := by omega
            clear hy hz
            by_cases hzc : z = c
            · have hb1 : ((z : Int) == (c : Int)) = true := by rw [beq_iff_eq]; omega
              have HSN : Hid (ordTo l m c (i + 1) = ordTo l m c i ++ [i]) := Lib.hid (by rw [HST.out, if_pos (by rw [HZ.out]; exact hzc)])
              have HLT : Hid (n1 + 1 ≤ 10) := Lib.hid (by
                have h1 := nodup_le ((ordTo_pair (l := l) (n := m) c (i + 1) (by omega)).imp fun h => h.1) (ordTo_lt (l := l) (n := m) (c := c) (i := i + 1) (by omega))
                rw [HSN.out, List.length_append, List.length_singleton, ← HNL.out] at h1
                omega)
              have hn9 := HLT.out
              subst hzc
              clear HST
              go_wp2_with (at_builtin; refine wpList_append_own _ rfl _ _ 25 rfl w2.heap.size 3 i0 (.int .i64 0) 1 8 Try.underlying25 HI.out HI0.out HI1.out HI2.out rfl (by decide) _ _ _ rfl (HOW.out.alloc _) ⟨wr.heap.size, 0, none⟩ 1 1 [.int .i64 (i : Int)] rfl rfl ?c1 ?c2 ?c3 ?c4 ?c5 ?_)
              try (case c1 => exact cell_one_new _ _ _)
              case c2 => simp [Value.oneCell']
              case c3 => unfold maxLen; omega
              case c4 => omega
              case c5 => have := HB.out.size; simp; omega
              intro v' w3 hown' hgrow _
              obtain ⟨A4, c4, rfl⟩ := own_form hown'
              have HOW3 : Hid (w3.ownsRow w2.heap.size 3 1 (.slice A4 (n1 + 1) c4) (n1 + 1) ((natG (ordTo l m z (i + 1))).map (Value.int .i64))) := Lib.hid (by
                have e : (natG (ordTo l m z (i + 1))).map (Value.int .i64) = (natG (ordTo l m z i)).map (Value.int .i64) ++ [.int .i64 (i : Int)] := by rw [HSN.out]; simp [natG]
                rw [e]; exact hown')
              have HB3 : Hid (Below w2.heap.size w2 w3) := Lib.hid ((HB.out.alloc HB.out.size _).grown hgrow (by have := HB.out.size; simp; omega) (own_base HOW.out))
              have HNL3 : Hid (n1 + 1 = (ordTo l m z (i + 1)).length) := Lib.hid (by rw [HSN.out, List.length_append, List.length_singleton, ← HNL.out])
              clear hown' hgrow
              go_wp2
              go_roundw
              case rel => exact ⟨i + 1, n1 + 1, c4, A4, by omega, by go_num, rfl, hn9, HNL3, HOW3, HB3⟩
              case measure => simp [intOf]; omega
            · have hb1 : ((z : Int) == (c : Int)) = false := by simp; omega
              have HSN : Hid (ordTo l m c (i + 1) = ordTo l m c i) := Lib.hid (by rw [HST.out, if_neg (by rw [HZ.out]; exact hzc)])
              clear HST
              go_wp2_with fail
              go_roundw
              case rel => exact ⟨i + 1, n1, c2, A3, by omega, by go_num, rfl, hn1, by rw [HSN.out]; exact HNL, by rw [HSN.out]; exact HOW, HB⟩
              case measure => simp [intOf]; omega
          · obtain rfl : i = m := by omega
            go_wp2_with fail
            go_roundw
            case rel => exact ⟨c + 1, n1, c2, A3, by omega, by go_num, rfl, hn1, by rw [ordTo_next]; exact HNL, by rw [ordTo_next]; exact HOW, HB⟩
            case measure => simp [intOf]; omega
      · obtain rfl : c = k := by omega
        have HOO2 : Hid (OwnO l m (ordTo l m c 0)) := Lib.hid (own_ok fun i hi => HLC.out.part.1.lt i (by have := HLC.out.part.2; omega))
        have hnm : n1 = m := by have := HNL.out; have := HOO2.out.len; omega
        subst hnm
        have hcc : n1 ≤ c2 := by
          obtain ⟨A', cap', e, h⟩ := own_formC HOW.out
          injection e with _ _ e
          omega
        have HXr := Lib.hid (HX2.out.next HB.out)
        have HQr := Lib.hid (HQ2.out.go_ HB.out)
        have q0 := HXr.out.c0
        have q1 := HXr.out.c1
        have HIN := Lib.hid (IntsAt.of_own HOW.out (Nat.le_refl _))
        go_wp2_with fail
        refine (HLG.out A3 c2 _ _ HXr.out.edges HIN.out hcc HOO2.out.nd HOO2.out.lt).mono ?_
        rintro e w3 ⟨⟨b, _, q, hq0, rfl, hrb, hmb⟩, hB⟩
        clear hq0
        have hqk := roy_own HLC.out (adjE_symm es) (adjE_irr HG.out) HOO2.out hrb hmb
        subst hqk
        have HX3 := Lib.hid (HXr.out.next hB)
        have HQ3 := Lib.hid (HQr.out.go_ hB)
        have r0 := HX3.out.c0
        have r1 := HX3.out.c1
        clear hB hrb hmb q0 q1
        by_cases hp : EachP n1 xs
        · have HE1 := Lib.hid (fun W hW => HEV.out true W hW ⟨fun _ => hp, fun _ => rfl⟩)
          obtain ⟨o, ho, hol, hond, holt⟩ := each_nat hp
          have hlm : lenq = n1 := by have := hp.1; have := HLX.out; omega
          subst hlm
          have HOE := Lib.hid ho
          have HOL := Lib.hid hol
          have HND := Lib.hid hond
          have HOT := Lib.hid holt
          clear hp ho hol hond holt
          go_wp2_with fail
          refine (HE1.out _ HQ3.out).mono ?_
          rintro e w4 ⟨rfl, rfl⟩
          go_wp2_with fail
          refine (HLG.out Aq capq o _ HX3.out.edges (by rw [HOE.out]; exact HQ3.out) hcapq HND.out HOT.out).mono ?_
          rintro e w5 ⟨⟨b, _, q', hq1, rfl, hrb, hmb⟩, hB⟩
          clear hq1
          have hqk := roy_ge HLC.out (adjE_symm es) (adjE_irr HG.out) HND.out HOT.out HOL.out hrb hmb
          have HX5 := Lib.hid (HX3.out.next hB)
          have g1 : decide (q ≤ q') = true := by simpa using hqk
          have g2 : (q : Int) ≤ (q' : Int) := by omega
          clear hB hrb hmb r0 r1
          go_wp2_with fail
          go_ret
          exact ⟨rfl, HX5.out.below⟩
        · have HE1 := Lib.hid (fun W hW => HEV.out false W hW ⟨fun h => (by cases h), fun h => absurd h hp⟩)
          clear hp
          go_wp2_with fail
          refine (HE1.out _ HQ3.out).mono ?_
          rintro e w4 ⟨rfl, rfl⟩
          go_wp2_with fail
          go_ret
          exact ⟨rfl, HX3.out.below⟩
  · have HH0 := Lib.hid h0
    have hx0 : (x != 0) = true := by simpa using h0
    have HCK := Lib.hid (fun W hW => good_v n A len cap es false W hW hcap (by rw [hx]; simpa using h0))
    clear hx h0
    go_enter Try.func11, Try.ntmps11
    go_wp2_with fail
    refine (HOO.out _ HX.out.edges).mono ?_
    rintro e w1 ⟨h1, _, hB⟩
    obtain rfl := h1 (by rw [HCX.out]; exact HH0.out)
    rw [HCX.out]
    have HX1 := Lib.hid (HX.out.next hB)
    have k0' := HX1.out.c0
    have k1' := HX1.out.c1
    clear h1 hB HOO k0 k1
    go_wp2_with fail
    refine (HCK.out _ HX1.out.edges).mono ?_
    rintro e w2 ⟨rfl, hB⟩
    have HX2 := Lib.hid (HX1.out.next hB)
    clear hB k0' k1'
    go_wp2_with fail
    go_ret
    exact ⟨rfl, HX2.out.below⟩
end Go.Proofs.Ytpcealcghglopaa
