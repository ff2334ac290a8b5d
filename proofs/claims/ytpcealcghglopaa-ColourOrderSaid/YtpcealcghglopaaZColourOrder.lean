/- ColourOrder, walked, over what Least and Greedy tell. -/
import Derived.Test.YtpcealcghglopaaZColourWelsh
import Derived.Test.YtpcealcghglopaaZb9
import Derived.Test.YtpcealcghglopaaZb2
import Derived.Deep.AppendLies
namespace Go.Proofs.Ytpcealcghglopaa
open Go.RowKit

theorem own_formC {w : World} {base : Nat} {t : TypeId} {v : Value} {n : Nat} {xs : List Value} (h : w.ownsRow base t 1 v n xs) : ∃ A cap, v = .slice A n cap ∧ n ≤ cap := by
  rcases h.2 with ⟨rfl, rfl⟩ | ⟨g, cap, cur, rfl, _, _, hle, _⟩
  · exact ⟨none, 0, rfl, Nat.le_refl _⟩
  · exact ⟨_, _, rfl, hle⟩
theorem each_of_own {l : List Nat} {n : Nat} {o : List Nat} (O : OwnO l n o) : EachP n (natG o) := by
  refine ⟨by unfold natG; simp [O.len], ?_, fun x hx => ?_⟩
  · unfold natG
    rw [List.Nodup, List.pairwise_map]
    exact O.nd.imp fun hne e => hne (by omega)
  · unfold natG at hx
    obtain ⟨i, hi, rfl⟩ := List.mem_map.1 hx
    have := O.lt i hi
    omega
set_option maxRecDepth 100000 in
set_option maxHeartbeats 4000000 in
theorem colourOrder_of (n : Int) (A : Option Addr) (len cap : Nat) (es : List E3) (w : World) (hE : EdgesAt w w.heap.size A len es) (hcap : len ≤ cap)
    (HO : ∀ W, EdgesAt W W.heap.size A len es → Calls Try.prog 15 #[.agg #[.int .i64 n, .slice A len cap]] W (LeastTop W n es))
    (HP : ∀ A2 len2 cap2 xs W, len2 ≤ cap2 → EdgesAt W W.heap.size A len es → IntsAt W W.heap.size A2 len2 xs → Calls Try.prog 19 #[.agg #[.int .i64 n, .slice A len cap], .slice A2 len2 cap2] W (GreedyTop W n es xs)) :
    Calls Try.prog 10 #[.agg #[.int .i64 n, .slice A len cap]] w fun e w' => e = .returned (.bool true) ∧ Below w.heap.size w w' := by
  have HX := Lib.hid (BoxG.start (n := n) (cap := cap) hE)
  have HOO := Lib.hid HO
  have HPP := Lib.hid HP
  obtain ⟨x, hx⟩ : ∃ x, gcheck n es = x := ⟨_, rfl⟩
  have HCX := Lib.hid hx
  have k0 := HX.out.c0
  have k1 := HX.out.c1
  have HLE : Hid (es.length = len) := Lib.hid hE.1
  clear hE HO HP
  by_cases h0 : x = 0
  · subst h0
    obtain ⟨hn0, hnz, hl, hg⟩ := good_of_gcheck hx
    obtain ⟨m, rfl⟩ := Int.eq_ofNat_of_zero_le hn0
    have hm10 : m ≤ 10 := by omega
    clear hnz
    have HG := Lib.hid hg
    have HCK := Lib.hid (fun W hW => good_v (m : Int) A len cap es true W hW hcap (by rw [hx]; rfl))
    obtain ⟨i0, hi, hz0, hz1, hz2⟩ := info_parts infoInt
    have HI := Lib.hid hi
    have HI0 := Lib.hid hz0
    have HI1 := Lib.hid hz1
    have HI2 := Lib.hid hz2
    clear hx hg hl hi hz0 hz1 hz2
    go_enter Try.func10, Try.ntmps10
    go_wp2_with fail
    refine (HOO.out _ HX.out.edges).mono ?_
    rintro e w1 ⟨_, h2, hB⟩
    obtain ⟨k, l, A1, c1, hL, rfl, hi, _⟩ := h2 HCX.out
    have e0 : ((m : Int)).toNat = m := rfl
    rw [e0] at hL hi
    rw [e0]
    have HLC := Lib.hid hL
    have hkm := hL.le_n
    have HX1 := Lib.hid (HX.out.next hB)
    have HA1 := Lib.hid hi
    have k0' := HX1.out.c0
    have k1' := HX1.out.c1
    clear h2 hB hi hL HOO e0 k0 k1
    go_wp2_with fail
    refine (HCK.out _ HX1.out.edges).mono ?_
    rintro e w2 ⟨rfl, hB⟩
    have HX2 := Lib.hid (HX1.out.next hB)
    have HA2 := Lib.hid (HA1.out.go_ hB)
    have q0 := HX2.out.c0
    clear hB k0' k1'
    go_wp2_with fail
    clear q0
    go_loopw [6, 7] (fun a y wr => ∃ (c n1 c2 : Nat) (A3 : Option Addr), c ≤ k ∧ y = .int .i64 c ∧ a = .slice A3 n1 c2 ∧ n1 ≤ 10 ∧ Hid (n1 = (ordTo l m c 0).length) ∧ Hid (wr.ownsRow w2.heap.size 3 1 (.slice A3 n1 c2) n1 ((natG (ordTo l m c 0)).map (Value.int .i64))) ∧ Hid (Below w2.heap.size w2 wr)) (fun _ y _ => k - (intOf y).toNat)
    case atStart => exact ⟨0, 0, 0, none, Nat.zero_le _, rfl, rfl, by omega, Lib.hid rfl, Lib.hid (World.ownsRow_nil ..), Lib.hid (Below.refl _ _)⟩
    case round =>
      obtain ⟨c, n1, c2, A3, hck, rfl, rfl, hn1, HNL, HOW, HB⟩ := hrel
      by_cases hc : c < k
      · obtain ⟨wo, rfl⟩ : ∃ wo : World, wo = wr := ⟨_, rfl⟩
        go_wp2_with fail
        go_loopw [6, 8] (fun a y wr => ∃ (i n1 c2 : Nat) (A3 : Option Addr), i ≤ m ∧ y = .int .i64 i ∧ a = .slice A3 n1 c2 ∧ n1 ≤ 10 ∧ Hid (n1 = (ordTo l m c i).length) ∧ Hid (wr.ownsRow w2.heap.size 3 1 (.slice A3 n1 c2) n1 ((natG (ordTo l m c i)).map (Value.int .i64))) ∧ Hid (Below w2.heap.size w2 wr)) (fun _ y _ => m - (intOf y).toNat)
        case atStart => exact ⟨0, n1, c2, A3, Nat.zero_le _, rfl, rfl, hn1, HNL, HOW, HB⟩
        case round =>
          clear HOW HB HNL
          obtain ⟨i, n1, c2, A3, him, rfl, rfl, hn1, HNL, HOW, HB⟩ := hrel
          have HXr := Lib.hid (HX2.out.next HB.out)
          have q0 := HXr.out.c0
          by_cases hi : i < m
          · obtain ⟨b, off, y, rfl, hb, hy, hcy⟩ := (HA2.out.go_ HB.out).at_ hi
            obtain ⟨z, hz, rfl⟩ := natG_get hy
            have HZ : Hid (l.getD i 0 = z) := Lib.hid (by rw [List.getD_eq_getElem?_getD, hz]; rfl)
            have HST := Lib.hid (ordTo_step l m c i)
            have ii0 : (0 : Int) ≤ (i : Int) := by omega
            have ii1 : (i : Int) < (m : Int) := by omega
            clear hy hz
            by_cases hzc : z = c
            · have hb1 : ((z : Int) == (c : Int)) = true := by rw [beq_iff_eq]; omega
              have HSN : Hid (ordTo l m c (i + 1) = ordTo l m c i ++ [i]) := Lib.hid (by rw [HST.out, if_pos (by rw [HZ.out]; exact hzc)])
              have HLT : Hid (n1 + 1 ≤ 10) := Lib.hid (by
                have h1 := nodup_le ((ordTo_pair (l := l) (n := m) c (i + 1) (by omega)).imp fun h => h.1) (ordTo_lt (l := l) (n := m) (c := c) (i := i + 1) (by omega))
                rw [HSN.out, List.length_append, List.length_singleton, ← HNL.out] at h1
                omega)
              have hn9 := HLT.out
              subst hzc
              clear HST
              go_wp2_with (at_builtin; refine wpList_append_own _ rfl _ _ 25 rfl w2.heap.size 3 i0 (.int .i64 0) 1 8 Try.underlying25 HI.out HI0.out HI1.out HI2.out rfl (by decide) _ _ _ rfl (HOW.out.alloc _) ⟨wr.heap.size, 0, none⟩ 1 1 [.int .i64 (i : Int)] rfl rfl ?c1 ?c2 ?c3 ?c4 ?c5 ?_)
              try (case c1 => exact cell_one_new _ _ _)
              case c2 => simp [Value.oneCell']
              case c3 => unfold maxLen; omega
              case c4 => omega
              case c5 => have := HB.out.size; simp; omega
              intro v' w3 hown' hgrow _
              obtain ⟨A4, c4, rfl⟩ := own_form hown'
              have HOW3 : Hid (w3.ownsRow w2.heap.size 3 1 (.slice A4 (n1 + 1) c4) (n1 + 1) ((natG (ordTo l m z (i + 1))).map (Value.int .i64))) := Lib.hid (by
                have e : (natG (ordTo l m z (i + 1))).map (Value.int .i64) = (natG (ordTo l m z i)).map (Value.int .i64) ++ [.int .i64 (i : Int)] := by rw [HSN.out]; simp [natG]
                rw [e]; exact hown')
              have HB3 : Hid (Below w2.heap.size w2 w3) := Lib.hid ((HB.out.alloc HB.out.size _).grown hgrow (by have := HB.out.size; simp; omega) (own_base HOW.out))
              have HNL3 : Hid (n1 + 1 = (ordTo l m z (i + 1)).length) := Lib.hid (by rw [HSN.out, List.length_append, List.length_singleton, ← HNL.out])
              clear hown' hgrow
              go_wp2
              go_roundw
              case rel => exact ⟨i + 1, n1 + 1, c4, A4, by omega, by go_num, rfl, hn9, HNL3, HOW3, HB3⟩
              case measure => simp [intOf]; omega
            · have hb1 : ((z : Int) == (c : Int)) = false := by simp; omega
              have HSN : Hid (ordTo l m c (i + 1) = ordTo l m c i) := Lib.hid (by rw [HST.out, if_neg (by rw [HZ.out]; exact hzc)])
              clear HST
              go_wp2_with fail
              go_roundw
              case rel => exact ⟨i + 1, n1, c2, A3, by omega, by go_num, rfl, hn1, by rw [HSN.out]; exact HNL, by rw [HSN.out]; exact HOW, HB⟩
              case measure => simp [intOf]; omega
          · obtain rfl : i = m := by omega
            go_wp2_with fail
            go_roundw
            case rel => exact ⟨c + 1, n1, c2, A3, by omega, by go_num, rfl, hn1, by rw [ordTo_next]; exact HNL, by rw [ordTo_next]; exact HOW, HB⟩
            case measure => simp [intOf]; omega
      · obtain rfl : c = k := by omega
        have HOO2 : Hid (OwnO l m (ordTo l m c 0)) := Lib.hid (own_ok fun i hi => HLC.out.part.1.lt i (by have := HLC.out.part.2; omega))
        have hnm : n1 = m := by have := HNL.out; have := HOO2.out.len; omega
        subst hnm
        have hcc : n1 ≤ c2 := by
          obtain ⟨A', cap', e, h⟩ := own_formC HOW.out
          injection e with _ _ e
          omega
        have HXr := Lib.hid (HX2.out.next HB.out)
        have q0 := HXr.out.c0
        have q1 := HXr.out.c1
        have HIN := Lib.hid (IntsAt.of_own HOW.out (Nat.le_refl _))
        go_wp2_with fail
        refine (HPP.out A3 n1 c2 _ _ hcc HXr.out.edges HIN.out).mono ?_
        rintro e w3 ⟨_, _, h3, hB⟩
        obtain ⟨col, A5, c5, hgl, rfl, hi, _⟩ := h3 HCX.out (ordTo l n1 c 0) rfl (each_of_own HOO2.out)
        have e0 : ((n1 : Int)).toNat = n1 := rfl
        rw [e0] at hgl hi
        rw [e0]
        have HGL := Lib.hid hgl
        have HX3 := Lib.hid (HXr.out.next hB)
        have HA5 := Lib.hid hi
        have r0 := HX3.out.c0
        clear h3 hB hgl hi e0 q0 q1
        have HALL : Hid ((colR n1 col).all (isIn (c : Int)) = true) := Lib.hid (allIn_iff.2 fun x hx => by
          unfold colR at hx
          obtain ⟨i, hi, rfl⟩ := List.mem_map.1 hx
          have := own_greed HLC.out.part.1 HLC.out.part.2 (adjE_symm es) (adjE_irr HG.out) HOO2.out HGL.out (List.mem_range.1 hi)
          omega)
        go_wp2_with fail
        refine (inside_v (c : Int) A5 n1 c5 _ true _ HA5.out (by omega) HALL.out).mono ?_
        rintro e w4 ⟨rfl, rfl⟩
        go_wp2_with fail
        go_ret
        exact ⟨rfl, HX3.out.below⟩
  · have HH0 := Lib.hid h0
    have hx0 : (x != 0) = true := by simpa using h0
    have HCK := Lib.hid (fun W hW => good_v n A len cap es false W hW hcap (by rw [hx]; simpa using h0))
    clear hx h0
    go_enter Try.func10, Try.ntmps10
    go_wp2_with fail
    refine (HOO.out _ HX.out.edges).mono ?_
    rintro e w1 ⟨h1, _, hB⟩
    obtain rfl := h1 (by rw [HCX.out]; exact HH0.out)
    rw [HCX.out]
    have HX1 := Lib.hid (HX.out.next hB)
    have k0' := HX1.out.c0
    have k1' := HX1.out.c1
    clear h1 hB HOO k0 k1
    go_wp2_with fail
    refine (HCK.out _ HX1.out.edges).mono ?_
    rintro e w2 ⟨rfl, hB⟩
    have HX2 := Lib.hid (HX1.out.next hB)
    clear hB k0' k1'
    go_wp2_with fail
    go_ret
    exact ⟨rfl, HX2.out.below⟩
end Go.Proofs.Ytpcealcghglopaa
