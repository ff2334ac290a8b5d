/- The reference's ring, of those without a short cut, node by node. -/
import Derived.Test.YticickicfigpbaaRefHole
import Derived.Deep.RegionHeld3
import Derived.BigQuiet
namespace Go.Proofs.Yticickicfigpbaa
open Go.RowKit

def HoleCall (m : Nat) (A : Option Addr) (len cap size : Nat) (es : List E3) (f k : Nat) : Prop := ∀ (l : List Nat) (Al : Option Addr) (capl : Nat) (w : World), EdgesAt w w.heap.size A len es → IntsAt w w.heap.size Al k (natsL l) → k ≤ capl → (∀ i, i < k → l.getD i 0 < m) → (∀ i j, i < j → j < k → l.getD i 0 ≠ l.getD j 0) →
  Calls Try.prog 29 #[.agg #[.int .i64 m, .slice A len cap], .slice Al k capl, .int .i64 size, .bool true] w fun e w' => HoleOut size (refBareF (adjE es) m f l) e w' ∧ Below w.heap.size w w'

theorem ints_newsH {w : World} {n : Nat} {b o : Nat} {l : List Nat} {ob : Obj} (h : IntsAt w w.heap.size (some ⟨b, o, none⟩) n (natsL l)) : ∀ (j : Nat) (u : Value), (l.map nH)[j]? = some u → (w.alloc ob).cell? ((⟨b, o, none⟩ : Addr).add j) = some u := fun j u hu => by
  rw [nH_natsL, List.getElem?_map] at hu
  obtain ⟨x, hx, rfl⟩ := Option.map_eq_some_iff.1 hu
  have hn : 0 < n := by have := (List.getElem?_eq_some_iff.1 hx).1; have := h.1; omega
  obtain ⟨b', o', e, hlt, hc⟩ := h.2 hn
  injection e with e
  injection e with e1 e2
  subst e1
  subst e2
  have : (⟨b, o, none⟩ : Addr).add j = ⟨b, o + j, none⟩ := by simp [Addr.add]
  rw [this, World.cell?_alloc_lt _ _ _ hlt]
  exact hc j x hx
theorem nH_one (l : List Nat) : ∀ u ∈ l.map nH, u.oneCell' = true := fun u hu => by
  obtain ⟨x, _, rfl⟩ := List.mem_map.1 hu
  simp [nH, Value.oneCell']
theorem own_someH {w : World} {base : Nat} {t : TypeId} {v : Value} {n : Nat} {xs : List Value} (h : w.ownsRow base t 1 v n xs) (hn : 0 < n) : ∃ g cap, v = .slice (some ⟨g, 0, none⟩) n cap := by
  rcases h.2 with ⟨_, h0⟩ | ⟨g, c, cur, h1, _⟩
  · omega
  · exact ⟨g, c, h1⟩
theorem own_capH {w : World} {base n cap : Nat} {t : TypeId} {A : Option Addr} {xs : List Value} (h : w.ownsRow base t 1 (.slice A n cap) n xs) : n ≤ cap := by
  rcases h.2 with ⟨_, h0⟩ | ⟨g, c, cur, h1, _, _, h2, _⟩
  · omega
  · injection h1 with _ _ h3
    omega
set_option maxRecDepth 100000 in
set_option maxHeartbeats 4000000 in
theorem hole_step (m : Nat) (A : Option Addr) (len cap size q f : Nat) (es : List E3) (hl : len ≤ 45) (hm : m ≤ 10) (hs : size ≤ 10) (hqs : q + 1 + (f + 1) = size) (ih : HoleCall m A len cap size es f (q + 1 + 1)) : HoleCall m A len cap size es (f + 1) (q + 1) := by
  intro l Al capl w hE hI hc hlt hnd
  have hqs1 : q + 1 < size := by omega
  have HIH := Lib.hid ih
  have HX := Lib.hid (BoxG.start (n := m) (cap := cap) hE)
  have HLL : Hid (l.length = q + 1) := Lib.hid (by have := hI.1; rwa [natsL_length] at this)
  have HI := Lib.hid hI
  have HLT := Lib.hid hlt
  have HND := Lib.hid hnd
  obtain ⟨bl, ol, _, rfl, hbl, _, _⟩ := hI.at_ (show q < q + 1 by omega)
  clear hE hI hlt hnd ih
  obtain ⟨i0, hi, hz0, hz1, hz2⟩ := info_parts infoInt
  have HJ := Lib.hid hi
  have HJ0 := Lib.hid hz0
  have HJ1 := Lib.hid hz1
  have HJ2 := Lib.hid hz2
  clear hi hz0 hz1 hz2
  have hqb : ((q : Int) + 1 == (size : Int)) = false := by simp; omega
  have hqn : ¬ ((q : Int) + 1 = (size : Int)) := by omega
  go_enter Try.func29, Try.ntmps29
  go_wp2
  go_loopw [9, 10, 11] (fun j _ _ wr => ∃ i : Nat, i ≤ m ∧ j = .int .i64 i ∧ Hid (∀ y, y < i → holeF es m f l y = none) ∧ Hid (BoxG w m A len cap es wr)) (fun j _ _ _ => m - (intOf j).toNat)
  case atStart => exact ⟨0, Nat.zero_le _, rfl, Lib.hid (fun y hy => by omega), HX⟩
  case round =>
    obtain ⟨i, hi, rfl, HN, HB⟩ := hrel
    have hc0 := HB.out.c0
    have hc1 := HB.out.c1
    by_cases him : i < m
    · have hIr := HI.out.below HB.out.below
      obtain ⟨b', o', x, hA2, _, hx, hcx⟩ := hIr.at_ (show q < q + 1 by omega)
      injection hA2 with hA2
      injection hA2 with hA2 hA3
      subst hA2
      subst hA3
      obtain ⟨rfl, _⟩ := natsL_get hx
      have HIw := Lib.hid (HI.out.go_ HB.out.below)
      have HEr := Lib.hid HB.out.edges
      have hwl := HB.out.lt
      have HCND : Hid (candB (adjE es) l i = (!l.contains i && adjE es (l.getD q 0) i)) := Lib.hid (by
        unfold candB
        rw [HLL.out, show (l.isEmpty = false) by cases l with | nil => (have := HLL.out; simp at this) | cons a t => rfl]
        simp)
      have HNX : Hid (holeF es m f l i = none → ∀ y, y < i + 1 → holeF es m f l y = none) := Lib.hid fun h y hy => by
        rcases Nat.lt_or_ge y i with h1 | h1
        · exact HN.out y h1
        · obtain rfl : y = i := by omega
          exact h
      have HHAS := Lib.hid (has_natsH l i)
      clear hx hIr
      generalize hxx : l.getD q 0 = x at *
      have HXX := Lib.hid hxx
      clear hxx
      have ii0 : (0 : Int) ≤ (i : Int) := by omega
      have ii1 : (i : Int) < (m : Int) := by omega
      have iq0 : (0 : Int) ≤ (q : Int) := by omega
      have iq1 : (q : Int) < (q : Int) + 1 := by omega
      have iq2 : (q : Int) + 1 - 1 = (q : Int) := by omega
      have iq3 : (0 : Int) < (q : Int) + 1 := by omega
      have hw1 : IntKind.i64.wrap (q : Int) = (q : Int) := IntWalk.i64_in _ (by omega)
      have hw2 : IntKind.i64.wrap ((q : Int) + 1 - 1) = (q : Int) := by rw [Int.add_sub_cancel]; exact hw1
      cases hh : l.contains i with
      | true =>
        have HHT : Hid (hasI (natsL l) (i : Int) = true) := Lib.hid (by rw [HHAS.out, hh])
        have HN2 := Lib.hid (HNX.out (holeF_no (by rw [HCND.out, hh]; rfl)))
        clear hh HNX HCND HHAS
        go_wp2
        go_quiet ((go_at_call 27; exact Calls.quiet_of_same ((has_v (q + 1) capl (i : Int) true (some ⟨bl, ol, none⟩) (natsL l) _ (by exact HIw.out) (by omega) HHT.out).mono fun e w' h => ⟨h.1, h.2.symm⟩)))
        go_wp2
        go_roundw
        case rel => exact ⟨i + 1, by omega, by go_num, HN2, Lib.hid (HB.out.next (below_drewN (Below.refl _ _) _))⟩
        case measure => simp [intOf]; omega
      | false =>
        have HHF : Hid (hasI (natsL l) (i : Int) = false) := Lib.hid (by rw [HHAS.out, hh])
        cases ha : adjE es x i with
        | false =>
          have HAD : Hid (nearI es (x : Int) (i : Int) = false) := Lib.hid (by rw [nearI_nat]; exact ha)
          have HN2 := Lib.hid (HNX.out (holeF_no (by rw [HCND.out, ha]; simp)))
          clear hh ha HNX HCND HHAS
          go_wp2
          go_region_held3 (fun W => W.cell? ⟨w.heap.size, 0, none⟩ = some (.int .i64 m) ∧ W.cell? ⟨w.heap.size, 1, none⟩ = some (.slice A len cap) ∧ W.cell? ⟨bl, ol + q, none⟩ = some (.int .i64 x))
            (first | exact ⟨hc0, hc1, hcx⟩ | exact ⟨q0, q1, q2⟩ | go_keep)
            (first
              | (go_at_call 27; refine (has_v (q + 1) capl (i : Int) false (some ⟨bl, ol, none⟩) (natsL l) _ (by exact HIw.out) (by omega) HHF.out).mono ?_; rintro e W3 ⟨rfl, rfl⟩)
              | (go_at_call 30; refine (near_v m x i A len cap es false _ (by exact HEr.out) hl HAD.out).mono ?_; rintro e W4 ⟨rfl, hb4⟩; have q0 := (hb4.cell (p := ⟨w.heap.size, 0, none⟩) (by exact hwl)).trans hc0; have q1 := (hb4.cell (p := ⟨w.heap.size, 1, none⟩) (by exact hwl)).trans hc1; have q2 := (hb4.cell (p := ⟨bl, ol + q, none⟩) (by show bl < _; simp; omega)).trans hcx; have HB4 := Lib.hid hb4; clear hb4))
          have HB5 : Hid (BoxG w m A len cap es W4) := Lib.hid (HB.out.next ((Below.refl _ _).drew.trans HB4.out))
          clear HB4 HAD q0 q1 q2
          go_wp2
          go_roundw
          case rel => exact ⟨i + 1, by omega, by go_num, HN2, HB5⟩
          case measure => simp [intOf]; omega
        | true =>
          have HAD : Hid (nearI es (x : Int) (i : Int) = true) := Lib.hid (by rw [nearI_nat]; exact ha)
          have HYES : Hid (f = 0 ∨ RowL (adjE es) (l ++ [i]) → holeF es m f l i = refBareF (adjE es) m f (l ++ [i])) := Lib.hid (fun h => holeF_yes (by rw [HCND.out, hh, ha]; rfl) h)
          have HNEW : Hid (∀ j, j < q + 1 → l.getD j 0 ≠ i) := Lib.hid fun j hj he => by
            have : i ∈ l := by rw [← he, List.getD_eq_getElem?_getD, List.getElem?_eq_getElem (by have := HLL.out; omega)]; exact List.getElem_mem _
            rw [← List.contains_iff_mem, hh] at this
            cases this
          clear hh ha HCND HHAS
          go_wp2
          go_region_held3 (fun W => W.cell? ⟨w.heap.size, 0, none⟩ = some (.int .i64 m) ∧ W.cell? ⟨w.heap.size, 1, none⟩ = some (.slice A len cap) ∧ W.cell? ⟨bl, ol + q, none⟩ = some (.int .i64 x))
            (first | exact ⟨hc0, hc1, hcx⟩ | exact ⟨q0, q1, q2⟩ | go_keep)
            (first
              | (go_at_call 27; refine (has_v (q + 1) capl (i : Int) false (some ⟨bl, ol, none⟩) (natsL l) _ (by exact HIw.out) (by omega) HHF.out).mono ?_; rintro e W3 ⟨rfl, rfl⟩)
              | (go_at_call 30; refine (near_v m x i A len cap es true _ (by exact HEr.out) hl HAD.out).mono ?_; rintro e W4 ⟨rfl, hb4⟩; have q0 := (hb4.cell (p := ⟨w.heap.size, 0, none⟩) (by exact hwl)).trans hc0; have q1 := (hb4.cell (p := ⟨w.heap.size, 1, none⟩) (by exact hwl)).trans hc1; have q2 := (hb4.cell (p := ⟨bl, ol + q, none⟩) (by show bl < _; simp; omega)).trans hcx; have HB4 := Lib.hid hb4; clear hb4))
          have HB5 : Hid (BoxG w m A len cap es W4) := Lib.hid (HB.out.next ((Below.refl _ _).drew.trans HB4.out))
          clear HB4 HAD q0 q1 q2 hc0 hc1 hcx HIw HEr HHF
          have HIl : Hid (IntsAt W4 W4.heap.size (some ⟨bl, ol, none⟩) (q + 1) (natsL l)) := Lib.hid (HI.out.go_ HB5.out.below)
          have HOW : Hid ((W4.alloc (.cells #[] 3)).ownsRow W4.heap.size 3 1 (.slice (some ⟨W4.heap.size, 0, none⟩) 0 0) 0 []) := Lib.hid ⟨rfl, .inr ⟨W4.heap.size, 0, _, rfl, Nat.le_refl _, (MapKept.heap_alloc W4 _).1, Nat.le_refl _, by unfold maxLen; omega, rfl, rfl⟩⟩
          go_wp2_with (at_builtin; refine wpList_append_own _ rfl _ _ 25 rfl W4.heap.size 3 i0 (.int .i64 0) 1 8 Try.underlying25 HJ.out HJ0.out HJ1.out HJ2.out rfl (by decide) _ _ _ rfl HOW.out ⟨bl, ol, none⟩ (q + 1) capl (l.map nH) rfl (by rw [List.length_map, HLL.out, Nat.mul_one]) ?c1 ?c2 ?c3 ?c4 ?c5 ?_)
          case c1 => exact ints_newsH HIl.out
          case c2 => exact nH_one l
          case c3 => unfold maxLen; omega
          case c4 => omega
          case c5 => simp
          intro v1 w5 hown5 hgrow5 _
          have HO5 : Hid (w5.ownsRow W4.heap.size 3 1 v1 (q + 1) (l.map nH)) := Lib.hid hown5
          have HB5g : Hid (Below W4.heap.size W4 w5) := Lib.hid (((Below.refl _ _).alloc (Nat.le_refl _) _).grown hgrow5 (by simp) (fun g hg => by simp [Value.ownBlock] at hg; omega))
          clear hown5 hgrow5 HOW
          have hs5 := HB5g.out.size
          go_wp2_with (at_builtin; refine wpList_append_own _ rfl _ _ 25 rfl W4.heap.size 3 i0 (.int .i64 0) 1 8 Try.underlying25 HJ.out HJ0.out HJ1.out HJ2.out rfl (by decide) _ _ _ rfl (HO5.out.alloc _) ⟨w5.heap.size, 0, none⟩ 1 1 [.int .i64 (i : Int)] rfl rfl ?d1 ?d2 ?d3 ?d4 ?d5 ?_)
          try (case d1 => exact cell_one_new _ _ _)
          case d2 => simp [Value.oneCell']
          case d3 => unfold maxLen; omega
          case d4 => omega
          case d5 => simp; omega
          intro v2 w6 hown6 hgrow6 _
          obtain ⟨g2, c2, HV2⟩ : ∃ g2 c2, Hid (v2 = .slice (some ⟨g2, 0, none⟩) (q + 1 + 1) c2) := by
            obtain ⟨g2, c2, hv⟩ := own_someH hown6 (by omega)
            exact ⟨g2, c2, Lib.hid hv⟩
          obtain rfl := HV2.out
          have HI6 : Hid (IntsAt w6 w6.heap.size (some ⟨g2, 0, none⟩) (q + 1 + 1) (natsL (l ++ [i]))) := Lib.hid (IntsAt.of_own (t := 3) (by rw [show (natsL (l ++ [i])).map (Value.int .i64) = l.map nH ++ [.int .i64 (i : Int)] by rw [← nH_natsL, List.map_append]; rfl]; exact hown6) (Nat.le_refl _))
          have hc2 : q + 1 + 1 ≤ c2 := own_capH hown6
          have HB6 : Hid (BoxG w m A len cap es w6) := Lib.hid (HB5.out.next ((HB5g.out.alloc hs5 _).grown hgrow6 (by simp; omega) (fun g hg => own_base HO5.out g hg)))
          clear hown6 hgrow6 HV2 HO5
          have HLT6 : Hid (∀ j, j < q + 1 + 1 → (l ++ [i]).getD j 0 < m) := Lib.hid fun j hj => by
            rw [getD_snoc, HLL.out]
            by_cases hj1 : j < q + 1
            · rw [if_pos hj1]; exact HLT.out j hj1
            · rw [if_neg hj1, if_pos (by omega)]; exact him
          have HND6 : Hid (∀ a b, a < b → b < q + 1 + 1 → (l ++ [i]).getD a 0 ≠ (l ++ [i]).getD b 0) := Lib.hid fun a b hab hb => by
            rw [getD_snoc, getD_snoc, HLL.out, if_pos (show a < q + 1 by omega)]
            by_cases hb1 : b < q + 1
            · rw [if_pos hb1]; exact HND.out a b hab hb1
            · rw [if_neg hb1, if_pos (by omega)]; exact HNEW.out a (by omega)
          have hd0 := HB6.out.c0
          have hd1 := HB6.out.c1
          have hs0 : decide (0 < (size : Int)) = true := by simp; omega
          have hs1 : decide (0 < size) = true := by simp; omega
          have hs2 : 0 < size := by omega
          have HCALL := Lib.hid (HIH.out (l ++ [i]) (some ⟨g2, 0, none⟩) c2 w6 HB6.out.edges HI6.out hc2 HLT6.out HND6.out)
          clear HIl HB5g HB5
          by_cases hf0 : f = 0
          · have HRF : Hid (holeF es m f l i = refBareF (adjE es) m f (l ++ [i])) := Lib.hid (HYES.out (.inl hf0))
            have hlt0 : ¬ (q : Int) + 1 + 1 < (size : Int) := by omega
            clear hf0
            cases hr : refBareF (adjE es) m f (l ++ [i]) with
            | some r =>
              have HO := Lib.hid (holeF_one HN.out him (by rw [HRF.out]; exact hr))
              have HR := Lib.hid hr
              clear hr
              go_wp2_with (go_at_call 29; refine HCALL.out.mono ?_; rintro e w7 ⟨ho, hb7⟩; obtain ⟨A7, cap7, rfl, hi7⟩ := ho.some_ r HR.out; have HI7 := Lib.hid hi7; have HB7 := Lib.hid (HB6.out.next hb7); clear ho hi7 hb7)
              go_ret
              exact ⟨⟨fun r' h => (by rw [HO.out] at h; injection h with h; subst h; exact ⟨_, _, rfl, HI7.out⟩), fun h => (by rw [HO.out] at h; cases h)⟩, HB7.out.below⟩
            | none =>
              have HN2 := Lib.hid (HNX.out (by rw [HRF.out]; exact hr))
              have HR := Lib.hid hr
              clear hr
              go_wp2_with (go_at_call 29; refine HCALL.out.mono ?_; rintro e w7 ⟨ho, hb7⟩; obtain rfl := ho.none_ HR.out; have HB7 := Lib.hid (HB6.out.next hb7); clear ho hb7)
              go_roundw
              case rel => exact ⟨i + 1, by omega, by go_num, HN2, HB7⟩
              case measure => simp [intOf]; omega
          · have hlt0 : (q : Int) + 1 + 1 < (size : Int) := by omega
            by_cases hrow : RowL (adjE es) (l ++ [i])
            · have HRF : Hid (holeF es m f l i = refBareF (adjE es) m f (l ++ [i])) := Lib.hid (HYES.out (.inr hrow))
              have HRW := Lib.hid (refRow_any (m : Int) A len cap es (some ⟨g2, 0, none⟩) (q + 1 + 1) c2 (l ++ [i]) true w6 HB6.out.edges (show IntsAt w6 w6.heap.size (some ⟨g2, 0, none⟩) (q + 1 + 1) (natG (l ++ [i])) from HI6.out) hl (by omega) ⟨fun _ => (by unfold RowL at hrow; rw [List.length_append, HLL.out] at hrow; exact hrow), fun _ => rfl⟩)
              clear hf0 hrow HCALL
              go_wp2_with fail
              refine HRW.out.mono ?_
              rintro e w8 ⟨rfl, hb8⟩
              have HB8 := Lib.hid (HB6.out.next hb8)
              have HI8 := Lib.hid (HI6.out.go_ hb8)
              have hf0 := HB8.out.c0
              have hf1 := HB8.out.c1
              have HCALL := Lib.hid (HIH.out (l ++ [i]) (some ⟨g2, 0, none⟩) c2 w8 HB8.out.edges HI8.out hc2 HLT6.out HND6.out)
              clear hb8 hd0 hd1 HRW HIH HI6 HI8
              cases hr : refBareF (adjE es) m f (l ++ [i]) with
              | some r =>
                have HO := Lib.hid (holeF_one HN.out him (by rw [HRF.out]; exact hr))
                have HR := Lib.hid hr
                clear hr
                go_wp2_with (go_at_call 29; refine HCALL.out.mono ?_; rintro e w7 ⟨ho, hb7⟩; obtain ⟨A7, cap7, rfl, hi7⟩ := ho.some_ r HR.out; have HI7 := Lib.hid hi7; have HB7 := Lib.hid (HB8.out.next hb7); clear ho hi7 hb7)
                go_ret
                exact ⟨⟨fun r' h => (by rw [HO.out] at h; injection h with h; subst h; exact ⟨_, _, rfl, HI7.out⟩), fun h => (by rw [HO.out] at h; cases h)⟩, HB7.out.below⟩
              | none =>
                have HN2 := Lib.hid (HNX.out (by rw [HRF.out]; exact hr))
                have HR := Lib.hid hr
                clear hr
                go_wp2_with (go_at_call 29; refine HCALL.out.mono ?_; rintro e w7 ⟨ho, hb7⟩; obtain rfl := ho.none_ HR.out; have HB7 := Lib.hid (HB8.out.next hb7); clear ho hb7)
                go_roundw
                case rel => exact ⟨i + 1, by omega, by go_num, HN2, HB7⟩
                case measure => simp [intOf]; omega
            · have HN2 := Lib.hid (HNX.out (holeF_row hf0 hrow))
              have HRW := Lib.hid (refRow_any (m : Int) A len cap es (some ⟨g2, 0, none⟩) (q + 1 + 1) c2 (l ++ [i]) false w6 HB6.out.edges (show IntsAt w6 w6.heap.size (some ⟨g2, 0, none⟩) (q + 1 + 1) (natG (l ++ [i])) from HI6.out) hl (by omega) ⟨fun h => (by cases h), fun h => absurd (by unfold RowL; rw [List.length_append, HLL.out]; exact h) hrow⟩)
              clear hf0 hrow HCALL HIH HI6
              go_wp2_with fail
              refine HRW.out.mono ?_
              rintro e w8 ⟨rfl, hb8⟩
              have HB8 := Lib.hid (HB6.out.next hb8)
              clear hb8 hd0 hd1
              go_wp2_with fail
              go_roundw
              case rel => exact ⟨i + 1, by omega, by go_num, HN2, HB8⟩
              case measure => simp [intOf]; omega
    · have HO := Lib.hid (holeF_all (fun y hy => HN.out y (by omega)))
      go_wp2
      go_ret
      exact ⟨⟨fun r h => (by rw [HO.out] at h; cases h), fun _ => rfl⟩, HB.out.below⟩
end Go.Proofs.Yticickicfigpbaa
