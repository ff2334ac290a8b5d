/- The reference's paint: the first colouring that begins with some. Condition: at most ten nodes. -/
import Derived.Test.YtpcealcghglopaaZBoxB
import Derived.Test.YtpcealcghglopaaZNear
import Derived.Test.YtpcealcghglopaaZb2
import Derived.Test.YtpcealcghglopaaZRefGreedy
import Derived.Deep.RegionHeld3
namespace Go.Proofs.Ytpcealcghglopaa
open Go.RowKit

/-- May the next node have colour c, as far as the first j nodes go? -/
def okTo (adj : Nat → Nat → Bool) (l : List Nat) (c : Nat) : Nat → Bool
  | 0 => true
  | j + 1 => okTo adj l c j && (((l.getD j 0 : Nat) != c) || !adj j l.length)
def paintTo (rec_ : Nat → Option (List Nat)) (ok : Nat → Bool) : Nat → Option (List Nat)
  | 0 => none
  | c + 1 => match paintTo rec_ ok c with
    | some m => some m
    | none => if ok c = true then rec_ c else none
/-- The first colouring by k colours that begins with l, of r nodes more. -/
def paintF (adj : Nat → Nat → Bool) (k : Nat) : Nat → List Nat → Option (List Nat)
  | 0, l => some l
  | r + 1, l => paintTo (fun c => paintF adj k r (l ++ [c])) (fun c => okTo adj l c l.length) k
theorem paintTo_some {rec_ : Nat → Option (List Nat)} {ok : Nat → Bool} {m : List Nat} : ∀ {k c : Nat}, c ≤ k → paintTo rec_ ok c = some m → paintTo rec_ ok k = some m
  | 0, c, hc, h => by
    obtain rfl : c = 0 := by omega
    exact h
  | k + 1, c, hc, h => by
    by_cases e : c = k + 1
    · subst e; exact h
    · have h1 := paintTo_some (k := k) (by omega) h
      show (match paintTo rec_ ok k with | some m => some m | none => _) = _
      rw [h1]
theorem paintTo_step {rec_ : Nat → Option (List Nat)} {ok : Nat → Bool} {c : Nat} (h : paintTo rec_ ok c = none) : paintTo rec_ ok (c + 1) = if ok c = true then rec_ c else none := by
  show (match paintTo rec_ ok c with | some m => some m | none => _) = _
  rw [h]
/-- What paint tells. -/
def PaintOut (w : World) (n : Nat) (v : Option (List Nat)) (e : Ending) (w' : World) : Prop :=
  (v = none → e = .returned (.tuple #[.slice none 0 0, .bool false])) ∧ (∀ m, v = some m → ∃ A' c', e = .returned (.tuple #[.slice A' n c', .bool true]) ∧ ArgAt w' A' n c' (natG m)) ∧ Below w.heap.size w w'
theorem natG_snoc (l : List Nat) (c : Nat) : natG (l ++ [c]) = natG l ++ [(c : Int)] := by simp [natG]
set_option maxRecDepth 100000 in
set_option maxHeartbeats 8000000 in
theorem refPaint_rec (n k : Nat) (A : Option Addr) (len cap : Nat) (es : List E3) (hn : n ≤ 10) (hk : k ≤ 100) (hl : len ≤ 45) :
    ∀ (r m : Nat) (A2 : Option Addr) (c2 : Nat) (pre : List Nat) (v : Option (List Nat)) (w : World), m + r = n → ArgAt w A2 m c2 (natG pre) → EdgesAt w w.heap.size A len es → paintF (adjE es) k r pre = v →
    Calls Try.prog 38 #[.agg #[.int .i64 (n : Int), .slice A len cap], .int .i64 (k : Int), .slice A2 m c2] w (PaintOut w n v) := by
  intro r
  induction r with
  | zero =>
    intro m A2 c2 pre v w hmr HA hE hv
    obtain rfl : m = n := by omega
    have HX := Lib.hid (BoxG.start (n := (m : Int)) (cap := cap) hE)
    have HA0 := Lib.hid HA
    have HR : Hid (∀ e, e = Ending.returned (.tuple #[.slice A2 m c2, .bool true]) → PaintOut w m v e (bx w (m : Int) A len cap)) := Lib.hid fun e he => by
      have hv' : some pre = v := hv
      subst hv'
      refine ⟨(fun h => by cases h), fun l h => ⟨A2, c2, he, ?_⟩, HX.out.below⟩
      injection h with h
      subst h
      exact HA0.out.keep ((Below.refl _ _).alloc (Nat.le_refl _) _)
    have k0 := HX.out.c0
    clear HA hE hv
    go_enter Try.func38, Try.ntmps38
    go_wp2_with fail
    go_ret2
    exact HR.out _ rfl
  | succ r IH =>
    intro m A2 c2 pre v w hmr HA hE hv
    have hmn : m < n := by omega
    have hpl : pre.length = m := by have := HA.1; simpa [natG] using this
    have HIH := Lib.hid IH
    have HE := Lib.hid hE
    have HX := Lib.hid (BoxG.start (n := (n : Int)) (cap := cap) hE)
    have HARW := Lib.hid HA
    have HPL := Lib.hid hpl
    obtain ⟨rec_, hrec⟩ : ∃ rec_ : Nat → Option (List Nat), rec_ = fun c => paintF (adjE es) k r (pre ++ [c]) := ⟨_, rfl⟩
    obtain ⟨ok, hok⟩ : ∃ ok : Nat → Bool, ok = fun c => okTo (adjE es) pre c pre.length := ⟨_, rfl⟩
    have HREC := Lib.hid hrec
    have HOK := Lib.hid hok
    have HV : Hid (paintTo rec_ ok k = v) := Lib.hid (by rw [hrec, hok]; exact hv)
    have hne : ((m : Int) == (n : Int)) = false := by simp; omega
    have k0 := HX.out.c0
    clear HA hE hv hpl hrec hok IH
    go_enter Try.func38, Try.ntmps38
    go_wp2_with fail
    clear k0
    go_loopw [8] (fun y wr => ∃ c : Nat, c ≤ k ∧ y = .int .i64 c ∧ Hid (paintTo rec_ ok c = none) ∧ Hid (BoxG w (n : Int) A len cap es wr)) (fun y _ => k - (intOf y).toNat)
    case atStart => exact ⟨0, Nat.zero_le _, rfl, Lib.hid rfl, HX⟩
    case round =>
      clear HX
      obtain ⟨c, hc, rfl, HN, HB⟩ := hrel
      by_cases hck : c < k
      · have HAR : ∀ W, Below wr.heap.size wr W → Hid (ArgAt W A2 m c2 (natG pre)) := fun W hW => Lib.hid (HARW.out.keep (HB.out.below.trans (hW.mono HB.out.below.size)))
        have ic0 : (0 : Int) ≤ (c : Int) := by omega
        have ic1 : (c : Int) < (k : Int) := by omega
        obtain ⟨wo, rfl⟩ : ∃ wo : World, wo = wr := ⟨_, rfl⟩
        go_wp2_with fail
        go_loopw [9, 10] (fun y z wr => ∃ j : Nat, j ≤ m ∧ y = .bool (okTo (adjE es) pre c j) ∧ z = .int .i64 j ∧ Hid (Below wo.heap.size wo wr)) (fun _ z _ => m - (intOf z).toNat)
        case atStart => exact ⟨0, Nat.zero_le _, rfl, rfl, Lib.hid (Below.refl _ _)⟩
        case round =>
          obtain ⟨j, hj, rfl, rfl, HBi⟩ := hrel
          have HBX := Lib.hid (HB.out.next HBi.out)
          have k0 := HBX.out.c0
          have k1 := HBX.out.c1
          by_cases hjm : j < m
          · have HNX : Hid (okTo (adjE es) pre c (j + 1) = (okTo (adjE es) pre c j && (((pre.getD j 0 : Nat) != c) || !adjE es j m))) := Lib.hid (by rw [← HPL.out]; rfl)
            have HARj := HAR wr HBi.out
            obtain ⟨b', off', x, rfl, _, hx, hcx⟩ := HARj.out.ints.at_ hjm
            obtain ⟨p, hp, rfl⟩ := natG_get hx
            have HP : Hid (pre.getD j 0 = p) := Lib.hid (by rw [List.getD_eq_getElem?_getD, hp]; rfl)
            rw [HP.out] at HNX
            have ij0 : (0 : Int) ≤ (j : Int) := by omega
            have ij1 : (j : Int) < (m : Int) := by omega
            clear hx hp
            generalize okTo (adjE es) pre c j = t0 at *
            obtain ⟨t1, ht1⟩ : ∃ t1, okTo (adjE es) pre c (j + 1) = t1 := ⟨_, rfl⟩
            have HT1 := Lib.hid ht1
            rw [ht1] at HNX
            clear ht1
            cases t0 with
            | false =>
              have HF : Hid (t1 = false) := Lib.hid (by rw [HNX.out]; rfl)
              clear hcx HNX
              go_wp2_with fail
              go_roundw
              case rel => exact ⟨j + 1, by omega, by rw [HT1.out, HF.out], by go_num, HBi⟩
              case measure => simp [intOf]; omega
            | true =>
              by_cases hpc : p = c
              · have hq : ((p : Int) != (c : Int)) = false := by simp [hpc]
                obtain ⟨u, hu⟩ : ∃ u, adjE es j m = u := ⟨_, rfl⟩
                have HF : Hid (t1 = !u) := Lib.hid (by rw [HNX.out, hu]; simp [hpc])
                have HNR : Hid (nearI es (j : Int) (m : Int) = u) := Lib.hid hu
                clear hu HNX hpc
                go_wp2_with fail
                refine (near_v (n : Int) (j : Int) (m : Int) A len cap es u _ (by exact HBX.out.edges) hl HNR.out).mono ?_
                rintro e w5 ⟨rfl, hB⟩
                have HB5 := Lib.hid (HBi.out.trans (hB.mono HBi.out.size))
                clear hB k0 k1 hcx
                go_wp2_with fail
                go_roundw
                case rel => exact ⟨j + 1, by omega, by rw [HT1.out, HF.out], by go_num, HB5⟩
                case measure => simp [intOf]; omega
              · have hq : ((p : Int) != (c : Int)) = true := by simp; omega
                have HF : Hid (t1 = true) := Lib.hid (by rw [HNX.out]; simp [hpc])
                clear HNX hpc
                go_wp2_with fail
                go_roundw
                case rel => exact ⟨j + 1, by omega, by rw [HT1.out, HF.out], by go_num, HBi⟩
                case measure => simp [intOf]; omega
          · obtain rfl : j = m := by omega
            obtain ⟨o, ho⟩ : ∃ o, okTo (adjE es) pre c j = o := ⟨_, rfl⟩
            have HOC : Hid (ok c = o) := Lib.hid (by rw [HOK.out]; show okTo (adjE es) pre c pre.length = o; rw [HPL.out]; exact ho)
            rw [ho]
            clear ho
            cases o with
            | false =>
              have HN2 : Hid (paintTo rec_ ok (c + 1) = none) := Lib.hid (by rw [paintTo_step HN.out, HOC.out]; rfl)
              go_wp2_with fail
              go_roundw
              case rel => exact ⟨c + 1, by omega, by go_num, HN2, HBX⟩
              case measure => simp [intOf]; omega
            | true =>
              have HARG := HAR wr HBi.out
              have hm8 : j ≤ 100000 := by omega
              obtain ⟨v1, hv1⟩ : ∃ v1, rec_ c = v1 := ⟨_, rfl⟩
              have HV1 := Lib.hid hv1
              have HCALL : Hid (∀ A5 c5 w5, Below wr.heap.size wr w5 → ArgAt w5 A5 (j + 1) c5 (natG pre ++ [(c : Int)]) → Calls Try.prog 38 #[.agg #[.int .i64 (n : Int), .slice A len cap], .int .i64 (k : Int), .slice A5 ((j + 1 : Nat)) c5] w5 (PaintOut w5 n v1)) := Lib.hid fun A5 c5 w5 hb5 ha5 =>
                HIH.out (j + 1) A5 c5 (pre ++ [c]) v1 w5 (by omega) (by rw [natG_snoc]; exact ha5) (HBX.out.edges.go_ hb5) (by rw [← hv1, HREC.out])
              have HST : Hid (paintTo rec_ ok (c + 1) = v1) := Lib.hid (by rw [paintTo_step HN.out, HOC.out, if_pos rfl, hv1])
              clear hv1 HN HOC
              go_wp2_with fail
              cases v1 with
              | none =>
                go_region_held3 (fun W => W.cell? ⟨w.heap.size, 0, none⟩ = some (.int .i64 n) ∧ W.cell? ⟨w.heap.size, 1, none⟩ = some (.slice A len cap))
                (first | exact ⟨k0, k1⟩ | exact keep_alloc (by assumption) | exact hq6.out | exact hq5.out | exact hq4.out)
                (first
                  | (refine step_app_new rfl (.tmp 51) (.tmp 52) rfl wr wr.heap.size A2 j c2 (natG pre) rfl rfl (by first | exact below_two wr _ _ | exact (Below.refl _ wr).drew.alloc (Nat.le_refl _) _) (Nat.le_refl _) (by first | exact heap_two_old wr.drew _ _ | exact heap_alloc_new wr.drew _) HARG.out hm8 ?_; intro A4 c4 w4 hown4 hb4 hs4 hk4; have HB4 := Lib.hid hb4; have HO4 := Lib.hid hown4; have HK4 := Lib.hid hk4; have HS4 := Lib.hid hs4; have hq4 := Lib.hid (And.intro ((HBX.out.next hb4).c0) ((HBX.out.next hb4).c1)); clear hown4 hb4 hs4 hk4)
                  | (refine step_app_new rfl (.tmp 51) (.tmp 52) rfl wr (wr.heap.size + 1) A2 j c2 (natG pre) rfl rfl (below_two wr _ _) (Nat.le_succ _) (heap_two_new wr.drew _ _) HARG.out hm8 ?_; intro A4 c4 w4 hown4 hb4 hs4 hk4; have HB4 := Lib.hid hb4; have HO4 := Lib.hid hown4; have HK4 := Lib.hid hk4; have HS4 := Lib.hid hs4; have hq4 := Lib.hid (And.intro ((HBX.out.next hb4).c0) ((HBX.out.next hb4).c1)); clear hown4 hb4 hs4 hk4)
                  | (refine step_app_one rfl (.tmp 53) (.tmp 55) rfl wr w4.heap.size A4 j c4 (natG pre) (c : Int) rfl rfl (HB4.out.alloc HB4.out.size _) (HO4.out.alloc _) (heap_alloc_new w4 _) hm8 ?_; intro A5 c5 w5 ha5 hb5; have HA5 := Lib.hid ha5; have HB5 := Lib.hid hb5; have hq5 := Lib.hid (And.intro ((HBX.out.next hb5).c0) ((HBX.out.next hb5).c1)); clear ha5 hb5)
                  | (refine step_app_one rfl (.tmp 53) (.tmp 55) rfl wr (wr.heap.size + 1) A4 j c4 (natG pre) (c : Int) rfl rfl HB4.out HO4.out ((HK4.out (wr.heap.size + 1) (by simp) (by omega)).trans (heap_two_new wr.drew _ _)) hm8 ?_; intro A5 c5 w5 ha5 hb5; have HA5 := Lib.hid ha5; have HB5 := Lib.hid hb5; have hq5 := Lib.hid (And.intro ((HBX.out.next hb5).c0) ((HBX.out.next hb5).c1)); clear ha5 hb5)
                  | (refine step_app_one rfl (.tmp 53) (.tmp 55) rfl wr wr.heap.size A4 j c4 (natG pre) (c : Int) rfl rfl HB4.out HO4.out ((HK4.out wr.heap.size (by simp; omega) (by omega)).trans (heap_two_old wr.drew _ _)) hm8 ?_; intro A5 c5 w5 ha5 hb5; have HA5 := Lib.hid ha5; have HB5 := Lib.hid hb5; have hq5 := Lib.hid (And.intro ((HBX.out.next hb5).c0) ((HBX.out.next hb5).c1)); clear ha5 hb5)
                  | (go_at_call 38; refine (HCALL.out _ _ _ HB5.out HA5.out).mono ?_; rintro e w6 ⟨h6, _, hb6⟩; obtain rfl := h6 rfl; have HB56 : Hid (Below wr.heap.size wr w6) := Lib.hid (HB5.out.trans (hb6.mono HB5.out.size)); have hq6 := Lib.hid (And.intro ((HBX.out.next HB56.out).c0) ((HBX.out.next HB56.out).c1)); clear h6 hb6))
                all_goals
                  have HBE := Lib.hid (HBX.out.next HB56.out)
                  clear HCALL
                  go_wp2_with fail
                  go_roundw
                  case rel => exact ⟨c + 1, by omega, by go_num, HST, HBE⟩
                  case measure => simp [intOf]; omega
              | some mm =>
                go_region_held3 (fun W => W.cell? ⟨w.heap.size, 0, none⟩ = some (.int .i64 n) ∧ W.cell? ⟨w.heap.size, 1, none⟩ = some (.slice A len cap))
                (first | exact ⟨k0, k1⟩ | exact keep_alloc (by assumption) | exact hq6.out | exact hq5.out | exact hq4.out)
                (first
                  | (refine step_app_new rfl (.tmp 51) (.tmp 52) rfl wr wr.heap.size A2 j c2 (natG pre) rfl rfl (by first | exact below_two wr _ _ | exact (Below.refl _ wr).drew.alloc (Nat.le_refl _) _) (Nat.le_refl _) (by first | exact heap_two_old wr.drew _ _ | exact heap_alloc_new wr.drew _) HARG.out hm8 ?_; intro A4 c4 w4 hown4 hb4 hs4 hk4; have HB4 := Lib.hid hb4; have HO4 := Lib.hid hown4; have HK4 := Lib.hid hk4; have HS4 := Lib.hid hs4; have hq4 := Lib.hid (And.intro ((HBX.out.next hb4).c0) ((HBX.out.next hb4).c1)); clear hown4 hb4 hs4 hk4)
                  | (refine step_app_new rfl (.tmp 51) (.tmp 52) rfl wr (wr.heap.size + 1) A2 j c2 (natG pre) rfl rfl (below_two wr _ _) (Nat.le_succ _) (heap_two_new wr.drew _ _) HARG.out hm8 ?_; intro A4 c4 w4 hown4 hb4 hs4 hk4; have HB4 := Lib.hid hb4; have HO4 := Lib.hid hown4; have HK4 := Lib.hid hk4; have HS4 := Lib.hid hs4; have hq4 := Lib.hid (And.intro ((HBX.out.next hb4).c0) ((HBX.out.next hb4).c1)); clear hown4 hb4 hs4 hk4)
                  | (refine step_app_one rfl (.tmp 53) (.tmp 55) rfl wr w4.heap.size A4 j c4 (natG pre) (c : Int) rfl rfl (HB4.out.alloc HB4.out.size _) (HO4.out.alloc _) (heap_alloc_new w4 _) hm8 ?_; intro A5 c5 w5 ha5 hb5; have HA5 := Lib.hid ha5; have HB5 := Lib.hid hb5; have hq5 := Lib.hid (And.intro ((HBX.out.next hb5).c0) ((HBX.out.next hb5).c1)); clear ha5 hb5)
                  | (refine step_app_one rfl (.tmp 53) (.tmp 55) rfl wr (wr.heap.size + 1) A4 j c4 (natG pre) (c : Int) rfl rfl HB4.out HO4.out ((HK4.out (wr.heap.size + 1) (by simp) (by omega)).trans (heap_two_new wr.drew _ _)) hm8 ?_; intro A5 c5 w5 ha5 hb5; have HA5 := Lib.hid ha5; have HB5 := Lib.hid hb5; have hq5 := Lib.hid (And.intro ((HBX.out.next hb5).c0) ((HBX.out.next hb5).c1)); clear ha5 hb5)
                  | (refine step_app_one rfl (.tmp 53) (.tmp 55) rfl wr wr.heap.size A4 j c4 (natG pre) (c : Int) rfl rfl HB4.out HO4.out ((HK4.out wr.heap.size (by simp; omega) (by omega)).trans (heap_two_old wr.drew _ _)) hm8 ?_; intro A5 c5 w5 ha5 hb5; have HA5 := Lib.hid ha5; have HB5 := Lib.hid hb5; have hq5 := Lib.hid (And.intro ((HBX.out.next hb5).c0) ((HBX.out.next hb5).c1)); clear ha5 hb5)
                  | (go_at_call 38; refine (HCALL.out _ _ _ HB5.out HA5.out).mono ?_; rintro e w6 ⟨_, h6, hb6⟩; obtain ⟨A6, c6, rfl, ha6⟩ := h6 mm rfl; have HA6 := Lib.hid ha6; have HB56 : Hid (Below wr.heap.size wr w6) := Lib.hid (HB5.out.trans (hb6.mono HB5.out.size)); have hq6 := Lib.hid (And.intro ((HBX.out.next HB56.out).c0) ((HBX.out.next HB56.out).c1)); clear h6 hb6 ha6))
                all_goals
                  have HR : Hid (∀ e, e = Ending.returned (.tuple #[.slice A6 n c6, .bool true]) → PaintOut w n v e w6) := Lib.hid fun e he => by
                    rw [← HV.out, paintTo_some (show c + 1 ≤ k by omega) HST.out]
                    refine ⟨(fun h => by cases h), fun l h => ⟨A6, c6, he, ?_⟩, (HBX.out.next HB56.out).below⟩
                    injection h with h
                    subst h
                    exact HA6.out
                  clear HCALL
                  go_wp2_with fail
                  go_ret2
                  exact HR.out _ rfl
      · obtain rfl : c = k := by omega
        have HR : Hid (∀ e, e = Ending.returned (.tuple #[.slice none 0 0, .bool false]) → PaintOut w n v e wr) := Lib.hid fun e he => by
          rw [← HV.out, HN.out]
          exact ⟨fun _ => he, (fun _ h => by cases h), HB.out.below⟩
        go_wp2_with fail
        go_ret2
        exact HR.out _ rfl
end Go.Proofs.Ytpcealcghglopaa
