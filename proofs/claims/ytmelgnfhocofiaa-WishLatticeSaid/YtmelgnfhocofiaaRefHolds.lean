/- The reference's Holds. -/
import Derived.Test.YtmelgnfhocofiaaRefPairing
import Derived.Test.YtmelgnfhocofiaaHas
import Derived.Deep.QuietTactic
namespace Go.Proofs.Ytmelgnfhocofiaa
open Go.RowKit

theorem BoxS.drewN {w w1 : World} {A1 A2 : Option Addr} {n1 c1 n2 c2 : Nat} {Ls Rs : List (List Int)} (h : BoxS w A1 n1 c1 A2 n2 c2 Ls Rs w1) (k : Nat) : BoxS w A1 n1 c1 A2 n2 c2 Ls Rs (w1.drewN k) := ⟨h.left.drewN k, h.right.drewN k, below_drewN h.below k, below_drewN h.box k⟩
/-- All that is read. -/
structure RefW (w : World) (A1 : Option Addr) (n1 c1 : Nat) (A2 : Option Addr) (n2 c2 : Nat) (Ls Rs : List (List Int)) (A : Option Addr) (n : Nat) (xs : List Int) (w1 : World) : Prop where
  box : BoxS w A1 n1 c1 A2 n2 c2 Ls Rs w1
  list : IntsAt w1 w1.heap.size A n xs
theorem RefW.drewN {w w1 : World} {A1 A2 A : Option Addr} {n1 c1 n2 c2 n : Nat} {Ls Rs : List (List Int)} {xs : List Int} (h : RefW w A1 n1 c1 A2 n2 c2 Ls Rs A n xs w1) (k : Nat) : RefW w A1 n1 c1 A2 n2 c2 Ls Rs A n xs (w1.drewN k) := ⟨h.box.drewN k, h.list.drewN k⟩
/-- What the first loop asks of one. -/
def mayP (Ls Rs : List (List Int)) (xs : List Int) (i : Nat) : Prop := 0 ≤ xs.getD i (-1) → xs.getD i (-1) ∈ sd Ls i ∧ (i : Int) ∈ sd Rs (xs.getD i (-1)).toNat
/-- What the second asks of two. -/
def holdP2 (Ls Rs : List (List Int)) (xs : List Int) (i j : Nat) : Prop := ahd (sd Ls i) (j : Int) < ahd (sd Ls i) (xs.getD i (-1)) → ¬ ahd (sd Rs j) (i : Int) < ahd (sd Rs j) (owP xs (j : Int))
theorem sd_of {Ls : List (List Int)} {i : Nat} {l : List Int} (h : Ls[i]? = some l) : sd Ls i = l := by unfold sd; rw [List.getD_eq_getElem?_getD, h]; rfl

set_option maxRecDepth 100000 in
set_option maxHeartbeats 8000000 in
theorem refHolds_any (A1 A2 A : Option Addr) (n c1 c2 cap : Nat) (Ls Rs : List (List Int)) (xs : List Int) (q : Bool) (w : World) (S1 : SideAt w w.heap.size A1 n c1 Ls) (S2 : SideAt w w.heap.size A2 n c2 Rs) (hI : IntsAt w w.heap.size A n xs) (hn : n ≤ 8) (P : PairOK n xs)
    (o1 : ∀ l ∈ Ls, eachB n l = true) (o2 : ∀ l ∈ Rs, eachB n l = true) (hq : q = true ↔ HoldP n (sd Ls) (sd Rs) xs) :
    Calls Try.prog 15 #[.agg #[.slice A1 n c1, .slice A2 n c2], .slice A n cap] w fun e w' => e = .returned (.bool q) ∧ Below w.heap.size w w' := by
  have HW : Hid (RefW w A1 n c1 A2 n c2 Ls Rs A n xs (w.alloc (.cells #[.slice A1 n c1, .slice A2 n c2] 24))) := Lib.hid ⟨BoxS.start S1 S2, hI.go_ ((Below.refl _ _).alloc (Nat.le_refl _) _)⟩
  have HQ := Lib.hid hq
  have HP := Lib.hid P
  have HO1 := Lib.hid o1
  have HO2 := Lib.hid o2
  clear S1 S2 hI P o1 o2 hq
  go_enter Try.func15, Try.ntmps15
  go_wp2_with fail
  go_loopw [11] (fun j wr => ∃ i : Nat, i ≤ n ∧ j = .int .i64 i ∧ Hid (RefW w A1 n c1 A2 n c2 Ls Rs A n xs wr ∧ ∀ k, k < i → mayP Ls Rs xs k)) (fun j _ => n - (intOf j).toNat)
  case atStart => exact ⟨0, Nat.zero_le _, rfl, Lib.hid ⟨HW.out, fun k hk => absurd hk (by omega)⟩⟩
  case round =>
    clear HW
    obtain ⟨i, hi, rfl, HR⟩ := hrel
    by_cases hil : i < n
    · obtain ⟨b, off, x, hA, _, hx, hc⟩ := HR.out.1.list.at_ hil
      subst hA
      have k0 := HR.out.1.box.k0
      have k1 := HR.out.1.box.k1
      have ii0 : (0 : Int) ≤ (i : Int) := by omega
      have ii1 : (i : Int) < (n : Int) := by omega
      have HX := Lib.hid (getD_of hx)
      have HIL := Lib.hid hil
      have hstep : mayP Ls Rs xs i → ∀ k, k < i + 1 → mayP Ls Rs xs k := fun h k hk => by
        rcases Nat.lt_or_ge k i with h5 | h5
        · exact HR.out.2 k h5
        · obtain rfl : k = i := by omega
          exact h
      have HN := Lib.hid hstep
      have HRW := Lib.hid HR.out.1
      have hrng := HP.out.rng i hil
      rw [HX.out] at hrng
      clear hstep hx HR
      rcases hrng with rfl | ⟨h0, h1⟩
      · have HN2 := Lib.hid (HN.out fun h => absurd h (by rw [HX.out]; decide))
        clear HN
        go_wp2_with fail
        go_roundw
        case rel => exact ⟨i + 1, by have := HIL.out; omega, by go_num, Lib.hid ⟨HRW.out, HN2.out⟩⟩
        case measure => have := HIL.out; simp [intOf]; omega
      · obtain ⟨j, rfl⟩ := Int.eq_ofNat_of_zero_le h0
        have hjn : j < n := by omega
        obtain ⟨b1, o1, l1, B1, d1, hA1, _, hl1, hc1, hB1, _, hd1⟩ := HRW.out.box.left.get hil
        obtain ⟨b2, o2, l2, B2, d2, hA2, _, hl2, hc2, hB2, _, hd2⟩ := HRW.out.box.right.get hjn
        subst hA1 hA2
        have m1 : l1.length ≤ 8 := Nat.le_trans (len_le (eachB_iff.1 (HO1.out l1 (List.mem_of_getElem? hl1))).1 (eachB_iff.1 (HO1.out l1 (List.mem_of_getElem? hl1))).2) hn
        have m2 : l2.length ≤ 8 := Nat.le_trans (len_le (eachB_iff.1 (HO2.out l2 (List.mem_of_getElem? hl2))).1 (eachB_iff.1 (HO2.out l2 (List.mem_of_getElem? hl2))).2) hn
        obtain ⟨v1, hv1⟩ : ∃ v, hasI l1 (j : Int) = v := ⟨_, rfl⟩
        obtain ⟨v2, hv2⟩ : ∃ v, hasI l2 (i : Int) = v := ⟨_, rfl⟩
        have HH1 := Lib.hid (has_v l1.length d1 (j : Int) v1 B1 l1 wr hB1 (by omega) hv1)
        have HH2 := Lib.hid (has_v l2.length d2 (i : Int) v2 B2 l2 wr hB2 (by omega) hv2)
        have HM : Hid (mayP Ls Rs xs i ↔ (v1 = true ∧ v2 = true)) := Lib.hid (by
          unfold mayP
          rw [HX.out, sd_of hl1, Int.toNat_natCast, sd_of hl2, ← hv1, ← hv2, hasI_iff, hasI_iff]
          exact ⟨fun h => h h0, fun h _ => h⟩)
        have jj0 : (0 : Int) ≤ (j : Int) := h0
        have jj1 : (j : Int) < (n : Int) := h1
        have jge : (j : Int) ≥ 0 := h0
        generalize l1.length = e1 at hc1 HH1 m1
        generalize l2.length = e2 at hc2 HH2 m2
        clear hl1 hl2 hB1 hB2 hd1 hd2 hv1 hv2 h0 h1
        cases v1 with
        | false =>
          have HE : Hid (q = false) := Lib.hid (by
            cases q with
            | false => rfl
            | true => exact absurd ((HM.out.1 (fun h => (HQ.out.1 rfl).may i HIL.out h)).1) (by decide))
          clear HM HN HX HQ
          go_wp2_with fail
          refine HH1.out.mono ?_
          rintro e w1 ⟨rfl, rfl⟩
          go_wp2_with fail
          go_ret
          exact ⟨by rw [HE.out]; rfl, HRW.out.box.below⟩
        | true =>
          cases v2 with
          | false =>
            have HE : Hid (q = false) := Lib.hid (by
              cases q with
              | false => rfl
              | true => exact absurd ((HM.out.1 (fun h => (HQ.out.1 rfl).may i HIL.out h)).2) (by decide))
            clear HM HN HX HQ
            go_wp2_with fail
            refine HH1.out.mono ?_
            rintro e w1 ⟨rfl, rfl⟩
            go_wp2_with fail
            refine HH2.out.mono ?_
            rintro e w1 ⟨rfl, rfl⟩
            go_wp2_with fail
            go_ret
            exact ⟨by rw [HE.out]; rfl, HRW.out.box.below⟩
          | true =>
            have HN2 := Lib.hid (HN.out (HM.out.2 ⟨rfl, rfl⟩))
            clear HM HN HX
            go_wp2_with fail
            refine HH1.out.mono ?_
            rintro e w1 ⟨rfl, rfl⟩
            go_wp2_with fail
            refine HH2.out.mono ?_
            rintro e w1 ⟨rfl, rfl⟩
            go_wp2_with fail
            go_roundw
            case rel => exact ⟨i + 1, by have := HIL.out; omega, by go_num, Lib.hid ⟨HRW.out, HN2.out⟩⟩
            case measure => have := HIL.out; simp [intOf]; omega
    · obtain rfl : i = n := by omega
      have HRW := Lib.hid HR.out.1
      have HM := Lib.hid HR.out.2
      clear HR
      go_wp2_with fail
      obtain ⟨wo, rfl⟩ : ∃ wo : World, wo = wr := ⟨_, rfl⟩
      go_loopw [7] (fun j wr => ∃ i' : Nat, i' ≤ i ∧ j = .int .i64 i' ∧ Hid (RefW w A1 i c1 A2 i c2 Ls Rs A i xs wr ∧ ∀ k, k < i' → ∀ t, t < i → holdP2 Ls Rs xs k t)) (fun j _ => i - (intOf j).toNat)
      case atStart => exact ⟨0, Nat.zero_le _, rfl, Lib.hid ⟨HRW.out, fun k hk => absurd hk (by omega)⟩⟩
      case round =>
        clear HRW
        obtain ⟨k, hk, rfl, HR⟩ := hrel
        by_cases hkl : k < i
        · go_wp2_with fail
          obtain ⟨wo2, rfl⟩ : ∃ wo : World, wo = wr := ⟨_, rfl⟩
          go_loopw [8] (fun j wr => ∃ i' : Nat, i' ≤ i ∧ j = .int .i64 i' ∧ Hid (RefW w A1 i c1 A2 i c2 Ls Rs A i xs wr ∧ ∀ t, t < i' → holdP2 Ls Rs xs k t)) (fun j _ => i - (intOf j).toNat)
          case atStart => exact ⟨0, Nat.zero_le _, rfl, Lib.hid ⟨HR.out.1, fun k hk => absurd hk (by omega)⟩⟩
          case round =>
            have HRO := Lib.hid HR.out.2
            clear HR
            obtain ⟨j, hj, rfl, HR⟩ := hrel
            by_cases hjl : j < i
            · obtain ⟨b, off, x, hA, _, hx, hc⟩ := HR.out.1.list.at_ hkl
              subst hA
              obtain ⟨b1, o1, l1, B1, d1, hA1, _, hl1, hc1, hB1, _, _⟩ := HR.out.1.box.left.get hkl
              obtain ⟨b2, o2, l2, B2, d2, hA2, _, hl2, hc2, hB2, _, _⟩ := HR.out.1.box.right.get hjl
              subst hA1 hA2
              have k0 := HR.out.1.box.k0
              have k1 := HR.out.1.box.k1
              have kk0 : (0 : Int) ≤ (k : Int) := by omega
              have kk1 : (k : Int) < (i : Int) := by omega
              have jj0 : (0 : Int) ≤ (j : Int) := by omega
              have jj1 : (j : Int) < (i : Int) := by omega
              have m1 : l1.length ≤ 8 := Nat.le_trans (len_le (eachB_iff.1 (HO1.out l1 (List.mem_of_getElem? hl1))).1 (eachB_iff.1 (HO1.out l1 (List.mem_of_getElem? hl1))).2) hn
              have m2 : l2.length ≤ 8 := Nat.le_trans (len_le (eachB_iff.1 (HO2.out l2 (List.mem_of_getElem? hl2))).1 (eachB_iff.1 (HO2.out l2 (List.mem_of_getElem? hl2))).2) hn
              obtain ⟨r, hr⟩ : ∃ r, r = owP xs (j : Int) := ⟨_, rfl⟩
              obtain ⟨p1, hp1⟩ : ∃ p, decide (ahd l1 (j : Int) < ahd l1 x) = p := ⟨_, rfl⟩
              obtain ⟨p2, hp2⟩ : ∃ p, decide (ahd l2 (k : Int) < ahd l2 r) = p := ⟨_, rfl⟩
              have HOW := Lib.hid (fun m => owner_any i cap (j : Int) (some ⟨b, off, none⟩) xs (wr.drewN m) (HR.out.1.list.drewN m) (by omega))
              rw [← hr] at HOW
              have HRA : Hid (∀ (B : Option Addr) (e d : Nat) (u v : Int) (z : Bool), ((B = B1 ∧ e = l1.length ∧ d = d1 ∧ u = (j : Int) ∧ v = x ∧ z = p1) ∨ (B = B2 ∧ e = l2.length ∧ d = d2 ∧ u = (k : Int) ∧ v = r ∧ z = p2)) → ∀ m, Calls Try.prog 36 #[.slice B e d, .int .i64 u, .int .i64 v] (wr.drewN m) fun e w' => e = .returned (.bool z) ∧ w' = wr.drewN m) := Lib.hid (by
                rintro B e d u v z (⟨rfl, rfl, rfl, rfl, rfl, rfl⟩ | ⟨rfl, rfl, rfl, rfl, rfl, rfl⟩) m
                · exact rather_any l1.length d _ _ _ B l1 (wr.drewN m) (hB1.drewN m) (by omega) hp1
                · exact rather_any l2.length d _ _ _ B l2 (wr.drewN m) (hB2.drewN m) (by omega) hp2)
              have HH : Hid (holdP2 Ls Rs xs k j ↔ ¬ (p1 = true ∧ p2 = true)) := Lib.hid (by
                unfold holdP2
                rw [getD_of hx, sd_of hl1, sd_of hl2, ← hr, ← hp1, ← hp2, decide_eq_true_iff, decide_eq_true_iff]
                exact ⟨fun h q => h q.1 q.2, fun h q1 q2 => h ⟨q1, q2⟩⟩)
              have HJL := Lib.hid hjl
              have HKL := Lib.hid hkl
              have HRW := Lib.hid HR.out.1
              have HJ2 : Hid (holdP2 Ls Rs xs k j → ∀ t, t < j + 1 → holdP2 Ls Rs xs k t) := Lib.hid fun h t ht => by
                rcases Nat.lt_or_ge t j with h5 | h5
                · exact HR.out.2 t h5
                · obtain rfl : t = j := by omega
                  exact h
              have HP1 : Hid (x = (j : Int) → p1 = false) := Lib.hid fun e => by rw [← hp1, e]; simp
              generalize l1.length = e1 at hc1 HRA
              generalize l2.length = e2 at hc2 HRA
              clear hp1 hp2 hr hl1 hl2 hB1 hB2 m1 m2 hx HR
              by_cases hxj : x = (j : Int)
              · have HN2 := Lib.hid (HJ2.out (HH.out.2 fun h => by rw [HP1.out hxj] at h; exact absurd h.1 (by decide)))
                obtain ⟨c0, hc0⟩ : ∃ c0, (x != (j : Int)) = c0 := ⟨_, rfl⟩
                have GC : Hid (c0 = false) := Lib.hid (by rw [← hc0]; simpa using hxj)
                clear HH HJ2 HP1 hxj HQ HP HO1 HO2 HM HRO
                go_wp2_with fail
                refine wp_region_quiet_lit (by kernel_rfl) (by kernel_rfl) ?_
                iterate 7 (quiet_step ((first | (go_at_call 36; exact Calls.quiet_of_same (HRA.out _ _ _ _ _ _ (by first | exact Or.inl ⟨rfl, rfl, rfl, rfl, rfl, rfl⟩ | exact Or.inr ⟨rfl, rfl, rfl, rfl, rfl, rfl⟩) _)) | (go_at_call 35; exact Calls.quiet_of_same (HOW.out _)))))
                iterate 11 (refine wpQuiet_step (fun K hK => ?_); go_simp; rw [if_neg (by rw [GC.out]; decide)]; refine hK _ ?_; clear hK K)
                refine wpQuiet_step (fun K hK => ?_)
                rw [if_pos (by kernel_rfl)]
                refine ⟨.bool c0, fun W _ => ?h1, hK _ ?h2⟩
                case h1 =>
                  have h5 := GC.out
                  subst h5
                  go_simp
                clear hK K
                quiet_step ((first | (go_at_call 36; exact Calls.quiet_of_same (HRA.out _ _ _ _ _ _ (by first | exact Or.inl ⟨rfl, rfl, rfl, rfl, rfl, rfl⟩ | exact Or.inr ⟨rfl, rfl, rfl, rfl, rfl, rfl⟩) _)) | (go_at_call 35; exact Calls.quiet_of_same (HOW.out _))))
                iterate 10 (refine wpQuiet_step (fun K hK => ?_); go_simp; rw [if_neg (by rw [GC.out]; decide)]; refine hK _ ?_; clear hK K)
                have hp1 := GC.out
                quiet_step ((first | (go_at_call 36; exact Calls.quiet_of_same (HRA.out _ _ _ _ _ _ (by first | exact Or.inl ⟨rfl, rfl, rfl, rfl, rfl, rfl⟩ | exact Or.inr ⟨rfl, rfl, rfl, rfl, rfl, rfl⟩) _)) | (go_at_call 35; exact Calls.quiet_of_same (HOW.out _))))
                refine wpQuiet_nil ?_
                intro _ hw'
                obtain ⟨nq, hw''⟩ := hw'
                subst hw''
                go_wp2
                go_roundw
                case rel => exact ⟨j + 1, by have := HJL.out; omega, by go_num, Lib.hid ⟨HRW.out.drewN _, HN2.out⟩⟩
                case measure => have := HJL.out; simp [intOf]; omega
              · have hxj2 : (x != (j : Int)) = true := by simpa using hxj
                cases p1 with
                | false =>
                  obtain ⟨p1, GP, hpp⟩ : ∃ p : Bool, Hid (p = false) ∧ Hid (false = p) := ⟨false, Lib.hid rfl, Lib.hid rfl⟩
                  rw [hpp.out] at HRA HH
                  have HN2 := Lib.hid (HJ2.out (HH.out.2 fun h => by rw [GP.out] at h; exact absurd h.1 (by decide)))
                  clear HH HJ2 HP1 HQ HP HO1 HO2 HM HRO hpp
                  go_wp2_with fail
                  refine wp_region_quiet_lit (by kernel_rfl) (by kernel_rfl) ?_
                  iterate 20 (quiet_step ((first | (go_at_call 36; exact Calls.quiet_of_same (HRA.out _ _ _ _ _ _ (by first | exact Or.inl ⟨rfl, rfl, rfl, rfl, rfl, rfl⟩ | exact Or.inr ⟨rfl, rfl, rfl, rfl, rfl, rfl⟩) _)) | (go_at_call 35; exact Calls.quiet_of_same (HOW.out _)))))
                  iterate 10 (refine wpQuiet_step (fun K hK => ?_); go_simp; rw [if_neg (by rw [GP.out]; decide)]; refine hK _ ?_; clear hK K)
                  have hp1 := GP.out
                  quiet_step ((first | (go_at_call 36; exact Calls.quiet_of_same (HRA.out _ _ _ _ _ _ (by first | exact Or.inl ⟨rfl, rfl, rfl, rfl, rfl, rfl⟩ | exact Or.inr ⟨rfl, rfl, rfl, rfl, rfl, rfl⟩) _)) | (go_at_call 35; exact Calls.quiet_of_same (HOW.out _))))
                  refine wpQuiet_nil ?_
                  intro _ hw'
                  obtain ⟨nq, hw''⟩ := hw'
                  subst hw''
                  go_wp2
                  go_roundw
                  case rel => exact ⟨j + 1, by have := HJL.out; omega, by go_num, Lib.hid ⟨HRW.out.drewN _, HN2.out⟩⟩
                  case measure => have := HJL.out; simp [intOf]; omega
                | true =>
                  cases p2 with
                  | false =>
                    have HN2 := Lib.hid (HJ2.out (HH.out.2 fun h => absurd h.2 (by decide)))
                    clear HH HJ2 HP1 HQ HP HO1 HO2 HM HRO
                    go_wp2_with fail
                    go_quiet ((first | (go_at_call 36; exact Calls.quiet_of_same (HRA.out _ _ _ _ _ _ (by first | exact Or.inl ⟨rfl, rfl, rfl, rfl, rfl, rfl⟩ | exact Or.inr ⟨rfl, rfl, rfl, rfl, rfl, rfl⟩) _)) | (go_at_call 35; exact Calls.quiet_of_same (HOW.out _))))
                    go_wp2
                    go_roundw
                    case rel => exact ⟨j + 1, by have := HJL.out; omega, by go_num, Lib.hid ⟨HRW.out.drewN _, HN2.out⟩⟩
                    case measure => have := HJL.out; simp [intOf]; omega
                  | true =>
                    have HE : Hid (q = false) := Lib.hid (by
                      cases q with
                      | false => rfl
                      | true => exact absurd ⟨rfl, rfl⟩ (HH.out.1 fun h => (HQ.out.1 rfl).hold k j HKL.out HJL.out h))
                    clear HH HJ2 HP1 HQ HP HO1 HO2 HM HRO
                    go_wp2_with fail
                    go_quiet ((first | (go_at_call 36; exact Calls.quiet_of_same (HRA.out _ _ _ _ _ _ (by first | exact Or.inl ⟨rfl, rfl, rfl, rfl, rfl, rfl⟩ | exact Or.inr ⟨rfl, rfl, rfl, rfl, rfl, rfl⟩) _)) | (go_at_call 35; exact Calls.quiet_of_same (HOW.out _))))
                    go_wp2
                    go_ret
                    exact ⟨by rw [HE.out]; rfl, (HRW.out.drewN _).box.below⟩
            · obtain rfl : j = i := by omega
              have HN2 : Hid (∀ t, t < k + 1 → ∀ u, u < j → holdP2 Ls Rs xs t u) := Lib.hid fun t ht => by
                rcases Nat.lt_or_ge t k with h5 | h5
                · exact HRO.out t h5
                · obtain rfl : t = k := by omega
                  exact HR.out.2
              have HRW := Lib.hid HR.out.1
              clear HRO HR HQ HP HO1 HO2 HM
              go_wp2_with fail
              go_roundw
              case rel => exact ⟨k + 1, by omega, by go_num, Lib.hid ⟨HRW.out, HN2.out⟩⟩
              case measure => simp [intOf]; omega
        · obtain rfl : k = i := by omega
          have HE : Hid (q = true) := Lib.hid (HQ.out.2 ⟨HP.out, fun i hi => HM.out i hi, fun i j hi hj => HR.out.2 i hi j hj⟩)
          have HB := Lib.hid HR.out.1.box.below
          clear HR HQ HP HO1 HO2 HM
          go_wp2_with fail
          go_ret
          exact ⟨by rw [HE.out]; rfl, HB.out⟩
end Go.Proofs.Ytmelgnfhocofiaa
