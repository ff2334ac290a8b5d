/- (*wish.likings).holds: whether a pairing holds, by the numbers. -/
import Derived.Test.YtmelgnfhocofiaaHoldsP
import Derived.Deep.QuietTactic
import Derived.Deep.RegionWith
namespace Go.Proofs.Ytmelgnfhocofiaa
open Go.RowKit

theorem DegAt.keep {w w' : World} {g o B : Nat} {F : Nat → Int} (h : DegAt w g o F) (hb : Below B w w') (hg : g < B) : DegAt w' g o F := fun k hk => (hb.cell (p := ⟨g, o + k, none⟩) hg).trans (h k hk)
theorem DegAt.drewN {w : World} {g o : Nat} {F : Nat → Int} (h : DegAt w g o F) (k : Nat) : DegAt (w.drewN k) g o F := h
theorem Couples.drewN {w : World} {B n a b : Nat} {f h : Nat → Int} (H : Couples w B n a b f h) (k : Nat) : Couples (w.drewN k) B n a b f h := ⟨H.ba, H.bb, H.ne, H.left.drewN k, H.right.drewN k⟩
/-- All in the middle of it. -/
structure HoldW (w : World) (g : Nat) (F G : Nat → Int) (B n a b : Nat) (f h : Nat → Int) (wr : World) : Prop where
  left : DegAt wr g 0 F
  right : DegAt wr g 64 G
  cp : Couples wr B n a b f h
  below : Below w.heap.size w wr
  c1 : wr.cell? ⟨w.heap.size, 1, none⟩ = some (.slice (some ⟨b, 0, none⟩) n n)
theorem HoldW.drewN {w wr : World} {g : Nat} {F G : Nat → Int} {B n a b : Nat} {f h : Nat → Int} (H : HoldW w g F G B n a b f h wr) (k : Nat) : HoldW w g F G B n a b f h (wr.drewN k) := ⟨H.left, H.right, H.cp.drewN k, below_drewN H.below k, H.c1⟩
theorem HoldW.drew {w wr : World} {g : Nat} {F G : Nat → Int} {B n a b : Nat} {f h : Nat → Int} (H : HoldW w g F G B n a b f h wr) : HoldW w g F G B n a b f h wr.drew := ⟨H.left, H.right, H.cp.drew, H.below.drew, H.c1⟩

set_option maxRecDepth 100000 in
set_option maxHeartbeats 16000000 in
theorem holdsGo_any (g B n a b : Nat) (F G f h : Nat → Int) (p : Bool) (w : World) (hL : DegAt w g 0 F) (hR : DegAt w g 64 G) (hg : g < w.heap.size) (hC : Couples w B n a b f h) (hn : n ≤ 8)
    (hf : ∀ i, i < n → f i = -1 ∨ (0 ≤ f i ∧ f i < (n : Int))) (hh : ∀ i, i < n → h i = -1 ∨ (0 ≤ h i ∧ h i < (n : Int))) (hp : p = true ↔ ∀ i, i < n → okL F G n f h i) :
    Calls Try.prog 34 #[.pointer (some ⟨g, 0, none⟩), .agg #[.slice (some ⟨a, 0, none⟩) n n, .slice (some ⟨b, 0, none⟩) n n]] w fun e w' => e = .returned (.bool p) ∧ Below w.heap.size w w' := by
  have HF := Lib.hid hf
  have HH := Lib.hid hh
  have HP := Lib.hid hp
  have HS : Hid (HoldW w g F G B n a b f h (w.alloc (.cells #[.slice (some ⟨a, 0, none⟩) n n, .slice (some ⟨b, 0, none⟩) n n] 51))) := Lib.hid ⟨hL.keep ((Below.refl _ _).alloc (Nat.le_refl _) _) hg, hR.keep ((Below.refl _ _).alloc (Nat.le_refl _) _) hg, hC.keep ((Below.refl _ _).alloc (Nat.le_refl _) _), (Below.refl _ _).alloc (Nat.le_refl _) _, cell_of_row _ _ 1 _ _ (0, 0) (MapKept.heap_alloc w _).1⟩
  clear hL hR hg hC hf hh hp
  go_enter Try.func34, Try.ntmps34
  go_wp2_with fail
  go_loopw [12] (fun j wr => ∃ i : Nat, i ≤ n ∧ j = .int .i64 i ∧ Hid (HoldW w g F G B n a b f h wr ∧ ∀ k, k < i → okL F G n f h k)) (fun j _ => n - (intOf j).toNat)
  case atStart => exact ⟨0, Nat.zero_le _, rfl, Lib.hid ⟨HS.out, fun k hk => absurd hk (by omega)⟩⟩
  case round =>
    clear HS
    obtain ⟨i, hi, rfl, HR⟩ := hrel
    by_cases hil : i < n
    · obtain ⟨m, hm⟩ : ∃ m, m = f i := ⟨_, rfl⟩
      have ci : wr.cell? ⟨a, i, none⟩ = some (.int .i64 m) := by rw [hm]; exact HR.out.1.cp.left.cell hil
      have ii0 : (0 : Int) ≤ (i : Int) := by omega
      have ii1 : (i : Int) < (n : Int) := by omega
      have c1 := HR.out.1.c1
      have HM := Lib.hid hm
      rcases HF.out i hil with hm1 | ⟨hm0, hm1⟩
      · obtain rfl : m = -1 := by rw [hm, hm1]
        have HK : Hid (f i ≠ -1 → mutF F G i (f i).toNat = true) := Lib.hid fun q => absurd hm1 q
        clear hm hm1
        go_wp2_with fail
        obtain ⟨wo, rfl⟩ : ∃ wo : World, wo = wr := ⟨_, rfl⟩
        go_loopw [29] (fun j wr => ∃ k : Nat, k ≤ n ∧ j = .int .i64 k ∧ Hid (HoldW w g F G B n a b f h wr ∧ ∀ k', k' < k → wantB F G f h i k' = false)) (fun j _ => n - (intOf j).toNat)
        case atStart => exact ⟨0, Nat.zero_le _, rfl, Lib.hid ⟨HR.out.1, fun k hk => absurd hk (by omega)⟩⟩
        case round =>
          have HRO := Lib.hid HR.out.2
          clear HR ci c1
          obtain ⟨j, hj, rfl, HR⟩ := hrel
          by_cases hjl : j < n
          · obtain ⟨t, ht⟩ : ∃ t, t = h j := ⟨_, rfl⟩
            have cj : wr.cell? ⟨b, j, none⟩ = some (.int .i64 t) := by rw [ht]; exact HR.out.1.cp.right.cell hjl
            have jj0 : (0 : Int) ≤ (j : Int) := by omega
            have jj1 : (j : Int) < (n : Int) := by omega
            obtain ⟨x1, e1⟩ : ∃ x, ofF F i (j : Int) = x := ⟨_, rfl⟩
            obtain ⟨x2, e2⟩ : ∃ x, ofF F i (-1 : Int) = x := ⟨_, rfl⟩
            obtain ⟨x3, e3⟩ : ∃ x, ofF G j (i : Int) = x := ⟨_, rfl⟩
            obtain ⟨x4, e4⟩ : ∃ x, ofF G j t = x := ⟨_, rfl⟩
            have HT : Hid (t = -1 ∨ (0 ≤ t ∧ t < 8)) := Lib.hid (by rw [ht]; exact (HH.out j hjl).imp id fun q => ⟨q.1, by omega⟩)
            have HWB : Hid (wantB F G f h i j = (decide (x2 < x1) && decide (x4 < x3))) := Lib.hid (by unfold wantB; rw [← HM.out, ← ht, e1, e2, e3, e4])
            have HOF : Hid (∀ (o : Nat) (u v z : Int), ((o = 0 ∧ u = (i : Int) ∧ v = (j : Int) ∧ z = x1) ∨ (o = 0 ∧ u = (i : Int) ∧ v = (-1 : Int) ∧ z = x2) ∨ (o = 64 ∧ u = (j : Int) ∧ v = (i : Int) ∧ z = x3) ∨ (o = 64 ∧ u = (j : Int) ∧ v = t ∧ z = x4)) → ∀ W, HoldW w g F G B n a b f h W → Calls Try.prog 48 #[.pointer (some ⟨g, o, none⟩), .int .i64 u, .int .i64 v] W fun e w' => e = .returned (.int .i64 z) ∧ w' = W) := Lib.hid (by
              rintro o u v z (⟨rfl, rfl, rfl, rfl⟩ | ⟨rfl, rfl, rfl, rfl⟩ | ⟨rfl, rfl, rfl, rfl⟩ | ⟨rfl, rfl, rfl, rfl⟩) W hW
              · exact of_any g 0 i _ _ F W hW.left (by omega) (.inr ⟨by omega, by omega⟩) e1
              · exact of_any g 0 i _ _ F W hW.left (by omega) (by first | exact .inl rfl | exact .inr ⟨by omega, by omega⟩) e2
              · exact of_any g 64 j _ _ G W hW.right (by omega) (.inr ⟨by omega, by omega⟩) e3
              · exact of_any g 64 j _ _ G W hW.right (by omega) HT.out e4)
            have HIJ : Hid (i < n ∧ j < n) := Lib.hid ⟨hil, hjl⟩
            clear e1 e2 e3 e4 ht
            have HQW := Lib.hid HR.out.1
            by_cases g1 : x2 < x1
            · by_cases g2 : x4 < x3
              · have HE : Hid (p = false) := Lib.hid (by
                  cases p with
                  | false => rfl
                  | true =>
                    have := ((HP.out.1 rfl) i HIJ.out.1).2 j HIJ.out.2
                    rw [HWB.out] at this
                    simp [g1, g2] at this)
                have g1' : x1 > x2 := g1
                have g2' : x3 > x4 := g2
                have d1 : decide (x2 < x1) = true := decide_eq_true g1
                have d2 : decide (x4 < x3) = true := decide_eq_true g2
                have d1' : decide (x1 > x2) = true := decide_eq_true g1
                have d2' : decide (x3 > x4) = true := decide_eq_true g2
                clear HR HRO HWB HM HK HT HF HH HP
                go_wp2_with fail
                go_quiet ((go_at_call 48; exact Calls.quiet_of_same (HOF.out _ _ _ _ (by first | exact Or.inl ⟨rfl, rfl, rfl, rfl⟩ | exact Or.inr (Or.inl ⟨rfl, rfl, rfl, rfl⟩) | exact Or.inr (Or.inr (Or.inl ⟨rfl, rfl, rfl, rfl⟩)) | exact Or.inr (Or.inr (Or.inr ⟨rfl, rfl, rfl, rfl⟩))) _ (HQW.out.drewN _))))
                go_wp2
                go_ret
                exact ⟨by rw [HE.out]; rfl, (HQW.out.drewN _).below⟩
              · have HW2 : Hid (∀ k', k' < j + 1 → wantB F G f h i k' = false) := Lib.hid fun k hk => by
                  rcases Nat.lt_or_ge k j with h5 | h5
                  · exact HR.out.2 k h5
                  · obtain rfl : k = j := by omega
                    rw [HWB.out]; simp [g2]
                have g1' : x1 > x2 := g1
                have g2' : ¬ (x3 > x4) := g2
                have d1 : decide (x2 < x1) = true := decide_eq_true g1
                have d2 : decide (x4 < x3) = false := decide_eq_false g2
                have d1' : decide (x1 > x2) = true := decide_eq_true g1
                have d2' : decide (x3 > x4) = false := decide_eq_false g2
                clear HR HWB HT HF HH HP HIJ
                go_wp2_with fail
                go_quiet ((go_at_call 48; exact Calls.quiet_of_same (HOF.out _ _ _ _ (by first | exact Or.inl ⟨rfl, rfl, rfl, rfl⟩ | exact Or.inr (Or.inl ⟨rfl, rfl, rfl, rfl⟩) | exact Or.inr (Or.inr (Or.inl ⟨rfl, rfl, rfl, rfl⟩)) | exact Or.inr (Or.inr (Or.inr ⟨rfl, rfl, rfl, rfl⟩))) _ (HQW.out.drewN _))))
                go_wp2
                go_roundw
                case rel => exact ⟨j + 1, by omega, by go_num, Lib.hid ⟨HQW.out.drewN _, HW2.out⟩⟩
                case measure => simp [intOf]; omega
            · have HW2 : Hid (∀ k', k' < j + 1 → wantB F G f h i k' = false) := Lib.hid fun k hk => by
                rcases Nat.lt_or_ge k j with h5 | h5
                · exact HR.out.2 k h5
                · obtain rfl : k = j := by omega
                  rw [HWB.out]; simp [g1]
              have GH := Lib.hid g1
              clear g1 HR HWB HT HF HH HP HIJ
              go_wp2_with fail
              refine wp_region_quiet_lit (by kernel_rfl) (by kernel_rfl) ?_
              iterate 14 (quiet_step ((go_at_call 48; exact Calls.quiet_of_same (HOF.out _ _ _ _ (by first | exact Or.inl ⟨rfl, rfl, rfl, rfl⟩ | exact Or.inr (Or.inl ⟨rfl, rfl, rfl, rfl⟩)) _ (HQW.out.drewN _)))))
              iterate 13 (refine wpQuiet_step (fun K hK => ?_); go_simp; rw [if_neg (Int.not_lt.2 GH.out)]; refine hK _ ?_; clear hK K)
              have d1 : decide (x2 < x1) = false := decide_eq_false (Int.not_lt.2 GH.out)
              quiet_step ((go_at_call 48; exact Calls.quiet_of_same (HOF.out _ _ _ _ (by first | exact Or.inl ⟨rfl, rfl, rfl, rfl⟩ | exact Or.inr (Or.inl ⟨rfl, rfl, rfl, rfl⟩)) _ (HQW.out.drewN _))))
              refine wpQuiet_nil ?_
              intro _ hw'
              obtain ⟨nq, hw''⟩ := hw'
              subst hw''
              go_wp2
              go_roundw
              case rel => exact ⟨j + 1, by omega, by go_num, Lib.hid ⟨HQW.out.drewN _, HW2.out⟩⟩
              case measure => simp [intOf]; omega
          · obtain rfl : j = n := by omega
            have HN : Hid (HoldW w g F G B j a b f h wr ∧ ∀ k, k < i + 1 → okL F G j f h k) := Lib.hid ⟨HR.out.1, fun k hk => by
              rcases Nat.lt_or_ge k i with h5 | h5
              · exact HRO.out k h5
              · obtain rfl : k = i := by omega
                exact ⟨HK.out, HR.out.2⟩⟩
            clear HR HRO HM HK HF HH HP
            go_wp2
            go_roundw
            case rel => exact ⟨i + 1, by omega, by go_num, HN⟩
            case measure => simp [intOf]; omega
      · obtain ⟨q, rfl⟩ : ∃ q : Nat, m = (q : Int) := ⟨m.toNat, by omega⟩
        have hq8 : q < 8 := by omega
        have hqn : ((q : Int) != -1) = true := by simp
        obtain ⟨c, hc⟩ : ∃ c, mutF F G i q = c := ⟨_, rfl⟩
        have HQ := Lib.hid (mutual_any g i q c F G wr HR.out.1.left HR.out.1.right (by omega) hq8 hc)
        cases c with
        | false =>
          have HE : Hid (p = false) := Lib.hid (by
            cases p with
            | false => rfl
            | true =>
              have := ((HP.out.1 rfl) i hil).1 (by rw [← hm]; omega)
              rw [← hm, Int.toNat_natCast, hc] at this
              cases this)
          have HB := Lib.hid HR.out.1.below
          clear hm hm0 hm1 hc HR HP HF HH HM
          go_wp2_with fail
          refine HQ.out.mono ?_
          rintro e w1 ⟨rfl, rfl⟩
          go_wp2
          go_ret
          exact ⟨by rw [HE.out]; rfl, HB.out⟩
        | true =>
          have HK : Hid (f i ≠ -1 → mutF F G i (f i).toNat = true) := Lib.hid fun _ => by rw [← hm, Int.toNat_natCast, hc]
          clear hm hm0 hm1 hc
          go_wp2_with fail
          refine HQ.out.mono ?_
          rintro e w1 ⟨rfl, rfl⟩
          clear HQ
          go_wp2_with fail
          obtain ⟨wo, rfl⟩ : ∃ wo : World, wo = w1 := ⟨_, rfl⟩
          go_loopw [29] (fun j wr => ∃ k : Nat, k ≤ n ∧ j = .int .i64 k ∧ Hid (HoldW w g F G B n a b f h wr ∧ ∀ k', k' < k → wantB F G f h i k' = false)) (fun j _ => n - (intOf j).toNat)
          case atStart => exact ⟨0, Nat.zero_le _, rfl, Lib.hid ⟨HR.out.1, fun k hk => absurd hk (by omega)⟩⟩
          case round =>
            have HRO := Lib.hid HR.out.2
            clear HR ci c1
            obtain ⟨j, hj, rfl, HR⟩ := hrel
            by_cases hjl : j < n
            · obtain ⟨t, ht⟩ : ∃ t, t = h j := ⟨_, rfl⟩
              have cj : wr.cell? ⟨b, j, none⟩ = some (.int .i64 t) := by rw [ht]; exact HR.out.1.cp.right.cell hjl
              have jj0 : (0 : Int) ≤ (j : Int) := by omega
              have jj1 : (j : Int) < (n : Int) := by omega
              obtain ⟨x1, e1⟩ : ∃ x, ofF F i (j : Int) = x := ⟨_, rfl⟩
              obtain ⟨x2, e2⟩ : ∃ x, ofF F i (q : Int) = x := ⟨_, rfl⟩
              obtain ⟨x3, e3⟩ : ∃ x, ofF G j (i : Int) = x := ⟨_, rfl⟩
              obtain ⟨x4, e4⟩ : ∃ x, ofF G j t = x := ⟨_, rfl⟩
              have HT : Hid (t = -1 ∨ (0 ≤ t ∧ t < 8)) := Lib.hid (by rw [ht]; exact (HH.out j hjl).imp id fun q => ⟨q.1, by omega⟩)
              have HWB : Hid (wantB F G f h i j = (decide (x2 < x1) && decide (x4 < x3))) := Lib.hid (by unfold wantB; rw [← HM.out, ← ht, e1, e2, e3, e4])
              have HOF : Hid (∀ (o : Nat) (u v z : Int), ((o = 0 ∧ u = (i : Int) ∧ v = (j : Int) ∧ z = x1) ∨ (o = 0 ∧ u = (i : Int) ∧ v = (q : Int) ∧ z = x2) ∨ (o = 64 ∧ u = (j : Int) ∧ v = (i : Int) ∧ z = x3) ∨ (o = 64 ∧ u = (j : Int) ∧ v = t ∧ z = x4)) → ∀ W, HoldW w g F G B n a b f h W → Calls Try.prog 48 #[.pointer (some ⟨g, o, none⟩), .int .i64 u, .int .i64 v] W fun e w' => e = .returned (.int .i64 z) ∧ w' = W) := Lib.hid (by
                rintro o u v z (⟨rfl, rfl, rfl, rfl⟩ | ⟨rfl, rfl, rfl, rfl⟩ | ⟨rfl, rfl, rfl, rfl⟩ | ⟨rfl, rfl, rfl, rfl⟩) W hW
                · exact of_any g 0 i _ _ F W hW.left (by omega) (.inr ⟨by omega, by omega⟩) e1
                · exact of_any g 0 i _ _ F W hW.left (by omega) (by first | exact .inl rfl | exact .inr ⟨by omega, by omega⟩) e2
                · exact of_any g 64 j _ _ G W hW.right (by omega) (.inr ⟨by omega, by omega⟩) e3
                · exact of_any g 64 j _ _ G W hW.right (by omega) HT.out e4)
              have HIJ : Hid (i < n ∧ j < n) := Lib.hid ⟨hil, hjl⟩
              clear e1 e2 e3 e4 ht
              have HQW := Lib.hid HR.out.1
              by_cases g1 : x2 < x1
              · by_cases g2 : x4 < x3
                · have HE : Hid (p = false) := Lib.hid (by
                    cases p with
                    | false => rfl
                    | true =>
                      have := ((HP.out.1 rfl) i HIJ.out.1).2 j HIJ.out.2
                      rw [HWB.out] at this
                      simp [g1, g2] at this)
                  have g1' : x1 > x2 := g1
                  have g2' : x3 > x4 := g2
                  have d1 : decide (x2 < x1) = true := decide_eq_true g1
                  have d2 : decide (x4 < x3) = true := decide_eq_true g2
                  have d1' : decide (x1 > x2) = true := decide_eq_true g1
                  have d2' : decide (x3 > x4) = true := decide_eq_true g2
                  clear HR HRO HWB HM HK HT HF HH HP
                  go_wp2_with fail
                  go_quiet ((go_at_call 48; exact Calls.quiet_of_same (HOF.out _ _ _ _ (by first | exact Or.inl ⟨rfl, rfl, rfl, rfl⟩ | exact Or.inr (Or.inl ⟨rfl, rfl, rfl, rfl⟩) | exact Or.inr (Or.inr (Or.inl ⟨rfl, rfl, rfl, rfl⟩)) | exact Or.inr (Or.inr (Or.inr ⟨rfl, rfl, rfl, rfl⟩))) _ (HQW.out.drewN _))))
                  go_wp2
                  go_ret
                  exact ⟨by rw [HE.out]; rfl, (HQW.out.drewN _).below⟩
                · have HW2 : Hid (∀ k', k' < j + 1 → wantB F G f h i k' = false) := Lib.hid fun k hk => by
                    rcases Nat.lt_or_ge k j with h5 | h5
                    · exact HR.out.2 k h5
                    · obtain rfl : k = j := by omega
                      rw [HWB.out]; simp [g2]
                  have g1' : x1 > x2 := g1
                  have g2' : ¬ (x3 > x4) := g2
                  have d1 : decide (x2 < x1) = true := decide_eq_true g1
                  have d2 : decide (x4 < x3) = false := decide_eq_false g2
                  have d1' : decide (x1 > x2) = true := decide_eq_true g1
                  have d2' : decide (x3 > x4) = false := decide_eq_false g2
                  clear HR HWB HT HF HH HP HIJ
                  go_wp2_with fail
                  go_quiet ((go_at_call 48; exact Calls.quiet_of_same (HOF.out _ _ _ _ (by first | exact Or.inl ⟨rfl, rfl, rfl, rfl⟩ | exact Or.inr (Or.inl ⟨rfl, rfl, rfl, rfl⟩) | exact Or.inr (Or.inr (Or.inl ⟨rfl, rfl, rfl, rfl⟩)) | exact Or.inr (Or.inr (Or.inr ⟨rfl, rfl, rfl, rfl⟩))) _ (HQW.out.drewN _))))
                  go_wp2
                  go_roundw
                  case rel => exact ⟨j + 1, by omega, by go_num, Lib.hid ⟨HQW.out.drewN _, HW2.out⟩⟩
                  case measure => simp [intOf]; omega
              · have HW2 : Hid (∀ k', k' < j + 1 → wantB F G f h i k' = false) := Lib.hid fun k hk => by
                  rcases Nat.lt_or_ge k j with h5 | h5
                  · exact HR.out.2 k h5
                  · obtain rfl : k = j := by omega
                    rw [HWB.out]; simp [g1]
                have GH := Lib.hid g1
                clear g1 HR HWB HT HF HH HP HIJ
                go_wp2_with fail
                refine wp_region_quiet_lit (by kernel_rfl) (by kernel_rfl) ?_
                iterate 14 (quiet_step ((go_at_call 48; exact Calls.quiet_of_same (HOF.out _ _ _ _ (by first | exact Or.inl ⟨rfl, rfl, rfl, rfl⟩ | exact Or.inr (Or.inl ⟨rfl, rfl, rfl, rfl⟩)) _ (HQW.out.drewN _)))))
                iterate 13 (refine wpQuiet_step (fun K hK => ?_); go_simp; rw [if_neg (Int.not_lt.2 GH.out)]; refine hK _ ?_; clear hK K)
                have d1 : decide (x2 < x1) = false := decide_eq_false (Int.not_lt.2 GH.out)
                quiet_step ((go_at_call 48; exact Calls.quiet_of_same (HOF.out _ _ _ _ (by first | exact Or.inl ⟨rfl, rfl, rfl, rfl⟩ | exact Or.inr (Or.inl ⟨rfl, rfl, rfl, rfl⟩)) _ (HQW.out.drewN _))))
                refine wpQuiet_nil ?_
                intro _ hw'
                obtain ⟨nq, hw''⟩ := hw'
                subst hw''
                go_wp2
                go_roundw
                case rel => exact ⟨j + 1, by omega, by go_num, Lib.hid ⟨HQW.out.drewN _, HW2.out⟩⟩
                case measure => simp [intOf]; omega
            · obtain rfl : j = n := by omega
              have HN : Hid (HoldW w g F G B j a b f h wr ∧ ∀ k, k < i + 1 → okL F G j f h k) := Lib.hid ⟨HR.out.1, fun k hk => by
                rcases Nat.lt_or_ge k i with h5 | h5
                · exact HRO.out k h5
                · obtain rfl : k = i := by omega
                  exact ⟨HK.out, HR.out.2⟩⟩
              clear HR HRO HM HK HF HH HP
              go_wp2
              go_roundw
              case rel => exact ⟨i + 1, by omega, by go_num, HN⟩
              case measure => simp [intOf]; omega
    · obtain rfl : i = n := by omega
      have HE : Hid (p = true) := Lib.hid (HP.out.2 HR.out.2)
      go_wp2
      go_ret
      exact ⟨by rw [HE.out]; rfl, HR.out.1.below⟩
end Go.Proofs.Ytmelgnfhocofiaa
