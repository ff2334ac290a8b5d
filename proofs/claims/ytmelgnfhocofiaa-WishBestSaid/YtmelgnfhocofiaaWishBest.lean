/- GALE, SHAPLEY; KNUTH: the best for the left, the worst for the right. -/
import Derived.Test.YtmelgnfhocofiaaKeepWishes
import Derived.Test.YtmelgnfhocofiaaKeepAhead
import Derived.Deep.QuietTactic
namespace Go.Proofs.Ytmelgnfhocofiaa
open Go.RowKit

theorem ints_some {w : World} {B n : Nat} {A : Option Addr} {xs : List Int} (h : IntsAt w B A n xs) (hA : A = none) : n = 0 := by
  rcases Nat.eq_zero_or_pos n with h0 | h0
  · exact h0
  · obtain ⟨b, off, e, _⟩ := h.2 h0
    rw [hA] at e; cases e
theorem boxS_drewN {w w1 : World} {A1 A2 : Option Addr} {n1 c1 n2 c2 : Nat} {Ls Rs : List (List Int)} (h : BoxS w A1 n1 c1 A2 n2 c2 Ls Rs w1) (k : Nat) : BoxS w A1 n1 c1 A2 n2 c2 Ls Rs (w1.drewN k) := ⟨h.left.drewN k, h.right.drewN k, below_drewN h.below k, below_drewN h.box k⟩
/-- All that is read: the wishes, the best one, and the other one. -/
structure BestW (w : World) (A1 : Option Addr) (n1 c1 : Nat) (A2 : Option Addr) (n2 c2 : Nat) (Ls Rs : List (List Int)) (a : Nat) (A : Option Addr) (n : Nat) (l xs : List Int) (w1 : World) : Prop where
  box : BoxS w A1 n1 c1 A2 n2 c2 Ls Rs w1
  best : IntsAt w1 w1.heap.size (some ⟨a, 0, none⟩) n l
  list : IntsAt w1 w1.heap.size A n xs
theorem BestW.drewN {w w1 : World} {A1 A2 A : Option Addr} {n1 c1 n2 c2 n a : Nat} {Ls Rs : List (List Int)} {l xs : List Int} (h : BestW w A1 n1 c1 A2 n2 c2 Ls Rs a A n l xs w1) (k : Nat) : BestW w A1 n1 c1 A2 n2 c2 Ls Rs a A n l xs (w1.drewN k) := ⟨boxS_drewN h.box k, h.best.drewN k, h.list.drewN k⟩

set_option maxRecDepth 100000 in
set_option maxHeartbeats 8000000 in
theorem wishBest_any (A1 : Option Addr) (n1 c1 : Nat) (A2 : Option Addr) (n2 c2 : Nat) (Ls Rs : List (List Int)) (A : Option Addr) (m cap : Nat) (xs : List Int) (w : World) (S1 : SideAt w w.heap.size A1 n1 c1 Ls) (S2 : SideAt w w.heap.size A2 n2 c2 Rs) (hI : IntsAt w w.heap.size A m xs) (_ : m ≤ cap) (_ : cap ≤ maxLen) :
    Calls Try.prog 8 #[.agg #[.slice A1 n1 c1, .slice A2 n2 c2], .slice A m cap] w fun e w' => e = .returned (.bool true) ∧ Below w.heap.size w w' := by
  have HX := Lib.hid (BoxS.start S1 S2)
  have HI := Lib.hid hI
  have hk0 := HX.out.k0
  have hk1 := HX.out.k1
  obtain ⟨b, hb⟩ : ∃ b, (wishF Ls Rs == 0) = b := ⟨_, rfl⟩
  have HC := Lib.hid (fun W (h1 : BoxS w A1 n1 c1 A2 n2 c2 Ls Rs W) => wishesK_any A1 A2 n1 c1 n2 c2 Ls Rs b W h1.left h1.right hb)
  have HG := Lib.hid (fun W (h1 : BoxS w A1 n1 c1 A2 n2 c2 Ls Rs W) => wishHolds_go A1 A2 A n1 c1 n2 c2 m cap Ls Rs xs W h1.left h1.right (hI.go_ h1.below) (ints_some hI))
  obtain ⟨r, hr⟩ : ∃ r, wishF Ls Rs = r := ⟨_, rfl⟩
  rw [hr] at hb
  by_cases hr0 : r = 0
  · subst hr0
    obtain rfl : b = true := by rw [← hb]; rfl
    obtain ⟨q8, q1, o1, o2, W⟩ := wishOK_of hr
    have e1 := S1.len
    have e2 := S2.len
    obtain rfl : n1 = n2 := by omega
    have hn : n1 ≤ 8 := by omega
    rw [e1] at o1 o2 W
    have HP := Lib.hid (fun W1 (h1 : BoxS w A1 n1 c1 A2 n1 c2 Ls Rs W1) => wishPair_good A1 A2 n1 c1 c2 Ls Rs W1 h1.left h1.right hr hn o1 o2 W)
    have HR := Lib.hid hr
    have HN := Lib.hid e1
    have HWK := Lib.hid W
    have HO1 := Lib.hid o1
    have HO2 := Lib.hid o2
    obtain ⟨ea, hea⟩ : ∃ x, ansW Ls Rs xs = x := ⟨_, rfl⟩
    obtain ⟨er, her⟩ : ∃ x, errW Ls Rs xs = x := ⟨_, rfl⟩
    rw [hea, her] at HG
    have HEA := Lib.hid hea
    have HER := Lib.hid her
    have hgood : ea = true → er = 0 := by
      rw [← hea, ← her]
      intro h
      unfold ansW at h
      rw [Bool.and_eq_true, decide_eq_true_iff] at h
      exact h.1
    have HGD := Lib.hid hgood
    clear S1 S2 hI hr q8 q1 o1 o2 W e1 e2 hb hea her hgood
    go_enter Try.func8, Try.ntmps8
    go_wp2_with fail
    refine (HP.out _ (by exact HX.out)).mono ?_
    rintro e w1 ⟨a, l, rfl, hB, hrow, ha, hb1⟩
    have HX1 := Lib.hid (HX.out.next hb1)
    have HL := Lib.hid (ints_row (B := w1.heap.size) hrow hB.1.pair.len hrow.lt)
    have HB := Lib.hid hB
    have l0 := HX1.out.k0
    have l1 := HX1.out.k1
    clear hb1 hk0 hk1 hB hrow ha HP HX
    go_wp2_with fail
    refine (HG.out _ (by exact HX1.out)).mono ?_
    rintro e w2 ⟨rfl, hb2⟩
    have HX2 := Lib.hid (HX1.out.next hb2)
    have HL2 := Lib.hid (HL.out.go_ hb2)
    have k0 := HX2.out.k0
    have k1 := HX2.out.k1
    clear hb2 l0 l1 HG HX1 HL
    go_wp2_with fail
    refine (HC.out _ (by exact HX2.out)).mono ?_
    rintro e w3 ⟨rfl, hb3⟩
    have HX3 := Lib.hid (HX2.out.next hb3)
    have HL3 := Lib.hid (HL2.out.go_ hb3)
    have l0 := HX3.out.k0
    have l1 := HX3.out.k1
    clear hb3 k0 k1 HX2 HL2 HC
    by_cases her0 : er = 0
    · subst her0
      cases ea with
      | false =>
        go_wp2_with fail
        go_ret
        exact ⟨rfl, HX3.out.below⟩
      | true =>
        have HH := Lib.hid (hold_ans HEA.out)
        rw [HN.out] at HH
        have hm : m = n1 := by have := HI.out.1; have := HH.out.pair.len; omega
        subst hm
        have HBW := Lib.hid (show BestW w A1 m c1 A2 m c2 Ls Rs a A m l xs w3 from ⟨HX3.out, HL3.out, HI.out.go_ HX3.out.below⟩)
        clear HX3 HL3 HI HEA HER HGD HN HR
        go_wp2_with fail
        go_loopw [9] (fun t wr => ∃ k : Nat, k ≤ m ∧ t = .int .i64 k ∧ Hid (BestW w A1 m c1 A2 m c2 Ls Rs a A m l xs wr)) (fun t _ => m - (intOf t).toNat)
        case atStart => exact ⟨0, Nat.zero_le _, rfl, HBW⟩
        case round =>
          clear HBW
          obtain ⟨i, hi, rfl, HR⟩ := hrel
          by_cases hil : i < m
          · obtain ⟨b1, o1, l1, B1, d1, hA1, _, hl1, hc1, hB1, _, _⟩ := HR.out.box.left.get hil
            obtain ⟨b2, o2, l2, B2, d2, hA2, _, hl2, hc2, hB2, _, _⟩ := HR.out.box.right.get hil
            obtain ⟨b3, o3, y, hA3, _, hy, hcy⟩ := HR.out.list.at_ hil
            obtain ⟨b4, o4, x, hA4, _, hx, hcx⟩ := HR.out.best.at_ hil
            injection hA4 with hA4
            injection hA4 with q1 q2 q3
            subst q1 q2
            rw [Nat.zero_add] at hcx
            have k0 := HR.out.box.k0
            have k1 := HR.out.box.k1
            have ii0 : (0 : Int) ≤ (i : Int) := by omega
            have ii1 : (i : Int) < (m : Int) := by omega
            have gx : l.getD i (-1) = x := by rw [List.getD_eq_getElem?_getD, hx]; rfl
            have gy : xs.getD i (-1) = y := by rw [List.getD_eq_getElem?_getD, hy]; rfl
            have s1 : sd Ls i = l1 := by unfold sd; rw [List.getD_eq_getElem?_getD, hl1]; rfl
            have s2 : sd Rs i = l2 := by unfold sd; rw [List.getD_eq_getElem?_getD, hl2]; rfl
            have m1 : l1.length ≤ 8 := Nat.le_trans (len_le (eachB_iff.1 (HO1.out l1 (List.mem_of_getElem? hl1))).1 (eachB_iff.1 (HO1.out l1 (List.mem_of_getElem? hl1))).2) hn
            have m2 : l2.length ≤ 8 := Nat.le_trans (len_le (eachB_iff.1 (HO2.out l2 (List.mem_of_getElem? hl2))).1 (eachB_iff.1 (HO2.out l2 (List.mem_of_getElem? hl2))).2) hn
            have f1 := HB.out.2 xs HH.out i hil
            have f2 := worst_right HWK.out HB.out HH.out hil
            rw [gx, gy, s1] at f1
            rw [s2] at f2
            obtain ⟨p1, hp1⟩ : ∃ p, owP l (i : Int) = p := ⟨_, rfl⟩
            obtain ⟨p2, hp2⟩ : ∃ p, owP xs (i : Int) = p := ⟨_, rfl⟩
            rw [hp1, hp2] at f2
            obtain ⟨v1, hv1⟩ : ∃ v : Int, ((ahd l1 x : Nat) : Int) = v := ⟨_, rfl⟩
            obtain ⟨v2, hv2⟩ : ∃ v : Int, ((ahd l1 y : Nat) : Int) = v := ⟨_, rfl⟩
            obtain ⟨v3, hv3⟩ : ∃ v : Int, ((ahd l2 p1 : Nat) : Int) = v := ⟨_, rfl⟩
            obtain ⟨v4, hv4⟩ : ∃ v : Int, ((ahd l2 p2 : Nat) : Int) = v := ⟨_, rfl⟩
            have g1 : decide (v1 > v2) = false := decide_eq_false (by omega)
            have g1' : decide (v2 < v1) = false := g1
            have g2 : decide (v3 < v4) = false := decide_eq_false (by omega)
            have HAH : Hid (∀ (B : Option Addr) (e d : Nat) (u z : Int), ((B = B1 ∧ e = l1.length ∧ d = d1 ∧ u = x ∧ z = v1) ∨ (B = B1 ∧ e = l1.length ∧ d = d1 ∧ u = y ∧ z = v2) ∨ (B = B2 ∧ e = l2.length ∧ d = d2 ∧ u = p1 ∧ z = v3) ∨ (B = B2 ∧ e = l2.length ∧ d = d2 ∧ u = p2 ∧ z = v4)) → ∀ k, Calls Try.prog 23 #[.slice B e d, .int .i64 u] (wr.drewN k) fun e w' => e = .returned (.int .i64 z) ∧ w' = wr.drewN k) := Lib.hid (by
              rintro B e d u z (⟨rfl, rfl, rfl, rfl, rfl⟩ | ⟨rfl, rfl, rfl, rfl, rfl⟩ | ⟨rfl, rfl, rfl, rfl, rfl⟩ | ⟨rfl, rfl, rfl, rfl, rfl⟩) k
              · rw [← hv1]; exact ahead_any l1.length _ _ _ l1 (wr.drewN k) (hB1.drewN k) (by omega)
              · rw [← hv2]; exact ahead_any l1.length _ _ _ l1 (wr.drewN k) (hB1.drewN k) (by omega)
              · rw [← hv3]; exact ahead_any l2.length _ _ _ l2 (wr.drewN k) (hB2.drewN k) (by omega)
              · rw [← hv4]; exact ahead_any l2.length _ _ _ l2 (wr.drewN k) (hB2.drewN k) (by omega))
            have HHS : Hid (∀ (B : Option Addr) (d : Nat) (z : Int), ((B = some ⟨a, 0, none⟩ ∧ d = m ∧ z = p1) ∨ (B = A ∧ d = cap ∧ z = p2)) → ∀ k, Calls Try.prog 24 #[.slice B m d, .int .i64 (i : Int)] (wr.drewN k) fun e w' => e = .returned (.int .i64 z) ∧ w' = wr.drewN k) := Lib.hid (by
              rintro B d z (⟨rfl, rfl, rfl⟩ | ⟨rfl, rfl, rfl⟩) k
              · rw [← hp1]; exact hasK_any d _ _ _ l (wr.drewN k) (HR.out.best.drewN k) (by omega)
              · rw [← hp2]; exact hasK_any m _ _ _ xs (wr.drewN k) (HR.out.list.drewN k) (by omega))
            generalize l1.length = e1 at hc1 HAH
            generalize l2.length = e2 at hc2 HAH
            clear hv1 hv2 hv3 hv4 hp1 hp2 f1 f2 gx gy s1 s2 m1 m2 hx hy hl1 hl2 hB1 hB2 HB HH HWK HO1 HO2
            subst hA1 hA2 hA3
            go_wp2_with fail
            go_quiet ((first | (go_at_call 23; exact Calls.quiet_of_same (HAH.out _ _ _ _ _ (by first | exact Or.inl ⟨rfl, rfl, rfl, rfl, rfl⟩ | exact Or.inr (Or.inl ⟨rfl, rfl, rfl, rfl, rfl⟩) | exact Or.inr (Or.inr (Or.inl ⟨rfl, rfl, rfl, rfl, rfl⟩)) | exact Or.inr (Or.inr (Or.inr ⟨rfl, rfl, rfl, rfl, rfl⟩))) _)) | (go_at_call 24; exact Calls.quiet_of_same (HHS.out _ _ _ (by first | exact Or.inl ⟨rfl, rfl, rfl⟩ | exact Or.inr ⟨rfl, rfl, rfl⟩) _))))
            go_wp2
            go_roundw
            case rel => exact ⟨i + 1, by omega, by go_num, Lib.hid (HR.out.drewN _)⟩
            case measure => simp [intOf]; omega
          · obtain rfl : i = m := by omega
            go_wp2_with fail
            go_ret
            exact ⟨rfl, HR.out.box.below⟩
    · obtain rfl : ea = false := by
        cases ea with
        | false => rfl
        | true => exact absurd (HGD.out rfl) her0
      have her1 : (er != 0) = true := by simpa using her0
      clear HEA HER HGD
      go_wp2_with fail
      go_ret
      exact ⟨rfl, HX3.out.below⟩
  · obtain rfl : b = false := by rw [← hb]; simpa using hr0
    have hr1 : (r != 0) = true := by simpa using hr0
    have HP := Lib.hid (fun W1 (h1 : BoxS w A1 n1 c1 A2 n2 c2 Ls Rs W1) => wishPair_bad A1 A2 n1 c1 n2 c2 Ls Rs r W1 h1.left h1.right hr hr0)
    have e : errW Ls Rs xs = r := by unfold errW; rw [hr, if_neg hr0]
    rw [e] at HG
    clear S1 S2 hI hr hb e
    go_enter Try.func8, Try.ntmps8
    go_wp2_with fail
    refine (HP.out _ (by exact HX.out)).mono ?_
    rintro e w1 ⟨rfl, hb1⟩
    have HX1 := Lib.hid (HX.out.next hb1)
    have l0 := HX1.out.k0
    have l1 := HX1.out.k1
    clear hb1 hk0 hk1
    go_wp2_with fail
    refine (HG.out _ (by exact HX1.out)).mono ?_
    rintro e w2 ⟨rfl, hb2⟩
    have HX2 := Lib.hid (HX1.out.next hb2)
    have k0 := HX2.out.k0
    have k1 := HX2.out.k1
    clear hb2 l0 l1
    go_wp2_with fail
    refine (HC.out _ (by exact HX2.out)).mono ?_
    rintro e w3 ⟨rfl, hb3⟩
    have HX3 := Lib.hid (HX2.out.next hb3)
    clear hb3
    go_wp2_with fail
    go_ret
    exact ⟨rfl, HX3.out.below⟩
end Go.Proofs.Ytmelgnfhocofiaa
