/- ROTH: whoever is left over in one pairing that holds is so in all. -/
import Derived.Test.YtmelgnfhocofiaaKeepWishes
import Derived.Test.YtmelgnfhocofiaaKeepAhead
import Derived.Test.YtmelgnfhocofiaaWishAllGo
import Derived.Deep.QuietTactic
namespace Go.Proofs.Ytmelgnfhocofiaa
open Go.RowKit

theorem boxS_drewN' {w w1 : World} {A1 A2 : Option Addr} {n1 c1 n2 c2 : Nat} {Ls Rs : List (List Int)} (h : BoxS w A1 n1 c1 A2 n2 c2 Ls Rs w1) (k : Nat) : BoxS w A1 n1 c1 A2 n2 c2 Ls Rs (w1.drewN k) := ⟨h.left.drewN k, h.right.drewN k, below_drewN h.below k, below_drewN h.box k⟩
/-- All that is read: the wishes, and all pairings. -/
structure RurW (w : World) (A1 : Option Addr) (n1 c1 : Nat) (A2 : Option Addr) (n2 c2 : Nat) (Ls Rs : List (List Int)) (A : Option Addr) (m : Nat) (xss : List (List Int)) (w1 : World) : Prop where
  box : BoxS w A1 n1 c1 A2 n2 c2 Ls Rs w1
  all : ListsAt w1 w1.heap.size A m xss
theorem RurW.drewN {w w1 : World} {A1 A2 A : Option Addr} {n1 c1 n2 c2 m : Nat} {Ls Rs xss : List (List Int)} (h : RurW w A1 n1 c1 A2 n2 c2 Ls Rs A m xss w1) (k : Nat) : RurW w A1 n1 c1 A2 n2 c2 Ls Rs A m xss (w1.drewN k) := ⟨boxS_drewN' h.box k, h.all.drewN k⟩
theorem lt0_of {a b : Int} (h : decide (0 ≤ a) = decide (0 ≤ b)) : decide (a < 0) = decide (b < 0) := by
  by_cases ha : 0 ≤ a <;> by_cases hb : 0 ≤ b <;> simp [ha, hb] at h
  · rw [decide_eq_false (by omega), decide_eq_false (by omega)]
  · rw [decide_eq_true (by omega), decide_eq_true (by omega)]
/-- All that hold leave over the same. -/
theorem rural_all {n : Nat} {L R : Nat → List Int} {l m : List Int} (W : WishOK n L R) (HL : HoldP n L R l) (HM : HoldP n L R m) (i : Nat) (hi : i < n) : decide (l.getD i (-1) < 0) = decide (m.getD i (-1) < 0) ∧ decide (owP l (i : Int) < 0) = decide (owP m (i : Int) < 0) := by
  obtain ⟨b, HB⟩ := best_ex W
  have h1 := rural_best W HB HL
  have h2 := rural_best W HB HM
  exact ⟨lt0_of (show hasL l i = hasL m i by rw [h1.1 i hi, h2.1 i hi]), lt0_of (show hasR l i = hasR m i by rw [← h1.2 i hi, ← h2.2 i hi])⟩
set_option maxRecDepth 100000 in
set_option maxHeartbeats 8000000 in
theorem wishRural_any (A1 : Option Addr) (n1 c1 : Nat) (A2 : Option Addr) (n2 c2 : Nat) (Ls Rs : List (List Int)) (w : World) (S1 : SideAt w w.heap.size A1 n1 c1 Ls) (S2 : SideAt w w.heap.size A2 n2 c2 Rs) :
    Calls Try.prog 9 #[.agg #[.slice A1 n1 c1, .slice A2 n2 c2]] w fun e w' => e = .returned (.bool true) ∧ Below w.heap.size w w' := by
  have HX := Lib.hid (BoxS.start S1 S2)
  have hk0 := HX.out.k0
  have hk1 := HX.out.k1
  obtain ⟨b, hb⟩ : ∃ b, (wishF Ls Rs == 0) = b := ⟨_, rfl⟩
  have HC := Lib.hid (fun W (h1 : BoxS w A1 n1 c1 A2 n2 c2 Ls Rs W) => wishesK_any A1 A2 n1 c1 n2 c2 Ls Rs b W h1.left h1.right hb)
  obtain ⟨r, hr⟩ : ∃ r, wishF Ls Rs = r := ⟨_, rfl⟩
  rw [hr] at hb
  by_cases hr0 : r = 0
  · subst hr0
    obtain rfl : b = true := by rw [← hb]; rfl
    obtain ⟨q8, q1, o1, o2, W⟩ := wishOK_of hr
    have e1 := S1.len
    have e2 := S2.len
    obtain rfl : n1 = n2 := by omega
    have hn : n1 ≤ 8 := by omega
    rw [e1] at o1 o2 W
    have HP := Lib.hid (fun W1 (h1 : BoxS w A1 n1 c1 A2 n1 c2 Ls Rs W1) => wishAll_good A1 A2 n1 c1 c2 Ls Rs W1 h1.left h1.right hr hn o1 o2 W)
    have hml := allW_length (L := sd Ls) (R := sd Rs) hn
    have HHL := Lib.hid (fun xs (hx : xs ∈ allW n1 (sd Ls) (sd Rs)) => mem_allW.1 hx)
    have hm0 : 0 < (allW n1 (sd Ls) (sd Rs)).length := List.length_pos_iff.2 (allW_ne W)
    have HRU := Lib.hid (fun l m (hl : l ∈ allW n1 (sd Ls) (sd Rs)) (hm : m ∈ allW n1 (sd Ls) (sd Rs)) => rural_all W (mem_allW.1 hl) (mem_allW.1 hm))
    generalize allW n1 (sd Ls) (sd Rs) = xss at HP hml HHL hm0 HRU
    generalize xss.length = m at HP hml hm0
    have hmb : ((m : Int) == 0) = false := by simp; omega
    clear S1 S2 hr q8 q1 o1 o2 W e1 e2 hb
    go_enter Try.func9, Try.ntmps9
    go_wp2_with fail
    refine (HP.out _ (by exact HX.out)).mono ?_
    rintro e w1 ⟨Aa, ca, rfl, hL, hb1⟩
    have HX1 := Lib.hid (HX.out.next hb1)
    have HL := Lib.hid hL
    have l0 := HX1.out.k0
    have l1 := HX1.out.k1
    clear hb1 hk0 hk1 hL HP HX
    go_wp2_with fail
    refine (HC.out _ (by exact HX1.out)).mono ?_
    rintro e w2 ⟨rfl, hb2⟩
    have HRW := Lib.hid (show RurW w A1 n1 c1 A2 n1 c2 Ls Rs Aa m xss w2 from ⟨HX1.out.next hb2, HL.out.go_ hb2⟩)
    clear hb2 l0 l1 HC HX1 HL
    go_wp2_with fail
    go_loopw [27] (fun t wr => ∃ q : Nat, q ≤ m ∧ t = .int .i64 q ∧ Hid (RurW w A1 n1 c1 A2 n1 c2 Ls Rs Aa m xss wr)) (fun t _ => m - (intOf t).toNat)
    case atStart => exact ⟨0, Nat.zero_le _, rfl, HRW⟩
    case round =>
      clear HRW
      obtain ⟨q, hq, rfl, HR⟩ := hrel
      by_cases hqm : q < m
      · obtain ⟨ba, oa, xs, B1, d1, hAa, _, hxs, hcx, hIx⟩ := HR.out.all.at_ hqm
        obtain ⟨ba', oa', ys, B2, d2, hAa', _, hys, hcy, hIy⟩ := HR.out.all.at_ hm0
        obtain ⟨rfl, rfl⟩ : ba = ba' ∧ oa = oa' := by rw [hAa] at hAa'; injection hAa' with h; injection h with h1 h2; exact ⟨h1, h2⟩
        have hxl := (HHL.out xs (List.mem_of_getElem? hxs)).pair.len
        have hyl := (HHL.out ys (List.mem_of_getElem? hys)).pair.len
        rw [hxl] at hcx
        rw [hyl] at hcy
        rw [Nat.add_zero] at hcy
        have k0 := HR.out.box.k0
        have k1 := HR.out.box.k1
        have qq0 : (0 : Int) ≤ (q : Int) := by omega
        have qq1 : (q : Int) < (m : Int) := by omega
        have mm0 : (0 : Int) < (m : Int) := by omega
        have HXS := Lib.hid hxs
        have HYS := Lib.hid hys
        have HXY := Lib.hid (HRU.out xs ys (List.mem_of_getElem? hxs) (List.mem_of_getElem? hys))
        rw [hxl] at hIx
        rw [hyl] at hIy
        have HIX := Lib.hid hIx
        have HIY := Lib.hid hIy
        subst hAa
        obtain ⟨wo, hwo⟩ : ∃ wo : World, wo = wr := ⟨_, rfl⟩
        have HWO := Lib.hid hwo
        have HQM := Lib.hid hqm
        have HCX := Lib.hid hcx
        have HCY := Lib.hid hcy
        have hnn : ((n1 : Int) != (n1 : Int)) = false := by simp
        clear hxs hys hIx hIy hxl hyl hAa'
        go_wp2_with fail
        rw [← hwo] at HR HIX HIY HCX HCY
        clear hwo k0 k1 hcx hcy
        go_loopw [7] (fun t wr => ∃ i z : Nat, i ≤ n1 ∧ t = .int .i64 i ∧ Hid (wr = wo.drewN z)) (fun t _ => n1 - (intOf t).toNat)
        case atStart => exact ⟨0, 0, Nat.zero_le _, rfl, Lib.hid HWO.out.symm⟩
        case round =>
          obtain ⟨i, z, hi, rfl, HZ⟩ := hrel
          by_cases hin : i < n1
          · obtain ⟨b3, f3, x, hB1, _, hx, hcx3⟩ := HIX.out.at_ hin
            obtain ⟨b4, f4, y, hB2, _, hy, hcy4⟩ := HIY.out.at_ hin
            have gx : xs.getD i (-1) = x := by rw [List.getD_eq_getElem?_getD, hx]; rfl
            have gy : ys.getD i (-1) = y := by rw [List.getD_eq_getElem?_getD, hy]; rfl
            have e1 : ∀ p : Addr, wr.cell? p = wo.cell? p := fun p => by rw [HZ.out]; rfl
            have j1 : wr.cell? ⟨ba, oa + q, none⟩ = _ := (e1 _).trans HCX.out
            have j2 : wr.cell? ⟨ba, oa, none⟩ = _ := (e1 _).trans HCY.out
            have j3 : wr.cell? ⟨b3, f3 + i, none⟩ = _ := (e1 _).trans hcx3
            have j4 : wr.cell? ⟨b4, f4 + i, none⟩ = _ := (e1 _).trans hcy4
            have ii0 : (0 : Int) ≤ (i : Int) := by omega
            have ii1 : (i : Int) < (n1 : Int) := by omega
            have hru := HXY.out i hin
            rw [gx, gy] at hru
            obtain ⟨p1, hp1⟩ : ∃ p, owP xs (i : Int) = p := ⟨_, rfl⟩
            obtain ⟨p2, hp2⟩ : ∃ p, owP ys (i : Int) = p := ⟨_, rfl⟩
            rw [hp1, hp2] at hru
            obtain ⟨u, hu⟩ : ∃ u, decide (y < 0) = u := ⟨_, rfl⟩
            obtain ⟨v, hv⟩ : ∃ v, decide (p2 < 0) = v := ⟨_, rfl⟩
            obtain ⟨hu1, hv1⟩ := hru
            rw [hu] at hu1
            rw [hv] at hv1
            have huu : (u != u) = false := by simp
            have hvv : (v != v) = false := by simp
            have HHS : Hid (∀ (B : Option Addr) (d : Nat) (s : Int), ((B = B1 ∧ d = d1 ∧ s = p1) ∨ (B = B2 ∧ d = d2 ∧ s = p2)) → ∀ k, Calls Try.prog 24 #[.slice B n1 d, .int .i64 (i : Int)] (wr.drewN k) fun e w' => e = .returned (.int .i64 s) ∧ w' = wr.drewN k) := Lib.hid (by
              rw [HZ.out]
              rintro B d s (⟨rfl, rfl, rfl⟩ | ⟨rfl, rfl, rfl⟩) k
              · rw [← hp1]; exact hasK_any n1 _ _ _ xs _ ((HIX.out.drewN z).drewN k) (by omega)
              · rw [← hp2]; exact hasK_any n1 _ _ _ ys _ ((HIY.out.drewN z).drewN k) (by omega))
            clear hp1 hp2 gx gy hx hy hcx3 hcy4 e1
            subst hB1 hB2
            have HIN := Lib.hid hin
            go_wp2_with fail
            go_quiet ((go_at_call 24; exact Calls.quiet_of_same (HHS.out _ _ _ (by first | exact Or.inl ⟨rfl, rfl, rfl⟩ | exact Or.inr ⟨rfl, rfl, rfl⟩) _)))
            go_wp2
            go_roundw
            case rel => exact ⟨i + 1, _, by have := HIN.out; omega, by go_num, Lib.hid (by rw [HZ.out, World.drewN_drewN])⟩
            case measure => have := HIN.out; simp [intOf]; omega
          · obtain rfl : i = n1 := by omega
            have HRN := Lib.hid (show RurW w A1 i c1 A2 i c2 Ls Rs _ m xss wr by rw [HZ.out]; exact HR.out.drewN z)
            clear HR
            go_wp2_with fail
            go_roundw
            case rel => exact ⟨q + 1, by have := HQM.out; omega, by go_num, HRN⟩
            case measure => have := HQM.out; simp [intOf]; omega
      · obtain rfl : q = m := by omega
        go_wp2_with fail
        go_ret
        exact ⟨rfl, HR.out.box.below⟩
  · obtain rfl : b = false := by rw [← hb]; simpa using hr0
    have hr1 : (r != 0) = true := by simpa using hr0
    have HP := Lib.hid (fun W1 (h1 : BoxS w A1 n1 c1 A2 n2 c2 Ls Rs W1) => wishAll_bad A1 A2 n1 c1 n2 c2 Ls Rs r W1 h1.left h1.right hr hr0)
    clear S1 S2 hr hb
    go_enter Try.func9, Try.ntmps9
    go_wp2_with fail
    refine (HP.out _ (by exact HX.out)).mono ?_
    rintro e w1 ⟨rfl, hb1⟩
    have HX1 := Lib.hid (HX.out.next hb1)
    have l0 := HX1.out.k0
    have l1 := HX1.out.k1
    clear hb1 hk0 hk1
    go_wp2_with fail
    refine (HC.out _ (by exact HX1.out)).mono ?_
    rintro e w2 ⟨rfl, hb2⟩
    have HX2 := Lib.hid (HX1.out.next hb2)
    clear hb2
    go_wp2_with fail
    go_ret
    exact ⟨rfl, HX2.out.below⟩
end Go.Proofs.Ytmelgnfhocofiaa
