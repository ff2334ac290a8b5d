/- Insertion into what is sorted. -/
import Derived.Test.YthfgbgmkiggjmaaSortCmp
namespace Go.Proofs.Ythfgbgmkiggjmaa
open Go.RowKit

theorem CmpAt.drewN {w : World} {B : Nat} {A : Option Addr} {len cap : Nat} {es : List E3} (h : CmpAt w B A len cap es) (k : Nat) : CmpAt (w.drewN k) B A len cap es := ⟨h.box, h.edges.keep fun _ _ => rfl⟩
/-- The test that the sort is given. -/
def cmpV (B : Nat) : Value := .func (.func 60) #[] #[.pointer (some ⟨B, 0, none⟩)]
/-- All are places. -/
def InF (f : Nat → Int) (n len : Nat) : Prop := ∀ i, i < n → 0 ≤ f i ∧ f i < len

set_option maxRecDepth 100000 in
set_option maxHeartbeats 4000000 in
theorem insertion_any (g n cap a b B len capE : Nat) (A : Option Addr) (es : List E3) (f : Nat → Int) (w : World) (h : RowC w g n f) (hab : a ≤ b) (hb : b ≤ n) (hn : n ≤ 1000) (hC : CmpAt w B A len capE es) (hBg : B < g) (hin : InF f n len) (hx : ∀ i j, a ≤ i → i < j → j < b → f i < f j) :
    Calls Try.prog 82 #[.slice (some ⟨g, 0, none⟩) n cap, .int .i64 a, .int .i64 b, cmpV B] w fun e w' => e = .returned (.tuple #[]) ∧ (∃ f', RowC w' g n f' ∧ Shuf a b f f' ∧ SortedF (wOf es) f' a b) ∧ Below g w w' := by
  have HR := Lib.hid h
  have HCm := Lib.hid hC
  have HIN := Lib.hid hin
  have HXX := Lib.hid hx
  clear h hC hin hx
  unfold cmpV
  go_enter Try.func82, Try.ntmps82
  go_wp2
  go_loopw [8, 9] (fun si _ wr => ∃ (i : Nat) (c : Nat → Int), a + 1 ≤ i ∧ (i ≤ b ∨ i = a + 1) ∧ si = .int .i64 i ∧ Hid (RowC wr g n c) ∧ Hid (Shuf a i f c) ∧ Hid (SortedF (wOf es) c a i) ∧ Below g w wr) (fun si _ _ => b + 1 - (intOf si).toNat)
  case atStart => exact ⟨a + 1, f, Nat.le_refl _, .inr rfl, by go_num, HR, Lib.hid (Shuf.refl _ _ _), Lib.hid (fun i j hi hij hj => by omega), Below.refl _ _⟩
  case round =>
    obtain ⟨i, c, hai, hib, rfl, HC, HS, HSO, hB⟩ := hrel
    by_cases hlt : i < b
    · have hlt2 : (i : Int) < (b : Int) := by omega
      go_wp2
      obtain ⟨wo, rfl⟩ : ∃ wo : World, wo = wr := ⟨_, rfl⟩
      go_loopw [9] (fun sj wr => ∃ j : Nat, a ≤ j ∧ j ≤ i ∧ sj = .int .i64 j ∧ Hid (RowC wr g n (insAt c i j)) ∧ Hid (∀ k, j ≤ k → k < i → ltP (wOf es) (c i) (c k)) ∧ Below g w wr) (fun sj _ => (intOf sj).toNat)
      case atStart => exact ⟨i, by omega, Nat.le_refl _, rfl, Lib.hid (HC.out.congr fun p _ => (insAt_start c i p).symm), Lib.hid (fun k h1 h2 => by omega), hB⟩
      case round =>
        obtain ⟨j, haj, hji, rfl, HCj, HX, hBj⟩ := hrel
        have HNEXT : Hid ((∀ k, a ≤ k → k < j → ltP (wOf es) (c k) (c i)) → Shuf a (i + 1) f (insAt c i j) ∧ SortedF (wOf es) (insAt c i j) a (i + 1)) := Lib.hid fun hy =>
          ⟨(HS.out.mono (Nat.le_refl _) (Nat.le_succ _)).trans (insAt_shuf haj hji (Nat.lt_succ_self _)), insAt_sorted haj hji HSO.out HX.out hy⟩
        by_cases hja : a < j
        · obtain ⟨p, rfl⟩ : ∃ p, j = p + 1 := ⟨j - 1, by omega⟩
          have hja2 : (a : Int) < (p : Int) + 1 := by omega
          have cj := HCj.out.cell (show p + 1 < n by omega)
          have cp := HCj.out.cell (show p < n by omega)
          rw [insAt_at] at cj
          rw [insAt_left (Nat.lt_succ_self p)] at cp
          have fj := HCj.out.frozen (p + 1)
          have fp := HCj.out.frozen p
          obtain ⟨i1, hi1, hi2, hi3⟩ : ∃ i1, a ≤ i1 ∧ i1 < i ∧ c p = f i1 := HS.out.inn p (by omega) (by omega)
          have hci : c i = f i := HS.out.out i (.inr (Nat.le_refl _))
          have hcross : c p < c i := by rw [hci, hi3]; exact HXX.out i1 i hi1 hi2 hlt
          have hbi := HIN.out i (by omega)
          have hbp := HIN.out i1 (by omega)
          rw [← hci] at hbi
          rw [← hi3] at hbp
          have HST : Hid (∀ k, k < n → updF (updF (insAt c i (p + 1)) (p + 1) (c p)) p (c i) k = insAt c i p k) := Lib.hid fun k _ => insAt_step hji k
          have HCW := Lib.hid (HCm.out.below hBj hBg)
          have HX1 : Hid (wOf es (c i) < wOf es (c p) → ∀ k, p ≤ k → k < i → ltP (wOf es) (c i) (c k)) := Lib.hid fun hw k h1 h2 => by
            rcases Nat.lt_or_ge p k with h3 | h3
            · exact HX.out k h3 h2
            · obtain rfl : k = p := by omega
              exact .inl hw
          have HX2 : Hid (¬ wOf es (c i) < wOf es (c p) → ∀ k, a ≤ k → k < p + 1 → ltP (wOf es) (c k) (c i)) := Lib.hid fun hw k h1 h2 => by
            have h3 := ltP.cross' hcross hw
            rcases Nat.lt_or_ge k p with h4 | h4
            · exact (HSO.out k p h1 h4 (by omega)).trans h3
            · obtain rfl : k = p := by omega
              exact h3
          have HNEG := Lib.hid (cmpI_neg (wOf es (c i)) (wOf es (c p)))
          obtain ⟨hbi0, hbi1⟩ := hbi
          obtain ⟨hbp0, hbp1⟩ := hbp
          have HCMP := Lib.hid (fun W hW => wcmp_any (c i) (c p) B len capE A es W hW hbi0 hbi1 hbp0 hbp1)
          clear hcross hci hi3 HX
          generalize wOf es (c i) = u at *
          generalize wOf es (c p) = v at *
          generalize hci : c i = x at *
          generalize hcp : c p = y at *
          have HCI := Lib.hid hci
          clear hci hcp
          have ip0 : (0 : Int) ≤ (p : Int) := by omega
          have ip1 : (p : Int) < (n : Int) := by omega
          have ip2 : (p : Int) + 1 < (n : Int) := by omega
          have ip3 : (0 : Int) ≤ (p : Int) + 1 := by omega
          have wp : IntKind.i64.wrap (p : Int) = (p : Int) := IntWalk.i64_in _ (by omega)
          have wp2 : IntKind.i64.wrap ((p : Int) + 1 - 1) = (p : Int) := by rw [Int.add_sub_cancel]; exact wp
          have np1 : ¬ p + 1 = p := by omega
          have np2 : ¬ p = p + 1 := by omega
          have hd1 : decide ((a : Int) < (p : Int) + 1) = true := by simp; omega
          have hd2 : decide (a < p + 1) = true := by simp; omega
          by_cases hw : u < v
          · have hq : cmpI u v < 0 := HNEG.out.2 hw
            have hqd : decide (cmpI u v < 0) = true := by simpa using hq
            have HN := Lib.hid (HX1.out hw)
            clear HX2 hw HNEXT HNEG
            generalize cmpI u v = z at *
            go_wp2
            go_quiet ((go_at_call 60; exact Calls.quiet_of (HCMP.out _ (by exact HCW.out.drewN _))))
            go_wp2
            go_region
            go_wp2
            go_roundw
            case rel => exact ⟨p, by omega, by omega, rfl, Lib.hid ((((HCj.out.drewN _).set_ (p + 1) y).set_ p x).congr HST.out), HN, (((below_drewN hBj _).setCell (p := ⟨g, p + 1, none⟩) (Nat.le_refl _) _).setCell (p := ⟨g, p, none⟩) (Nat.le_refl _) _)⟩
            case measure => simp [intOf]
          · have hq : ¬ cmpI u v < 0 := fun h => hw (HNEG.out.1 h)
            have hqd : decide (cmpI u v < 0) = false := by simpa using hq
            have HN := Lib.hid (HNEXT.out (HX2.out hw))
            clear HX1 HX2 hw HNEXT HNEG
            generalize cmpI u v = z at *
            go_wp2
            go_quiet ((go_at_call 60; exact Calls.quiet_of (HCMP.out _ (by exact HCW.out.drewN _))))
            go_wp2
            go_roundw
            case rel => exact ⟨i + 1, _, by omega, .inl (by omega), by go_num, Lib.hid (HCj.out.drewN _), Lib.hid HN.out.1, Lib.hid HN.out.2, below_drewN hBj _⟩
            case measure => simp [intOf]; omega
        · obtain rfl : j = a := by omega
          have HN := Lib.hid (HNEXT.out (fun k h1 h2 => by omega))
          have hd1 : decide ((j : Int) < (j : Int)) = false := by simp
          clear HNEXT
          go_wp2
          go_quiet (fail)
          go_wp2
          go_roundw
          case rel => exact ⟨i + 1, _, by omega, .inl (by omega), by go_num, Lib.hid (HCj.out.drewN _), Lib.hid HN.out.1, Lib.hid HN.out.2, below_drewN hBj _⟩
          case measure => simp [intOf]; omega
    · have HFIN : Hid (∃ f', RowC wr g n f' ∧ Shuf a b f f' ∧ SortedF (wOf es) f' a b) := Lib.hid (by
        refine ⟨c, HC.out, ?_, HSO.out.sub (Nat.le_refl _) (by omega)⟩
        by_cases h1 : i = b
        · subst h1; exact HS.out
        · obtain rfl : i = a + 1 := by omega
          obtain rfl : a = b := by omega
          refine ⟨fun k hk => ?_, fun k h1 h2 => by omega⟩
          by_cases hka : k = a
          · subst hka
            obtain ⟨q, q1, q2, q3⟩ := HS.out.inn k (Nat.le_refl _) (Nat.lt_succ_self _)
            obtain rfl : q = k := by omega
            exact q3
          · exact HS.out.out k (by omega))
      have hlt2 : ¬ (i : Int) < (b : Int) := by omega
      go_wp2
      go_end0
      exact ⟨rfl, HFIN.out, hB⟩
end Go.Proofs.Ythfgbgmkiggjmaa
