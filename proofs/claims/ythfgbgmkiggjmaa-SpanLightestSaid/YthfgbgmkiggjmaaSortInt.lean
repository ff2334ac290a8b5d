/- slices.Sort of a few integers, none of them twice. -/
import Derived.Test.YthfgbgmkiggjmaaSortCmp
namespace Go.Proofs.Ythfgbgmkiggjmaa
open Go.RowKit

def noW : Int → Int := fun _ => 0
theorem noW_lt {x y : Int} : ltP noW x y ↔ x < y := by unfold ltP noW; omega
set_option maxRecDepth 100000 in
theorem nanI_any (x : Int) (w : World) : Calls Try.prog 89 #[.int .i64 x] w fun e w' => e = .returned (.bool false) ∧ w = w' := by
  go_enter Try.func89, Try.ntmps89
  go_wp2
  go_ret
  exact ⟨by simp, rfl⟩
set_option maxRecDepth 100000 in
theorem lessI_any (x y : Int) (w : World) : Calls Try.prog 77 #[.int .i64 x, .int .i64 y] w fun e w' => e = .returned (.bool (decide (x < y))) ∧ w = w' := by
  go_enter Try.func77, Try.ntmps77
  go_wp2_with (go_at_call 89; refine (nanI_any _ _).mono ?_; rintro e w1 ⟨rfl, rfl⟩)
  go_ret
  exact ⟨rfl, rfl⟩
set_option maxRecDepth 100000 in
theorem lessI_v (x y : Int) (b : Bool) (w : World) (hb : decide (x < y) = b) : Calls Try.prog 77 #[.int .i64 x, .int .i64 y] w fun e w' => e = .returned (.bool b) ∧ w' = w := by
  subst hb; exact (lessI_any x y w).mono fun e w' h => ⟨h.1, h.2.symm⟩

set_option maxRecDepth 100000 in
set_option maxHeartbeats 4000000 in
theorem insertionInt_any (g n cap b : Nat) (f : Nat → Int) (w : World) (h : RowC w g n f) (hb : b ≤ n) (hn : n ≤ 1000) (hx : ∀ i j, i < j → j < b → f i ≠ f j) :
    Calls Try.prog 71 #[.slice (some ⟨g, 0, none⟩) n cap, .int .i64 0, .int .i64 b] w fun e w' => e = .returned (.tuple #[]) ∧ (∃ f', RowC w' g n f' ∧ Shuf 0 b f f' ∧ SortedF noW f' 0 b) ∧ Below g w w' := by
  have HR := Lib.hid h
  have HXX := Lib.hid hx
  clear h hx
  go_enter Try.func71, Try.ntmps71
  go_wp2
  go_loopw [6, 7] (fun si _ wr => ∃ (i : Nat) (c : Nat → Int), 1 ≤ i ∧ (i ≤ b ∨ i = 1) ∧ si = .int .i64 i ∧ Hid (RowC wr g n c) ∧ Hid (Shuf 0 i f c) ∧ Hid (SortedF noW c 0 i) ∧ Below g w wr) (fun si _ _ => b + 1 - (intOf si).toNat)
  case atStart => exact ⟨1, f, Nat.le_refl _, .inr rfl, by go_num, HR, Lib.hid (Shuf.refl _ _ _), Lib.hid (fun i j hi hij hj => by omega), Below.refl _ _⟩
  case round =>
    obtain ⟨i, c, hai, hib, rfl, HC, HS, HSO, hB⟩ := hrel
    by_cases hlt : i < b
    · have hlt2 : (i : Int) < (b : Int) := by omega
      go_wp2
      obtain ⟨wo, rfl⟩ : ∃ wo : World, wo = wr := ⟨_, rfl⟩
      go_loopw [7] (fun sj wr => ∃ j : Nat, j ≤ i ∧ sj = .int .i64 j ∧ Hid (RowC wr g n (insAt c i j)) ∧ Hid (∀ k, j ≤ k → k < i → ltP noW (c i) (c k)) ∧ Below g w wr) (fun sj _ => (intOf sj).toNat)
      case atStart => exact ⟨i, Nat.le_refl _, rfl, Lib.hid (HC.out.congr fun p _ => (insAt_start c i p).symm), Lib.hid (fun k h1 h2 => by omega), hB⟩
      case round =>
        obtain ⟨j, hji, rfl, HCj, HX, hBj⟩ := hrel
        have HNEXT : Hid ((∀ k, k < j → ltP noW (c k) (c i)) → Shuf 0 (i + 1) f (insAt c i j) ∧ SortedF noW (insAt c i j) 0 (i + 1)) := Lib.hid fun hy =>
          ⟨(HS.out.mono (Nat.le_refl _) (Nat.le_succ _)).trans (insAt_shuf (Nat.zero_le _) hji (Nat.lt_succ_self _)), insAt_sorted (Nat.zero_le _) hji HSO.out HX.out (fun k _ => hy k)⟩
        by_cases hja : 0 < j
        · obtain ⟨p, rfl⟩ : ∃ p, j = p + 1 := ⟨j - 1, by omega⟩
          have cj := HCj.out.cell (show p + 1 < n by omega)
          have cp := HCj.out.cell (show p < n by omega)
          rw [insAt_at] at cj
          rw [insAt_left (Nat.lt_succ_self p)] at cp
          have fj := HCj.out.frozen (p + 1)
          have fp := HCj.out.frozen p
          obtain ⟨i1, _, hi2, hi3⟩ : ∃ i1, 0 ≤ i1 ∧ i1 < i ∧ c p = f i1 := HS.out.inn p (Nat.zero_le _) (by omega)
          have hci : c i = f i := HS.out.out i (.inr (Nat.le_refl _))
          have hne : c p ≠ c i := by rw [hci, hi3]; exact HXX.out i1 i hi2 hlt
          have HST : Hid (∀ k, k < n → updF (updF (insAt c i (p + 1)) (p + 1) (c p)) p (c i) k = insAt c i p k) := Lib.hid fun k _ => insAt_step hji k
          have HX1 : Hid (c i < c p → ∀ k, p ≤ k → k < i → ltP noW (c i) (c k)) := Lib.hid fun hw k h1 h2 => by
            rcases Nat.lt_or_ge p k with h3 | h3
            · exact HX.out k h3 h2
            · obtain rfl : k = p := by omega
              exact noW_lt.2 hw
          have HX2 : Hid (¬ c i < c p → ∀ k, k < p + 1 → ltP noW (c k) (c i)) := Lib.hid fun hw k h2 => by
            have h3 : ltP noW (c p) (c i) := noW_lt.2 (by omega)
            rcases Nat.lt_or_ge k p with h4 | h4
            · exact (HSO.out k p (Nat.zero_le _) h4 (by omega)).trans h3
            · obtain rfl : k = p := by omega
              exact h3
          clear hne hci hi3 HX
          generalize hci : c i = x at *
          generalize hcp : c p = y at *
          clear hci hcp
          have ip0 : (0 : Int) ≤ (p : Int) := by omega
          have ip1 : (p : Int) < (n : Int) := by omega
          have ip2 : (p : Int) + 1 < (n : Int) := by omega
          have ip3 : (0 : Int) ≤ (p : Int) + 1 := by omega
          have wp : IntKind.i64.wrap (p : Int) = (p : Int) := IntWalk.i64_in _ (by omega)
          have wp2 : IntKind.i64.wrap ((p : Int) + 1 - 1) = (p : Int) := by rw [Int.add_sub_cancel]; exact wp
          have np1 : ¬ p + 1 = p := by omega
          have np2 : ¬ p = p + 1 := by omega
          have hd1 : decide ((0 : Int) < (p : Int) + 1) = true := decide_eq_true (by omega)
          have hd2 : decide (0 < p + 1) = true := by simp
          by_cases hw : x < y
          · have HLS := Lib.hid (fun W => lessI_v x y true W (by simpa using hw))
            have HN := Lib.hid (HX1.out hw)
            clear HX1 HX2 hw HNEXT
            go_wp2
            go_quiet ((go_at_call 77; exact Calls.quiet_of_same (HLS.out _)))
            go_wp2
            go_region
            go_wp2
            go_roundw
            case rel => exact ⟨p, by omega, rfl, Lib.hid ((((HCj.out.drewN _).set_ (p + 1) y).set_ p x).congr HST.out), HN, (((below_drewN hBj _).setCell (p := ⟨g, p + 1, none⟩) (Nat.le_refl _) _).setCell (p := ⟨g, p, none⟩) (Nat.le_refl _) _)⟩
            case measure => simp [intOf]
          · have HLS := Lib.hid (fun W => lessI_v x y false W (by simpa using hw))
            have HN := Lib.hid (HNEXT.out (HX2.out hw))
            clear HX1 HX2 hw HNEXT
            go_wp2
            go_quiet ((go_at_call 77; exact Calls.quiet_of_same (HLS.out _)))
            go_wp2
            go_roundw
            case rel => exact ⟨i + 1, _, by omega, .inl (by omega), by go_num, Lib.hid (HCj.out.drewN _), Lib.hid HN.out.1, Lib.hid HN.out.2, below_drewN hBj _⟩
            case measure => simp [intOf]; omega
        · obtain rfl : j = 0 := by omega
          have HN := Lib.hid (HNEXT.out (fun k h2 => by omega))
          clear HNEXT
          go_wp2
          go_quiet (fail)
          go_wp2
          go_roundw
          case rel => exact ⟨i + 1, _, by omega, .inl (by omega), by go_num, Lib.hid (HCj.out.drewN _), Lib.hid HN.out.1, Lib.hid HN.out.2, below_drewN hBj _⟩
          case measure => simp [intOf]; omega
    · have HFIN : Hid (∃ f', RowC wr g n f' ∧ Shuf 0 b f f' ∧ SortedF noW f' 0 b) := Lib.hid (by
        refine ⟨c, HC.out, ?_, HSO.out.sub (Nat.le_refl _) (by omega)⟩
        by_cases h1 : i = b
        · subst h1; exact HS.out
        · obtain rfl : i = 1 := by omega
          obtain rfl : b = 0 := by omega
          refine ⟨fun k hk => ?_, fun k h1 h2 => by omega⟩
          by_cases hka : k = 0
          · subst hka
            obtain ⟨q, q1, q2, q3⟩ := HS.out.inn 0 (Nat.le_refl _) (Nat.lt_succ_self _)
            obtain rfl : q = 0 := by omega
            exact q3
          · exact HS.out.out k (by omega))
      have hlt2 : ¬ (i : Int) < (b : Int) := by omega
      go_wp2
      go_end0
      exact ⟨rfl, HFIN.out, hB⟩

set_option maxRecDepth 100000 in
set_option maxHeartbeats 1000000 in
theorem pdq_any (g n cap : Nat) (f : Nat → Int) (lim : Int) (w : World) (h : RowC w g n f) (hn : n ≤ 12) (hx : ∀ i j, i < j → j < n → f i ≠ f j) :
    Calls Try.prog 62 #[.slice (some ⟨g, 0, none⟩) n cap, .int .i64 0, .int .i64 n, .int .i64 lim] w fun e w' => e = .returned (.tuple #[]) ∧ (∃ f', RowC w' g n f' ∧ Shuf 0 n f f' ∧ SortedF noW f' 0 n) ∧ Below g w w' := by
  have HS := Lib.hid (insertionInt_any g n cap n f w h (Nat.le_refl _) (by omega) hx)
  have hn2 : (n : Int) ≤ 12 := by omega
  clear h hx
  go_enter Try.func62, Try.ntmps62
  go_wp2_with fail
  refine wp_loop_rounds 1 ?_
  rw [rounds_succ]
  go_wp2_with fail
  refine HS.out.mono ?_
  rintro e1 w1 ⟨rfl, h1, h2⟩
  go_wp2_with fail
  exact bodyPost_ret (v := .tuple #[]) (by simp [results, Try.results62, go_sem]) rfl ⟨rfl, h1, h2⟩
set_option maxRecDepth 100000 in
theorem len64_any (n : Nat) (w : World) (hn : n ≤ 12) : Calls Try.prog 81 #[.int .u64 n] w fun e w' => (∃ k : Int, e = .returned (.int .i64 k)) ∧ w = w' := by
  rcases (show n = 0 ∨ n = 1 ∨ n = 2 ∨ n = 3 ∨ n = 4 ∨ n = 5 ∨ n = 6 ∨ n = 7 ∨ n = 8 ∨ n = 9 ∨ n = 10 ∨ n = 11 ∨ n = 12 by omega) with rfl | rfl | rfl | rfl | rfl | rfl | rfl | rfl | rfl | rfl | rfl | rfl | rfl
  all_goals
    go_enter Try.func81, Try.ntmps81
    go_wp2
    go_ret
    exact ⟨⟨_, rfl⟩, rfl⟩
set_option maxRecDepth 100000 in
theorem bitsLen_any (n : Nat) (w : World) (hn : n ≤ 12) : Calls Try.prog 63 #[.int .u64 n] w fun e w' => (∃ k : Int, e = .returned (.int .i64 k)) ∧ w = w' := by
  have HL := Lib.hid (fun W => len64_any n W hn)
  go_enter Try.func63, Try.ntmps63
  go_wp2_with (go_at_call 81; refine (HL.out _).mono ?_; rintro e w1 ⟨⟨k, rfl⟩, rfl⟩)
  go_ret
  exact ⟨⟨_, rfl⟩, rfl⟩
set_option maxRecDepth 100000 in
set_option maxHeartbeats 1000000 in
theorem sortInt_any (g n cap : Nat) (f : Nat → Int) (w : World) (h : RowC w g n f) (hn : n ≤ 12) (hx : ∀ i j, i < j → j < n → f i ≠ f j) :
    Calls Try.prog 43 #[.slice (some ⟨g, 0, none⟩) n cap] w fun e w' => e = .returned (.tuple #[]) ∧ (∃ f', RowC w' g n f' ∧ Shuf 0 n f f' ∧ SortedF noW f' 0 n) ∧ Below g w w' := by
  have HS := Lib.hid (fun lim => pdq_any g n cap f lim w h hn hx)
  have HL := Lib.hid (fun W => bitsLen_any n W hn)
  have hw : IntKind.u64.wrap (n : Int) = (n : Int) := by simp [IntKind.wrap, IntKind.signed, IntKind.bits]; omega
  clear h hx
  go_enter Try.func43, Try.ntmps43
  go_wp2_with fail
  refine (HL.out _).mono ?_
  rintro e w1 ⟨⟨k, rfl⟩, rfl⟩
  go_wp2_with fail
  refine (HS.out k).mono ?_
  rintro e1 w1 ⟨rfl, h1, h2⟩
  go_wp2_with fail
  go_end0
  exact ⟨rfl, h1, h2⟩
set_option maxRecDepth 100000 in
theorem insertion_nil (w : World) : Calls Try.prog 71 #[.slice none 0 0, .int .i64 0, .int .i64 0] w fun e w' => e = .returned (.tuple #[]) ∧ w = w' := by
  go_enter Try.func71, Try.ntmps71
  go_wp2
  refine wp_loop_rounds 1 ?_
  rw [rounds_succ]
  go_wp2
  go_end0
  exact ⟨rfl, rfl⟩
set_option maxRecDepth 100000 in
theorem pdq_nil (lim : Int) (w : World) : Calls Try.prog 62 #[.slice none 0 0, .int .i64 0, .int .i64 0, .int .i64 lim] w fun e w' => e = .returned (.tuple #[]) ∧ w = w' := by
  go_enter Try.func62, Try.ntmps62
  go_wp2_with fail
  refine wp_loop_rounds 1 ?_
  rw [rounds_succ]
  go_wp2_with fail
  refine (insertion_nil _).mono ?_
  rintro e1 w1 ⟨rfl, rfl⟩
  go_wp2_with fail
  exact bodyPost_ret (v := .tuple #[]) (by simp [results, Try.results62, go_sem]) rfl ⟨rfl, rfl⟩
set_option maxRecDepth 100000 in
theorem sortInt_nil (w : World) : Calls Try.prog 43 #[.slice none 0 0] w fun e w' => e = .returned (.tuple #[]) ∧ w = w' := by
  have HL := Lib.hid (fun W => bitsLen_any 0 W (by omega))
  go_enter Try.func43, Try.ntmps43
  go_wp2_with fail
  refine (HL.out _).mono ?_
  rintro e w1 ⟨⟨k, rfl⟩, rfl⟩
  go_wp2_with fail
  refine (pdq_nil k _).mono ?_
  rintro e1 w1 ⟨rfl, rfl⟩
  go_wp2_with fail
  go_end0
  exact ⟨rfl, rfl⟩
end Go.Proofs.Ythfgbgmkiggjmaa
