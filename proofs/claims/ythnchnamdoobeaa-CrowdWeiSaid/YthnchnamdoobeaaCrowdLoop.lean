/- crowd.mostApart: the largest set of which no two are neighbours, of several the one with the least word. Conditions: at most ten nodes. -/
import Derived.Test.YthnchnamdoobeaaCrowdGo
namespace Go.Proofs.Ythnchnamdoobeaa
open Go.RowKit

set_option maxRecDepth 100000 in
set_option maxHeartbeats 2000000 in
theorem mostApart_any (n cap : Nat) (A : Option Addr) (xs : List Nat) (w : World) (hA : WordsAt w w.heap.size A n xs) (hn : n ≤ 10) (hxs : ∀ i, xs.getD i 0 < 4294967296) :
    Calls Try.prog 24 #[.slice A n cap] w fun e w' => (∃ b : Nat, MostW (ApartL xs n) ones (2 ^ n) b ∧ e = .returned (.int .u32 (b : Int))) ∧ Below w.heap.size w w' := by
  have HW := Lib.hid hA
  have HS := Lib.hid hxs
  have hn10 := hn
  have HA := Lib.hid (fun W => allOf_any n cap A W hn10)
  have h1 : 1 ≤ 2 ^ n := Nat.two_pow_pos n
  have h2 : 2 ^ n ≤ 1024 := by rw [show 1024 = 2 ^ 10 from rfl]; exact Nat.pow_le_pow_right (by decide) hn
  obtain ⟨M, hM⟩ : ∃ M, 2 ^ n = M + 1 := ⟨2 ^ n - 1, by omega⟩
  rw [hM] at HA h1 h2 ⊢
  rw [Nat.add_sub_cancel] at HA
  have hw : IntKind.u32.wrap ((M : Int) + 1) = (M : Int) + 1 := by rw [wrap_u32n]; omega
  have HON := Lib.hid (fun (x : Nat) (hx : x < 1024) W => ones_any x W hx)
  have HZ : Hid (MostW (ApartL xs n) ones 0 0) := Lib.hid (MostW.start fun i _ h => by simp at h)
  clear hA hxs hM
  go_enter Try.func24, Try.ntmps24
  go_wp2_with fail
  refine (HA.out _).mono ?_
  rintro e w1 ⟨rfl, rfl⟩
  go_wp2_with fail
  go_loopw [3, 8] (fun y j wr => ∃ k c : Nat, k ≤ M + 1 ∧ c < 1024 ∧ y = .int .u32 c ∧ j = .int .u32 k ∧ Hid (MostW (ApartL xs n) ones k c) ∧ Hid (Below w1.heap.size w1 wr)) (fun _ j _ => M + 1 - (intOf j).toNat)
  case atStart => exact ⟨0, 0, Nat.zero_le _, by omega, rfl, rfl, HZ, Lib.hid (Below.refl _ _)⟩
  case round =>
    obtain ⟨k, c, hk, hc, rfl, rfl, HM, HB⟩ := hrel
    by_cases hkn : k < M + 1
    · have hkn' : (k : Int) < (M : Int) + 1 := by omega
      have hk1 : k < 1024 := by omega
      have H1 := Lib.hid (HON.out k hk1)
      have H2 := Lib.hid (HON.out c hc)
      have hwk : IntKind.u32.wrap ((k : Int) + 1) = (k : Int) + 1 := by rw [wrap_u32n]; omega
      by_cases hlt : ones c < ones k
      · have hlt' : ((ones c : Nat) : Int) < ((ones k : Nat) : Int) := by omega
        by_cases hap : ApartL xs n k
        · have H3 := Lib.hid (fun W hW => apartGo_any n cap k A xs true W hW hn10 hk1 HS.out ⟨fun _ => hap, fun _ => rfl⟩)
          have HN := Lib.hid (HM.out.take hap hlt)
          clear hap HM hlt
          generalize ones k = ok at H1 hlt'
          generalize ones c = oc at H2 hlt'
          go_wp2_with fail
          refine (H1.out _).mono ?_
          rintro e w2 ⟨rfl, q1, hq1⟩
          have HB2 := Lib.hid (show Below w1.heap.size w1 w2 by rw [hq1]; exact below_drewN HB.out q1)
          clear hq1
          go_wp2_with fail
          refine (H2.out _).mono ?_
          rintro e w3 ⟨rfl, q2, hq2⟩
          have HB3 := Lib.hid (show Below w1.heap.size w1 w3 by rw [hq2]; exact below_drewN HB2.out q2)
          clear hq2
          go_wp2_with fail
          refine (H3.out _ (HW.out.go_ HB3.out)).mono ?_
          rintro e w4 ⟨rfl, rfl⟩
          go_wp2_with fail
          go_roundw
          case rel => exact ⟨k + 1, k, by omega, hk1, rfl, by go_num, HN, HB3⟩
          case measure => simp [intOf]; omega
        · have H3 := Lib.hid (fun W hW => apartGo_any n cap k A xs false W hW hn10 hk1 HS.out ⟨(fun h => by cases h), fun h => absurd h hap⟩)
          have HN := Lib.hid (HM.out.skip hap)
          clear hap HM hlt
          generalize ones k = ok at H1 hlt'
          generalize ones c = oc at H2 hlt'
          go_wp2_with fail
          refine (H1.out _).mono ?_
          rintro e w2 ⟨rfl, q1, hq1⟩
          have HB2 := Lib.hid (show Below w1.heap.size w1 w2 by rw [hq1]; exact below_drewN HB.out q1)
          clear hq1
          go_wp2_with fail
          refine (H2.out _).mono ?_
          rintro e w3 ⟨rfl, q2, hq2⟩
          have HB3 := Lib.hid (show Below w1.heap.size w1 w3 by rw [hq2]; exact below_drewN HB2.out q2)
          clear hq2
          go_wp2_with fail
          refine (H3.out _ (HW.out.go_ HB3.out)).mono ?_
          rintro e w4 ⟨rfl, rfl⟩
          go_wp2_with fail
          go_roundw
          case rel => exact ⟨k + 1, c, by omega, hc, rfl, by go_num, HN, HB3⟩
          case measure => simp [intOf]; omega
      · have hlt' : ¬ ((ones c : Nat) : Int) < ((ones k : Nat) : Int) := by omega
        have HN := Lib.hid (HM.out.keep (by omega))
        clear HM hlt
        generalize ones k = ok at H1 hlt'
        generalize ones c = oc at H2 hlt'
        go_wp2_with fail
        refine (H1.out _).mono ?_
        rintro e w2 ⟨rfl, q1, hq1⟩
        have HB2 := Lib.hid (show Below w1.heap.size w1 w2 by rw [hq1]; exact below_drewN HB.out q1)
        clear hq1
        go_wp2_with fail
        refine (H2.out _).mono ?_
        rintro e w3 ⟨rfl, q2, hq2⟩
        have HB3 := Lib.hid (show Below w1.heap.size w1 w3 by rw [hq2]; exact below_drewN HB2.out q2)
        clear hq2
        go_wp2_with fail
        go_roundw
        case rel => exact ⟨k + 1, c, by omega, hc, rfl, by go_num, HN, HB3⟩
        case measure => simp [intOf]; omega
    · obtain rfl : k = M + 1 := by omega
      go_wp2_with fail
      go_ret
      exact ⟨⟨c, HM.out, rfl⟩, HB.out⟩
end Go.Proofs.Ythnchnamdoobeaa
