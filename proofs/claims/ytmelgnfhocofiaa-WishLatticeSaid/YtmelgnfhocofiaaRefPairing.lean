/- The reference's owner and rather. The reference's PairingCheck. -/
import Derived.Test.YtmelgnfhocofiaaFirstAt
import Derived.Test.YtmelgnfhocofiaaHoldsP
import Derived.Test.YtmelgnfhocofiaaBoxS
namespace Go.Proofs.Ytmelgnfhocofiaa
open Go.RowKit

set_option maxRecDepth 100000 in
set_option maxHeartbeats 400000 in
theorem owner_any (n cap : Nat) (v : Int) (A : Option Addr) (xs : List Int) (w : World) (hA : IntsAt w w.heap.size A n xs) (hn : n ≤ 4000000000) :
    Calls Try.prog 35 #[.slice A n cap, .int .i64 v] w fun e w' => e = .returned (.int .i64 (owP xs v)) ∧ w' = w := by
  obtain ⟨k, hkn, h0, hO, hk1, hk2⟩ := first_at xs v n hA.1
  have HA := Lib.hid hA
  have HK := Lib.hid hk1
  have HL := Lib.hid hk2
  have HO := Lib.hid hO
  clear hA hk1 hk2 hO h0
  go_enter Try.func35, Try.ntmps35
  go_wp2
  go_loop [9] (fun j => ∃ i : Nat, i ≤ k ∧ j = .int .i64 i) (fun j => n - (intOf j).toNat)
  case atStart => exact ⟨0, Nat.zero_le _, rfl⟩
  case round =>
    obtain ⟨i, hi, rfl⟩ := hrel
    by_cases hin : i < n
    · obtain ⟨b, off, x, rfl, _, hx, hc⟩ := HA.out.at_ hin
      have ix0 : (0 : Int) ≤ (i : Int) := by omega
      have ix1 : (i : Int) < (n : Int) := by omega
      by_cases hik : i = k
      · subst hik
        obtain rfl : x = v := HK.out x hx
        clear hx
        go_wp2
        go_ret
        exact ⟨by rw [HO.out, if_pos hin]; rfl, rfl⟩
      · have hne : ¬ x = v := HL.out i x (by omega) hx
        have hne2 : (x == v) = false := by simpa using hne
        clear hx
        go_wp2
        go_round
        case rel => exact ⟨i + 1, by omega, by go_num⟩
        case measure => simp [intOf]; omega
    · obtain rfl : k = n := by omega
      obtain rfl : i = k := by omega
      go_wp2
      go_ret
      exact ⟨by rw [HO.out, if_neg hin]; rfl, rfl⟩

set_option maxRecDepth 100000 in
set_option maxHeartbeats 400000 in
theorem rather_any (n cap : Nat) (a b : Int) (p : Bool) (A : Option Addr) (xs : List Int) (w : World) (hA : IntsAt w w.heap.size A n xs) (hn : n ≤ 4000000000) (hp : decide (ahd xs a < ahd xs b) = p) :
    Calls Try.prog 36 #[.slice A n cap, .int .i64 a, .int .i64 b] w fun e w' => e = .returned (.bool p) ∧ w' = w := by
  obtain ⟨k, hkn, hend, hk1, hk2⟩ := first_two xs a b n hA.1
  rw [hp] at hk1 hend
  have HA := Lib.hid hA
  have HK := Lib.hid hk1
  have HL := Lib.hid hk2
  have HE := Lib.hid hend
  clear hA hk1 hk2 hend hp
  go_enter Try.func36, Try.ntmps36
  go_wp2
  go_loop [11] (fun j => ∃ i : Nat, i ≤ k ∧ j = .int .i64 i) (fun j => n - (intOf j).toNat)
  case atStart => exact ⟨0, Nat.zero_le _, rfl⟩
  case round =>
    obtain ⟨i, hi, rfl⟩ := hrel
    by_cases hin : i < n
    · obtain ⟨b', off, x, rfl, _, hx, hc⟩ := HA.out.at_ hin
      have ix0 : (0 : Int) ≤ (i : Int) := by omega
      have ix1 : (i : Int) < (n : Int) := by omega
      by_cases hik : i = k
      · subst hik
        cases p with
        | true =>
          obtain ⟨rfl, hne⟩ := (HK.out x hx).1 rfl
          have hne2 : (x == b) = false := by simpa using hne
          clear hx HE HK HL
          go_wp2
          go_ret
          exact ⟨rfl, rfl⟩
        | false =>
          obtain rfl := (HK.out x hx).2 rfl
          clear hx HE HK HL
          go_wp2
          go_ret
          exact ⟨rfl, rfl⟩
      · obtain ⟨hna, hnb⟩ := HL.out i x (by omega) hx
        have hna2 : (x == a) = false := by simpa using hna
        have hnb2 : (x == b) = false := by simpa using hnb
        clear hx
        go_wp2
        go_round
        case rel => exact ⟨i + 1, by omega, by go_num⟩
        case measure => simp [intOf]; omega
    · obtain rfl : k = n := by omega
      obtain rfl := HE.out rfl
      clear HE HK HL
      go_wp2
      go_ret
      exact ⟨rfl, rfl⟩
end Go.Proofs.Ytmelgnfhocofiaa
namespace Go.Proofs.Ytmelgnfhocofiaa
open Go.RowKit

/-- What is wrong with a pairing of n: 0 nothing. -/
def pairF (n : Nat) (xs : List Int) : Int := if xs.length ≠ n then 3 else if pairB n xs = true then 0 else 2
theorem getD_of {xs : List Int} {i : Nat} {x : Int} (h : xs[i]? = some x) : xs.getD i (-1) = x := by rw [List.getD_eq_getElem?_getD, h]; rfl
set_option maxRecDepth 100000 in
set_option maxHeartbeats 2000000 in
theorem pairingCheck_any (A1 A2 A : Option Addr) (n c1 n2 c2 m cap : Nat) (xs : List Int) (w : World) (hI : IntsAt w w.heap.size A m xs) (hn : n ≤ 8) :
    Calls Try.prog 14 #[.agg #[.slice A1 n c1, .slice A2 n2 c2], .slice A m cap] w fun e w' => e = .returned (.int .i64 (pairF n xs)) ∧ Below w.heap.size w w' := by
  have hlen := hI.1
  have HI : Hid (IntsAt (w.alloc (.cells #[.slice A1 n c1, .slice A2 n2 c2] 24)) (w.alloc (.cells #[.slice A1 n c1, .slice A2 n2 c2] 24)).heap.size A m xs) := Lib.hid (hI.go_ ((Below.refl _ _).alloc (Nat.le_refl _) _))
  have HBW : Hid (Below w.heap.size w (w.alloc (.cells #[.slice A1 n c1, .slice A2 n2 c2] 24))) := Lib.hid ((Below.refl _ _).alloc (Nat.le_refl _) _)
  clear hI
  by_cases hm : m = n
  · subst hm
    have HP : Hid (pairF m xs = if pairB m xs = true then 0 else 2) := Lib.hid (by unfold pairF; rw [if_neg (by omega)])
    have HPB := Lib.hid (pairB_iff hlen)
    have HPR := Lib.hid (pairOK_ref hlen)
    have hbad : ∀ (i : Nat) (x : Int), i < m → xs[i]? = some x → (x < -1 ∨ (m : Int) ≤ x ∨ (0 ≤ x ∧ owP xs x ≠ (i : Int))) → pairF m xs = 2 := fun i x hi hx h => by
      rw [HP.out, if_neg]
      intro hb
      have h5 := (HPR.out.1 (HPB.out.1 hb)) i hi
      rw [getD_of hx] at h5
      rcases h with h | h | ⟨h0, h1⟩
      · omega
      · omega
      · exact h1 (h5.2.2 h0)
    have HBad := Lib.hid hbad
    clear hbad hlen
    have k0 : (w.alloc (.cells #[.slice A1 m c1, .slice A2 n2 c2] 24)).cell? ⟨w.heap.size, 0, none⟩ = some (.slice A1 m c1) := cell_of_row _ _ 0 _ _ (0, 0) (MapKept.heap_alloc w _).1
    go_enter Try.func14, Try.ntmps14
    go_wp2_with fail
    generalize (w.alloc (.cells #[.slice A1 m c1, .slice A2 n2 c2] 24)) = W at *
    go_loop [15] (fun j => ∃ i : Nat, i ≤ m ∧ j = .int .i64 i ∧ Hid (∀ k, k < i → -1 ≤ xs.getD k (-1) ∧ xs.getD k (-1) < (m : Int) ∧ (0 ≤ xs.getD k (-1) → owP xs (xs.getD k (-1)) = (k : Int)))) (fun j => m - (intOf j).toNat)
    case atStart => exact ⟨0, Nat.zero_le _, rfl, Lib.hid fun k hk => absurd hk (by omega)⟩
    case round =>
      obtain ⟨i, hi, rfl, HR⟩ := hrel
      by_cases hil : i < m
      · obtain ⟨b, off, x, hA, _, hx, hc⟩ := HI.out.at_ hil
        subst hA
        have ii0 : (0 : Int) ≤ (i : Int) := by omega
        have ii1 : (i : Int) < (m : Int) := by omega
        have HX := Lib.hid hx
        have HIL := Lib.hid hil
        have hstep : (-1 ≤ x ∧ x < (m : Int) ∧ (0 ≤ x → owP xs x = (i : Int))) → ∀ k, k < i + 1 → -1 ≤ xs.getD k (-1) ∧ xs.getD k (-1) < (m : Int) ∧ (0 ≤ xs.getD k (-1) → owP xs (xs.getD k (-1)) = (k : Int)) := fun h k hk => by
          rcases Nat.lt_or_ge k i with h5 | h5
          · exact HR.out k h5
          · obtain rfl : k = i := by omega
            rw [getD_of HX.out]; exact h
        have HN := Lib.hid hstep
        clear hstep hx
        by_cases h1 : x < -1
        · have HE := Lib.hid (HBad.out i x hil HX.out (.inl h1))
          clear HN HBad HP HPB HPR HR
          go_wp2_with fail
          go_ret
          exact ⟨by rw [HE.out]; rfl, HBW.out⟩
        · by_cases h2 : x ≥ (m : Int)
          · have HE := Lib.hid (HBad.out i x hil HX.out (.inr (.inl h2)))
            clear HN HBad HP HPB HPR HR
            go_wp2_with fail
            go_ret
            exact ⟨by rw [HE.out]; rfl, HBW.out⟩
          · by_cases h3 : x ≥ 0
            · obtain ⟨r, hr⟩ : ∃ r, r = owP xs x := ⟨_, rfl⟩
              have HO := Lib.hid (owner_any m cap x (some ⟨b, off, none⟩) xs W HI.out (by omega))
              rw [← hr] at HO
              by_cases h4 : r = (i : Int)
              · have HN2 := Lib.hid (HN.out ⟨by omega, by omega, fun _ => by rw [← hr, h4]⟩)
                have h4' : (r != (i : Int)) = false := by simp [h4]
                have HH4 := Lib.hid h4
                clear HN HBad HP HR hr h4
                go_wp2_with fail
                refine HO.out.mono ?_
                rintro e w1 ⟨rfl, rfl⟩
                clear HO
                go_wp2_with fail
                go_round
                case rel => exact ⟨i + 1, by have := HIL.out; omega, by go_num, HN2⟩
                case measure => have := HIL.out; simp [intOf]; omega
              · have HE := Lib.hid (HBad.out i x hil HX.out (.inr (.inr ⟨h3, by rw [← hr]; exact h4⟩)))
                have h4' : (r != (i : Int)) = true := by simp [h4]
                clear HN HBad HP HPB HPR HR hr
                go_wp2_with fail
                refine HO.out.mono ?_
                rintro e w1 ⟨rfl, rfl⟩
                clear HO
                go_wp2_with fail
                go_ret
                exact ⟨by rw [HE.out]; rfl, HBW.out⟩
            · have HN2 := Lib.hid (HN.out ⟨by omega, by omega, fun q => absurd q h3⟩)
              clear HN HBad HP HR
              go_wp2_with fail
              go_round
              case rel => exact ⟨i + 1, by have := HIL.out; omega, by go_num, HN2⟩
              case measure => have := HIL.out; simp [intOf]; omega
      · obtain rfl : i = m := by omega
        have HE : Hid (pairF i xs = 0) := Lib.hid (by rw [HP.out, if_pos (HPB.out.2 (HPR.out.2 HR.out))])
        clear HBad HP HPB HPR HR
        go_wp2_with fail
        go_ret
        exact ⟨by rw [HE.out]; rfl, HBW.out⟩
  · have HE : Hid (pairF n xs = 3) := Lib.hid (by unfold pairF; rw [if_pos (by omega)])
    have hne : ((m : Int) != (n : Int)) = true := by simp; omega
    have k0 : (w.alloc (.cells #[.slice A1 n c1, .slice A2 n2 c2] 24)).cell? ⟨w.heap.size, 0, none⟩ = some (.slice A1 n c1) := cell_of_row _ _ 0 _ _ (0, 0) (MapKept.heap_alloc w _).1
    clear hlen
    go_enter Try.func14, Try.ntmps14
    go_wp2_with fail
    go_ret
    exact ⟨by rw [HE.out]; rfl, HBW.out⟩
end Go.Proofs.Ytmelgnfhocofiaa
