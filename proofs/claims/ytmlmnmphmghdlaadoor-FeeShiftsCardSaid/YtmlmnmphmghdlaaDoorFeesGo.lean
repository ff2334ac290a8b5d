/- The program's checkFees: what is wrong with fees. No conditions. -/
import Derived.Test.YtmlmnmphmghdlaaDoorRefFees
namespace Go.Proofs.YtmlmnmphmghdlaaDoor
open Go.RowKit

set_option maxRecDepth 100000 in
theorem outOf_v (x : Int) (b : Bool) (w : World) (hb : b = true ↔ (x < -1048576 ∨ 1048576 < x)) :
    Calls Tryd.prog 19 #[.int .i64 x] w fun e w' => e = .returned (.bool b) ∧ w' = w := by
  by_cases h1 : x < -1048576
  · obtain rfl : b = true := hb.2 (.inl h1)
    clear hb
    go_enter Tryd.func19, Tryd.ntmps19
    go_wp2
    go_ret
    exact ⟨rfl, rfl⟩
  · by_cases h2 : 1048576 < x
    · obtain rfl : b = true := hb.2 (.inr h2)
      clear hb
      go_enter Tryd.func19, Tryd.ntmps19
      go_wp2
      go_ret
      exact ⟨rfl, rfl⟩
    · obtain rfl : b = false := by
        cases b with
        | false => rfl
        | true => have := hb.1 rfl; omega
      clear hb
      go_enter Tryd.func19, Tryd.ntmps19
      go_wp2
      go_ret
      exact ⟨rfl, rfl⟩
set_option maxRecDepth 100000 in
set_option maxHeartbeats 1000000 in
theorem indexOut_any (n cap : Nat) (A : Option Addr) (xs : List Int) (w : World) (hA : IntsAt w w.heap.size A n xs) (hn : n ≤ 9223372036854775807) :
    Calls Tryd.prog 21 #[.slice A n cap, .func (.func 19) #[] #[]] w fun e w' => ∃ z, e = .returned (.int .i64 z) ∧ (0 ≤ z ↔ ¬ InRow xs) ∧ w' = w := by
  have HA := Lib.hid hA
  clear hA
  go_enter Tryd.func21, Tryd.ntmps21
  go_wp2
  go_loop [8] (fun j => ∃ k : Nat, k ≤ n ∧ j = .int .i64 k ∧ Hid (InRow (xs.take k))) (fun j => n - (intOf j).toNat)
  case atStart => exact ⟨0, Nat.zero_le _, rfl, Lib.hid (fun x hx => by simp at hx)⟩
  case round =>
    obtain ⟨k, hk, rfl, HP⟩ := hrel
    by_cases hlt : k < n
    · obtain ⟨b, off, x, rfl, _, hx, hc⟩ := HA.out.at_ hlt
      have ik0 : (0 : Int) ≤ (k : Int) := by omega
      have ik1 : (k : Int) < (n : Int) := by omega
      obtain ⟨v, hv⟩ : ∃ v : Bool, v = true ↔ (x < -1048576 ∨ 1048576 < x) := ⟨decide (x < -1048576 ∨ 1048576 < x), decide_eq_true_iff⟩
      have HO := Lib.hid (fun w => outOf_v x v w hv)
      have HV := Lib.hid hv
      have HX := Lib.hid hx
      clear hv hx
      cases v with
      | true =>
        have HR : Hid (¬ InRow xs) := Lib.hid fun h => by
          have h1 := h x (List.mem_of_getElem? HX.out)
          have h2 := HV.out.1 rfl
          omega
        go_wp2_with (go_at_call 19; refine (HO.out _).mono ?_; rintro e w1 ⟨rfl, rfl⟩)
        go_ret
        exact ⟨_, rfl, ⟨fun _ => HR.out, fun _ => by omega⟩, rfl⟩
      | false =>
        have HP2 : Hid (InRow (xs.take (k + 1))) := Lib.hid (by
          obtain ⟨h1, h2⟩ := List.getElem?_eq_some_iff.1 HX.out
          intro y hy
          rw [List.take_succ_eq_append_getElem h1, h2, List.mem_append, List.mem_singleton] at hy
          rcases hy with hy | rfl
          · exact HP.out y hy
          · constructor
            · exact Classical.byContradiction fun h => by have := HV.out.2 (.inl (by omega)); cases this
            · exact Classical.byContradiction fun h => by have := HV.out.2 (.inr (by omega)); cases this)
        go_wp2_with (go_at_call 19; refine (HO.out _).mono ?_; rintro e w1 ⟨rfl, rfl⟩)
        go_round
        case rel => exact ⟨k + 1, by omega, by go_num, HP2⟩
        case measure => simp [intOf]; omega
    · have HR : Hid (InRow xs) := Lib.hid (by
        have := HP.out
        rwa [List.take_of_length_le (by have := HA.out.1; omega)] at this)
      go_wp2
      go_ret
      exact ⟨-1, rfl, ⟨fun h => by omega, fun h => absurd HR.out h⟩, rfl⟩
set_option maxRecDepth 100000 in
theorem containsOut_v (n cap : Nat) (A : Option Addr) (xs : List Int) (v : Bool) (w : World) (hA : IntsAt w w.heap.size A n xs) (hn : n ≤ 9223372036854775807) (hv : v = true ↔ ¬ InRow xs) :
    Calls Tryd.prog 18 #[.slice A n cap, .func (.func 19) #[] #[]] w fun e w' => e = .returned (.bool v) ∧ w' = w := by
  have HA := Lib.hid hA
  have HV := Lib.hid hv
  clear hA hv
  go_enter Tryd.func18, Tryd.ntmps18
  go_wp2_with fail
  refine (indexOut_any n cap A xs _ (by exact HA.out) hn).mono ?_
  rintro e w1 ⟨z, rfl, hz, rfl⟩
  have HZ := Lib.hid hz
  clear hz
  cases v with
  | true =>
    have hz0 : decide (0 ≤ z) = true := decide_eq_true (HZ.out.2 (HV.out.1 rfl))
    go_wp2
    go_ret
    exact ⟨rfl, rfl⟩
  | false =>
    have hz0 : decide (0 ≤ z) = false := decide_eq_false fun h => by have := HV.out.2 (HZ.out.1 h); cases this
    go_wp2
    go_ret
    exact ⟨rfl, rfl⟩
set_option maxRecDepth 100000 in
set_option maxHeartbeats 1000000 in
theorem checkFees_any (A : Option Addr) (n c : Nat) (Ls : List (List Int)) (w : World) (S : SideAt w w.heap.size A n c Ls) :
    Calls Tryd.prog 12 #[.slice A n c] w fun e w' => e = .returned (.int .i64 (feesF Ls)) ∧ w' = w := by
  have HS := Lib.hid S
  have hlen : Ls.length = n := S.len
  clear S
  by_cases h8 : 8 < n
  · rw [feesF_large (by omega)]
    have h8i : (8 : Int) < (n : Int) := by omega
    clear hlen
    go_enter Tryd.func12, Tryd.ntmps12
    go_wp2
    go_ret
    exact ⟨rfl, rfl⟩
  · have h8i : ¬ (8 : Int) < (n : Int) := by omega
    have HFO := Lib.hid (fun (r : List Int) (hr : r ∈ Ls) (hl : r.length ≠ n) => feesF_form (Ls := Ls) (by omega) hr (by omega))
    have HFR := Lib.hid (fun (hs : SquareF Ls) (r : List Int) (hr : r ∈ Ls) (hl : ¬ InRow r) => feesF_range (Ls := Ls) (by omega) hs hr hl)
    have HFK := Lib.hid (fun (hs : SquareF Ls) (hr : ∀ r, r ∈ Ls → InRow r) => feesF_ok (Ls := Ls) (by omega) hs hr)
    have HLN := Lib.hid hlen
    clear hlen
    go_enter Tryd.func12, Tryd.ntmps12
    go_wp2
    go_loop [12] (fun j => ∃ k : Nat, k ≤ n ∧ j = .int .i64 k ∧ Hid (∀ i r, i < k → Ls[i]? = some r → r.length = n)) (fun j => n - (intOf j).toNat)
    case atStart => exact ⟨0, Nat.zero_le _, rfl, Lib.hid (fun i r hi => by omega)⟩
    case round =>
      obtain ⟨k, hk, rfl, HK⟩ := hrel
      by_cases hkn : k < n
      · obtain ⟨b, off, xs, A', c', rfl, _, hx, hc, _, _, _⟩ := HS.out.get hkn
        have ik0 : (0 : Int) ≤ (k : Int) := by omega
        have ik1 : (k : Int) < (n : Int) := by omega
        by_cases hl : xs.length = n
        · have HK2 : Hid (∀ i r, i < k + 1 → Ls[i]? = some r → r.length = n) := Lib.hid fun i r hi hr => by
            by_cases e : i = k
            · subst e; rw [hx] at hr; injection hr with hr; rw [← hr]; exact hl
            · exact HK.out i r (by omega) hr
          clear hx HK
          go_wp2
          go_round
          case rel => exact ⟨k + 1, by omega, by go_num, HK2⟩
          case measure => simp [intOf]; omega
        · have HF : Hid (feesF Ls = 3) := Lib.hid (HFO.out xs (List.mem_of_getElem? hx) hl)
          have hli : ((xs.length : Int) == (n : Int)) = false := by simp; omega
          generalize xs.length = xl at hc hli hl
          clear hx HK
          go_wp2
          go_ret
          exact ⟨by rw [HF.out]; first | done | rfl, rfl⟩
      · obtain rfl : k = n := by omega
        have HSQ : Hid (SquareF Ls) := Lib.hid fun r hr => by
          obtain ⟨i, hi⟩ := List.getElem?_of_mem hr
          have := HK.out i r (by have := (List.getElem?_eq_some_iff.1 hi).1; have := HLN.out; omega) hi
          rw [this, HLN.out]
        clear HK
        go_wp2
        go_loop [24] (fun j => ∃ q : Nat, q ≤ k ∧ j = .int .i64 q ∧ Hid (∀ i r, i < q → Ls[i]? = some r → InRow r)) (fun j => k - (intOf j).toNat)
        case atStart => exact ⟨0, Nat.zero_le _, rfl, Lib.hid (fun i r hi => by omega)⟩
        case round =>
          obtain ⟨q, hq, rfl, HQ⟩ := hrel
          by_cases hqn : q < k
          · obtain ⟨b, off, xs, A', c', rfl, _, hx, hc, hI, _, _⟩ := HS.out.get hqn
            have ik0 : (0 : Int) ≤ (q : Int) := by omega
            have ik1 : (q : Int) < (k : Int) := by omega
            have hx8 : xs.length ≤ 8 := by have h1 := HSQ.out xs (List.mem_of_getElem? hx); have h2 := HLN.out; omega
            obtain ⟨v, hv⟩ : ∃ v : Bool, v = true ↔ ¬ InRow xs := by
              classical
              exact ⟨decide (¬ InRow xs), decide_eq_true_iff⟩
            have HC := Lib.hid (containsOut_v xs.length c' A' xs v w hI (by omega) hv)
            have HV := Lib.hid hv
            have HX := Lib.hid hx
            clear hI hx hv
            cases v with
            | true =>
              have HF : Hid (feesF Ls = 4) := Lib.hid (HFR.out HSQ.out xs (List.mem_of_getElem? HX.out) (HV.out.1 rfl))
              go_wp2_with fail
              refine HC.out.mono ?_
              rintro e w1 ⟨rfl, rfl⟩
              go_wp2
              go_ret
              exact ⟨by rw [HF.out]; first | done | rfl, rfl⟩
            | false =>
              have HQ2 : Hid (∀ i r, i < q + 1 → Ls[i]? = some r → InRow r) := Lib.hid fun i r hi hr => by
                by_cases e : i = q
                · subst e
                  rw [HX.out] at hr; injection hr with hr
                  rw [← hr]
                  apply Classical.byContradiction
                  intro h
                  have := HV.out.2 h; cases this
                · exact HQ.out i r (by omega) hr
              clear HQ
              go_wp2_with fail
              refine HC.out.mono ?_
              rintro e w1 ⟨rfl, rfl⟩
              go_wp2
              go_round
              case rel => exact ⟨q + 1, by omega, by go_num, HQ2⟩
              case measure => simp [intOf]; omega
          · obtain rfl : q = k := by omega
            have HF : Hid (feesF Ls = 0) := Lib.hid (HFK.out HSQ.out fun r hr => by
              obtain ⟨i, hi⟩ := List.getElem?_of_mem hr
              exact HQ.out i r (by have := (List.getElem?_eq_some_iff.1 hi).1; have := HLN.out; omega) hi)
            clear HQ
            go_wp2
            go_ret
            exact ⟨by rw [HF.out]; first | done | rfl, rfl⟩
end Go.Proofs.YtmlmnmphmghdlaaDoor
