/- The reference's FeesCheck: feesF. No conditions. -/
import Derived.Test.YtmlmnmphmghdlaaDoorSide
namespace Go.Proofs.YtmlmnmphmghdlaaDoor
open Go.RowKit

def SquareF (Ls : List (List Int)) : Prop := ∀ r, r ∈ Ls → r.length = Ls.length
def InRow (r : List Int) : Prop := ∀ x, x ∈ r → -1048576 ≤ x ∧ x ≤ 1048576
open Classical in
/-- What is wrong with fees. -/
noncomputable def feesF (Ls : List (List Int)) : Int := if 8 < Ls.length then 1 else if SquareF Ls then (if ∀ r, r ∈ Ls → InRow r then 0 else 4) else 3
section
variable {Ls : List (List Int)}
theorem feesF_large (h : 8 < Ls.length) : feesF Ls = 1 := by unfold feesF; rw [if_pos h]
theorem feesF_form (h : ¬ 8 < Ls.length) {r : List Int} (hr : r ∈ Ls) (hl : r.length ≠ Ls.length) : feesF Ls = 3 := by
  unfold feesF; rw [if_neg h, if_neg fun H => hl (H r hr)]
theorem feesF_range (h : ¬ 8 < Ls.length) (hs : SquareF Ls) {r : List Int} (hr : r ∈ Ls) (hl : ¬ InRow r) : feesF Ls = 4 := by
  unfold feesF; rw [if_neg h, if_pos hs, if_neg fun H => hl (H r hr)]
theorem feesF_ok (h : ¬ 8 < Ls.length) (hs : SquareF Ls) (hr : ∀ r, r ∈ Ls → InRow r) : feesF Ls = 0 := by
  unfold feesF; rw [if_neg h, if_pos hs, if_pos hr]
theorem feesF_zero (h : feesF Ls = 0) : Ls.length ≤ 8 ∧ SquareF Ls ∧ ∀ r, r ∈ Ls → InRow r := by
  unfold feesF at h
  split at h
  · cases h
  · split at h
    · split at h
      · exact ⟨by omega, ‹_›, ‹_›⟩
      · cases h
    · cases h
end
set_option maxRecDepth 100000 in
set_option maxHeartbeats 1000000 in
theorem feesCheck_any (A : Option Addr) (n c : Nat) (Ls : List (List Int)) (w : World) (S : SideAt w w.heap.size A n c Ls) :
    Calls Tryd.prog 7 #[.slice A n c] w fun e w' => e = .returned (.int .i64 (feesF Ls)) ∧ w' = w := by
  have HS := Lib.hid S
  have hlen : Ls.length = n := S.len
  clear S
  by_cases h8 : 8 < n
  · rw [feesF_large (by omega)]
    have h8i : (8 : Int) < (n : Int) := by omega
    clear hlen
    go_enter Tryd.func7, Tryd.ntmps7
    go_wp2
    go_ret
    exact ⟨rfl, rfl⟩
  · have h8i : ¬ (8 : Int) < (n : Int) := by omega
    have HFO := Lib.hid (fun (r : List Int) (hr : r ∈ Ls) (hl : r.length ≠ n) => feesF_form (Ls := Ls) (by omega) hr (by omega))
    have HFR := Lib.hid (fun (hs : SquareF Ls) (r : List Int) (hr : r ∈ Ls) (hl : ¬ InRow r) => feesF_range (Ls := Ls) (by omega) hs hr hl)
    have HFK := Lib.hid (fun (hs : SquareF Ls) (hr : ∀ r, r ∈ Ls → InRow r) => feesF_ok (Ls := Ls) (by omega) hs hr)
    have HLN := Lib.hid hlen
    clear hlen
    go_enter Tryd.func7, Tryd.ntmps7
    go_wp2
    go_loop [14] (fun j => ∃ k : Nat, k ≤ n ∧ j = .int .i64 k ∧ Hid (∀ i r, i < k → Ls[i]? = some r → r.length = n)) (fun j => n - (intOf j).toNat)
    case atStart => exact ⟨0, Nat.zero_le _, rfl, Lib.hid (fun i r hi => by omega)⟩
    case round =>
      obtain ⟨k, hk, rfl, HK⟩ := hrel
      by_cases hkn : k < n
      · obtain ⟨b, off, xs, A', c', rfl, _, hx, hc, _, _, _⟩ := HS.out.get hkn
        have ik0 : (0 : Int) ≤ (k : Int) := by omega
        have ik1 : (k : Int) < (n : Int) := by omega
        by_cases hl : xs.length = n
        · have HK2 : Hid (∀ i r, i < k + 1 → Ls[i]? = some r → r.length = n) := Lib.hid fun i r hi hr => by
            by_cases e : i = k
            · subst e; rw [hx] at hr; injection hr with hr; rw [← hr]; exact hl
            · exact HK.out i r (by omega) hr
          clear hx HK
          go_wp2
          go_round
          case rel => exact ⟨k + 1, by omega, by go_num, HK2⟩
          case measure => simp [intOf]; omega
        · have HF : Hid (feesF Ls = 3) := Lib.hid (HFO.out xs (List.mem_of_getElem? hx) hl)
          have hli : ((xs.length : Int) == (n : Int)) = false := by simp; omega
          generalize xs.length = xl at hc hli hl
          clear hx HK
          go_wp2
          go_ret
          exact ⟨by rw [HF.out]; first | done | rfl, rfl⟩
      · obtain rfl : k = n := by omega
        have HSQ : Hid (SquareF Ls) := Lib.hid fun r hr => by
          obtain ⟨i, hi⟩ := List.getElem?_of_mem hr
          have := HK.out i r (by have := (List.getElem?_eq_some_iff.1 hi).1; have := HLN.out; omega) hi
          rw [this, HLN.out]
        clear HK
        go_wp2
        go_loop [26] (fun j => ∃ q : Nat, q ≤ k ∧ j = .int .i64 q ∧ Hid (∀ i r, i < q → Ls[i]? = some r → InRow r)) (fun j => k - (intOf j).toNat)
        case atStart => exact ⟨0, Nat.zero_le _, rfl, Lib.hid (fun i r hi => by omega)⟩
        case round =>
          obtain ⟨q, hq, rfl, HQ⟩ := hrel
          by_cases hqn : q < k
          · obtain ⟨b, off, xs, A', c', rfl, _, hx, hc, hI, _, _⟩ := HS.out.get hqn
            have ik0 : (0 : Int) ≤ (q : Int) := by omega
            have ik1 : (q : Int) < (k : Int) := by omega
            have HI := Lib.hid hI
            have HX := Lib.hid hx
            have hx8 : xs.length ≤ 8 := by have h1 := HSQ.out xs (List.mem_of_getElem? hx); have h2 := HLN.out; omega
            clear hI hx
            go_wp2
            go_loop [32] (fun j => ∃ t : Nat, t ≤ xs.length ∧ j = .int .i64 t ∧ Hid (∀ i x, i < t → xs[i]? = some x → -1048576 ≤ x ∧ x ≤ 1048576)) (fun j => xs.length - (intOf j).toNat)
            case atStart => exact ⟨0, Nat.zero_le _, rfl, Lib.hid (fun i x hi => by omega)⟩
            case round =>
              obtain ⟨t, ht, rfl, HT⟩ := hrel
              by_cases htl : t < xs.length
              · obtain ⟨b', off', x, rfl, _, hx, hcx⟩ := HI.out.at_ htl
                have it0 : (0 : Int) ≤ (t : Int) := by omega
                have it1 : (t : Int) < (xs.length : Int) := by omega
                by_cases hlo : x < -1048576
                · have HF : Hid (feesF Ls = 4) := Lib.hid (HFR.out HSQ.out xs (List.mem_of_getElem? HX.out) fun h => by have := (h x (List.mem_of_getElem? hx)).1; omega)
                  clear hx HT
                  go_wp2
                  go_ret
                  exact ⟨by rw [HF.out]; first | done | rfl, rfl⟩
                · by_cases hhi : 1048576 < x
                  · have HF : Hid (feesF Ls = 4) := Lib.hid (HFR.out HSQ.out xs (List.mem_of_getElem? HX.out) fun h => by have := (h x (List.mem_of_getElem? hx)).2; omega)
                    clear hx HT
                    go_wp2
                    go_ret
                    exact ⟨by rw [HF.out]; first | done | rfl, rfl⟩
                  · have HT2 : Hid (∀ i y, i < t + 1 → xs[i]? = some y → -1048576 ≤ y ∧ y ≤ 1048576) := Lib.hid fun i y hi hy => by
                      by_cases e : i = t
                      · subst e; rw [hx] at hy; injection hy with hy; omega
                      · exact HT.out i y (by omega) hy
                    clear hx HT
                    go_wp2
                    go_round
                    case rel => exact ⟨t + 1, by omega, by go_num, HT2⟩
                    case measure => simp [intOf]; omega
              · obtain rfl : t = xs.length := by omega
                have HQ2 : Hid (∀ i r, i < q + 1 → Ls[i]? = some r → InRow r) := Lib.hid fun i r hi hr => by
                  by_cases e : i = q
                  · subst e
                    rw [HX.out] at hr; injection hr with hr
                    rw [← hr]
                    intro x hx
                    obtain ⟨u, hu⟩ := List.getElem?_of_mem hx
                    exact HT.out u x (List.getElem?_eq_some_iff.1 hu).1 hu
                  · exact HQ.out i r (by omega) hr
                clear HT
                go_wp2
                go_round
                case rel => exact ⟨q + 1, by omega, by go_num, HQ2⟩
                case measure => simp [intOf]; omega
          · obtain rfl : q = k := by omega
            have HF : Hid (feesF Ls = 0) := Lib.hid (HFK.out HSQ.out fun r hr => by
              obtain ⟨i, hi⟩ := List.getElem?_of_mem hr
              exact HQ.out i r (by have := (List.getElem?_eq_some_iff.1 hi).1; have := HLN.out; omega) hi)
            clear HQ
            go_wp2
            go_ret
            exact ⟨by rw [HF.out]; first | done | rfl, rfl⟩
end Go.Proofs.YtmlmnmphmghdlaaDoor
