/- The reference's WaysCheck: waysF. No conditions. -/
import Derived.Test.YtmelemjngnadpaaDoorZBox0
import Derived.Test.YtmelemjngnadpaaDoorZNear
import Derived.Test.YtmelemjngnadpaaDoorZb1
namespace Go.Proofs.YtmelemjngnadpaaDoor
open Go.RowKit

/-- What is wrong with a graph, or else with the two nodes between which ways are wanted. -/
def waysF (n : Int) (es : List E3) (a b : Int) : Int := if gcheck n es = 0 then (if a < 0 ∨ n ≤ a ∨ b < 0 ∨ n ≤ b ∨ a = b then 2 else if nearI es a b = true then 3 else 0) else gcheck n es
section
variable {n a b : Int} {es : List E3}
theorem waysF_bad (h : gcheck n es ≠ 0) : waysF n es a b = gcheck n es := by unfold waysF; rw [if_neg h]
theorem waysF_arg (h : gcheck n es = 0) (hb : a < 0 ∨ n ≤ a ∨ b < 0 ∨ n ≤ b ∨ a = b) : waysF n es a b = 2 := by unfold waysF; rw [if_pos h, if_pos hb]
theorem waysF_form (h : gcheck n es = 0) (hb : ¬ (a < 0 ∨ n ≤ a ∨ b < 0 ∨ n ≤ b ∨ a = b)) (hn : nearI es a b = true) : waysF n es a b = 3 := by unfold waysF; rw [if_pos h, if_neg hb, if_pos hn]
theorem waysF_ok (h : gcheck n es = 0) (hb : ¬ (a < 0 ∨ n ≤ a ∨ b < 0 ∨ n ≤ b ∨ a = b)) (hn : nearI es a b = false) : waysF n es a b = 0 := by unfold waysF; rw [if_pos h, if_neg hb, if_neg (by rw [hn]; decide)]
theorem waysF_zero (h : waysF n es a b = 0) : gcheck n es = 0 ∧ 0 ≤ a ∧ a < n ∧ 0 ≤ b ∧ b < n ∧ a ≠ b ∧ nearI es a b = false := by
  by_cases h0 : gcheck n es = 0
  · by_cases hb : a < 0 ∨ n ≤ a ∨ b < 0 ∨ n ≤ b ∨ a = b
    · rw [waysF_arg h0 hb] at h; cases h
    · cases hn : nearI es a b with
      | true => rw [waysF_form h0 hb hn] at h; cases h
      | false => exact ⟨h0, by omega, by omega, by omega, by omega, by omega, rfl⟩
  · rw [waysF_bad h0] at h; exact absurd h h0
theorem nearI_comm (es : List E3) (a b : Int) : nearI es a b = nearI es b a := by
  unfold nearI
  congr 1
  funext e
  unfold nearB
  rw [Bool.or_comm]
theorem waysF_comm (n : Int) (es : List E3) (a b : Int) : waysF n es a b = waysF n es b a := by
  unfold waysF
  rw [nearI_comm es a b]
  congr 1
  have : (a < 0 ∨ n ≤ a ∨ b < 0 ∨ n ≤ b ∨ a = b) = (b < 0 ∨ n ≤ b ∨ a < 0 ∨ n ≤ a ∨ b = a) := by
    apply propext; omega
  simp only [this]
end
set_option maxHeartbeats 1000000 in
theorem waysCheck_any (n : Int) (A : Option Addr) (len cap : Nat) (es : List E3) (a b : Int) (w : World) (hE : EdgesAt w w.heap.size A len es) (hcap : len ≤ cap) :
    Calls Tryd.prog 6 #[.agg #[.int .i64 n, .slice A len cap], .int .i64 a, .int .i64 b] w fun e w' => e = .returned (.int .i64 (waysF n es a b)) ∧ Below w.heap.size w w' := by
  have HX := Lib.hid (BoxG.start (n := n) (cap := cap) hE)
  have hlen : es.length = len := hE.1
  clear hE
  obtain ⟨v, hv⟩ : ∃ v, gcheck n es = v := ⟨_, rfl⟩
  by_cases h0 : v = 0
  · subst h0
    by_cases hb : a < 0 ∨ n ≤ a ∨ b < 0 ∨ n ≤ b ∨ a = b
    · rw [waysF_arg hv hb]
      have HV := Lib.hid hv
      have hw : a < 0 ∨ (0 ≤ a ∧ n ≤ a) ∨ (0 ≤ a ∧ a < n ∧ b < 0) ∨ (0 ≤ a ∧ a < n ∧ 0 ≤ b ∧ n ≤ b) ∨ (0 ≤ a ∧ a < n ∧ 0 ≤ b ∧ b < n ∧ a = b) := by omega
      clear hv hb hlen
      rcases hw with h1 | ⟨h1, h2⟩ | ⟨h1, h2, h3⟩ | ⟨h1, h2, h3, h4⟩ | ⟨h1, h2, h3, h4, h5⟩
      all_goals
        try subst h5
        go_enter Tryd.func6, Tryd.ntmps6
        go_wp2_with fail
        refine (check_v n A len cap es 0 _ (by exact HX.out.edges) hcap HV.out).mono ?_
        rintro e w1 ⟨rfl, hB⟩
        have HX1 := Lib.hid (HX.out.next hB)
        have k0 := HX1.out.c0
        clear hB
        go_wp2
        go_ret
        exact ⟨rfl, HX1.out.below⟩
    · have hl45 : len ≤ 45 := by have := (good_of_gcheck hv).2.2.1; omega
      have g1 : 0 ≤ a := by omega
      have g2 : a < n := by omega
      have g3 : 0 ≤ b := by omega
      have g4 : b < n := by omega
      have g5 : (a == b) = false := by simp; omega
      cases hn : nearI es a b with
      | true =>
        rw [waysF_form hv hb hn]
        have HV := Lib.hid hv
        have HN := Lib.hid hn
        clear hv hb hn hlen
        go_enter Tryd.func6, Tryd.ntmps6
        go_wp2_with fail
        refine (check_v n A len cap es 0 _ (by exact HX.out.edges) hcap HV.out).mono ?_
        rintro e w1 ⟨rfl, hB⟩
        have HX1 := Lib.hid (HX.out.next hB)
        have k0 := HX1.out.c0
        have k1 := HX1.out.c1
        clear hB
        go_wp2_with fail
        refine (near_v n a b A len cap es true _ (by exact HX1.out.edges) hl45 HN.out).mono ?_
        rintro e w2 ⟨rfl, hB⟩
        have HX2 := Lib.hid (HX1.out.next hB)
        clear hB
        go_wp2
        go_ret
        exact ⟨rfl, HX2.out.below⟩
      | false =>
        rw [waysF_ok hv hb hn]
        have HV := Lib.hid hv
        have HN := Lib.hid hn
        clear hv hb hn hlen
        go_enter Tryd.func6, Tryd.ntmps6
        go_wp2_with fail
        refine (check_v n A len cap es 0 _ (by exact HX.out.edges) hcap HV.out).mono ?_
        rintro e w1 ⟨rfl, hB⟩
        have HX1 := Lib.hid (HX.out.next hB)
        have k0 := HX1.out.c0
        have k1 := HX1.out.c1
        clear hB
        go_wp2_with fail
        refine (near_v n a b A len cap es false _ (by exact HX1.out.edges) hl45 HN.out).mono ?_
        rintro e w2 ⟨rfl, hB⟩
        have HX2 := Lib.hid (HX1.out.next hB)
        clear hB
        go_wp2
        go_ret
        exact ⟨rfl, HX2.out.below⟩
  · rw [waysF_bad (by omega), hv]
    have HV := Lib.hid hv
    have hv0 : (v == 0) = false := by simpa using h0
    clear hv h0 hlen
    go_enter Tryd.func6, Tryd.ntmps6
    go_wp2_with fail
    refine (check_v n A len cap es v _ (by exact HX.out.edges) hcap HV.out).mono ?_
    rintro e w1 ⟨rfl, hB⟩
    have HX1 := Lib.hid (HX.out.next hB)
    clear hB
    go_wp2
    go_ret
    exact ⟨rfl, HX1.out.below⟩
theorem waysCheck_v (n v : Int) (A : Option Addr) (len cap : Nat) (es : List E3) (a b : Int) (w : World) (hE : EdgesAt w w.heap.size A len es) (hcap : len ≤ cap) (hv : waysF n es a b = v) :
    Calls Tryd.prog 6 #[.agg #[.int .i64 n, .slice A len cap], .int .i64 a, .int .i64 b] w fun e w' => e = .returned (.int .i64 v) ∧ Below w.heap.size w w' := by
  subst hv; exact waysCheck_any n A len cap es a b w hE hcap
end Go.Proofs.YtmelemjngnadpaaDoor
