/- flow.checkEnds, and the reference's EndsCheck: both answer endsF. -/
import Derived.Test.YtmlmnmphmghdlaaNetCheckGo
namespace Go.Proofs.Ytmlmnmphmghdlaa
open Go.RowKit

set_option maxRecDepth 100000 in
theorem flowCheck_v (n v : Int) (A : Option Addr) (len cap : Nat) (es : List A4) (w : World) (hE : ArcsAt w w.heap.size A len es) (hv : netF n es = v) :
    Calls Try.prog 32 #[.agg #[.int .i64 n, .slice A len cap]] w fun e w' => e = .returned (.int .i64 v) ∧ Below w.heap.size w w' := by
  subst hv; exact flowCheck_any n A len cap es w hE
set_option maxRecDepth 100000 in
theorem netCheck_v (n v : Int) (A : Option Addr) (len cap : Nat) (es : List A4) (w : World) (hE : ArcsAt w w.heap.size A len es) (hv : netF n es = v) :
    Calls Try.prog 14 #[.agg #[.int .i64 n, .slice A len cap]] w fun e w' => e = .returned (.int .i64 v) ∧ Below w.heap.size w w' := by
  subst hv; exact netCheck_any n A len cap es w hE

set_option maxRecDepth 100000 in
set_option maxHeartbeats 2000000 in
theorem checkEnds_any (n : Int) (A : Option Addr) (len cap : Nat) (es : List A4) (s t : Int) (w : World) (hE : ArcsAt w w.heap.size A len es) :
    Calls Try.prog 25 #[.agg #[.int .i64 n, .slice A len cap], .int .i64 s, .int .i64 t] w fun e w' => e = .returned (.int .i64 (endsF n es s t)) ∧ Below w.heap.size w w' := by
  have HX := Lib.hid (BoxN.start (n := n) (cap := cap) hE)
  clear hE
  obtain ⟨v, hv⟩ : ∃ v, netF n es = v := ⟨_, rfl⟩
  by_cases h0 : v = 0
  · subst h0
    by_cases hb : s < 0 ∨ n ≤ s ∨ t < 0 ∨ n ≤ t ∨ s = t
    · rw [endsF_arg hv hb]
      have HV := Lib.hid hv
      have hw : (decide (0 ≤ s) && decide (s < n)) = false ∨ ((decide (0 ≤ s) && decide (s < n)) = true ∧ (decide (0 ≤ t) && decide (t < n)) = false) ∨ ((decide (0 ≤ s) && decide (s < n)) = true ∧ (decide (0 ≤ t) && decide (t < n)) = true ∧ s = t) := by
        simp; omega
      clear hv hb
      rcases hw with h1 | ⟨h1, h2⟩ | ⟨h1, h2, h3⟩
      · have H1 := Lib.hid h1
        clear h1
        go_enter Try.func25, Try.ntmps25
        go_wp2_with fail
        refine (flowCheck_v n 0 A len cap es _ (by exact HX.out.arcs) HV.out).mono ?_
        rintro e w1 ⟨rfl, hB⟩
        have HX1 := Lib.hid (HX.out.next hB)
        have k0 := HX1.out.k0
        clear hB
        go_wp2_with fail
        refine (isNode_any n s false _ H1.out).mono ?_
        rintro e w2 ⟨rfl, rfl⟩
        go_wp2
        go_ret
        exact ⟨rfl, HX1.out.below⟩
      · have H1 := Lib.hid h1
        have H2 := Lib.hid h2
        clear h1 h2
        go_enter Try.func25, Try.ntmps25
        go_wp2_with fail
        refine (flowCheck_v n 0 A len cap es _ (by exact HX.out.arcs) HV.out).mono ?_
        rintro e w1 ⟨rfl, hB⟩
        have HX1 := Lib.hid (HX.out.next hB)
        have k0 := HX1.out.k0
        clear hB
        go_wp2_with fail
        refine (isNode_any n s true _ H1.out).mono ?_
        rintro e w2 ⟨rfl, rfl⟩
        go_wp2_with fail
        refine (isNode_any n t false _ H2.out).mono ?_
        rintro e w2 ⟨rfl, rfl⟩
        go_wp2
        go_ret
        exact ⟨rfl, HX1.out.below⟩
      · have H1 := Lib.hid h1
        have H2 := Lib.hid h2
        subst h3
        clear h1 h2
        go_enter Try.func25, Try.ntmps25
        go_wp2_with fail
        refine (flowCheck_v n 0 A len cap es _ (by exact HX.out.arcs) HV.out).mono ?_
        rintro e w1 ⟨rfl, hB⟩
        have HX1 := Lib.hid (HX.out.next hB)
        have k0 := HX1.out.k0
        clear hB
        go_wp2_with fail
        refine (isNode_any n s true _ H1.out).mono ?_
        rintro e w2 ⟨rfl, rfl⟩
        go_wp2_with fail
        refine (isNode_any n s true _ H2.out).mono ?_
        rintro e w2 ⟨rfl, rfl⟩
        go_wp2
        go_ret
        exact ⟨rfl, HX1.out.below⟩
    · rw [endsF_ok hv hb]
      have H1 : Hid ((decide (0 ≤ s) && decide (s < n)) = true) := Lib.hid (by simp; omega)
      have H2 : Hid ((decide (0 ≤ t) && decide (t < n)) = true) := Lib.hid (by simp; omega)
      have h3 : (s == t) = false := by simp; omega
      have HV := Lib.hid hv
      clear hv hb
      go_enter Try.func25, Try.ntmps25
      go_wp2_with fail
      refine (flowCheck_v n 0 A len cap es _ (by exact HX.out.arcs) HV.out).mono ?_
      rintro e w1 ⟨rfl, hB⟩
      have HX1 := Lib.hid (HX.out.next hB)
      have k0 := HX1.out.k0
      clear hB
      go_wp2_with fail
      refine (isNode_any n s true _ H1.out).mono ?_
      rintro e w2 ⟨rfl, rfl⟩
      go_wp2_with fail
      refine (isNode_any n t true _ H2.out).mono ?_
      rintro e w2 ⟨rfl, rfl⟩
      go_wp2
      go_ret
      exact ⟨rfl, HX1.out.below⟩
  · rw [endsF_bad (by omega), hv]
    have HV := Lib.hid hv
    have hv0 : (v != 0) = true := by simpa using h0
    clear hv h0
    go_enter Try.func25, Try.ntmps25
    go_wp2_with fail
    refine (flowCheck_v n v A len cap es _ (by exact HX.out.arcs) HV.out).mono ?_
    rintro e w1 ⟨rfl, hB⟩
    have HX1 := Lib.hid (HX.out.next hB)
    clear hB
    go_wp2
    go_ret
    exact ⟨rfl, HX1.out.below⟩
set_option maxRecDepth 100000 in
theorem checkEnds_v (n v : Int) (A : Option Addr) (len cap : Nat) (es : List A4) (s t : Int) (w : World) (hE : ArcsAt w w.heap.size A len es) (hv : endsF n es s t = v) :
    Calls Try.prog 25 #[.agg #[.int .i64 n, .slice A len cap], .int .i64 s, .int .i64 t] w fun e w' => e = .returned (.int .i64 v) ∧ Below w.heap.size w w' := by
  subst hv; exact checkEnds_any n A len cap es s t w hE

set_option maxRecDepth 100000 in
set_option maxHeartbeats 2000000 in
theorem endsCheck_any (n : Int) (A : Option Addr) (len cap : Nat) (es : List A4) (s t : Int) (w : World) (hE : ArcsAt w w.heap.size A len es) :
    Calls Try.prog 8 #[.agg #[.int .i64 n, .slice A len cap], .int .i64 s, .int .i64 t] w fun e w' => e = .returned (.int .i64 (endsF n es s t)) ∧ Below w.heap.size w w' := by
  have HX := Lib.hid (BoxN.start (n := n) (cap := cap) hE)
  clear hE
  obtain ⟨v, hv⟩ : ∃ v, netF n es = v := ⟨_, rfl⟩
  by_cases h0 : v = 0
  · subst h0
    by_cases hb : s < 0 ∨ n ≤ s ∨ t < 0 ∨ n ≤ t ∨ s = t
    · rw [endsF_arg hv hb]
      have HV := Lib.hid hv
      have hw : s < 0 ∨ (0 ≤ s ∧ n ≤ s) ∨ (0 ≤ s ∧ s < n ∧ t < 0) ∨ (0 ≤ s ∧ s < n ∧ 0 ≤ t ∧ n ≤ t) ∨ (0 ≤ s ∧ s < n ∧ 0 ≤ t ∧ t < n ∧ s = t) := by omega
      clear hv hb
      rcases hw with h1 | ⟨h1, h2⟩ | ⟨h1, h2, h3⟩ | ⟨h1, h2, h3, h4⟩ | ⟨h1, h2, h3, h4, h5⟩
      all_goals
        try subst h5
        go_enter Try.func8, Try.ntmps8
        go_wp2_with fail
        refine (netCheck_v n 0 A len cap es _ (by exact HX.out.arcs) HV.out).mono ?_
        rintro e w1 ⟨rfl, hB⟩
        have HX1 := Lib.hid (HX.out.next hB)
        have k0 := HX1.out.k0
        clear hB
        go_wp2
        go_ret
        exact ⟨rfl, HX1.out.below⟩
    · rw [endsF_ok hv hb]
      have g1 : 0 ≤ s := by omega
      have g2 : s < n := by omega
      have g3 : 0 ≤ t := by omega
      have g4 : t < n := by omega
      have g5 : (s == t) = false := by simp; omega
      have HV := Lib.hid hv
      clear hv hb
      go_enter Try.func8, Try.ntmps8
      go_wp2_with fail
      refine (netCheck_v n 0 A len cap es _ (by exact HX.out.arcs) HV.out).mono ?_
      rintro e w1 ⟨rfl, hB⟩
      have HX1 := Lib.hid (HX.out.next hB)
      have k0 := HX1.out.k0
      clear hB
      go_wp2
      go_ret
      exact ⟨rfl, HX1.out.below⟩
  · rw [endsF_bad (by omega), hv]
    have HV := Lib.hid hv
    have hv0 : (v == 0) = false := by simpa using h0
    clear hv h0
    go_enter Try.func8, Try.ntmps8
    go_wp2_with fail
    refine (netCheck_v n v A len cap es _ (by exact HX.out.arcs) HV.out).mono ?_
    rintro e w1 ⟨rfl, hB⟩
    have HX1 := Lib.hid (HX.out.next hB)
    clear hB
    go_wp2
    go_ret
    exact ⟨rfl, HX1.out.below⟩
set_option maxRecDepth 100000 in
theorem endsCheck_v (n v : Int) (A : Option Addr) (len cap : Nat) (es : List A4) (s t : Int) (w : World) (hE : ArcsAt w w.heap.size A len es) (hv : endsF n es s t = v) :
    Calls Try.prog 8 #[.agg #[.int .i64 n, .slice A len cap], .int .i64 s, .int .i64 t] w fun e w' => e = .returned (.int .i64 v) ∧ Below w.heap.size w w' := by
  subst hv; exact endsCheck_any n A len cap es s t w hE
end Go.Proofs.Ytmlmnmphmghdlaa
