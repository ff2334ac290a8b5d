/- The reference's ahead and Least: those edges whose nodes are not linked by the edges ahead of them. -/
import Derived.Test.YthfgbgmkiggjmaaBox0
import Derived.Test.YthfgbgmkiggjmaaRefDist
import Derived.Test.YthfgbgmkiggjmaaSpanPlain
import Derived.Test.YthfgbgmkiggjmaaEdgesOwn
import Derived.Deep.RegionHeld3
namespace Go.Proofs.Ythfgbgmkiggjmaa
open Go.RowKit

theorem edgeAt_of' {es : List E3} {i : Nat} {e : E3} (h : es[i]? = some e) : edgeAt es i = e := by
  unfold edgeAt; rw [List.getD_eq_getElem?_getD, h]; rfl
set_option maxRecDepth 100000 in
set_option maxHeartbeats 1000000 in
theorem ahead_any (m i j : Nat) (A : Option Addr) (len cap : Nat) (es : List E3) (w : World) (hE : EdgesAt w w.heap.size A len es) (_hlen : len ≤ 45) (hi : i < len) (hj : j < len) :
    Calls Try.prog 44 #[.agg #[.int .i64 m, .slice A len cap], .int .i64 i, .int .i64 j] w fun e w' => e = .returned (.bool (aheadB es i j)) ∧ Below w.heap.size w w' := by
  have HX := Lib.hid (BoxG.start (n := m) (cap := cap) hE)
  clear hE
  obtain ⟨b, off, ⟨a0, a1, a2⟩, rfl, hb, hxi, p0, p1, p2⟩ := HX.out.edges.at_ hi
  obtain ⟨b2, off2, ⟨d0, d1, d2⟩, hA2, hb2, hxj, g0, g1, g2⟩ := HX.out.edges.at_ hj
  cases hA2
  simp only at p0 p1 p2 g0 g1 g2
  have HV : Hid (aheadB es i j = (decide (a2 < d2) || (a2 == d2 && decide (i < j)))) := Lib.hid (by
    unfold aheadB wAt; rw [edgeAt_of' hxi, edgeAt_of' hxj])
  have q2 : (w.alloc (.cells #[.int .i64 m, .slice (some ⟨b, off, none⟩) len cap] 24)).cell? _ = _ := p2
  have r2 : (w.alloc (.cells #[.int .i64 m, .slice (some ⟨b, off, none⟩) len cap] 24)).cell? _ = _ := g2
  have c1 : (w.alloc (.cells #[.int .i64 m, .slice (some ⟨b, off, none⟩) len cap] 24)).cell? ⟨w.heap.size, 1, none⟩ = some (.slice (some ⟨b, off, none⟩) len cap) := HX.out.c1
  have HB : Hid (Below w.heap.size w (w.alloc (.cells #[.int .i64 m, .slice (some ⟨b, off, none⟩) len cap] 24))) := Lib.hid HX.out.below
  clear hxi hxj p0 p1 p2 g0 g1 g2 HX hb hb2
  have i0 : (0 : Int) ≤ (i : Int) := by omega
  have i1 : (i : Int) < (len : Int) := by omega
  have j0 : (0 : Int) ≤ (j : Int) := by omega
  have j1 : (j : Int) < (len : Int) := by omega
  go_enter Try.func44, Try.ntmps44
  go_wp2
  generalize w.alloc (.cells #[.int .i64 (m : Int), .slice (some ⟨b, off, none⟩) len cap] 24) = W at *
  by_cases h1 : a2 < d2
  · have hd : decide (a2 < d2) = true := decide_eq_true h1
    have HR : Hid (aheadB es i j = true) := Lib.hid (by rw [HV.out, hd]; rfl)
    clear HV
    go_quiet (fail)
    go_wp2
    go_ret
    exact ⟨by rw [HR.out]; rfl, below_drewN HB.out _⟩
  · have hd : decide (a2 < d2) = false := decide_eq_false h1
    by_cases h2 : a2 = d2
    · subst h2
      have hee : (a2 == a2) = true := by simp
      by_cases h3 : i < j
      · have h4 : (i : Int) < (j : Int) := by omega
        have HR : Hid (aheadB es i j = true) := Lib.hid (by rw [HV.out, hd, hee, decide_eq_true h3]; rfl)
        clear HV
        go_quiet (fail)
        go_wp2
        go_ret
        exact ⟨by rw [HR.out]; rfl, below_drewN HB.out _⟩
      · have h4 : ¬ (i : Int) < (j : Int) := by omega
        have HR : Hid (aheadB es i j = false) := Lib.hid (by rw [HV.out, hd, hee, decide_eq_false h3]; rfl)
        clear HV
        go_quiet (fail)
        go_wp2
        go_ret
        exact ⟨by rw [HR.out]; rfl, below_drewN HB.out _⟩
    · have hee : (a2 == d2) = false := by simpa using h2
      have HR : Hid (aheadB es i j = false) := Lib.hid (by rw [HV.out, hd, hee]; rfl)
      clear HV
      go_quiet (fail)
      go_wp2
      go_ret
      exact ⟨by rw [HR.out]; rfl, below_drewN HB.out _⟩
set_option maxRecDepth 100000 in
theorem ahead_v (m i j : Nat) (A : Option Addr) (len cap : Nat) (es : List E3) (v : Bool) (w : World) (hE : EdgesAt w w.heap.size A len es) (hlen : len ≤ 45) (hi : i < len) (hj : j < len) (hv : aheadB es i j = v) :
    Calls Try.prog 44 #[.agg #[.int .i64 m, .slice A len cap], .int .i64 i, .int .i64 j] w fun e w' => e = .returned (.bool v) ∧ Below w.heap.size w w' := by
  subst hv; exact ahead_any m i j A len cap es w hE hlen hi hj
end Go.Proofs.Ythfgbgmkiggjmaa
