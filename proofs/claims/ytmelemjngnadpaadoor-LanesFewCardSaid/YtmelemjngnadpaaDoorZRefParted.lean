/- The reference's Parted: does each way meet a set? No conditions. -/
import Derived.Test.YtmelemjngnadpaaDoorZBox0
import Derived.Test.YtmelemjngnadpaaDoorZRefWithout
import Derived.Test.YtmelemjngnadpaaDoorZRefDist
import Derived.Test.YtmelemjngnadpaaDoorZb2
namespace Go.Proofs.YtmelemjngnadpaaDoor
open Go.RowKit

theorem offE_len (u : Nat) (es : List E3) : (offE u es).length ≤ es.length := List.length_filter_le _ _
theorem offE_inE {m u : Nat} {es : List E3} (h : InE m es) : InE m (offE u es) := fun e he => h e (List.mem_filter.1 he).1
/-- Do these nodes part the two? -/
noncomputable def partedB (es : List E3) (a b u : Nat) : Bool := decide (distI (adjE (offE u es)) a b < 0)
theorem partedB_iff {es : List E3} {a b u : Nat} : partedB es a b u = true ↔ ¬ ∃ k, wk (adjE (offE u es)) k a b := by
  unfold partedB
  rw [decide_eq_true_eq, ← distI_nonneg]
  omega
set_option maxRecDepth 100000 in
set_option maxHeartbeats 1000000 in
theorem parted_any (m u a b : Nat) (res : Bool) (A : Option Addr) (len cap : Nat) (es : List E3) (w : World) (hE : EdgesAt w w.heap.size A len es) (hm10 : m ≤ 10) (hlen : len ≤ 45) (hin : InE m es) (hu : u < 4294967296) (ha : a < m) (hb : b < m) (hr : partedB es a b u = res) :
    Calls Tryd.prog 11 #[.agg #[.int .i64 m, .slice A len cap], .int .i64 a, .int .i64 b, .int .u32 u] w fun e w' => e = .returned (.bool res) ∧ Below w.heap.size w w' := by
  have HX := Lib.hid (BoxG.start (n := (m : Int)) (cap := cap) hE)
  have HIN := Lib.hid hin
  have HIO := Lib.hid (offE_inE (u := u) hin)
  have hol : (offE u es).length ≤ 45 := by have := offE_len u es; have := hE.1; omega
  have HR := Lib.hid hr
  clear hE hin hr
  go_enter Tryd.func11, Tryd.ntmps11
  go_wp2_with fail
  refine (refWithout_any m u A len cap es _ (by exact HX.out.edges) hm10 hlen HIN.out hu).mono ?_
  rintro e w1 ⟨⟨A2, c2, rfl, hE2, _⟩, hb1⟩
  have HX1 := Lib.hid (HX.out.next hb1)
  have HE2 := Lib.hid hE2
  clear hE2 hb1
  go_wp2_with fail
  refine (refDist_any m A2 _ c2 (offE u es) _ (by exact HE2.out) hm10 hol HIO.out).mono ?_
  rintro e w2 ⟨⟨v, bs, cs, rfl, hrow⟩, hb2⟩
  have HX2 := Lib.hid (HX1.out.next hb2)
  obtain ⟨g, capg, rfl, _, _, hrows⟩ := hrow.top (by omega)
  have hca := hrows a ha
  have hcb := hrow.cell ha hb
  have hdd : decide (distI (adjE (offE u es)) a b < 0) = res := HR.out
  clear hb2 hrow hrows HR
  generalize distI (adjE (offE u es)) a b = d at hcb hdd
  have h0 : (0 : Int) ≤ (a : Int) := by omega
  have h1 : (a : Int) < (m : Int) := by omega
  have h2 : (0 : Int) ≤ (b : Int) := by omega
  have h3 : (b : Int) < (m : Int) := by omega
  go_wp2
  go_ret
  exact ⟨rfl, HX2.out.below⟩
end Go.Proofs.YtmelemjngnadpaaDoor
