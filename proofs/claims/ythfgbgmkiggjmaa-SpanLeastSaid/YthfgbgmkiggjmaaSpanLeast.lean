/- The law SpanLeast: of any graph the program tells the forest with the least weight. -/
import Derived.Test.YthfgbgmkiggjmaaRefLeast
import Derived.Test.YthfgbgmkiggjmaaLeast
import Derived.Test.YthfgbgmkiggjmaaInts
import Derived.Test.YthfgbgmkiggjmaaOpen
namespace Go.Proofs.Ythfgbgmkiggjmaa
open Go.RowKit

set_option maxRecDepth 100000 in
set_option maxHeartbeats 400000 in
theorem spanLeast_bad (n : Int) (A : Option Addr) (len cap : Nat) (es : List E3) (v : Int) (w : World) (hE : EdgesAt w w.heap.size A len es) (hcap : len ≤ cap) (hv : gcheck n es = v) (hv0 : v ≠ 0) :
    Calls Try.prog 6 #[.agg #[.int .i64 n, .slice A len cap]] w fun e w' => e = .returned (.bool true) ∧ Below w.heap.size w w' := by
  have HX := Lib.hid (BoxG.start (n := n) (cap := cap) hE)
  have HV := Lib.hid hv
  have HV0 := Lib.hid hv0
  have hb0 : (v != 0) = true := by simpa using hv0
  clear hE hv hv0
  go_enter Try.func6, Try.ntmps6
  go_wp2_with (first
    | (go_at_call 21; refine (least_bad n A len cap es v _ (by exact HX.out.edges) HV.out HV0.out).mono ?_; rintro e w1 ⟨rfl, hb1⟩; have HX1 := Lib.hid (HX.out.next hb1); have hc0 := HX1.out.c0; have hc1 := HX1.out.c1)
    | (go_at_call 16; refine (check_v n A len cap es v _ (by exact HX1.out.edges) hcap HV.out).mono ?_; rintro e w2 ⟨rfl, hb2⟩; have HX2 := Lib.hid (HX1.out.next hb2)))
  go_ret
  exact ⟨rfl, HX2.out.below⟩

set_option maxRecDepth 100000 in
set_option maxHeartbeats 1000000 in
theorem spanLeast_good (m : Nat) (A : Option Addr) (len cap : Nat) (es : List E3) (w : World) (hE : EdgesAt w w.heap.size A len es) (hcap : len ≤ cap) (hv : gcheck m es = 0) :
    Calls Try.prog 6 #[.agg #[.int .i64 m, .slice A len cap]] w fun e w' => e = .returned (.bool true) ∧ Below w.heap.size w w' := by
  obtain ⟨_, hm10', hl45, hgood⟩ := good_of_gcheck hv
  have hm10 : m ≤ 10 := by omega
  have hlen : len ≤ 45 := by have := hE.1; omega
  have hkl : (keptS es).length ≤ 45 := by
    have h := List.length_filter_le (fun i => @decide (Kept es i) (Classical.propDecidable _)) (allS es)
    have h2 : (keptS es).length ≤ (allS es).length := h
    have h3 : (allS es).length = es.length := by simp [allS]
    omega
  have HX := Lib.hid (BoxG.start (n := m) (cap := cap) hE)
  have HV := Lib.hid hv
  have HIN := Lib.hid (InE.of_good hgood)
  clear hE hv hl45 hgood
  go_enter Try.func6, Try.ntmps6
  go_wp2_with (first
    | (go_at_call 21; refine (least_loop m A len cap es _ (by exact HX.out.edges) HV.out).mono ?_; rintro e w1 ⟨⟨B1, p1, rfl, hr1⟩, hb1⟩; have HR1 := Lib.hid hr1; have HX1 := Lib.hid (HX.out.next hb1); have hc0 := HX1.out.c0; have hc1 := HX1.out.c1; clear hr1 hb1)
    | (go_at_call 16; refine (check_v m A len cap es 0 _ (by exact HX1.out.edges) hcap HV.out).mono ?_; rintro e w2 ⟨rfl, hb2⟩; have HX2 := Lib.hid (HX1.out.next hb2); have HR2 := Lib.hid (HR1.out.go_ hb2); clear hb2 hc0 hc1; have hd0 := HX2.out.c0; have hd1 := HX2.out.c1)
    | (go_at_call 22; refine (refLeast_any m A len cap es _ (by exact HX2.out.edges) hm10 hlen HIN.out).mono ?_; rintro e w3 ⟨⟨B3, p3, rfl, hr3⟩, hb3⟩; have HR3 := Lib.hid hr3; have HX3 := Lib.hid (HX2.out.next hb3); have HL3 := Lib.hid (HR2.out.go_ hb3); clear hr3 hb3 hd0 hd1)
    | (go_at_call 19; refine (ints_same B1 B3 (keptS es).length p1 p3 ((keptS es).map fun x : Nat => (x : Int)) _ (by exact HL3.out) (by exact HR3.out) (by omega)).mono ?_; rintro e w4 ⟨rfl, q, rfl⟩))
  go_ret
  exact ⟨rfl, below_drewN HX3.out.below q⟩

set_option maxRecDepth 100000 in
theorem spanLeast_any (n : Int) (A : Option Addr) (len cap : Nat) (es : List E3) (w : World) (hE : EdgesAt w w.heap.size A len es) (hcap : len ≤ cap) (_ : ∀ e ∈ es, WfE e) (_ : (Lit.int .i64 n).wf = true) :
    Calls Try.prog 6 #[.agg #[.int .i64 n, .slice A len cap]] w fun e w' => e = .returned (.bool true) ∧ Below w.heap.size w w' := by
  by_cases h : gcheck n es = 0
  · obtain ⟨m, rfl⟩ := Int.eq_ofNat_of_zero_le (good_of_gcheck h).1
    exact spanLeast_good m A len cap es w hE hcap h
  · exact spanLeast_bad n A len cap es _ w hE hcap rfl h
end Go.Proofs.Ythfgbgmkiggjmaa
