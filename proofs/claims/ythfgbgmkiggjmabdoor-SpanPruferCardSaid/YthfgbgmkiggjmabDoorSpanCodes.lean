/- The law SpanCodes: of any graph the program tells the code, if it is a tree. -/
import Derived.Test.YthfgbgmkiggjmabDoorCodeGood
import Derived.Test.YthfgbgmkiggjmabDoorRefCode
import Derived.Test.YthfgbgmkiggjmabDoorOpen
namespace Go.Proofs.YthfgbgmkiggjmabDoor
open Go.RowKit

set_option maxRecDepth 100000 in
set_option maxHeartbeats 1000000 in
theorem spanCodes_bad (n : Int) (A : Option Addr) (len cap : Nat) (es : List E3) (v : Int) (w : World) (hE : EdgesAt w w.heap.size A len es) (hcap : len ≤ cap) (hv : gcheck n es = v) (hv0 : v ≠ 0) :
    Calls Tryd.prog 12 #[.agg #[.int .i64 n, .slice A len cap]] w fun e w' => e = .returned (.bool true) ∧ Below w.heap.size w w' := by
  have HE := Lib.hid (show EdgesAt (bx w n A len cap) (bx w n A len cap).heap.size A len es from (hE.alloc (Nat.le_refl _) _).more (by simp [bx]))
  have HV := Lib.hid hv
  have HV0 := Lib.hid hv0
  have hb0 : (v != 0) = true := by simpa using hv0
  have hb1 : (v == 0) = false := by simpa using hv0
  clear hE hv hv0
  go_enter Tryd.func12, Tryd.ntmps12
  go_wp2_with (first
    | (go_at_call 35; refine (code_bad n A len cap es v _ (by exact HE.out) HV.out HV0.out).mono ?_; rintro e w1 ⟨rfl, hb1⟩; have HB1 := Lib.hid hb1; have hc0 : w1.cell? ⟨w.heap.size, 0, none⟩ = some (.int .i64 n) := (by rw [hb1.cell (p := ⟨w.heap.size, 0, none⟩) (by simp)]; simp [go_sem]); have hc1 : w1.cell? ⟨w.heap.size, 1, none⟩ = some (.slice A len cap) := (by rw [hb1.cell (p := ⟨w.heap.size, 1, none⟩) (by simp)]; simp [go_sem]); clear hb1)
    | (go_at_call 16; refine ((graphCheck_any n A len cap es _ (by exact HE.out.go_ HB1.out) hcap).mono (R' := fun e w' => e = .returned (.int .i64 v) ∧ Below w1.heap.size w1 w') (fun e w' h => ⟨by rw [h.1, HV.out], h.2⟩)).mono ?_; rintro e w2 ⟨rfl, hb2⟩))
  go_ret
  exact ⟨rfl, ((Below.refl _ _).alloc (Nat.le_refl _) _).trans ((HB1.out.trans (hb2.mono HB1.out.size)).mono (by simp))⟩
set_option maxRecDepth 100000 in
theorem tree_no (m : Nat) (A : Option Addr) (len cap : Nat) (es : List E3) (w : World) (hE : EdgesAt w w.heap.size A len es) (hv : gcheck m es = 0) (ht : ¬ TreeP m es) :
    Calls Tryd.prog 36 #[.agg #[.int .i64 m, .slice A len cap]] w fun e w' => e = .returned (.bool false) ∧ Below w.heap.size w w' := by
  obtain ⟨_, h10, hl45, hgood⟩ := good_of_gcheck hv
  exact tree_v m A len cap es false w hE (by omega) (by have := hE.1; omega) (InE.of_good hgood) ⟨fun h => (by cases h), fun h => absurd h ht⟩
set_option maxRecDepth 100000 in
theorem tree_yes (m : Nat) (A : Option Addr) (len cap : Nat) (es : List E3) (w : World) (hE : EdgesAt w w.heap.size A len es) (hv : gcheck m es = 0) (ht : TreeP m es) :
    Calls Tryd.prog 36 #[.agg #[.int .i64 m, .slice A len cap]] w fun e w' => e = .returned (.bool true) ∧ Below w.heap.size w w' := by
  obtain ⟨_, h10, hl45, hgood⟩ := good_of_gcheck hv
  exact tree_v m A len cap es true w hE (by omega) (by have := hE.1; omega) (InE.of_good hgood) ⟨fun _ => ht, fun _ => rfl⟩
set_option maxRecDepth 100000 in
theorem graphCheck_good (m : Nat) (A : Option Addr) (len cap : Nat) (es : List E3) (w : World) (hE : EdgesAt w w.heap.size A len es) (hcap : len ≤ cap) (hv : gcheck m es = 0) :
    Calls Tryd.prog 16 #[.agg #[.int .i64 m, .slice A len cap]] w fun e w' => e = .returned (.int .i64 0) ∧ Below w.heap.size w w' :=
  (graphCheck_any m A len cap es w hE hcap).mono fun e w' h => ⟨by rw [h.1, hv], h.2⟩
/-- The box of a graph, and what lies behind it, as calls leave them. -/
structure BoxIn (w : World) (n : Int) (A : Option Addr) (len cap : Nat) (es : List E3) (w1 : World) : Prop where
  edges : EdgesAt w1 w1.heap.size A len es
  below : Below w.heap.size w w1
  box : Below (bx w n A len cap).heap.size (bx w n A len cap) w1
theorem BoxIn.start {w : World} {n : Int} {A : Option Addr} {len cap : Nat} {es : List E3} (hE : EdgesAt w w.heap.size A len es) : BoxIn w n A len cap es (bx w n A len cap) :=
  ⟨(hE.alloc (Nat.le_refl _) _).more (by simp [bx]), (Below.refl _ _).alloc (Nat.le_refl _) _, Below.refl _ _⟩
set_option maxRecDepth 100000 in
theorem BoxIn.next {w w1 w2 : World} {n : Int} {A : Option Addr} {len cap : Nat} {es : List E3} (h : BoxIn w n A len cap es w1) (hb : Below w1.heap.size w1 w2) : BoxIn w n A len cap es w2 :=
  ⟨h.edges.go_ hb, h.below.trans (hb.mono h.below.size), h.box.trans (hb.mono h.box.size)⟩
set_option maxRecDepth 100000 in
theorem BoxIn.c0 {w w1 : World} {n : Int} {A : Option Addr} {len cap : Nat} {es : List E3} (h : BoxIn w n A len cap es w1) : w1.cell? ⟨w.heap.size, 0, none⟩ = some (.int .i64 n) := by
  rw [h.box.cell (p := ⟨w.heap.size, 0, none⟩) (by simp [bx])]; simp [bx, go_sem]
set_option maxRecDepth 100000 in
theorem BoxIn.c1 {w w1 : World} {n : Int} {A : Option Addr} {len cap : Nat} {es : List E3} (h : BoxIn w n A len cap es w1) : w1.cell? ⟨w.heap.size, 1, none⟩ = some (.slice A len cap) := by
  rw [h.box.cell (p := ⟨w.heap.size, 1, none⟩) (by simp [bx])]; simp [bx, go_sem]
set_option maxRecDepth 100000 in
theorem BoxIn.tab {w w1 : World} {n : Int} {A : Option Addr} {len cap : Nat} {es : List E3} (h : BoxIn w n A len cap es w1) (hT : Tab w) : Tab w1 := hT.go_ h.below

set_option maxRecDepth 100000 in
set_option maxHeartbeats 1000000 in
theorem spanCodes_none (m : Nat) (A : Option Addr) (len cap : Nat) (es : List E3) (w : World) (hE : EdgesAt w w.heap.size A len es) (hcap : len ≤ cap) (hv : gcheck m es = 0) (hT : Tab w) (ht : ¬ TreeP m es) :
    Calls Tryd.prog 12 #[.agg #[.int .i64 m, .slice A len cap]] w fun e w' => e = .returned (.bool true) ∧ Below w.heap.size w w' := by
  have HX := Lib.hid (BoxIn.start (n := m) (cap := cap) hE)
  have HV := Lib.hid hv
  have HT := Lib.hid hT
  have HN := Lib.hid ht
  clear hE hv hT ht
  go_enter Tryd.func12, Tryd.ntmps12
  go_wp2_with (first
    | (go_at_call 35; refine (code_none m A len cap es _ (by exact HX.out.edges) HV.out (by exact HX.out.tab HT.out) HN.out).mono ?_; rintro e w1 ⟨rfl, hb1⟩; have HX1 := Lib.hid (HX.out.next hb1); clear hb1; have hc0 := HX1.out.c0; have hc1 := HX1.out.c1)
    | (go_at_call 16; refine (graphCheck_good m A len cap es _ (by exact HX1.out.edges) hcap HV.out).mono ?_; rintro e w2 ⟨rfl, hb2⟩; have HX2 := Lib.hid (HX1.out.next hb2); clear hb2; have hd0 := HX2.out.c0; have hd1 := HX2.out.c1)
    | (go_at_call 36; refine (tree_no m A len cap es _ (by exact HX2.out.edges) HV.out HN.out).mono ?_; rintro e w3 ⟨rfl, hb3⟩; have HX3 := Lib.hid (HX2.out.next hb3); clear hb3))
  go_ret
  exact ⟨rfl, HX3.out.below⟩

set_option maxRecDepth 100000 in
set_option maxHeartbeats 1000000 in
theorem spanCodes_tree (m : Nat) (A : Option Addr) (len cap : Nat) (es : List E3) (w : World) (hE : EdgesAt w w.heap.size A len es) (hcap : len ≤ cap) (hv : gcheck m es = 0) (hT : Tab w) (ht : TreeP m es) :
    Calls Tryd.prog 12 #[.agg #[.int .i64 m, .slice A len cap]] w fun e w' => e = .returned (.bool true) ∧ Below w.heap.size w w' := by
  obtain ⟨_, h10, hl45, hgood⟩ := good_of_gcheck hv
  have hm10 : m ≤ 10 := by omega
  have hlen : len ≤ 45 := by have := hE.1; omega
  have HS := Lib.hid (SomeE.of_good hgood)
  have HX := Lib.hid (BoxIn.start (n := m) (cap := cap) hE)
  have HV := Lib.hid hv
  have HT := Lib.hid hT
  have HN := Lib.hid ht
  clear hE hv hT ht hgood h10 hl45
  go_enter Tryd.func12, Tryd.ntmps12
  go_wp2_with (first
    | (go_at_call 35; refine (code_good m A len cap es _ (by exact HX.out.edges) HV.out (by exact HX.out.tab HT.out) HN.out).mono ?_; rintro e w1 hco; obtain ⟨l, g, n2, rfl, HC, HL, HLN, HI1, HX1⟩ : ∃ l g n2, e = .returned (.tuple #[.slice (some ⟨g, 0, none⟩) n2 n2, .int .i64 0]) ∧ Hid (Cd m es l) ∧ Hid (l.length + 2 = m) ∧ Hid (l.length = n2) ∧ Hid (IntsAt w1 w1.heap.size (some ⟨g, 0, none⟩) n2 (intsN l)) ∧ Hid (BoxIn w m A len cap es w1) := (by obtain ⟨l, g, h1, h2, h3, h4, h5⟩ := hco; exact ⟨l, g, _, h1, Lib.hid h2, Lib.hid h3, Lib.hid rfl, Lib.hid h4, Lib.hid (HX.out.next h5)⟩); clear hco; have hc0 := HX1.out.c0; have hc1 := HX1.out.c1)
    | (go_at_call 16; refine (graphCheck_good m A len cap es _ (by exact HX1.out.edges) hcap HV.out).mono ?_; rintro e w2 ⟨rfl, hb2⟩; have HX2 := Lib.hid (HX1.out.next hb2); have HI2 := Lib.hid (HI1.out.go_ hb2); clear hb2; have hd0 := HX2.out.c0; have hd1 := HX2.out.c1)
    | (go_at_call 36; refine (tree_yes m A len cap es _ (by exact HX2.out.edges) HV.out HN.out).mono ?_; rintro e w3 ⟨rfl, hb3⟩; have HX3 := Lib.hid (HX2.out.next hb3); have HI3 := Lib.hid (HI2.out.go_ hb3); clear hb3; have he0 := HX3.out.c0; have he1 := HX3.out.c1)
    | (go_at_call 37; refine (refCode_any m A len cap es l _ (by exact HX3.out.edges) hm10 hlen HS.out HC.out HL.out).mono ?_; rintro e w4 hrc; obtain ⟨A4, c4, rfl, HI4, HB4⟩ : ∃ A4 c4, e = .returned (.slice A4 n2 c4) ∧ Hid (IntsAt w4 w4.heap.size A4 n2 (intsN l)) ∧ Hid (Below w3.heap.size w3 w4) := (by obtain ⟨⟨v, h1, h2⟩, h3⟩ := hrc; rw [HLN.out] at h2; obtain ⟨A4, c4, rfl⟩ := own_form h2; exact ⟨A4, c4, h1, Lib.hid (IntsAt.of_own h2 (Nat.le_refl _)), Lib.hid h3⟩); clear hrc; have HX4 := Lib.hid (HX3.out.next HB4.out); have HI5 := Lib.hid (HI3.out.go_ HB4.out); have hn2 : n2 ≤ 10 := (by have := HLN.out; have := HL.out; omega))
    | (go_at_call 17; refine (ints_same (some ⟨g, 0, none⟩) A4 n2 n2 c4 (intsN l) _ (by exact HI5.out) (by exact HI4.out) (by omega)).mono ?_; rintro e w5 ⟨rfl, q, rfl⟩))
  go_ret
  exact ⟨rfl, below_drewN HX4.out.below q⟩

set_option maxRecDepth 100000 in
theorem spanCodes_any (n : Int) (A : Option Addr) (len cap : Nat) (es : List E3) (w : World) (hE : EdgesAt w w.heap.size A len es) (hcap : len ≤ cap) (_hwf : ∀ e ∈ es, WfE e) (_hwn : (Lit.int .i64 n).wf = true) (hT : Tab w) :
    Calls Tryd.prog 12 #[.agg #[.int .i64 n, .slice A len cap]] w fun e w' => e = .returned (.bool true) ∧ Below w.heap.size w w' := by
  by_cases hv : gcheck n es = 0
  · obtain ⟨h0, _⟩ := good_of_gcheck hv
    obtain ⟨m, rfl⟩ := Int.eq_ofNat_of_zero_le h0
    by_cases ht : TreeP m es
    · exact spanCodes_tree m A len cap es w hE hcap hv hT ht
    · exact spanCodes_none m A len cap es w hE hcap hv hT ht
  · exact spanCodes_bad n A len cap es _ w hE hcap rfl hv
end Go.Proofs.YthfgbgmkiggjmabDoor
