/- The card SpanPruferCardSaid, out of the law's walk: the table of math/bits is tied to the program's text. No conditions. -/
import Derived.Test.YthfgbgmkiggjmabDoorCheckGo
import Derived.Test.YthfgbgmkiggjmabDoorSpanCodes
import Derived.Test.YthfgbgmkiggjmabDoorDecode
import Derived.Test.YthfgbgmkiggjmabDoorInside
import Derived.Test.YthfgbgmkiggjmabDoorOpenSet
import Derived.Test.YthfgbgmkiggjmabDoorTz
import Derived.Test.YthfgbgmkiggjmabDoorRows2
import Derived.Test.YthfgbgmkiggjmabDoorOpen
import Derived.Test.YthfgbgmkiggjmabDoorTie
import Derived.Test.YthfgbgmkiggjmabDoorCards
import Derived.LaidMore
import Derived.OpenShut
import Derived.Stop.Joined
import Derived.Lib.LaidTab
import Derived.SevenTiedAt
namespace Go.Proofs.YthfgbgmkiggjmabDoor
open Go.RowKit

set_option maxRecDepth 100000 in
set_option maxHeartbeats 400000 in
theorem good_any (n : Int) (A : Option Addr) (len cap : Nat) (es : List E3) (w : World) (hE : EdgesAt w w.heap.size A len es) (hcap : len ≤ cap) :
    Calls Tryd.prog 22 #[.agg #[.int .i64 n, .slice A len cap]] w fun e w' => e = .returned (.bool (gcheck n es == 0)) ∧ Below w.heap.size w w' := by
  have HE := Lib.hid (show EdgesAt (bx w n A len cap) (bx w n A len cap).heap.size A len es from (hE.alloc (Nat.le_refl _) _).more (by simp [bx]))
  clear hE
  go_enter Tryd.func22, Tryd.ntmps22
  go_wp2_with (go_at_call 16; refine (graphCheck_any n A len cap es _ (by exact HE.out) hcap).mono ?_; rintro e w2 ⟨rfl, hb2⟩)
  go_ret
  exact ⟨rfl, ((Below.refl _ _).alloc (Nat.le_refl _) _).trans (hb2.mono (by simp))⟩
set_option maxRecDepth 100000 in
theorem good_v (n : Int) (A : Option Addr) (len cap : Nat) (es : List E3) (v : Bool) (w : World) (hE : EdgesAt w w.heap.size A len es) (hcap : len ≤ cap) (hv : (gcheck n es == 0) = v) :
    Calls Tryd.prog 22 #[.agg #[.int .i64 n, .slice A len cap]] w fun e w' => e = .returned (.bool v) ∧ Below w.heap.size w w' := by
  subst hv; exact good_any n A len cap es w hE hcap

end Go.Proofs.YthfgbgmkiggjmabDoor

namespace Go.Proofs.YthfgbgmkiggjmabDoor
open Go.RowKit

set_option maxRecDepth 100000 in
theorem decodeT (A : Option Addr) (len cap : Nat) (cs : List Nat) (w : World) (hlen : cs.length = len) (hA : IntsAt w w.heap.size A len (intsN cs)) (hl : len ≤ 8) (hok : ∀ c ∈ cs, c < len + 2) :
    Calls Tryd.prog 38 #[.slice A len cap] w fun e w' => ∃ A1 c1, e = .returned (.tuple #[.agg #[.int .i64 ((len : Int) + 2), .slice A1 (len + 1) c1], .int .i64 0]) ∧ EdgesAt w' w'.heap.size A1 (len + 1) (decAll cs) ∧ Below w.heap.size w w' := by
  subst hlen
  exact (decode_good A cap cs w hA hl hok).mono fun e w' ⟨A1, c1, h1, h2, _, h4⟩ => ⟨A1, c1, h1, h2, h4⟩
set_option maxRecDepth 100000 in
theorem codeT (A1 : Option Addr) (len c1 : Nat) (cs : List Nat) (W : World) (hlen : cs.length = len) (hl : len ≤ 8) (hok : ∀ c ∈ cs, c < len + 2) (hE : EdgesAt W W.heap.size A1 (len + 1) (decAll cs)) (hT : Tab W) :
    Calls Tryd.prog 35 #[.agg #[.int .i64 ((len : Int) + 2), .slice A1 (len + 1) c1]] W fun e w' => ∃ g, e = .returned (.tuple #[.slice (some ⟨g, 0, none⟩) len len, .int .i64 0]) ∧ IntsAt w' w'.heap.size (some ⟨g, 0, none⟩) len (intsN cs) ∧ Below W.heap.size W w' := by
  subst hlen
  have hg := decAll_good hl hok
  refine (code_good (cs.length + 2) A1 (cs.length + 1) c1 (decAll cs) W hE hg hT (decAll_tree hok)).mono fun e w' ⟨l, g, h1, h2, h3, h4, h5⟩ => ?_
  have hcd : Cd (cs.length + 2) (decAll cs) cs := by
    have h := decAll_code hok cs.length 0 (by omega)
    simpa using h
  obtain rfl : l = cs := cd_unique l cs (decAll cs) (SomeE.of_good (good_of_gcheck hg).2.2.2) h2 hcd (by omega)
  exact ⟨g, h1, h4, h5⟩
set_option maxRecDepth 100000 in
theorem treeT (A1 : Option Addr) (len c1 : Nat) (cs : List Nat) (W : World) (hlen : cs.length = len) (hl : len ≤ 8) (hok : ∀ c ∈ cs, c < len + 2) (hE : EdgesAt W W.heap.size A1 (len + 1) (decAll cs)) :
    Calls Tryd.prog 36 #[.agg #[.int .i64 ((len : Int) + 2), .slice A1 (len + 1) c1]] W fun e w' => e = .returned (.bool true) ∧ Below W.heap.size W w' := by
  subst hlen
  exact tree_yes (cs.length + 2) A1 (cs.length + 1) c1 (decAll cs) W hE (decAll_good hl hok) (decAll_tree hok)

set_option maxRecDepth 100000 in
set_option maxHeartbeats 1000000 in
theorem sameEdges_yes (n : Int) (A1 A2 : Option Addr) (len c1 c2 : Nat) (es es2 : List E3) (w : World) (hE : EdgesAt w w.heap.size A1 len es) (hE2 : EdgesAt w w.heap.size A2 len es2) (hl : len ≤ 45) (hs : ∀ e ∈ es, nearI es2 e.1 e.2.1 = true) :
    Calls Tryd.prog 39 #[.agg #[.int .i64 n, .slice A1 len c1], .agg #[.int .i64 n, .slice A2 len c2]] w fun e w' => e = .returned (.bool true) ∧ Below w.heap.size w w' := by
  have HE := Lib.hid hE
  have HE2 := Lib.hid hE2
  have HS := Lib.hid hs
  clear hE hE2 hs
  go_enter Tryd.func39, Tryd.ntmps39
  go_wp2
  have HB0 : Hid (Below w.heap.size w ((w.alloc (.cells #[.int .i64 n, .slice A1 len c1] 24)).alloc (.cells #[.int .i64 n, .slice A2 len c2] 24))) := Lib.hid (((Below.refl _ _).alloc (Nat.le_refl _) _).alloc (by simp) _)
  go_loopw [24] (fun j wr => ∃ i : Nat, i ≤ len ∧ j = .int .i64 i ∧ Below (w.heap.size + 2) ((w.alloc (.cells #[.int .i64 n, .slice A1 len c1] 24)).alloc (.cells #[.int .i64 n, .slice A2 len c2] 24)) wr) (fun j _ => len - (intOf j).toNat)
  case atStart => exact ⟨0, Nat.zero_le _, rfl, Below.refl _ _⟩
  case round =>
    obtain ⟨i, hi, rfl, hB⟩ := hrel
    have hsz : w.heap.size + 2 ≤ wr.heap.size := by have := hB.size; simp at this; omega
    have HBw : Hid (Below w.heap.size w wr) := Lib.hid (HB0.out.trans (hB.mono (by omega)))
    have HB := Lib.hid hB
    have hc0 : wr.cell? ⟨w.heap.size + 1, 0, none⟩ = some (.int .i64 n) := by rw [hB.cell (p := ⟨w.heap.size + 1, 0, none⟩) (by simp)]; simp [go_sem]
    have hc1 : wr.cell? ⟨w.heap.size + 1, 1, none⟩ = some (.slice A2 len c2) := by rw [hB.cell (p := ⟨w.heap.size + 1, 1, none⟩) (by simp)]; simp [go_sem]
    clear hB
    by_cases hin : i < len
    · obtain ⟨b, off, ⟨a0, a1, a2⟩, rfl, hb, hx, x0, x1, x2⟩ := (HE.out.below HBw.out).at_ hin
      simp only at x0 x1 x2
      have HN := Lib.hid (HS.out _ (List.mem_of_getElem? hx))
      have HEr := Lib.hid (((HE2.out.go_ HBw.out).alloc (Nat.le_refl _) (.cells #[.int .i64 a0, .int .i64 a1, .int .i64 a2] 43)).more (B' := (wr.alloc (.cells #[.int .i64 a0, .int .i64 a1, .int .i64 a2] 43)).heap.size) (by simp))
      have hbr : b < wr.heap.size := by omega
      have ix0 : (0 : Int) ≤ (i : Int) := by omega
      have ix1 : (i : Int) < (len : Int) := by omega
      have hl1 : w.heap.size + 1 < wr.heap.size := by omega
      clear hx
      go_wp2_with (go_at_call 24; refine (near_v n a0 a1 A2 len c2 es2 true _ (by exact HEr.out) hl HN.out).mono ?_; rintro e w1 ⟨rfl, hb1⟩; have HB1 := Lib.hid hb1; clear hb1)
      go_roundw
      case rel => exact ⟨i + 1, by omega, by go_num, (HB.out.alloc (by omega) _).trans (HB1.out.mono (by simp; omega))⟩
      case measure => simp [intOf]; omega
    · go_wp2
      go_ret
      exact ⟨rfl, HBw.out⟩
set_option maxRecDepth 100000 in
theorem sameEdges_yes2 (n n' : Int) (A1 A2 : Option Addr) (len len' c1 c2 : Nat) (es es2 : List E3) (w : World) (hn : n = n') (hll : len = len') (hE : EdgesAt w w.heap.size A1 len es) (hE2 : EdgesAt w w.heap.size A2 len' es2) (hl : len' ≤ 45) (hs : ∀ e ∈ es, nearI es2 e.1 e.2.1 = true) :
    Calls Tryd.prog 39 #[.agg #[.int .i64 n, .slice A1 len c1], .agg #[.int .i64 n', .slice A2 len' c2]] w fun e w' => e = .returned (.bool true) ∧ Below w.heap.size w w' := by
  subst hn hll
  exact sameEdges_yes n A1 A2 len c1 c2 es es2 w hE hE2 hl hs

/-- What the law holds while it calls: the graph's box, the code, the tree of the code. -/
structure PIn (w : World) (n : Int) (A : Option Addr) (len cap : Nat) (es : List E3) (Ac : Option Addr) (lc : Nat) (xs : List Int) (bt : Nat) (nt : Int) (At : Option Addr) (lt ct : Nat) (ts : List E3) (W : World) : Prop where
  bx : BoxIn w n A len cap es W
  code : IntsAt W W.heap.size Ac lc xs
  te : EdgesAt W W.heap.size At lt ts
  t0 : W.cell? ⟨bt, 0, none⟩ = some (.int .i64 nt)
  t1 : W.cell? ⟨bt, 1, none⟩ = some (.slice At lt ct)
  lt : bt < W.heap.size
set_option maxRecDepth 100000 in
theorem PIn.next {w : World} {n : Int} {A : Option Addr} {len cap : Nat} {es : List E3} {Ac : Option Addr} {lc : Nat} {xs : List Int} {bt : Nat} {nt : Int} {At : Option Addr} {lt ct : Nat} {ts : List E3} {W W' : World} (h : PIn w n A len cap es Ac lc xs bt nt At lt ct ts W) (hb : Below W.heap.size W W') : PIn w n A len cap es Ac lc xs bt nt At lt ct ts W' :=
  ⟨h.bx.next hb, h.code.go_ hb, h.te.go_ hb, (hb.cell (p := ⟨bt, 0, none⟩) h.lt).trans h.t0, (hb.cell (p := ⟨bt, 1, none⟩) h.lt).trans h.t1, Nat.lt_of_lt_of_le h.lt hb.size⟩
set_option maxRecDepth 100000 in
theorem PIn.start {w : World} {n : Int} {A : Option Addr} {len cap : Nat} {es : List E3} {Ac : Option Addr} {lc : Nat} {xs : List Int} {nt : Int} {At : Option Addr} {lt ct : Nat} {ts : List E3} {W : World} (h : BoxIn w n A len cap es W) (hc : IntsAt W W.heap.size Ac lc xs) (he : EdgesAt W W.heap.size At lt ts) :
    PIn w n A len cap es Ac lc xs W.heap.size nt At lt ct ts (W.alloc (.cells #[.int .i64 nt, .slice At lt ct] 24)) :=
  ⟨h.next ((Below.refl _ _).alloc (Nat.le_refl _) _), (hc.alloc (Nat.le_refl _) _).more (by simp), (he.alloc (Nat.le_refl _) _).more (by simp), by simp [go_sem], by simp [go_sem], by simp⟩

set_option maxRecDepth 100000 in
set_option maxHeartbeats 1000000 in
theorem spanPrufer_large (Ac : Option Addr) (lc cc : Nat) (_xs : List Int) (n : Int) (A : Option Addr) (len cap : Nat) (es : List E3) (w : World) (hE : EdgesAt w w.heap.size A len es) (hm : lc ≤ maxLen) (hl : 8 < lc) :
    Calls Tryd.prog 13 #[.slice Ac lc cc, .agg #[.int .i64 n, .slice A len cap]] w fun e w' => e = .returned (.bool true) ∧ Below w.heap.size w w' := by
  have HX := Lib.hid (BoxIn.start (n := n) (cap := cap) hE)
  have HM := Lib.hid hm
  have hm2 : lc ≤ 9223372036854775807 := by unfold maxLen at hm; omega
  clear hE hm
  go_enter Tryd.func13, Tryd.ntmps13
  go_wp2_with (go_at_call 38; refine (decode_large Ac lc cc _ hl HM.out).mono ?_; rintro e w1 ⟨rfl, hb1⟩; have HX1 := Lib.hid (HX.out.next hb1); clear hb1)
  go_ret
  exact ⟨rfl, HX1.out.below.alloc HX1.out.below.size _⟩
set_option maxRecDepth 100000 in
set_option maxHeartbeats 1000000 in
theorem spanPrufer_bad (Ac : Option Addr) (lc cc k : Nat) (xs : List Int) (z n : Int) (A : Option Addr) (len cap : Nat) (es : List E3) (w : World) (hE : EdgesAt w w.heap.size A len es) (hI : IntsAt w w.heap.size Ac lc xs) (hl : lc ≤ 8) (hk : xs[k]? = some z) (hx : z < 0 ∨ (lc : Int) + 2 ≤ z) (hok : ∀ j y, j < k → xs[j]? = some y → 0 ≤ y ∧ y < (lc : Int) + 2) :
    Calls Tryd.prog 13 #[.slice Ac lc cc, .agg #[.int .i64 n, .slice A len cap]] w fun e w' => e = .returned (.bool true) ∧ Below w.heap.size w w' := by
  have HX := Lib.hid (BoxIn.start (n := n) (cap := cap) hE)
  have HI := Lib.hid (show IntsAt (bx w n A len cap) (bx w n A len cap).heap.size Ac lc xs from (hI.alloc (Nat.le_refl _) _).more (by simp [bx]))
  have HK := Lib.hid hk
  have HXX := Lib.hid hx
  have HO := Lib.hid hok
  have HF : Hid (xs.all (isIn ((lc : Int) + 2)) = false) := Lib.hid (by
    rw [List.all_eq_false]
    exact ⟨z, List.mem_of_getElem? hk, by simp [isIn]; omega⟩)
  clear hE hI hk hx hok
  go_enter Tryd.func13, Tryd.ntmps13
  go_wp2_with (first
    | (go_at_call 38; refine (decode_bad Ac lc cc k xs z _ HI.out hl HK.out HXX.out HO.out).mono ?_; rintro e w1 ⟨rfl, hb1⟩; have HX1 := Lib.hid (HX.out.next hb1); have HI1 := Lib.hid (HI.out.go_ hb1); clear hb1)
    | (go_at_call 23; refine (inside_v ((lc : Int) + 2) Ac lc cc xs false _ (by exact ((HI1.out.alloc (Nat.le_refl _) _).more (by simp))) (by omega) HF.out).mono ?_; rintro e w2 ⟨rfl, rfl⟩))
  go_ret
  exact ⟨rfl, HX1.out.below.alloc HX1.out.below.size _⟩

set_option maxRecDepth 100000 in
set_option maxHeartbeats 4000000 in
theorem spanPrufer_wrong (Ac : Option Addr) (lc cc : Nat) (cs : List Nat) (n : Int) (A : Option Addr) (len cap : Nat) (es : List E3) (w : World) (hE : EdgesAt w w.heap.size A len es) (hcap : len ≤ cap) (hI : IntsAt w w.heap.size Ac lc (intsN cs)) (hlc : cs.length = lc) (hl : lc ≤ 8) (hok : ∀ c ∈ cs, c < lc + 2) (hT : Tab w) (v : Int) (hv : gcheck n es = v) (hv0 : v ≠ 0) :
    Calls Tryd.prog 13 #[.slice Ac lc cc, .agg #[.int .i64 n, .slice A len cap]] w fun e w' => e = .returned (.bool true) ∧ Below w.heap.size w w' := by
  have HX := Lib.hid (BoxIn.start (n := n) (cap := cap) hE)
  have HI := Lib.hid (show IntsAt (bx w n A len cap) (bx w n A len cap).heap.size Ac lc (intsN cs) from (hI.alloc (Nat.le_refl _) _).more (by simp [bx]))
  have HLC := Lib.hid hlc
  have HO := Lib.hid hok
  have HT := Lib.hid hT
  have HF : Hid ((intsN cs).all (isIn ((lc : Int) + 2)) = true) := Lib.hid (by
    rw [List.all_eq_true]
    intro x hx
    obtain ⟨c, hc, rfl⟩ := List.mem_map.1 hx
    have := hok c hc
    simp [isIn]; omega)
  have HV := Lib.hid hv
  have HV0 := Lib.hid hv0
  have HG : Hid ((gcheck n es == 0) = false) := Lib.hid (by rw [hv]; simpa using hv0)
  have hb0 : (v != 0) = true := by simpa using hv0
  clear hE hI hlc hok hT hv hv0
  have tokD : True := trivial
  have tokC : True := trivial
  have tokT : True := trivial
  go_enter Tryd.func13, Tryd.ntmps13
  go_wp2_with (first
    | (go_at_call 38; have _t := tokD; (refine (decodeT Ac lc cc cs _ HLC.out (by exact HI.out) hl HO.out).mono ?_); clear tokD; rintro e w1 ⟨A1, c1, rfl, he1, hb1⟩; have HX1 := Lib.hid (HX.out.next hb1); have HI1 := Lib.hid (HI.out.go_ hb1); have HE1 := Lib.hid he1; have HP := Lib.hid (PIn.start (nt := (lc : Int) + 2) (ct := c1) HX1.out HI1.out HE1.out); clear hb1 he1; have p0 := HP.out.t0; have p1 := HP.out.t1)
    | (go_at_call 23; (refine (inside_v ((lc : Int) + 2) Ac lc cc (intsN cs) true _ (by exact HP.out.code) (by omega) HF.out).mono ?_); rintro e w2 ⟨rfl, rfl⟩)
    | (go_at_call 35; have _t := tokC; (refine (codeT A1 lc c1 cs _ HLC.out hl HO.out (by exact HP.out.te) (by exact HP.out.bx.tab HT.out)).mono ?_); clear tokC; rintro e w3 ⟨gb, rfl, hb, hb3⟩; have HP3 := Lib.hid (HP.out.next hb3); have HBK := Lib.hid hb; clear hb hb3; have q0 := HP3.out.t0; have q1 := HP3.out.t1; have r0 := HP3.out.bx.c0; have r1 := HP3.out.bx.c1)
    | (go_at_call 17; (refine (ints_same (some ⟨gb, 0, none⟩) Ac lc lc cc (intsN cs) _ (by exact HBK.out) (by exact HP3.out.code) (by omega)).mono ?_); rintro e w4 ⟨rfl, q, rfl⟩)
    | (go_at_call 36; have _t := tokT; (refine (treeT A1 lc c1 cs _ HLC.out hl HO.out (by exact HP3.out.te)).mono ?_); clear tokT; rintro e w5 ⟨rfl, hb5⟩; have HX5 := Lib.hid (HP3.out.bx.next (show Below w3.heap.size w3 w5 from ⟨hb5.os, hb5.tape, hb5.output, hb5.size, hb5.block⟩)); clear hb5; have s0 := HX5.out.c0; have s1 := HX5.out.c1)
    | (go_at_call 35; (refine (code_bad n A len cap es v _ (by exact HX5.out.edges) HV.out HV0.out).mono ?_); rintro e w6 ⟨rfl, hb6⟩; have HX6 := Lib.hid (HX5.out.next hb6); clear hb6; have t0 := HX6.out.c0; have t1 := HX6.out.c1)
    | (go_at_call 22; (refine (good_v n A len cap es false _ (by exact HX6.out.edges) hcap HG.out).mono ?_); rintro e w7 ⟨rfl, hb7⟩; have HX7 := Lib.hid (HX6.out.next hb7); clear hb7))
  go_ret
  exact ⟨rfl, HX7.out.below⟩

set_option maxRecDepth 100000 in
set_option maxHeartbeats 4000000 in
theorem spanPrufer_notree (Ac : Option Addr) (lc cc : Nat) (cs : List Nat) (m : Nat) (A : Option Addr) (len cap : Nat) (es : List E3) (w : World) (hE : EdgesAt w w.heap.size A len es) (hcap : len ≤ cap) (hI : IntsAt w w.heap.size Ac lc (intsN cs)) (hlc : cs.length = lc) (hl : lc ≤ 8) (hok : ∀ c ∈ cs, c < lc + 2) (hT : Tab w) (hv : gcheck m es = 0) (ht : ¬ TreeP m es) :
    Calls Tryd.prog 13 #[.slice Ac lc cc, .agg #[.int .i64 m, .slice A len cap]] w fun e w' => e = .returned (.bool true) ∧ Below w.heap.size w w' := by
  have HX := Lib.hid (BoxIn.start (n := m) (cap := cap) hE)
  have HI := Lib.hid (show IntsAt (bx w m A len cap) (bx w m A len cap).heap.size Ac lc (intsN cs) from (hI.alloc (Nat.le_refl _) _).more (by simp [bx]))
  have HLC := Lib.hid hlc
  have HO := Lib.hid hok
  have HT := Lib.hid hT
  have HF : Hid ((intsN cs).all (isIn ((lc : Int) + 2)) = true) := Lib.hid (by
    rw [List.all_eq_true]
    intro x hx
    obtain ⟨c, hc, rfl⟩ := List.mem_map.1 hx
    have := hok c hc
    simp [isIn]; omega)
  have HV := Lib.hid hv
  have HN := Lib.hid ht
  have HG : Hid ((gcheck m es == 0) = true) := Lib.hid (by rw [hv]; rfl)
  clear hE hI hlc hok hT hv ht
  have tokD : True := trivial
  have tokC : True := trivial
  have tokT : True := trivial
  go_enter Tryd.func13, Tryd.ntmps13
  go_wp2_with (first
    | (go_at_call 38; have _t := tokD; (refine (decodeT Ac lc cc cs _ HLC.out (by exact HI.out) hl HO.out).mono ?_); clear tokD; rintro e w1 ⟨A1, c1, rfl, he1, hb1⟩; have HX1 := Lib.hid (HX.out.next hb1); have HI1 := Lib.hid (HI.out.go_ hb1); have HE1 := Lib.hid he1; have HP := Lib.hid (PIn.start (nt := (lc : Int) + 2) (ct := c1) HX1.out HI1.out HE1.out); clear hb1 he1; have p0 := HP.out.t0; have p1 := HP.out.t1)
    | (go_at_call 23; (refine (inside_v ((lc : Int) + 2) Ac lc cc (intsN cs) true _ (by exact HP.out.code) (by omega) HF.out).mono ?_); rintro e w2 ⟨rfl, rfl⟩)
    | (go_at_call 35; have _t := tokC; (refine (codeT A1 lc c1 cs _ HLC.out hl HO.out (by exact HP.out.te) (by exact HP.out.bx.tab HT.out)).mono ?_); clear tokC; rintro e w3 ⟨gb, rfl, hb, hb3⟩; have HP3 := Lib.hid (HP.out.next hb3); have HBK := Lib.hid hb; clear hb hb3; have q0 := HP3.out.t0; have q1 := HP3.out.t1; have r0 := HP3.out.bx.c0; have r1 := HP3.out.bx.c1)
    | (go_at_call 17; (refine (ints_same (some ⟨gb, 0, none⟩) Ac lc lc cc (intsN cs) _ (by exact HBK.out) (by exact HP3.out.code) (by omega)).mono ?_); rintro e w4 ⟨rfl, q, rfl⟩)
    | (go_at_call 36; have _t := tokT; (refine (treeT A1 lc c1 cs _ HLC.out hl HO.out (by exact HP3.out.te)).mono ?_); clear tokT; rintro e w5 ⟨rfl, hb5⟩; have HX5 := Lib.hid (HP3.out.bx.next (show Below w3.heap.size w3 w5 from ⟨hb5.os, hb5.tape, hb5.output, hb5.size, hb5.block⟩)); clear hb5; have s0 := HX5.out.c0; have s1 := HX5.out.c1)
    | (go_at_call 35; (refine (code_none m A len cap es _ (by exact HX5.out.edges) HV.out (by exact HX5.out.tab HT.out) HN.out).mono ?_); rintro e w6 ⟨rfl, hb6⟩; have HX6 := Lib.hid (HX5.out.next hb6); clear hb6; have t0 := HX6.out.c0; have t1 := HX6.out.c1)
    | (go_at_call 22; (refine (good_v m A len cap es true _ (by exact HX6.out.edges) hcap HG.out).mono ?_); rintro e w7 ⟨rfl, hb7⟩; have HX7 := Lib.hid (HX6.out.next hb7); clear hb7; have v0 := HX7.out.c0; have v1 := HX7.out.c1)
    | (go_at_call 36; (refine (tree_no m A len cap es _ (by exact HX7.out.edges) HV.out HN.out).mono ?_); rintro e w8 ⟨rfl, hb8⟩; have HX8 := Lib.hid (HX7.out.next hb8); clear hb8))
  go_ret
  exact ⟨rfl, HX8.out.below⟩

/-- What Code tells of a tree, and that its tree has the same edges. -/
def CodeBack (m : Nat) (A : Option Addr) (len cap : Nat) (es : List E3) (w _W : World) (e : Ending) (w' : World) : Prop :=
  ∃ (g n2 : Nat) (l : List Nat), e = .returned (.tuple #[.slice (some ⟨g, 0, none⟩) n2 n2, .int .i64 0]) ∧ Hid (l.length = n2) ∧ Hid ((m : Int) = (n2 : Int) + 2) ∧ n2 ≤ 8 ∧ Hid (∀ c ∈ l, c < n2 + 2) ∧ Hid (IntsAt w' w'.heap.size (some ⟨g, 0, none⟩) n2 (intsN l)) ∧ Hid (BoxIn w m A len cap es w') ∧ Hid (∀ x ∈ es, nearI (decAll l) x.1 x.2.1 = true) ∧ Hid (len = n2 + 1)
set_option maxRecDepth 100000 in
theorem code_back_any (m : Nat) (A : Option Addr) (len cap : Nat) (es : List E3) (w W : World) (hX : BoxIn w m A len cap es W) (hv : gcheck m es = 0) (hT : Tab W) (ht : TreeP m es) :
    Calls Tryd.prog 35 #[.agg #[.int .i64 m, .slice A len cap]] W (CodeBack m A len cap es w W) := by
  obtain ⟨_, h10, hl45, hgood⟩ := good_of_gcheck hv
  refine (code_good m A len cap es W hX.edges hv hT ht).mono fun e w' ⟨l, g, h1, h2, h3, h4, h5⟩ => ?_
  have hs := SomeE.of_good hgood
  have hlm := cd_lt l es hs h2
  have hel : es.length = l.length + 1 := by have := ht.2.1; omega
  have hperm := code_back l h3 l.length 0 es (by omega) hs hel (fun x hx => by simp [goneK] at hx) (by simpa using h2)
  rw [List.drop_zero] at hperm
  have hok : ∀ c ∈ l, c < l.length + 2 := fun c hc => by have := hlm c hc; omega
  have hgd := decAll_good (cs := l) (by omega) hok
  have hinD := InE.of_good (good_of_gcheck hgd).2.2.2
  refine ⟨g, l.length, l, h1, Lib.hid rfl, Lib.hid (by omega), by omega, Lib.hid hok, Lib.hid h4, Lib.hid (hX.next h5), Lib.hid fun x hx => ?_, Lib.hid (by have := hX.edges.1; omega)⟩
  obtain ⟨a, b, c, rfl, _, _⟩ := InE.nats (hs.inn x hx)
  show nearI (decAll l) (a : Int) (b : Int) = true
  rw [nearI_nat, adjE_pairs hinD, adjP_iff, ← hperm.mem_iff]
  exact List.mem_map.2 ⟨_, hx, rfl⟩

set_option maxRecDepth 100000 in
set_option maxHeartbeats 4000000 in
theorem spanPrufer_tree (Ac : Option Addr) (lc cc : Nat) (cs : List Nat) (m : Nat) (A : Option Addr) (len cap : Nat) (es : List E3) (w : World) (hE : EdgesAt w w.heap.size A len es) (hcap : len ≤ cap) (hI : IntsAt w w.heap.size Ac lc (intsN cs)) (hlc : cs.length = lc) (hl : lc ≤ 8) (hok : ∀ c ∈ cs, c < lc + 2) (hT : Tab w) (hv : gcheck m es = 0) (ht : TreeP m es) :
    Calls Tryd.prog 13 #[.slice Ac lc cc, .agg #[.int .i64 m, .slice A len cap]] w fun e w' => e = .returned (.bool true) ∧ Below w.heap.size w w' := by
  have HX := Lib.hid (BoxIn.start (n := m) (cap := cap) hE)
  have HI := Lib.hid (show IntsAt (bx w m A len cap) (bx w m A len cap).heap.size Ac lc (intsN cs) from (hI.alloc (Nat.le_refl _) _).more (by simp [bx]))
  have HLC := Lib.hid hlc
  have HO := Lib.hid hok
  have HT := Lib.hid hT
  have HF : Hid ((intsN cs).all (isIn ((lc : Int) + 2)) = true) := Lib.hid (by
    rw [List.all_eq_true]
    intro x hx
    obtain ⟨c, hc, rfl⟩ := List.mem_map.1 hx
    have := hok c hc
    simp [isIn]; omega)
  have HV := Lib.hid hv
  have HN := Lib.hid ht
  have HG : Hid ((gcheck m es == 0) = true) := Lib.hid (by rw [hv]; rfl)
  clear hE hI hlc hok hT hv ht
  have tokD : True := trivial
  have tokC : True := trivial
  have tokT : True := trivial
  go_enter Tryd.func13, Tryd.ntmps13
  go_wp2_with (first
    | (go_at_call 38; have _t := tokD; (refine (decodeT Ac lc cc cs _ HLC.out (by exact HI.out) hl HO.out).mono ?_); clear tokD; rintro e w1 ⟨A1, c1, rfl, he1, hb1⟩; have HX1 := Lib.hid (HX.out.next hb1); have HI1 := Lib.hid (HI.out.go_ hb1); have HE1 := Lib.hid he1; have HP := Lib.hid (PIn.start (nt := (lc : Int) + 2) (ct := c1) HX1.out HI1.out HE1.out); clear hb1 he1; have p0 := HP.out.t0; have p1 := HP.out.t1)
    | (go_at_call 23; (refine (inside_v ((lc : Int) + 2) Ac lc cc (intsN cs) true _ (by exact HP.out.code) (by omega) HF.out).mono ?_); rintro e w2 ⟨rfl, rfl⟩)
    | (go_at_call 35; have _t := tokC; (refine (codeT A1 lc c1 cs _ HLC.out hl HO.out (by exact HP.out.te) (by exact HP.out.bx.tab HT.out)).mono ?_); clear tokC; rintro e w3 ⟨gb, rfl, hb, hb3⟩; have HP3 := Lib.hid (HP.out.next hb3); have HBK := Lib.hid hb; clear hb hb3; have q0 := HP3.out.t0; have q1 := HP3.out.t1; have r0 := HP3.out.bx.c0; have r1 := HP3.out.bx.c1)
    | (go_at_call 17; (refine (ints_same (some ⟨gb, 0, none⟩) Ac lc lc cc (intsN cs) _ (by exact HBK.out) (by exact HP3.out.code) (by omega)).mono ?_); rintro e w4 ⟨rfl, q, rfl⟩)
    | (go_at_call 36; have _t := tokT; (refine (treeT A1 lc c1 cs _ HLC.out hl HO.out (by exact HP3.out.te)).mono ?_); clear tokT; rintro e w5 ⟨rfl, hb5⟩; have HX5 := Lib.hid (HP3.out.bx.next (show Below w3.heap.size w3 w5 from ⟨hb5.os, hb5.tape, hb5.output, hb5.size, hb5.block⟩)); clear hb5; have s0 := HX5.out.c0; have s1 := HX5.out.c1)
    | (go_at_call 35; (refine (code_back_any m A len cap es w _ (by exact HX5.out) HV.out (by exact HX5.out.tab HT.out) HN.out).mono ?_); rintro e w6 hcb; obtain ⟨g2, n2, l, rfl, HL2, hmn, hn8, HOK2, HI6, HX6, HNE, hln⟩ := hcb; have t0 := HX6.out.c0; have t1 := HX6.out.c1)
    | (go_at_call 22; (refine (good_v m A len cap es true _ (by exact HX6.out.edges) hcap HG.out).mono ?_); rintro e w7 ⟨rfl, hb7⟩; have HX7 := Lib.hid (HX6.out.next hb7); have HI7 := Lib.hid (HI6.out.go_ hb7); clear hb7; have v0 := HX7.out.c0; have v1 := HX7.out.c1)
    | (go_at_call 36; (refine (tree_yes m A len cap es _ (by exact HX7.out.edges) HV.out HN.out).mono ?_); rintro e w8 ⟨rfl, hb8⟩; have HX8 := Lib.hid (HX7.out.next hb8); have HI8 := Lib.hid (HI7.out.go_ hb8); clear hb8; have y0 := HX8.out.c0; have y1 := HX8.out.c1)
    | (go_at_call 38; (refine (decodeT (some ⟨g2, 0, none⟩) n2 n2 l _ HL2.out (by exact HI8.out) hn8 HOK2.out).mono ?_); rintro e w9 ⟨A9, c9, rfl, he9, hb9⟩; have HE9 := Lib.hid he9; have HX9 := Lib.hid (HX8.out.next hb9); clear he9 hb9; have z0 := HX9.out.c0; have z1 := HX9.out.c1; have hl9 : w.heap.size < w9.heap.size := (by have h := HX9.out.box.size; simp [bx] at h; omega))
    | (go_at_call 39; (refine (sameEdges_yes2 m ((n2 : Int) + 2) A A9 len (n2 + 1) cap c9 es (decAll l) _ hmn.out hln.out (by exact ((HX9.out.edges.alloc (Nat.le_refl _) _).more (by simp))) (by exact ((HE9.out.alloc (Nat.le_refl _) _).more (by simp))) (by omega) HNE.out).mono ?_); rintro e w10 ⟨rfl, hb10⟩; have HB10 := Lib.hid hb10; clear hb10))
  go_ret
  exact ⟨rfl, (HX9.out.below.alloc HX9.out.below.size _).trans (HB10.out.mono (by simp; have := HX9.out.below.size; omega))⟩

set_option maxRecDepth 100000 in
theorem spanPrufer_any (Ac : Option Addr) (lc cc : Nat) (xs : List Int) (n : Int) (A : Option Addr) (len cap : Nat) (es : List E3) (w : World) (hI : IntsAt w w.heap.size Ac lc xs) (hc : lc ≤ cc) (hm : cc ≤ maxLen) (hE : EdgesAt w w.heap.size A len es) (hcap : len ≤ cap) (_hwf : ∀ e ∈ es, WfE e) (_hwn : (Lit.int .i64 n).wf = true) (hT : Tab w) :
    Calls Tryd.prog 13 #[.slice Ac lc cc, .agg #[.int .i64 n, .slice A len cap]] w fun e w' => e = .returned (.bool true) ∧ Below w.heap.size w w' := by
  by_cases hl : 8 < lc
  · exact spanPrufer_large Ac lc cc xs n A len cap es w hE (Nat.le_trans hc hm) hl
  · cases hf : xs.findIdx? fun x => decide (x < 0) || decide ((lc : Int) + 2 ≤ x) with
    | some k =>
      rw [List.findIdx?_eq_some_iff_getElem] at hf
      obtain ⟨hk, hp, hlt⟩ := hf
      refine spanPrufer_bad Ac lc cc k xs xs[k] n A len cap es w hE hI (by omega) (List.getElem?_eq_getElem hk) (by simpa using hp) (fun j y hj hy => ?_)
      obtain ⟨h1, h2⟩ := List.getElem?_eq_some_iff.1 hy
      have := hlt j hj
      rw [h2] at this
      simp at this
      omega
    | none =>
      rw [List.findIdx?_eq_none_iff] at hf
      have hall : ∀ x ∈ xs, 0 ≤ x ∧ x < (lc : Int) + 2 := fun x hx => by
        have := hf x hx
        simp at this
        omega
      obtain ⟨cs, rfl⟩ : ∃ cs : List Nat, xs = intsN cs := ⟨xs.map Int.toNat, by
        unfold intsN
        rw [List.map_map]
        conv => lhs; rw [← List.map_id xs]
        exact List.map_congr_left fun x hx => by have := hall x hx; simp; omega⟩
      have hlc : cs.length = lc := by have := hI.1; rw [intsN_length] at this; omega
      have hok : ∀ c ∈ cs, c < lc + 2 := fun c hc => by
        have := hall (c : Int) (List.mem_map.2 ⟨c, hc, rfl⟩)
        omega
      by_cases hv : gcheck n es = 0
      · obtain ⟨h0, _⟩ := good_of_gcheck hv
        obtain ⟨m, rfl⟩ := Int.eq_ofNat_of_zero_le h0
        by_cases ht : TreeP m es
        · exact spanPrufer_tree Ac lc cc cs m A len cap es w hE hcap hI hlc (by omega) hok hT hv ht
        · exact spanPrufer_notree Ac lc cc cs m A len cap es w hE hcap hI hlc (by omega) hok hT hv ht
      · exact spanPrufer_wrong Ac lc cc cs n A len cap es w hE hcap hI hlc (by omega) hok hT _ rfl hv
end Go.Proofs.YthfgbgmkiggjmabDoor

namespace Go.Proofs.YthfgbgmkiggjmabDoor
open Go.ChangeShapes Go.WideShapes Go.ChangeAt Go.RowKit

def tabZ : List Int := [0, 1, 28, 2, 29, 14, 24, 3, 30, 22, 20, 15, 25, 17, 4, 8, 31, 27, 13, 23, 21, 19, 16, 7, 26, 12, 18, 6, 11, 5, 10, 9]
def laidL : List (String × DataW Unit) := [("math/bits.deBruijn32tab", Rows.laid_math_bits_deBruijn32tab)]
set_option maxRecDepth 100000 in
theorem gTab : Tryd.prog.globalNamed "math/bits.deBruijn32tab" = some 0 := by kernel_rfl
set_option maxRecDepth 100000 in
theorem tTab : (Tryd.prog.globals[(0 : Nat)]?).map (·.type) = some 82 := by kernel_rfl
set_option maxRecDepth 100000 in
theorem cTab : Tryd.prog.cellsOf 82 = 32 := by kernel_rfl
set_option maxRecDepth 100000 in
theorem cByte : Tryd.prog.cellsOf 5 = 1 := by kernel_rfl
theorem tabZ_get : ∀ j, j < 32 → tabZ.getD j 0 = ((Lib.deBruijn32tab.getD j 0 : Nat) : Int) := by decide

set_option maxRecDepth 100000 in
theorem tab_of_laid {W : World} (h : laidMetH Tryd.prog laidL W) : Tab W := by
  rw [MakeChecks.laidMetH_plain _ _ _ (by kernel_rfl)] at h
  have ht := Lib.tabIs_of_head (k := .u8) (zs := tabZ) (rest := []) gTab tTab Tryd.underlying82 Tryd.underlying5 cByte cTab (show laidMet Tryd.prog [("math/bits.deBruijn32tab", Lib.tabData .u8 tabZ)] W from h)
  have hc : ∀ j, j < 32 → W.cell? ⟨0, j, none⟩ = some (.int .u8 (Lib.deBruijn32tab.getD j 0)) := fun j hj => by
    rw [ht.cell gTab j (by exact hj), tabZ_get j hj]
  refine ⟨?_, hc⟩
  rcases Nat.lt_or_ge 0 W.heap.size with hlt | hge
  · exact hlt
  · have h0 := hc 0 (by decide)
    simp only [World.cell?, Array.getElem?_eq_none hge] at h0
    cases h0

set_option maxRecDepth 100000 in
theorem door_met (os : Os) (args : Array Value) : laidMetH Tryd.prog laidL ((World.doorLaid Tryd.prog 400 os).forCall (fun _ _ => 0) ⟨#[], args, []⟩).memory :=
  laidMetH_of_parts3 (fuel := 8) (laidMet_of_run' 8 (by kernel_rfl) (by kernel_rfl)) (by kernel_rfl) (by kernel_rfl)
end Go.Proofs.YthfgbgmkiggjmabDoor

namespace Go.Proofs.YthfgbgmkiggjmabDoor
open Go.ChangeShapes Go.WideShapes Go.ChangeAt Go.RowKit

set_option maxRecDepth 100000 in
theorem recInts : Tryd.prog.readableRec 25 = true := by kernel_rfl
set_option maxRecDepth 100000 in
theorem rowInts : (25 : TypeId) < Tryd.prog.types.size := of_decide_eq_true (by kernel_rfl)
section
variable {H : Type} {enc : TypeId × Value → H} {W : World} {base : Nat} {spare : Nat → Bool} {held : Bool}
set_option maxRecDepth 100000 in
theorem open_intsA {r : Reach} {b0 : Nat} {v : Value} {d : DataW H} {p : List MemPlace} (hv : Value.okWide Tryd.prog W r b0 25 v) (h : DataW.Trod enc Tryd.prog W base spare held 25 v d p) :
    ∃ (A : Option Addr) (len cap : Nat) (xs : List Int), v = .slice A len cap ∧ IntsAt W W.heap.size A len xs ∧ len ≤ cap ∧ cap ≤ maxLen := by
  obtain ⟨A, len, cap, rfl⟩ := okWide_slice Tryd.underlying25 hv
  obtain ⟨fuel, hf⟩ := h
  rcases open_ints Tryd.underlying25 Tryd.underlying3 cellsInt hf with ⟨hcs, _⟩ | ⟨a, len', cap', zs, hcs, _, hl, hm, hz, _, hcell, _⟩
  · simp [Value.cells] at hcs
    obtain ⟨rfl, rfl, rfl⟩ := hcs
    exact ⟨none, 0, 0, [], rfl, IntsAt.nil_ _ _ _, Nat.le_refl _, Nat.zero_le _⟩
  · simp [Value.cells] at hcs
    obtain ⟨rfl, rfl, rfl⟩ := hcs
    have hzl : len ≤ zs.length := by rw [hz]; split <;> omega
    refine ⟨some a, len, cap, zs.take len, rfl, ⟨by rw [List.length_take]; omega, fun hn => ?_⟩, hl, hm⟩
    have hz0 := hcell 0 (by omega)
    obtain ⟨b, off, spot⟩ := a
    have hspot : spot = none := by simpa [Addr.add] using World.cell?_spot hz0
    subst hspot
    have hb : b < W.heap.size := by
      rcases Nat.lt_or_ge b W.heap.size with h | h
      · exact h
      · simp [World.cell?, Addr.add, Array.getElem?_eq_none h] at hz0
    refine ⟨b, off, rfl, hb, fun i x hx => ?_⟩
    obtain ⟨h1, h2⟩ := List.getElem?_eq_some_iff.1 hx
    rw [List.length_take] at h1
    rw [List.getElem_take] at h2
    have := hcell i (by omega)
    rw [add_plain, List.getD_eq_getElem?_getD, List.getElem?_eq_getElem (by omega), Option.getD_some, h2] at this
    exact this
end
end Go.Proofs.YthfgbgmkiggjmabDoor

namespace Go.Proofs.YthfgbgmkiggjmabDoor
open Go.ChangeShapes Go.WideShapes Go.ChangeAt Go.RowKit

set_option maxRecDepth 100000 in
theorem spanPrufer_lifted (os : Os) (started : os.Started) (H : Type) (enc : TypeId × Value → H) :
    ReturnsInHanded {} Tryd.checked os 13 .any (fun w args => (Rows.spanPruferSpec.pre enc Tryd.prog Tryd.f13 [] false w args ∧ laidMetH Tryd.prog laidL w) ∧ sizedMet enc Tryd.prog Tryd.f13 (OpenSpec.ofChange Rows.spanPruferSpec) false w args)
      (Rows.spanPruferSpec.post enc Tryd.prog Tryd.f13 false true false false) := by
  refine returnsInHanded_of_change_and (C := Tryd.checked) (X := fun w _ => laidMetH Tryd.prog laidL w) (fun _ _ _ hh h => h.of_heap hh) ownK started (by kernel_rfl) Tryd.func13
    (ChangeSpec.witness_shaped (enc := enc) (C := Tryd.checked) (os := os) (X := fun w _ => laidMetH Tryd.prog laidL w) false (World.doorLaid Tryd.prog 400 os) #[.slice none 0 0, .agg #[.int .i64 0, .slice none 0 0]] 8 rfl (World.shaped_of_RefB (by kernel_rfl) (by kernel_rfl)) (by kernel_rfl) (by kernel_rfl) (by kernel_rfl) (door_met os _)) ?_
  intro W base args ds gs before hval0 hW _ _ hL _
  have hval : ∀ (j : Nat) t v, Tryd.f13.params[j]? = some t → args[j]? = some v → Value.okWide Tryd.prog W .any base t v := hval0
  have hW' := hW
  obtain ⟨p, q, hA0, hV, rfl, _, _⟩ := hW
  have hA : DataW.TrodAll enc Tryd.prog W 0 (fun _ => true) true Tryd.f13.params.toList args.toList ds p := hA0
  rw [Tryd.params13] at hA hval
  obtain ⟨v0, v1, d0, d1, p0, p1, rfl, rfl, rfl, h0, h1⟩ := trodAll_two hA
  obtain ⟨rfl, rfl⟩ := trodVars_none hV
  obtain ⟨A0, len0, cap0, xs0, rfl, hI0, hcap0, hm0⟩ := open_intsA (hval 0 25 v0 rfl rfl) h0
  obtain ⟨n1, A1, len1, cap1, es1, rfl, hE1, hcap1, hwf1, hwn1⟩ := open_graph (hval 1 24 v1 rfl rfl) h1
  clear hA0 hval0
  simp only [List.append_nil] at hW'
  refine (spanPrufer_any A0 len0 cap0 xs0 n1 A1 len1 cap1 es1 W hI0 hcap0 hm0 hE1 hcap1 hwf1 hwn1 (tab_of_laid hL)).mono fun e W' ⟨he, hb⟩ => ?_
  subst he
  exact ⟨_, rfl, _, _, _, [], (p0 ++ p1), [], hW', trodAll_mk1 (shut_bool Tryd.underlying4 _), (by have h := trodAll_mk2 (Below.trod laidOutO recInts rowInts h0 hb (fun x hx => hW'.lt x (List.mem_append_left _ hx))) (Below.trod laidOutO recGraph rowGraph h1 hb (fun x hx => hW'.lt x (List.mem_append_right _ hx))); first | exact h | (simp only [List.append_nil] at h; exact h)), rfl, hb.frame _, fun h => by cases h⟩

set_option maxRecDepth 100000 in
theorem spanPrufer_holds : Rows.SpanPruferSaid :=
  OpenClaim.holds_of_wide 13 Tryd.f13 rfl rfl rfl rfl rfl rfl rfl ⟨rfl, rfl, rfl, rfl, rfl⟩ rfl rfl rfl rfl rfl (by kernel_rfl) Tryd.func13 (by kernel_rfl)
    (of_decide_eq_true (by kernel_rfl)) (by unfold Func.isWrapper; first | (rw [if_pos (by decide +kernel)]; kernel_rfl) | (rw [if_neg (by decide +kernel)]; exact ⟨rfl, rfl⟩))
    (fun os started H enc _ => spanPrufer_lifted os started H enc)

set_option maxRecDepth 100000 in
theorem spanPrufer_card : Rows.SpanPruferCardSaid :=
  Claim7.holds_tied_plain_at .later [] [.data] true Rows.spanPruferCard.stood.harness false
    spanPrufer_holds (fun _ h => by cases h) (by kernel_rfl) (fun _ h => by cases h) spanPrufer_row_tie rfl ⟨rfl, rfl⟩ (by kernel_rfl) rfl
    (fun f fn hf hfn => by
      obtain rfl : f = 13 := Option.some.inj ((show Tryd.prog.funcNamed "teamster/teamsterkeep.SpanPrufer" = some 13 by kernel_rfl).symm.trans hf) |>.symm
      obtain rfl : fn = Tryd.f13 := (Option.some.inj (Tryd.func13.symm.trans hfn)).symm
      exact ⟨by kernel_rfl, fun j t ht => by
        rw [Tryd.params13] at ht
        have hm : t ∈ [25, 24] := by simpa using Array.mem_of_getElem? ht
        have hall : ([25, 24].all fun u => !Tryd.prog.wantsStandIn u) = true := by kernel_rfl
        exact (show Tryd.prog.wantsStandIn t = false by simpa using List.all_eq_true.1 hall t hm)⟩)
    (by kernel_rfl)
#print axioms spanPrufer_card
end Go.Proofs.YthfgbgmkiggjmabDoor
