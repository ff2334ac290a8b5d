/- For every graph, sides.Ring tells the first shortest odd ring, or that there is none; of a wrong graph, what is wrong. No conditions. -/
import Derived.Test.YthfgbgmkiggjmabDoorRingGo
import Derived.Test.YthfgbgmkiggjmabDoorRefRing3
import Derived.Test.YthfgbgmkiggjmabDoorOpen
namespace Go.Proofs.YthfgbgmkiggjmabDoor
open Go.RowKit

set_option maxRecDepth 100000 in
set_option maxHeartbeats 400000 in
theorem sidesRings_bad (n : Int) (A : Option Addr) (len cap : Nat) (es : List E3) (v : Int) (w : World) (hE : EdgesAt w w.heap.size A len es) (hcap : len ≤ cap) (hv : gcheck n es = v) (hv0 : v ≠ 0) :
    Calls Tryd.prog 10 #[.agg #[.int .i64 n, .slice A len cap]] w fun e w' => e = .returned (.bool true) ∧ Below w.heap.size w w' := by
  have HX := Lib.hid (BoxG.start (n := n) (cap := cap) hE)
  have HV := Lib.hid hv
  have HV0 := Lib.hid hv0
  have hb0 : (v != 0) = true := by simpa using hv0
  clear hE hv hv0
  go_enter Tryd.func10, Tryd.ntmps10
  go_wp2_with (first
    | (go_at_call 32; refine (ring_bad n A len cap es v _ (by exact HX.out.edges) HV.out HV0.out).mono ?_; rintro e w1 ⟨rfl, hb1⟩; have HX1 := Lib.hid (HX.out.next hb1); clear hb1; have hc0 := HX1.out.c0; have hc1 := HX1.out.c1)
    | (go_at_call 16; refine (check_v n A len cap es v _ (by exact HX1.out.edges) hcap HV.out).mono ?_; rintro e w2 ⟨rfl, hb2⟩; have HX2 := Lib.hid (HX1.out.next hb2); clear hb2))
  go_ret
  exact ⟨rfl, HX2.out.below⟩

set_option maxRecDepth 100000 in
set_option maxHeartbeats 1000000 in
theorem sidesRings_none (m : Nat) (A : Option Addr) (len cap : Nat) (es : List E3) (w : World) (hE : EdgesAt w w.heap.size A len es) (hcap : len ≤ cap) (hv : gcheck m es = 0) (hT : Tab w) (hc : ∀ n v, n % 2 = 1 → ¬ wk (adjE es) n v v) :
    Calls Tryd.prog 10 #[.agg #[.int .i64 m, .slice A len cap]] w fun e w' => e = .returned (.bool true) ∧ Below w.heap.size w w' := by
  obtain ⟨_, hm10', hl45, hgood⟩ := good_of_gcheck hv
  have hm10 : m ≤ 10 := by omega
  have hlen : len ≤ 45 := by have := hE.1; omega
  have HX := Lib.hid (BoxG.start (n := m) (cap := cap) hE)
  have HV := Lib.hid hv
  have HT := Lib.hid hT
  have HC := Lib.hid hc
  have HNO : Hid (∀ k, k % 2 = 1 → refRing (adjE es) m k [] = none) := Lib.hid fun k hk => refRing_no (by omega) (fun v => hc k v hk)
  clear hE hv hl45 hT hgood hc
  go_enter Tryd.func10, Tryd.ntmps10
  go_wp2_with (first
    | (go_at_call 32; refine (ring_good m A len cap es _ (by exact HX.out.edges) HV.out (by exact HX.out.tab HT.out)).mono ?_; rintro e w1 ⟨hs, hb1⟩; obtain rfl := (hs.resolve_left (fun h => by obtain ⟨n, v, l, Al, capl, h3, _, h1, _, h2, _⟩ := h; exact HC.out n v h1.1 (by have h4 := h2.back 0 (by omega); rwa [h2.head (by omega)] at h4))).2; have HX1 := Lib.hid (HX.out.next hb1); clear hb1 hs; have hc0 := HX1.out.c0; have hc1 := HX1.out.c1)
    | (go_at_call 16; refine (check_v m A len cap es 0 _ (by exact HX1.out.edges) hcap HV.out).mono ?_; rintro e w2 ⟨rfl, hb2⟩; have HX2 := Lib.hid (HX1.out.next hb2); clear hb2; have hd0 := HX2.out.c0; have hd1 := HX2.out.c1)
    | (go_at_call 33; refine (oddRing_none m A len cap es _ (by exact HX2.out.edges) hlen hm10 HNO.out).mono ?_; rintro e w3 ⟨rfl, hb3⟩; have HX3 := Lib.hid (HX2.out.next hb3); clear hb3))
  go_ret
  exact ⟨rfl, HX3.out.below⟩

set_option maxRecDepth 100000 in
set_option maxHeartbeats 1000000 in
theorem sidesRings_some (m : Nat) (A : Option Addr) (len cap : Nat) (es : List E3) (w : World) (hE : EdgesAt w w.heap.size A len es) (hcap : len ≤ cap) (hv : gcheck m es = 0) (hT : Tab w) (hc : ∃ n v, n % 2 = 1 ∧ wk (adjE es) n v v) :
    Calls Tryd.prog 10 #[.agg #[.int .i64 m, .slice A len cap]] w fun e w' => e = .returned (.bool true) ∧ Below w.heap.size w w' := by
  obtain ⟨_, hm10', hl45, hgood⟩ := good_of_gcheck hv
  have hm10 : m ≤ 10 := by omega
  have hlen : len ≤ 45 := by have := hE.1; omega
  have HX := Lib.hid (BoxG.start (n := m) (cap := cap) hE)
  have HV := Lib.hid hv
  have HT := Lib.hid hT
  have HC := Lib.hid hc
  have HG := Lib.hid hgood
  clear hE hv hl45 hT hgood hc
  go_enter Tryd.func10, Tryd.ntmps10
  go_wp2_with (first
    | (go_at_call 32; refine (ring_good m A len cap es _ (by exact HX.out.edges) HV.out (by exact HX.out.tab HT.out)).mono ?_; rintro e w1 ⟨hs, hb1⟩; obtain ⟨n, v, l, Al, capl, hn3, hnm, ho, hvm, hr, hlst, rfl, hown⟩ := hs.resolve_right (fun h => by obtain ⟨n, v, h1, h2⟩ := HC.out; exact h.1 n v h1 h2); have HX1 := Lib.hid (HX.out.next hb1); have HO := Lib.hid ho; have HI1 : Hid (IntsAt w1 w1.heap.size Al n (natsL l)) := Lib.hid (IntsAt.of_own (t := 3) (by rw [nV_natsL] at hown; exact hown) (Nat.le_refl _)); have HRR : Hid (refRing (adjE es) m n [] = some l) := Lib.hid (refRing_top hr ho (fun a b hab => ⟨(adjE_lt HG.out hab).1, (adjE_lt HG.out hab).2.1⟩) hvm hlst); have hn10 : n ≤ 10 := (by omega); have hn0 : ((n : Int) == 0) = false := (by simp; omega); have hn1 : ¬ (n : Int) = 0 := (by omega); have hn2 : ¬ n = 0 := (by omega); clear hb1 hs ho hr hown hlst; have hc0 := HX1.out.c0; have hc1 := HX1.out.c1)
    | (go_at_call 16; refine (check_v m A len cap es 0 _ (by exact HX1.out.edges) hcap HV.out).mono ?_; rintro e w2 ⟨rfl, hb2⟩; have HX2 := Lib.hid (HX1.out.next hb2); have HI2 := Lib.hid (HI1.out.go_ hb2); clear hb2; have hd0 := HX2.out.c0; have hd1 := HX2.out.c1)
    | (go_at_call 33; refine (oddRing_some m A len cap n es l _ (by exact HX2.out.edges) hlen hm10 hn3 hnm HO.out.1 HRR.out (fun k hk hko => refRing_no (by omega) (fun v => HO.out.2 k v hk hko))).mono ?_; rintro e w3 ⟨⟨A3, cap3, rfl, hi3⟩, hb3⟩; have HX3 := Lib.hid (HX2.out.next hb3); have HI3 := Lib.hid (HI2.out.go_ hb3); have HJ3 := Lib.hid hi3; clear hb3 hi3)
    | (go_at_call 17; refine (ints_same Al A3 n capl cap3 (natsL l) _ (by exact HI3.out) (by exact HJ3.out) (by omega)).mono ?_; rintro e w4 ⟨rfl, q, rfl⟩))
  go_ret
  exact ⟨rfl, below_drewN HX3.out.below q⟩

set_option maxRecDepth 100000 in
theorem sidesRings_any (n : Int) (A : Option Addr) (len cap : Nat) (es : List E3) (w : World) (hE : EdgesAt w w.heap.size A len es) (hcap : len ≤ cap) (_ : ∀ e ∈ es, WfE e) (_ : (Lit.int .i64 n).wf = true) (hT : Tab w) :
    Calls Tryd.prog 10 #[.agg #[.int .i64 n, .slice A len cap]] w fun e w' => e = .returned (.bool true) ∧ Below w.heap.size w w' := by
  by_cases h : gcheck n es = 0
  · obtain ⟨m, rfl⟩ := Int.eq_ofNat_of_zero_le (good_of_gcheck h).1
    by_cases hc : ∃ n v, n % 2 = 1 ∧ wk (adjE es) n v v
    · exact sidesRings_some m A len cap es w hE hcap h hT hc
    · exact sidesRings_none m A len cap es w hE hcap h hT (fun n v h1 h2 => hc ⟨n, v, h1, h2⟩)
  · exact sidesRings_bad n A len cap es _ w hE hcap rfl h
end Go.Proofs.YthfgbgmkiggjmabDoor
