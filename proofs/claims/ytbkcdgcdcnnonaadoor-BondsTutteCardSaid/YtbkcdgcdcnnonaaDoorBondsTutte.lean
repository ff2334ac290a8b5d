/- For every graph, as many nodes are left over by the best bond as there are odd parts behind the wall, less the wall. No conditions. -/
import Derived.Test.YtbkcdgcdcnnonaaDoorBondsMostGo
import Derived.Test.YtbkcdgcdcnnonaaDoorBondsWallGo
import Derived.Test.YtbkcdgcdcnnonaaDoorRefOdd
import Derived.Test.YtbkcdgcdcnnonaaDoorBondKeep
import Derived.Test.YtbkcdgcdcnnonaaDoorOpen
import Derived.Deep.RegionHeld3
namespace Go.Proofs.YtbkcdgcdcnnonaaDoor
open Go.RowKit

set_option maxHeartbeats 400000 in
theorem bondsTutte_bad (n : Int) (A : Option Addr) (len cap : Nat) (es : List E3) (v : Int) (w : World) (hE : EdgesAt w w.heap.size A len es) (hcap : len ≤ cap) (hv : gcheck n es = v) (hv0 : v ≠ 0) :
    Calls Tryd.prog 5 #[.agg #[.int .i64 n, .slice A len cap]] w fun e w' => e = .returned (.bool true) ∧ Below w.heap.size w w' := by
  have HX := Lib.hid (BoxG.start (n := n) (cap := cap) hE)
  have HV := Lib.hid hv
  have HV0 := Lib.hid hv0
  have hb0 : (v != 0) = true := by simpa using hv0
  have HGD : Hid ((gcheck n es == 0) = false) := Lib.hid (by rw [hv]; simpa using hv0)
  clear hE hv hv0
  go_enter Tryd.func5, Tryd.ntmps5
  go_wp2_with fail
  refine (mostB_bad n A len cap es v _ (by exact HX.out.edges) HV.out HV0.out).mono ?_
  rintro e w1 ⟨rfl, hb1⟩
  have HX1 := Lib.hid (HX.out.next hb1)
  have hc0 := HX1.out.c0
  have hc1 := HX1.out.c1
  clear hb1
  go_wp2_with fail
  refine (wallB_bad n A len cap es v _ (by exact HX1.out.edges) HV.out HV0.out).mono ?_
  rintro e w2 ⟨rfl, hb2⟩
  have HX2 := Lib.hid (HX1.out.next hb2)
  have hd0 := HX2.out.c0
  have hd1 := HX2.out.c1
  clear hb2
  go_wp2_with fail
  refine (good_v n A len cap es false _ (by exact HX2.out.edges) hcap HGD.out).mono ?_
  rintro e w3 ⟨rfl, hb3⟩
  have HX3 := Lib.hid (HX2.out.next hb3)
  clear hb3
  go_wp2_with fail
  go_ret
  exact ⟨rfl, HX3.out.below⟩

set_option maxRecDepth 100000 in
set_option maxHeartbeats 4000000 in
theorem bondsTutte_good (m : Nat) (A : Option Addr) (len cap : Nat) (es : List E3) (w : World) (hE : EdgesAt w w.heap.size A len es) (hcap : len ≤ cap) (hv : gcheck m es = 0) (hT : Tab w) :
    Calls Tryd.prog 5 #[.agg #[.int .i64 m, .slice A len cap]] w fun e w' => e = .returned (.bool true) ∧ Below w.heap.size w w' := by
  obtain ⟨_, hm10', hl45, hgood⟩ := good_of_gcheck hv
  have hm10 : m ≤ 10 := by omega
  have hlen : len ≤ 45 := by have := hE.1; omega
  have HX := Lib.hid (BoxG.start (n := (m : Int)) (cap := cap) hE)
  have HV := Lib.hid hv
  have HT := Lib.hid hT
  have HG := Lib.hid hgood
  have HIN := Lib.hid (InE.of_good hgood)
  have HGD : Hid ((gcheck m es == 0) = true) := Lib.hid (by rw [hv]; rfl)
  obtain ⟨hok, _, _, hbl⟩ := bndL_ok (es := es) es.length 0 0 (by omega)
  have HBI : Hid (BondI es (bI es)) := Lib.hid ((bondI_map hgood).2 hok)
  have HWB : Hid (∀ a, FirstMax (overW m es) (2 ^ m) a → (oddW m es a : Int) - (szN m a : Int) = (m : Int) - 2 * ((bndL es es.length 0 0).length : Int)) := Lib.hid fun a ha => by
    have h := wall_best hgood ha
    rw [← hbl] at h
    exact h
  have hK := bnd_len hgood
  have h1024 : 2 ^ m ≤ 1024 := by rw [show 1024 = 2 ^ 10 from rfl]; exact Nat.pow_le_pow_right (by decide) hm10
  obtain ⟨P, hP⟩ : ∃ P, 2 ^ m = P := ⟨_, rfl⟩
  have HP := Lib.hid hP
  have hp1 : (2 : Int) ^ m % 4294967296 = (P : Int) := by rw [← hP]; exact pow_mod m (by omega)
  have hp2 : IntKind.u32.wrap ((2 : Int) ^ m) = (P : Int) := by rw [wrap_u32n, hp1]
  have hP10 : P ≤ 1024 := by omega
  clear hE hv hl45 hT hgood hok hbl hP h1024
  go_enter Tryd.func5, Tryd.ntmps5
  go_wp2_with fail
  refine (mostB_v m A len cap es _ (by exact HX.out.edges) HV.out (by exact HX.out.tab HT.out)).mono ?_
  generalize hkk : (bndL es es.length 0 0).length = K at hK HWB
  clear hkk
  rintro e w1 ⟨⟨A1, c1, rfl, hKc, HI1⟩, HB1⟩
  have HX1 := Lib.hid (HX.out.next HB1.out)
  have hc0 := HX1.out.c0
  have hc1 := HX1.out.c1
  clear HB1
  go_wp2_with fail
  refine (wallB_good m A len cap es _ (by exact HX1.out.edges) HV.out (by exact HX1.out.tab HT.out)).mono ?_
  rintro e w2 ⟨⟨a, hfa, rfl⟩, hb2⟩
  have HX2 := Lib.hid (HX1.out.next hb2)
  have HI2 := Lib.hid (HI1.out.go_ hb2)
  have HEQ := Lib.hid (HWB.out a hfa)
  have HAL := Lib.hid hfa.1
  have haP : a < P := by have := hfa.1; rwa [HP.out] at this
  have hd0 := HX2.out.c0
  have hd1 := HX2.out.c1
  have hge : decide ((P : Int) ≤ (a : Int)) = false := decide_eq_false (by omega)
  have hge2 : decide (P ≤ a) = false := decide_eq_false (by omega)
  clear hb2 hfa
  go_wp2_with fail
  refine (good_v m A len cap es true _ (by exact HX2.out.edges) hcap HGD.out).mono ?_
  rintro e w3 ⟨rfl, hb3⟩
  have HX3 := Lib.hid (HX2.out.next hb3)
  have HI3 := Lib.hid (HI2.out.go_ hb3)
  have he0 := HX3.out.c0
  have he1 := HX3.out.c1
  clear hb3
  go_wp2_with fail
  refine (bondK_any m len cap K c1 A A1 es (bI es) true _ (by exact HX3.out.edges) (by exact HI3.out) (by omega) hKc hlen HG.out ⟨fun _ => HBI.out, fun _ => rfl⟩).mono ?_
  rintro e w4 ⟨rfl, hb4⟩
  have HX4 := Lib.hid (HX3.out.next hb4)
  have hf0 := HX4.out.c0
  have hf1 := HX4.out.c1
  have HO := Lib.hid (fun (W : World) (h : EdgesAt W W.heap.size A len es) => refOdd_any m a A len cap es W h hm10 hlen HIN.out (by omega))
  have HS := Lib.hid (fun (W : World) => size_v a (szN m a : Int) (by omega) (by rw [sizeW_szN hm10 HAL.out]) W)
  have l1 := Nat.le_trans (oddW_le m es a) hm10
  have l2 := Nat.le_trans (szN_le m a) hm10
  have heq := HEQ.out
  generalize oddW m es a = o1 at HO l1 heq
  generalize szN m a = o2 at HS l2 heq
  have hw1 : IntKind.i64.wrap (2 * (K : Int)) = 2 * (K : Int) := IntWalk.i64_in _ (by omega)
  have hw2 : IntKind.i64.wrap ((m : Int) - 2 * (K : Int)) = (m : Int) - 2 * (K : Int) := IntWalk.i64_in _ (by omega)
  have hw3 : IntKind.i64.wrap ((o1 : Int) - (o2 : Int)) = (m : Int) - 2 * (K : Int) := by rw [heq]; exact hw2
  clear hb4 heq HX HX1 HX2 HX3 HI1 HI2 HI3 hc0 hc1 hd0 hd1 he0 he1 HV HG HGD HIN HBI HWB HEQ HAL
  go_wp2
  go_region_held3 (fun W => W.cell? ⟨w.heap.size, 0, none⟩ = some (.int .i64 m) ∧ W.cell? ⟨w.heap.size, 1, none⟩ = some (.slice A len cap))
    (first | exact ⟨hf0, hf1⟩ | exact ⟨q0, q1⟩ | go_keep)
    (first
      | (go_at_call 15; refine (HO.out _ (by first | exact HX4.out.edges | exact (HX4.out.next (Below.refl _ _).drew).edges)).mono ?_; rintro e w5 ⟨rfl, hb5⟩; have HX5 := Lib.hid (HX4.out.next (by first | exact hb5 | exact (Below.refl _ _).drew.trans hb5)); clear hb5; have q0 := HX5.out.c0; have q1 := HX5.out.c1)
      | (go_at_call 16; refine (HS.out _).mono ?_; rintro e w6 ⟨rfl, rfl⟩))
  all_goals
    go_wp2
    go_ret
    exact ⟨rfl, HX5.out.below⟩

theorem bondsTutte_any (n : Int) (A : Option Addr) (len cap : Nat) (es : List E3) (w : World) (hE : EdgesAt w w.heap.size A len es) (hcap : len ≤ cap) (_ : ∀ e ∈ es, WfE e) (_ : (Lit.int .i64 n).wf = true) (hT : Tab w) :
    Calls Tryd.prog 5 #[.agg #[.int .i64 n, .slice A len cap]] w fun e w' => e = .returned (.bool true) ∧ Below w.heap.size w w' := by
  by_cases h : gcheck n es = 0
  · obtain ⟨m, rfl⟩ := Int.eq_ofNat_of_zero_le (good_of_gcheck h).1
    exact bondsTutte_good m A len cap es w hE hcap h hT
  · exact bondsTutte_bad n A len cap es _ w hE hcap rfl h
end Go.Proofs.YtbkcdgcdcnnonaaDoor
