/- For every graph, every list of places and every wall: no bond has more edges than what is told, and behind no wall more is left over. No conditions. -/
import Derived.Test.YthfgbgmkiggjmacDoorBondsMostGo
import Derived.Test.YthfgbgmkiggjmacDoorRefOdd
import Derived.Test.YthfgbgmkiggjmacDoorBondKeep
import Derived.Test.YthfgbgmkiggjmacDoorOpen
import Derived.Test.YthfgbgmkiggjmacDoorOpenInts
import Derived.Deep.RegionHeld3
namespace Go.Proofs.YthfgbgmkiggjmacDoor
open Go.RowKit

set_option maxRecDepth 100000 in
set_option maxHeartbeats 400000 in
theorem bondsAny_bad (n : Int) (A : Option Addr) (len cap : Nat) (es : List E3) (A2 : Option Addr) (n2 cap2 : Nat) (x : Int) (v : Int) (w : World) (hE : EdgesAt w w.heap.size A len es) (hcap : len ≤ cap) (hv : gcheck n es = v) (hv0 : v ≠ 0) :
    Calls Tryd.prog 8 #[.agg #[.int .i64 n, .slice A len cap], .slice A2 n2 cap2, .int .u32 x] w fun e w' => e = .returned (.bool true) ∧ Below w.heap.size w w' := by
  have HX := Lib.hid (BoxG.start (n := n) (cap := cap) hE)
  have HV := Lib.hid hv
  have HV0 := Lib.hid hv0
  have hb0 : (v != 0) = true := by simpa using hv0
  have HGD : Hid ((gcheck n es == 0) = false) := Lib.hid (by rw [hv]; simpa using hv0)
  clear hE hv hv0
  go_enter Tryd.func8, Tryd.ntmps8
  go_wp2_with fail
  refine (mostB_bad n A len cap es v _ (by exact HX.out.edges) HV.out HV0.out).mono ?_
  rintro e w1 ⟨rfl, hb1⟩
  have HX1 := Lib.hid (HX.out.next hb1)
  have hc0 := HX1.out.c0
  have hc1 := HX1.out.c1
  clear hb1
  go_wp2_with fail
  refine (good_v n A len cap es false _ (by exact HX1.out.edges) hcap HGD.out).mono ?_
  rintro e w3 ⟨rfl, hb3⟩
  have HX3 := Lib.hid (HX1.out.next hb3)
  clear hb3
  go_wp2_with fail
  go_ret
  exact ⟨rfl, HX3.out.below⟩

set_option maxRecDepth 100000 in
set_option maxHeartbeats 4000000 in
theorem bondsAny_good (m : Nat) (A : Option Addr) (len cap : Nat) (es : List E3) (A2 : Option Addr) (n2 cap2 : Nat) (ys : List Int) (x : Nat) (w : World) (hE : EdgesAt w w.heap.size A len es) (hcap : len ≤ cap) (hv : gcheck m es = 0) (hI : IntsAt w w.heap.size A2 n2 ys) (hcap2 : n2 ≤ cap2) (hm2 : cap2 ≤ maxLen) (hx : x < 4294967296) (hT : Tab w) :
    Calls Tryd.prog 8 #[.agg #[.int .i64 m, .slice A len cap], .slice A2 n2 cap2, .int .u32 x] w fun e w' => e = .returned (.bool true) ∧ Below w.heap.size w w' := by
  obtain ⟨_, hm10', hl45, hgood⟩ := good_of_gcheck hv
  have hm10 : m ≤ 10 := by omega
  have hlen : len ≤ 45 := by have := hE.1; omega
  have hn2 : n2 ≤ 9223372036854775807 := by unfold maxLen at hm2; omega
  have HX := Lib.hid (BoxG.start (n := (m : Int)) (cap := cap) hE)
  have HI : Hid (IntsAt (bx w m A len cap) (bx w m A len cap).heap.size A2 n2 ys) := Lib.hid (hI.go_ HX.out.below)
  have HYL : Hid (ys.length = n2) := Lib.hid hI.1
  have HV := Lib.hid hv
  have HT := Lib.hid hT
  have HG := Lib.hid hgood
  have HIN := Lib.hid (InE.of_good hgood)
  have HGD : Hid ((gcheck m es == 0) = true) := Lib.hid (by rw [hv]; rfl)
  obtain ⟨hok, _, _, hbl⟩ := bndL_ok (es := es) es.length 0 0 (by omega)
  have HBI : Hid (BondI es (bI es)) := Lib.hid ((bondI_map hgood).2 hok)
  have HWL : Hid ((oddW m es x : Int) - (szN m x : Int) ≤ (m : Int) - 2 * ((bndL es es.length 0 0).length : Int)) := Lib.hid (by
    have h := wall_le hgood x
    rw [← hbl] at h
    exact h)
  have HMO : Hid (BondI es ys → n2 ≤ (bndL es es.length 0 0).length) := Lib.hid fun h => by
    obtain ⟨L, rfl⟩ := bondI_some h
    have h1 := (bondI_map hgood).1 h
    have h2 := bond_le es.length 0 0 L (by omega) h1 (fun _ _ => Nat.zero_le _) (fun k _ => by simp [freeK])
    rw [← hbl] at h2
    have h3 := HYL.out
    rw [List.length_map] at h3
    omega
  have hK := bnd_len hgood
  have h1024 : 2 ^ m ≤ 1024 := by rw [show 1024 = 2 ^ 10 from rfl]; exact Nat.pow_le_pow_right (by decide) hm10
  obtain ⟨P, hP⟩ : ∃ P, 2 ^ m = P := ⟨_, rfl⟩
  have HP := Lib.hid hP
  have hp1 : (2 : Int) ^ m % 4294967296 = (P : Int) := by rw [← hP]; exact pow_mod m (by omega)
  have hp2 : IntKind.u32.wrap ((2 : Int) ^ m) = (P : Int) := by rw [wrap_u32n, hp1]
  have hP10 : P ≤ 1024 := by omega
  clear hE hv hl45 hT hgood hok hbl hP h1024 hI hm2
  go_enter Tryd.func8, Tryd.ntmps8
  go_wp2_with fail
  refine (mostB_v m A len cap es _ (by exact HX.out.edges) HV.out (by exact HX.out.tab HT.out)).mono ?_
  generalize hkk : (bndL es es.length 0 0).length = K at hK HWL HMO
  clear hkk
  rintro e w1 ⟨⟨A1, c1, rfl, hKc, HI1⟩, HB1⟩
  have HX1 := Lib.hid (HX.out.next HB1.out)
  have HY1 := Lib.hid (HI.out.go_ HB1.out)
  have hc0 := HX1.out.c0
  have hc1 := HX1.out.c1
  clear HB1
  go_wp2_with fail
  refine (good_v m A len cap es true _ (by exact HX1.out.edges) hcap HGD.out).mono ?_
  rintro e w3 ⟨rfl, hb3⟩
  have HX3 := Lib.hid (HX1.out.next hb3)
  have HI3 := Lib.hid (HI1.out.go_ hb3)
  have HY3 := Lib.hid (HY1.out.go_ hb3)
  have he0 := HX3.out.c0
  have he1 := HX3.out.c1
  clear hb3
  go_wp2_with fail
  refine (bondK_any m len cap K c1 A A1 es (bI es) true _ (by exact HX3.out.edges) (by exact HI3.out) (by omega) hKc hlen HG.out ⟨fun _ => HBI.out, fun _ => rfl⟩).mono ?_
  rintro e w4 ⟨rfl, hb4⟩
  have HX4 := Lib.hid (HX3.out.next hb4)
  have HY4 := Lib.hid (HY3.out.go_ hb4)
  have hf0 := HX4.out.c0
  have hf1 := HX4.out.c1
  clear hb4
  obtain ⟨vb, HVB⟩ : ∃ vb : Bool, Hid (vb = true ↔ BondI es ys) := by
    by_cases h : BondI es ys
    · exact ⟨true, Lib.hid ⟨fun _ => h, fun _ => rfl⟩⟩
    · exact ⟨false, Lib.hid ⟨(fun h2 => by cases h2), fun h2 => absurd h2 h⟩⟩
  have HVK : Hid (vb = true → n2 ≤ K) := Lib.hid fun h => HMO.out (HVB.out.1 h)
  have HCB := Lib.hid (bondK_any m len cap n2 cap2 A A2 es ys vb w4 HX4.out.edges HY4.out hn2 hcap2 hlen HG.out HVB.out)
  clear HVB HX HX1 HX3 HI1 HI3 HY1 HY3 HY4 hc0 hc1 he0 he1 HV HGD HBI HMO HI HYL
  have HPOST : Hid (∀ W5, Below w4.heap.size w4 W5 → BoxG w m A len cap es W5) := Lib.hid fun W5 h => HX4.out.next h
  cases vb
  all_goals
    have HCB2 := Lib.hid HCB.out
    have hnK := HVK.out
    first
      | (have hlK : n2 ≤ K := hnK rfl
         have hgt : decide ((K : Int) < (n2 : Int)) = false := decide_eq_false (by omega)
         have hgt2 : decide (K < n2) = false := decide_eq_false (by omega))
      | skip
    clear hnK HVK HCB
    go_wp2_with fail
    refine HCB2.out.mono ?_
    rintro e w5 ⟨rfl, hb5⟩
    have HX5 := Lib.hid (HPOST.out w5 hb5)
    have hg0 := HX5.out.c0
    have hg1 := HX5.out.c1
    clear hb5 HCB2
    by_cases hxP : x < P
    · have hge : decide ((P : Int) ≤ (x : Int)) = false := decide_eq_false (by omega)
      have hge2 : decide (P ≤ x) = false := decide_eq_false (by omega)
      have HAL : Hid (x < 2 ^ m) := Lib.hid (by rw [HP.out]; exact hxP)
      have HO := Lib.hid (fun (W : World) (h : EdgesAt W W.heap.size A len es) => refOdd_any m x A len cap es W h hm10 hlen HIN.out hx)
      have HS := Lib.hid (fun (W : World) => size_v x (szN m x : Int) hx (by rw [sizeW_szN hm10 HAL.out]) W)
      have l1 := Nat.le_trans (oddW_le m es x) hm10
      have l2 := Nat.le_trans (szN_le m x) hm10
      have hle := HWL.out
      generalize oddW m es x = o1 at HO l1 hle
      generalize szN m x = o2 at HS l2 hle
      have hw1 : IntKind.i64.wrap (2 * (K : Int)) = 2 * (K : Int) := IntWalk.i64_in _ (by omega)
      have hw2 : IntKind.i64.wrap ((m : Int) - 2 * (K : Int)) = (m : Int) - 2 * (K : Int) := IntWalk.i64_in _ (by omega)
      have hw3 : IntKind.i64.wrap ((o1 : Int) - (o2 : Int)) = (o1 : Int) - (o2 : Int) := IntWalk.i64_in _ (by omega)
      have hde : decide ((o1 : Int) - (o2 : Int) ≤ (m : Int) - 2 * (K : Int)) = true := decide_eq_true hle
      clear hle hxP HAL HWL HX4 hf0 hf1
      go_wp2
      go_region_held3 (fun W => W.cell? ⟨w.heap.size, 0, none⟩ = some (.int .i64 m) ∧ W.cell? ⟨w.heap.size, 1, none⟩ = some (.slice A len cap))
        (first | exact ⟨hg0, hg1⟩ | exact ⟨q0, q1⟩ | go_keep)
        (first
          | (go_at_call 20; refine (HO.out _ (by first | exact HX5.out.edges | exact (HX5.out.next (Below.refl _ _).drew).edges)).mono ?_; rintro e w6 ⟨rfl, hb6⟩; have HX6 := Lib.hid (HX5.out.next (by first | exact hb6 | exact (Below.refl _ _).drew.trans hb6)); clear hb6; have q0 := HX6.out.c0; have q1 := HX6.out.c1)
          | (go_at_call 21; refine (HS.out _).mono ?_; rintro e w7 ⟨rfl, rfl⟩))
      all_goals
        go_wp2
        go_ret
        exact ⟨rfl, HX6.out.below⟩
    · have hge : decide ((P : Int) ≤ (x : Int)) = true := decide_eq_true (by omega)
      have hge2 : decide (P ≤ x) = true := decide_eq_true (by omega)
      clear hxP
      go_wp2_with fail
      go_ret
      exact ⟨rfl, HX5.out.below⟩

set_option maxRecDepth 100000 in
theorem bondsAny_any (n : Int) (A : Option Addr) (len cap : Nat) (es : List E3) (A2 : Option Addr) (n2 cap2 : Nat) (ys : List Int) (x : Int) (w : World) (hE : EdgesAt w w.heap.size A len es) (hcap : len ≤ cap) (_ : ∀ e ∈ es, WfE e) (_ : (Lit.int .i64 n).wf = true)
    (hI : IntsAt w w.heap.size A2 n2 ys) (hcap2 : n2 ≤ cap2) (hm2 : cap2 ≤ maxLen) (wx : (Lit.int .u32 x).wf = true) (hT : Tab w) :
    Calls Tryd.prog 8 #[.agg #[.int .i64 n, .slice A len cap], .slice A2 n2 cap2, .int .u32 x] w fun e w' => e = .returned (.bool true) ∧ Below w.heap.size w w' := by
  have hxx : 0 ≤ x ∧ x < 4294967296 := by
    simp [Lit.wf, IntKind.min, IntKind.max, IntKind.signed, IntKind.bits] at wx
    omega
  obtain ⟨x, rfl⟩ := Int.eq_ofNat_of_zero_le hxx.1
  by_cases h : gcheck n es = 0
  · obtain ⟨m, rfl⟩ := Int.eq_ofNat_of_zero_le (good_of_gcheck h).1
    exact bondsAny_good m A len cap es A2 n2 cap2 ys x w hE hcap h hI hcap2 hm2 (by omega) hT
  · exact bondsAny_bad n A len cap es A2 n2 cap2 x _ w hE hcap rfl h
end Go.Proofs.YthfgbgmkiggjmacDoor
