/- span.isTree, span.Code: what they tell of every graph. -/
import Derived.Test.YthfgbgmkiggjmabDoorFirst
import Derived.Test.YthfgbgmkiggjmabDoorOnes
namespace Go.Proofs.YthfgbgmkiggjmabDoor
open Go.RowKit

set_option maxRecDepth 100000 in
set_option maxHeartbeats 1000000 in
theorem isTree_v (m : Nat) (A : Option Addr) (len cap : Nat) (es : List E3) (v : Bool) (w : World) (hE : EdgesAt w w.heap.size A len es) (hv : gcheck m es = 0) (hT : Tab w) (hvv : v = true ↔ TreeP m es) :
    Calls Tryd.prog 62 #[.agg #[.int .i64 m, .slice A len cap]] w fun e w' => e = .returned (.bool v) ∧ Below w.heap.size w w' := by
  obtain ⟨_, hm10', hl45, hgood⟩ := good_of_gcheck hv
  have hm10 : m ≤ 10 := by omega
  have hlen : len = es.length := hE.1.symm
  have hlen45 : len ≤ 45 := by omega
  by_cases hm2 : m < 2
  · have hv0 : v = false := by rw [Bool.eq_false_iff]; exact fun h => by have := (hvv.1 h).1; omega
    subst hv0
    have hd : decide ((m : Int) < 2) = true := by simp; omega
    have hml : (m : Int) < 2 := by omega
    clear hvv hlen
    go_enter Tryd.func62, Tryd.ntmps62
    go_wp2
    go_ret
    exact ⟨rfl, (Below.refl _ _).alloc (Nat.le_refl _) _⟩
  · have hml : ¬ (m : Int) < 2 := by omega
    by_cases hlm : len + 1 = m
    · have HE := Lib.hid (show EdgesAt (bx w m A len cap) (bx w m A len cap).heap.size A len es from (hE.alloc (Nat.le_refl _) _).more (by simp [bx]))
      have HV := Lib.hid hv
      have HT := Lib.hid (hT.alloc (.cells #[.int .i64 m, .slice A len cap] 24))
      have HF := Lib.hid (treeP_first hm10 hgood (by omega) (by omega))
      have HVV := Lib.hid hvv
      have HPS : Hid (∀ p ∈ (List.range m).map (partN m es), p < 10) := Lib.hid fun p hp => by
        obtain ⟨i, hi, rfl⟩ := List.mem_map.1 hp
        have := Rch.lt hgood (List.mem_range.1 hi) (partN_rch hm10 hgood (List.mem_range.1 hi))
        omega
      have hne : ((len : Int) != (m : Int) - 1) = false := by simp; omega
      have hle : (len : Int) = (m : Int) - 1 := by omega
      have HLE := Lib.hid hle
      have HR : Hid ((((firstW ((List.range m).map (partN m es)) : Nat) : Int) == 1) = v) := Lib.hid (by
        rw [Bool.eq_iff_iff, hvv, ← HF.out]; simp; omega)
      clear hE hv hT hvv hgood hlen hle HVV HF
      go_enter Tryd.func62, Tryd.ntmps62
      go_wp2_with (first
        | (go_at_call 15; refine (parts_good m A len cap es _ (by exact HE.out) HV.out (by exact HT.out)).mono ?_; rintro e w1 ⟨g, rfl, hrow, hgn, hb1⟩; have HROW := Lib.hid hrow; have HB1 := Lib.hid hb1; clear hrow hb1)
        | (go_at_call 68; refine (firstOnes_any m m (some ⟨g, 0, none⟩) ((List.range m).map (partN m es)) _ (by have h := HROW.out; rw [partsL_nat] at h; have h2 := IntsAt.of_row h h.lt; rw [intsN_length, List.length_map, List.length_range] at h2; exact h2) hm10 HPS.out).mono ?_; rintro e w2 ⟨rfl, rfl⟩))
      go_ret
      exact ⟨ret_bool HR.out, ((Below.refl _ _).alloc (Nat.le_refl _) _).trans (HB1.out.mono (by simp))⟩
    · have hv0 : v = false := by rw [Bool.eq_false_iff]; exact fun h => by have := (hvv.1 h).2.1; omega
      subst hv0
      have hne : ((len : Int) != (m : Int) - 1) = true := by simp; omega
      have hne2 : ¬ (len : Int) = (m : Int) - 1 := by omega
      clear hvv hlen
      go_enter Tryd.func62, Tryd.ntmps62
      go_wp2
      go_ret
      exact ⟨rfl, (Below.refl _ _).alloc (Nat.le_refl _) _⟩

def oneW (x : Nat) : Bool := ones x == 1
set_option maxRecDepth 100000 in
set_option maxHeartbeats 400000 in
theorem hasOne_any (x : Nat) (w : World) (hx : x < 1024) :
    Calls Tryd.prog 64 #[.int .u32 x] w fun e w' => e = .returned (.bool (oneW x)) ∧ ∃ k, w' = w.drewN k := by
  have hle := ones_le x
  have HO : Hid (((ones x : Int) == 1) = oneW x) := Lib.hid (by unfold oneW; rw [Bool.eq_iff_iff]; simp; omega)
  go_enter Tryd.func64, Tryd.ntmps64
  go_wp2_with (go_at_call 72; refine (ones_any x _ hx).mono ?_; rintro e w1 ⟨rfl, q, rfl⟩)
  go_ret
  exact ⟨ret_bool HO.out, q, rfl⟩
set_option maxRecDepth 100000 in
set_option maxHeartbeats 1000000 in
theorem indexOne (n cap i : Nat) (A : Option Addr) (xs : List Nat) (w : World) (hA : WordsAt w w.heap.size A n xs) (hn : n ≤ 10) (hl : ∀ x ∈ xs, x < 1024) (hi : i < n) (h1 : oneW (xs.getD i 0) = true) (h0 : ∀ j, j < i → oneW (xs.getD j 0) = false) :
    Calls Tryd.prog 63 #[.slice A n cap, .func (.func 64) #[] #[]] w fun e w' => e = .returned (.int .i64 i) ∧ ∃ k, w' = w.drewN k := by
  have HA := Lib.hid hA
  have HL := Lib.hid hl
  have H1 := Lib.hid h1
  have H0 := Lib.hid h0
  clear hA hl h1 h0
  go_enter Tryd.func63, Tryd.ntmps63
  go_wp2
  go_loopw [8] (fun j wr => ∃ k q : Nat, k ≤ i ∧ j = .int .i64 k ∧ Hid (wr = w.drewN q)) (fun j _ => n - (intOf j).toNat)
  case atStart => exact ⟨0, 0, Nat.zero_le _, rfl, Lib.hid rfl⟩
  case round =>
    obtain ⟨k, q, hk, rfl, HW⟩ := hrel
    have hlt : k < n := by omega
    obtain ⟨b, off, rfl, _, hc⟩ := HA.out.at_ hlt
    have hc' : wr.cell? ⟨b, off + k, none⟩ = some (.int .u32 (xs.getD k 0 : Nat)) := by rw [HW.out]; exact hc
    have hkn : (k : Int) < (n : Int) := by omega
    have hx10 : xs.getD k 0 < 1024 := HL.out _ (by
      have : k < xs.length := by have := HA.out.1; omega
      rw [List.getD_eq_getElem?_getD, List.getElem?_eq_getElem this]
      exact List.getElem_mem this)
    clear hc
    by_cases hki : k < i
    · have HPx := Lib.hid (H0.out k hki)
      generalize xs.getD k 0 = x at *
      go_wp2_with (go_at_call 64; refine ((hasOne_any x _ hx10).mono (R' := fun e w' => e = .returned (.bool false) ∧ ∃ k, w' = wr.drewN k) (fun e w' h => ⟨by rw [h.1, HPx.out], h.2⟩)).mono ?_; rintro e w1 ⟨rfl, q1, rfl⟩)
      go_roundw
      case rel => exact ⟨k + 1, _, by omega, by go_num, Lib.hid (by rw [HW.out, World.drewN_drewN])⟩
      case measure => simp [intOf]; omega
    · obtain rfl : k = i := by omega
      have HPx := Lib.hid H1.out
      generalize xs.getD k 0 = x at *
      go_wp2_with (go_at_call 64; refine ((hasOne_any x _ hx10).mono (R' := fun e w' => e = .returned (.bool true) ∧ ∃ k, w' = wr.drewN k) (fun e w' h => ⟨by rw [h.1, HPx.out], h.2⟩)).mono ?_; rintro e w1 ⟨rfl, q1, rfl⟩)
      go_ret
      exact ⟨rfl, _, by rw [HW.out, World.drewN_drewN]⟩

set_option maxRecDepth 100000 in
set_option maxHeartbeats 400000 in
theorem code_bad (n : Int) (A : Option Addr) (len cap : Nat) (es : List E3) (v : Int) (w : World) (hE : EdgesAt w w.heap.size A len es) (hv : gcheck n es = v) (hv0 : v ≠ 0) :
    Calls Tryd.prog 35 #[.agg #[.int .i64 n, .slice A len cap]] w fun e w' => e = .returned (.tuple #[.slice none 0 0, .int .i64 v]) ∧ Below w.heap.size w w' := by
  have HE := Lib.hid (show EdgesAt (bx w n A len cap) (bx w n A len cap).heap.size A len es from (hE.alloc (Nat.le_refl _) _).more (by simp [bx]))
  have HV := Lib.hid hv
  have HV0 := Lib.hid hv0
  have hb0 : (v != 0) = true := by simpa using hv0
  clear hE hv hv0
  go_enter Tryd.func35, Tryd.ntmps35
  go_wp2_with (go_at_call 41; refine (neighbours_bad n A len cap es v _ (by exact HE.out) HV.out HV0.out).mono ?_; rintro e w1 ⟨rfl, hb1⟩)
  go_ret2
  exact ⟨rfl, ((Below.refl _ _).alloc (Nat.le_refl _) _).trans (hb1.mono (by simp))⟩

set_option maxRecDepth 100000 in
set_option maxHeartbeats 1000000 in
theorem code_none (m : Nat) (A : Option Addr) (len cap : Nat) (es : List E3) (w : World) (hE : EdgesAt w w.heap.size A len es) (hv : gcheck m es = 0) (hT : Tab w) (ht : ¬ TreeP m es) :
    Calls Tryd.prog 35 #[.agg #[.int .i64 m, .slice A len cap]] w fun e w' => e = .returned (.tuple #[.slice none 0 0, .int .i64 3]) ∧ Below w.heap.size w w' := by
  have HE := Lib.hid (show EdgesAt (bx w m A len cap) (bx w m A len cap).heap.size A len es from (hE.alloc (Nat.le_refl _) _).more (by simp [bx]))
  have HV := Lib.hid hv
  have HT := Lib.hid (hT.alloc (.cells #[.int .i64 m, .slice A len cap] 24))
  have HN : Hid (false = true ↔ TreeP m es) := Lib.hid ⟨fun h => by (cases h), fun h => absurd h ht⟩
  clear hE hv hT ht
  go_enter Tryd.func35, Tryd.ntmps35
  go_wp2_with (first
    | (go_at_call 41; refine (neighbours_any m A len cap es _ (by exact HE.out) HV.out).mono ?_; rintro e w1 ⟨gn, rfl, _, _, hb1⟩; have HB1 := Lib.hid hb1; have hc0 : w1.cell? ⟨w.heap.size, 0, none⟩ = some (.int .i64 (m : Int)) := (by rw [hb1.cell (p := ⟨w.heap.size, 0, none⟩) (by simp)]; simp [go_sem]); have hc1 : w1.cell? ⟨w.heap.size, 1, none⟩ = some (.slice A len cap) := (by rw [hb1.cell (p := ⟨w.heap.size, 1, none⟩) (by simp)]; simp [go_sem]); clear hb1)
    | (go_at_call 62; refine (isTree_v m A len cap es false _ (by exact HE.out.go_ HB1.out) HV.out (by exact HT.out.go_ HB1.out) HN.out).mono ?_; rintro e w2 ⟨rfl, hb2⟩))
  go_ret2
  exact ⟨rfl, ((Below.refl _ _).alloc (Nat.le_refl _) _).trans ((HB1.out.trans (hb2.mono HB1.out.size)).mono (by simp))⟩
end Go.Proofs.YthfgbgmkiggjmabDoor
