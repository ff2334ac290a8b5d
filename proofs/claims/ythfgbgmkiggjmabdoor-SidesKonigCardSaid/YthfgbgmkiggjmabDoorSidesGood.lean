/- sides.Sides: what it tells of a graph without fault; of a wrong graph, what is wrong. -/
import Derived.Test.YthfgbgmkiggjmabDoorSidesGo
import Derived.Test.YthfgbgmkiggjmabDoorInts
namespace Go.Proofs.YthfgbgmkiggjmabDoor
open Go.RowKit

set_option maxRecDepth 100000 in
set_option maxHeartbeats 400000 in
theorem sides_bad (n : Int) (A : Option Addr) (len cap : Nat) (es : List E3) (v : Int) (w : World) (hE : EdgesAt w w.heap.size A len es) (hv : gcheck n es = v) (hv0 : v ≠ 0) :
    Calls Tryd.prog 30 #[.agg #[.int .i64 n, .slice A len cap]] w fun e w' => e = .returned (.tuple #[.slice none 0 0, .int .i64 v]) ∧ Below w.heap.size w w' := by
  have HE := Lib.hid (show EdgesAt (bx w n A len cap) (bx w n A len cap).heap.size A len es from (hE.alloc (Nat.le_refl _) _).more (by simp [bx]))
  have HV := Lib.hid hv
  have HV0 := Lib.hid hv0
  have hb0 : (v != 0) = true := by simpa using hv0
  clear hE hv hv0
  go_enter Tryd.func30, Tryd.ntmps30
  go_wp2_with (go_at_call 19; refine (dist_bad n A len cap es v _ (by exact HE.out) HV.out HV0.out).mono ?_; rintro e w1 ⟨rfl, hb1⟩)
  go_ret2
  exact ⟨rfl, (((Below.refl _ _).alloc (Nat.le_refl _) _).trans (hb1.mono (by simp))).alloc (by have := hb1.size; simp at this; omega) _⟩

/-! Has an edge both its nodes on one side? -/
set_option maxRecDepth 100000 in
set_option maxHeartbeats 400000 in
theorem sides2_v (m i j B r : Nat) (c x y : Int) (b : Bool) (w : World) (hi : i < m) (hj : j < m) (h0 : w.cell? ⟨B, 0, none⟩ = some (.slice (some ⟨r, 0, none⟩) m m)) (h1 : w.cell? ⟨r, i, none⟩ = some (.int .i64 x)) (h2 : w.cell? ⟨r, j, none⟩ = some (.int .i64 y)) (hB : B < w.heap.size) (hr : r < w.heap.size) (hb : (x == y) = b) :
    Calls Tryd.prog 59 #[.agg #[.int .i64 i, .int .i64 j, .int .i64 c], .pointer (some ⟨B, 0, none⟩)] w fun e w' => e = .returned (.bool b) ∧ Below w.heap.size w w' := by
  have k0 := (World.cell?_alloc_lt w (.cells #[.int .i64 (i : Int), .int .i64 (j : Int), .int .i64 c] 43) ⟨B, 0, none⟩ hB).trans h0
  have k1 := (World.cell?_alloc_lt w (.cells #[.int .i64 (i : Int), .int .i64 (j : Int), .int .i64 c] 43) ⟨r, i, none⟩ hr).trans h1
  have k2 := (World.cell?_alloc_lt w (.cells #[.int .i64 (i : Int), .int .i64 (j : Int), .int .i64 c] 43) ⟨r, j, none⟩ hr).trans h2
  have ii0 : (0 : Int) ≤ (i : Int) := by omega
  have ii1 : (i : Int) < (m : Int) := by omega
  have ij0 : (0 : Int) ≤ (j : Int) := by omega
  have ij1 : (j : Int) < (m : Int) := by omega
  go_enter Tryd.func59, Tryd.ntmps59
  go_wp2
  go_quiet (fail)
  go_wp2
  go_ret
  exact ⟨rfl, below_drewN ((Below.refl _ _).alloc (Nat.le_refl _) _) _⟩
/-- What the closure reads: the slice in its variable, and the row of sides. -/
structure SideAt (m : Nat) (es : List E3) (B r : Nat) (w : World) : Prop where
  box : w.cell? ⟨B, 0, none⟩ = some (.slice (some ⟨r, 0, none⟩) m m)
  row : ∀ i, i < m → w.cell? ⟨r, i, none⟩ = some (.int .i64 (sideN m es i : Nat))
  bl : B < w.heap.size
  rl : r < w.heap.size
set_option maxRecDepth 100000 in
theorem SideAt.go_ {m B r : Nat} {es : List E3} {w w' : World} (h : SideAt m es B r w) (hb : Below w.heap.size w w') : SideAt m es B r w' :=
  ⟨(hb.cell (p := ⟨B, 0, none⟩) h.bl).trans h.box, fun i hi => (hb.cell (p := ⟨r, i, none⟩) h.rl).trans (h.row i hi), Nat.lt_of_lt_of_le h.bl hb.size, Nat.lt_of_lt_of_le h.rl hb.size⟩
set_option maxRecDepth 100000 in
set_option maxHeartbeats 1000000 in
theorem clashIdx (m B r len cap : Nat) (A : Option Addr) (es : List E3) (w : World) (hg : goodE m es) (hE : EdgesAt w w.heap.size A len es) (hl : len ≤ 45) (hS : SideAt m es B r w) :
    Calls Tryd.prog 76 #[.slice A len cap, .func (.func 59) #[] #[.pointer (some ⟨B, 0, none⟩)]] w fun e w' => (∃ z : Int, e = .returned (.int .i64 z) ∧ decide (0 ≤ z) = es.any (clashB m es)) ∧ Below w.heap.size w w' := by
  have HE := Lib.hid hE
  have HS := Lib.hid hS
  have HG := Lib.hid hg
  clear hE hS hg
  go_enter Tryd.func76, Tryd.ntmps76
  go_wp2
  go_loopw [5, 8] (fun _ j wr => ∃ k : Nat, k ≤ len ∧ j = .int .i64 k ∧ Hid (∀ e ∈ es.take k, clashB m es e = false) ∧ Below w.heap.size w wr) (fun _ j _ => len - (intOf j).toNat)
  case atStart => exact ⟨0, Nat.zero_le _, rfl, Lib.hid (by simp), Below.refl _ _⟩
  case round =>
    obtain ⟨k, hk, rfl, HN, hB⟩ := hrel
    by_cases hlt : k < len
    · have HEr := Lib.hid (HE.out.go_ hB)
      have HSr := Lib.hid (HS.out.go_ hB)
      obtain ⟨b, off, ⟨a0, a1, a2⟩, rfl, hb, hx, hc0, hc1, hc2⟩ := HEr.out.at_ hlt
      obtain ⟨p0, p1, p2, p3, p4, _⟩ := edge_ok (HG.out k _ hx)
      simp only at p0 p1 p2 p3 p4 hc0 hc1 hc2
      obtain ⟨i, rfl⟩ := Int.eq_ofNat_of_zero_le p0
      obtain ⟨j, rfl⟩ := Int.eq_ofNat_of_zero_le p2
      have HX := Lib.hid hx
      have HCL : Hid (clashB m es ((i : Int), (j : Int), a2) = (((sideN m es i : Nat) : Int) == ((sideN m es j : Nat) : Int))) := Lib.hid (by
        unfold clashB
        simp only [Int.toNat_natCast]
        rw [Bool.eq_iff_iff]
        simp only [beq_iff_eq]
        omega)
      have hsz := hB.size
      clear hx
      cases hq : (((sideN m es i : Nat) : Int) == ((sideN m es j : Nat) : Int)) with
      | true =>
        have HC := Lib.hid (sides2_v m i j B r a2 _ _ true wr (by omega) (by omega) HSr.out.box (HSr.out.row i (by omega)) (HSr.out.row j (by omega)) HSr.out.bl HSr.out.rl hq)
        have HANY : Hid (es.any (clashB m es) = true) := Lib.hid (by rw [List.any_eq_true]; exact ⟨_, List.mem_of_getElem? HX.out, by rw [HCL.out, hq]⟩)
        clear hq HCL
        go_wp2_with (go_at_call 59; refine HC.out.mono ?_; rintro e w1 ⟨rfl, hb1⟩; have HB1 := Lib.hid hb1; clear hb1)
        go_ret
        exact ⟨⟨(k : Int), rfl, by rw [HANY.out]; simp⟩, hB.trans (HB1.out.mono hsz)⟩
      | false =>
        have HC := Lib.hid (sides2_v m i j B r a2 _ _ false wr (by omega) (by omega) HSr.out.box (HSr.out.row i (by omega)) (HSr.out.row j (by omega)) HSr.out.bl HSr.out.rl hq)
        have HN2 : Hid (∀ e ∈ es.take (k + 1), clashB m es e = false) := Lib.hid fun e he => by
          obtain ⟨hkl, hxe⟩ := List.getElem?_eq_some_iff.1 HX.out
          rw [List.take_succ_eq_append_getElem hkl, hxe, List.mem_append, List.mem_singleton] at he
          rcases he with he | he
          · exact HN.out e he
          · rw [he, HCL.out, hq]
        clear hq HCL
        go_wp2_with (go_at_call 59; refine HC.out.mono ?_; rintro e w1 ⟨rfl, hb1⟩; have HB1 := Lib.hid hb1; clear hb1)
        go_roundw
        case rel => exact ⟨k + 1, by omega, by go_num, HN2, hB.trans (HB1.out.mono hsz)⟩
        case measure => simp [intOf]; omega
    · have HANY : Hid (es.any (clashB m es) = false) := Lib.hid (by
        have h := HN.out
        rw [List.take_of_length_le (by have := HE.out.1; omega)] at h
        rw [Bool.eq_false_iff]
        intro ha
        rw [List.any_eq_true] at ha
        obtain ⟨x, hx, hp⟩ := ha
        rw [h x hx] at hp
        cases hp)
      go_wp2
      go_ret
      exact ⟨⟨-1, rfl, by rw [HANY.out]; rfl⟩, hB⟩
set_option maxRecDepth 100000 in
set_option maxHeartbeats 400000 in
theorem clash_any (m B r len cap : Nat) (A : Option Addr) (es : List E3) (b : Bool) (w : World) (hg : goodE m es) (hE : EdgesAt w w.heap.size A len es) (hl : len ≤ 45) (hS : SideAt m es B r w) (hb : es.any (clashB m es) = b) :
    Calls Tryd.prog 58 #[.slice A len cap, .func (.func 59) #[] #[.pointer (some ⟨B, 0, none⟩)]] w fun e w' => e = .returned (.bool b) ∧ Below w.heap.size w w' := by
  have HC := Lib.hid (clashIdx m B r len cap A es w hg hE hl hS)
  have HB := Lib.hid hb
  clear hg hE hS hb
  go_enter Tryd.func58, Tryd.ntmps58
  go_wp2_with (go_at_call 76; refine HC.out.mono ?_; rintro e w1 ⟨⟨z, rfl, hz⟩, hb1⟩; have HZ := Lib.hid hz; clear hz)
  go_ret
  exact ⟨ret_bool (by rw [HZ.out, HB.out]), hb1⟩
end Go.Proofs.YthfgbgmkiggjmabDoor
