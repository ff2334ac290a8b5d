/- For every graph, graph.Degrees tells of each node how many edges it has; of a wrong graph, what is wrong. No conditions. -/
import Derived.Test.YthfgbgmkiggjmaaDegrees
import Derived.Test.YthfgbgmkiggjmaaInts
import Derived.Test.YthfgbgmkiggjmaaOpen
import Derived.Test.YthfgbgmkiggjmaaOwn
namespace Go.Proofs.Ythfgbgmkiggjmaa
open Go.ChangeShapes Go.WideShapes Go.ChangeAt Go.RowKit

theorem degL_take_succ (m k : Nat) (es : List E3) (h : k < m) : (degL m es).take (k + 1) = (degL m es).take k ++ [(degN es (k : Int) : Int)] := by
  rw [List.take_succ_eq_append_getElem (by simpa [degL_length] using h)]
  simp [degL]

set_option maxRecDepth 100000 in
set_option maxHeartbeats 400000 in
theorem graphDegrees_bad (n : Int) (A : Option Addr) (len cap : Nat) (es : List E3) (v : Int) (w : World) (hE : EdgesAt w w.heap.size A len es) (hcap : len ≤ cap) (hv : gcheck n es = v) (hv0 : v ≠ 0) :
    Calls Try.prog 4 #[.agg #[.int .i64 n, .slice A len cap]] w fun e w' => e = .returned (.bool true) ∧ Below w.heap.size w w' := by
  have HE := Lib.hid (show EdgesAt (bx w n A len cap) (bx w n A len cap).heap.size A len es from (hE.alloc (Nat.le_refl _) _).more (by simp [bx]))
  have HV := Lib.hid hv
  have HV0 := Lib.hid hv0
  have hb0 : (v != 0) = true := by simpa using hv0
  clear hE hv hv0
  go_enter Try.func4, Try.ntmps4
  go_wp2_with (first
    | (go_at_call 17; refine (degrees_bad n A len cap es v _ (by exact HE.out) HV.out HV0.out).mono ?_; rintro e w1 ⟨rfl, hb1⟩; obtain ⟨hcc, hff⟩ := bcell hb1; have HE1 := Lib.hid (EdgesAt.go_ HE.out hb1))
    | (go_at_call 16; refine ((graphCheck_any n A len cap es _ (by exact HE1.out) hcap).mono (R' := fun e w' => e = .returned (.int .i64 v) ∧ Below _ _ w') (fun e w' h => ⟨by rw [h.1, HV.out], h.2⟩)).mono ?_; rintro e w2 ⟨rfl, hb2⟩))
  go_ret
  exact ⟨rfl, (((Below.refl _ _).alloc (Nat.le_refl _) _).trans (hb1.mono (by simp))).trans (hb2.mono (by have := hb1.size; simp at this; omega))⟩

set_option maxRecDepth 100000 in
set_option maxHeartbeats 1000000 in
theorem graphDegrees_good (m : Nat) (A : Option Addr) (len cap : Nat) (es : List E3) (w : World) (hE : EdgesAt w w.heap.size A len es) (hcap : len ≤ cap) (hv : gcheck m es = 0) :
    Calls Try.prog 4 #[.agg #[.int .i64 m, .slice A len cap]] w fun e w' => e = .returned (.bool true) ∧ Below w.heap.size w w' := by
  obtain ⟨_, hm10, hl45, _⟩ := good_of_gcheck hv
  have hlen : len ≤ 45 := by have := hE.1; omega
  have HE := Lib.hid (show EdgesAt (bx w m A len cap) (bx w m A len cap).heap.size A len es from (hE.alloc (Nat.le_refl _) _).more (by simp [bx]))
  have HV := Lib.hid hv
  clear hE hv hl45
  obtain ⟨i0, hi, hz0, hz1, hz2⟩ := info_parts infoInt
  have HI := Lib.hid hi
  have HI0 := Lib.hid hz0
  have HI1 := Lib.hid hz1
  have HI2 := Lib.hid hz2
  clear hi hz0 hz1 hz2
  go_enter Try.func4, Try.ntmps4
  go_wp2_with (first
    | (go_at_call 17; refine (degrees_good m A len cap es _ (by exact HE.out) HV.out).mono ?_; rintro e w1 ⟨g, rfl, hrow, hgle, hb1⟩; have HB1 := Lib.hid hb1; have HR1 := Lib.hid hrow; clear hrow; obtain ⟨hcc, hff⟩ := bcell hb1; have HE1 := Lib.hid (EdgesAt.go_ HE.out hb1); clear hb1)
    | (go_at_call 16; refine ((graphCheck_any m A len cap es _ (by exact HE1.out) hcap).mono (R' := fun e w' => e = .returned (.int .i64 0) ∧ Below _ _ w') (fun e w' h => ⟨by rw [h.1, HV.out], h.2⟩)).mono ?_; rintro e w2 ⟨rfl, hb2⟩))
  clear hcc hff
  have hB2 : Below (w.heap.size + 1) (bx w m A len cap) w2 := (HB1.out.mono (by simp)).trans (hb2.mono (by have := HB1.out.size; simp at this; omega))
  have HE2 := Lib.hid (HE1.out.go_ hb2)
  have HR2 := Lib.hid (HR1.out.keep hb2)
  have HB2 := Lib.hid hB2
  have hw2 : w.heap.size < w2.heap.size := by have := hB2.size; simp [bx] at this; omega
  clear hb2 hB2 HE HE1 HR1 HB1
  go_loopw [6, 7] (fun v j wr => ∃ k : Nat, k ≤ m ∧ j = .int .i64 k ∧ Hid (wr.ownsRow w2.heap.size 3 1 v k (((degL m es).take k).map (Value.int .i64))) ∧ Below w2.heap.size w2 wr) (fun _ j _ => m - (intOf j).toNat)
  case atStart => exact ⟨0, Nat.zero_le _, rfl, Lib.hid (World.ownsRow_nil ..), Below.refl _ _⟩
  case round =>
    obtain ⟨k, hk, rfl, HO, hB⟩ := hrel
    have hbx0 : wr.cell? ⟨w.heap.size, 0, none⟩ = some (.int .i64 m) := by
      rw [hB.cell (p := ⟨w.heap.size, 0, none⟩) hw2, HB2.out.cell (p := ⟨w.heap.size, 0, none⟩) (Nat.lt_succ_self _)]; simp [bx, go_sem]
    have hbx1 : wr.cell? ⟨w.heap.size, 1, none⟩ = some (.slice A len cap) := by
      rw [hB.cell (p := ⟨w.heap.size, 1, none⟩) hw2, HB2.out.cell (p := ⟨w.heap.size, 1, none⟩) (Nat.lt_succ_self _)]; simp [bx, go_sem]
    by_cases hlt : k < m
    · have HE3 := Lib.hid (HE2.out.go_ hB)
      go_wp2_with (first
        | (go_at_call 18; refine (degree_any m k A len cap es _ (by exact HE3.out) hlen).mono ?_; rintro e wd ⟨rfl, hbd⟩; have HOd := Lib.hid (HO.out.kept (grown_of_below hbd none) (Classical.em _)); have hszd := hbd.size)
        | (at_builtin; refine wpList_append_own _ rfl _ _ 28 rfl w2.heap.size 3 i0 (.int .i64 0) 1 8 Try.underlying28 HI.out HI0.out HI1.out HI2.out rfl (by decide) _ _ _ rfl (HOd.out.alloc _) ⟨wd.heap.size, 0, none⟩ 1 1 [.int .i64 (degN es (k : Int))] rfl rfl ?c1 ?c2 ?c3 ?c4 ?c5 ?_))
      case c1 => exact cell_one_new _ _ _
      case c2 => simp [Value.oneCell']
      case c3 => unfold maxLen; omega
      case c4 => omega
      case c5 => have := hB.size; simp; omega
      intro v' w3 hown' hgrow _
      have HO' : Hid (w3.ownsRow w2.heap.size 3 1 v' (k + 1) (((degL m es).take (k + 1)).map (Value.int .i64))) := Lib.hid (by
        rw [degL_take_succ m k es hlt, List.map_append, List.map_take]
        exact hown')
      have HB3 : Hid (Below w2.heap.size w2 w3) := Lib.hid (((hB.trans (hbd.mono hB.size)).alloc (by have := hB.size; omega) _).grown hgrow (by have := hB.size; simp; omega) (own_base HO.out))
      clear hown' hgrow hbd
      go_wp2
      go_roundw
      case rel => exact ⟨k + 1, by omega, by go_num, HO', HB3.out⟩
      case measure => simp [intOf]; omega
    · obtain rfl : k = m := by omega
      obtain ⟨A2, cap2, rfl⟩ := own_form HO.out
      have hall : (degL k es).take k = degL k es := List.take_of_length_le (by rw [degL_length]; omega)
      have HO2 := Lib.hid (show wr.ownsRow w2.heap.size 3 1 (.slice A2 k cap2) k ((degL k es).map (Value.int .i64)) by have := HO.out; rw [hall] at this; exact this)
      have HL1 : Hid (IntsAt wr wr.heap.size (some ⟨g, 0, none⟩) k (degL k es)) := Lib.hid (by
        have h := IntsAt.of_row (B := wr.heap.size) (HR2.out.keep hB) ((HR2.out.keep hB).lt)
        rw [degL_length] at h
        exact h)
      have HL2 : Hid (IntsAt wr wr.heap.size A2 k (degL k es)) := Lib.hid (IntsAt.of_own HO2.out (Nat.le_refl _))
      clear hall HO
      go_wp2_with (go_at_call 19; refine (ints_same _ A2 k k cap2 (degL k es) _ (by exact HL1.out) (by exact HL2.out) (by omega)).mono ?_; rintro e w4 ⟨rfl, q, rfl⟩)
      go_ret
      exact ⟨rfl, below_drewN (((Below.refl _ _).alloc (Nat.le_refl _) _).trans ((HB2.out.mono (Nat.le_succ _)).trans (hB.mono (by omega)))) q⟩

set_option maxRecDepth 100000 in
theorem graphDegrees_any (n : Int) (A : Option Addr) (len cap : Nat) (es : List E3) (w : World) (hE : EdgesAt w w.heap.size A len es) (hcap : len ≤ cap) (_ : ∀ e ∈ es, WfE e) (_ : (Lit.int .i64 n).wf = true) :
    Calls Try.prog 4 #[.agg #[.int .i64 n, .slice A len cap]] w fun e w' => e = .returned (.bool true) ∧ Below w.heap.size w w' := by
  by_cases h : gcheck n es = 0
  · obtain ⟨m, rfl⟩ := Int.eq_ofNat_of_zero_le (good_of_gcheck h).1
    exact graphDegrees_good m A len cap es w hE hcap h
  · exact graphDegrees_bad n A len cap es _ w hE hcap rfl h
end Go.Proofs.Ythfgbgmkiggjmaa
