/- short.All: what it tells. -/
import Derived.Test.YtkpejmpnbdblbaaFarTop
namespace Go.Proofs.Ytkpejmpnbdblbaa
open Go.RowKit Go.Maps

set_option maxRecDepth 100000 in
set_option maxHeartbeats 1000000 in
theorem all_bad (n x : Int) (A : Option Addr) (len cap : Nat) (es : List A4) (w : World) (hE : ArcsAt w w.heap.size A len es) (hx : netF n es = x) (h0 : x ≠ 0) :
    Calls Try.prog 15 #[.agg #[.int .i64 n, .slice A len cap]] w fun e w' => e = .returned (.tuple #[.slice none 0 0, .slice none 0 0, .int .i64 x]) ∧ Below w.heap.size w w' := by
  have HX := Lib.hid (BoxN.start (n := n) (cap := cap) hE)
  have HV : Hid (askF n es [] = x) := Lib.hid (by rw [askF_bad (by rw [hx]; exact h0), hx])
  have hx0 : (x != 0) = true := by simpa using h0
  have k0 := HX.out.k0
  have k1 := HX.out.k1
  clear hE hx h0
  go_enter Try.func15, Try.ntmps15
  go_wp2_with fail
  refine (checkNodes_any n x A len cap es none 0 0 [] _ (by exact HX.out.arcs) (IntsAt.nil_ _ _ _) (by omega) HV.out).mono ?_
  rintro e w1 ⟨rfl, hB⟩
  have HX2 := Lib.hid (HX.out.next hB)
  clear k0 k1 hB
  go_wp2_with fail
  go_ret3
  exact ⟨rfl, HX2.out.below⟩
/-- What All tells of a net. -/
def AllR (w : World) (m : Nat) (es : List A4) (v : Bool) (e : Ending) (w' : World) : Prop :=
  (v = true → e = .returned (.tuple #[.slice none 0 0, .slice none 0 0, .int .i64 5])) ∧ (v = false → ∃ F I fb ib, e = .returned (.tuple #[.slice (some ⟨F, 0, none⟩) m m, .slice (some ⟨I, 0, none⟩) m m, .int .i64 0]) ∧ RowOf w' F 25 (rowsV fb m m m) ∧ RowOf w' I 26 (rowsV ib m m m) ∧
    ∀ j, j < m → RowOf w' (fb j) 2 (farL (netA m es) (runD (netA m es) j m) m) ∧ RowOf w' (ib j) 4 (isL (runD (netA m es) j m) m)) ∧ Below w.heap.size w w'
def upV (m i : Nat) : List Value := (List.range m).map fun j : Nat => .int .i64 (if j < i then (j : Int) else 0)
theorem upV_zero (m : Nat) : upV m 0 = List.replicate m (.int .i64 0) := by
  apply List.ext_getElem?
  intro j
  simp [upV, List.getElem?_replicate]
  by_cases h : j < m <;> simp [h]
theorem upV_set {m i : Nat} (hi : i < m) : (upV m i).set i (.int .i64 (i : Int)) = upV m (i + 1) := by
  apply List.ext_getElem?
  intro j
  simp only [upV, List.getElem?_set, List.getElem?_map, List.length_map, List.length_range]
  by_cases h : i = j
  · subst h
    rw [if_pos rfl, if_pos hi, List.getElem?_range hi]
    simp
  · rw [if_neg h]
    rcases Nat.lt_or_ge j m with hj | hj
    · rw [List.getElem?_range hj]
      simp only [Option.map_some, Option.some.injEq]
      by_cases hji : j < i
      · rw [if_pos hji, if_pos (by omega)]
      · rw [if_neg hji, if_neg (by omega)]
    · rw [List.getElem?_eq_none (by simpa using hj)]
      simp
theorem upV_end (m : Nat) : upV m m = (lI (List.range m)).map (Value.int .i64) := by
  unfold upV lI
  rw [List.map_map]
  apply List.map_congr_left
  intro j hj
  rw [if_pos (List.mem_range.1 hj)]
  rfl
set_option maxRecDepth 100000 in
set_option maxHeartbeats 1000000 in
theorem all_good (m : Nat) (A : Option Addr) (len cap : Nat) (es : List A4) (v : Bool) (w : World) (hE : ArcsAt w w.heap.size A len es) (hx : netF (m : Int) es = 0) (hv : v = true ↔ ∃ s, s < m ∧ SinksP (netA m es) s) :
    Calls Try.prog 15 #[.agg #[.int .i64 (m : Int), .slice A len cap]] w (AllR w m es v) := by
  have HX := Lib.hid (BoxN.start (n := (m : Int)) (cap := cap) hE)
  have HE := Lib.hid hE
  have HV : Hid (askF (m : Int) es [] = 0) := Lib.hid (askF_ok hx fun x hx => by cases hx)
  have HG := Lib.hid (good_of_netF hx)
  have hm10 : m ≤ 10 := by have := HG.out.n1; omega
  have HF := Lib.hid (feeS_of_netF hx)
  have HVV : Hid (v = true ↔ ∃ x ∈ List.range m, SinksP (netA m es) x) := Lib.hid (by rw [hv]; simp)
  have hmk := fun W => run_make_row' (P := Try.prog) 42 3 (.int .i64 0) 8 Try.underlying42 (by kernel_rfl) rfl .i64 .i64 m (by omega) (by omega) W
  have k0 := HX.out.k0
  have k1 := HX.out.k1
  clear hE hx hv
  go_enter Try.func15, Try.ntmps15
  go_wp2_with fail
  refine (checkNodes_any (m : Int) 0 A len cap es none 0 0 [] _ (by exact HX.out.arcs) (IntsAt.nil_ _ _ _) (by omega) HV.out).mono ?_
  rintro e w1 ⟨rfl, hB⟩
  have HX2 := Lib.hid (HX.out.next hB)
  clear k0 k1 hB
  have k0 := HX2.out.k0
  go_wp2_with fail
  clear hmk k0
  have HS0 : Hid ((Below w.heap.size w (w1.alloc (.cells (madeCells #[.int .i64 0] m) 3)) ∧ (w1.alloc (.cells (madeCells #[.int .i64 0] m) 3)).heap[w.heap.size]? = some (.cells #[.int .i64 (m : Int), .slice A len cap] 24 (0, 0))) ∧ RowOf (w1.alloc (.cells (madeCells #[.int .i64 0] m) 3)) w1.heap.size 3 (upV m 0)) := Lib.hid ⟨(by have h := HX2.out.next ((Below.refl _ w1).alloc (Nat.le_refl _) (.cells (madeCells #[.int .i64 0] m) 3)); exact ⟨h.below, h.heap⟩), by rw [upV_zero]; exact RowOf.made w1 _ m _⟩
  have hgt : w.heap.size < w1.heap.size := HX2.out.lt
  generalize w1.heap.size = g at *
  go_loopw [7, 18] (fun _ j wr => ∃ i : Nat, i ≤ m ∧ j = .int .i64 i ∧ Hid ((Below w.heap.size w wr ∧ wr.heap[w.heap.size]? = some (.cells #[.int .i64 (m : Int), .slice A len cap] 24 (0, 0))) ∧ RowOf wr g 3 (upV m i))) (fun _ j _ => m - (intOf j).toNat)
  case atStart => exact ⟨0, Nat.zero_le _, rfl, HS0⟩
  case round =>
    clear HS0
    obtain ⟨i, hi, rfl, HR⟩ := hrel
    by_cases hlt : i < m
    · have cg : wr.cell? ⟨g, i, none⟩ = some (.int .i64 0) := HR.out.2.cell (by simp [upV, hlt])
      have fg := HR.out.2.frozen i
      have ik0 : (0 : Int) ≤ (i : Int) := by omega
      have ik1 : (i : Int) < (m : Int) := by omega
      have HN : Hid ((Below w.heap.size w (wr.setCell ⟨g, i, none⟩ (.int .i64 (i : Int))) ∧ (wr.setCell ⟨g, i, none⟩ (.int .i64 (i : Int))).heap[w.heap.size]? = some (.cells #[.int .i64 (m : Int), .slice A len cap] 24 (0, 0))) ∧ RowOf (wr.setCell ⟨g, i, none⟩ (.int .i64 (i : Int))) g 3 (upV m (i + 1))) := Lib.hid ⟨⟨HR.out.1.1.setCell (p := ⟨g, i, none⟩) (Nat.le_of_lt hgt) _, (Below.heap_setCell _ _ _ _ (by show w.heap.size ≠ g; omega)).trans HR.out.1.2⟩, by rw [← upV_set hlt]; exact HR.out.2.set_ i _⟩
      go_wp2_with fail
      go_roundw
      case rel => exact ⟨i + 1, by omega, by go_num, HN⟩
      case measure => simp [intOf]; omega
    · obtain rfl : i = m := by omega
      have k0 : wr.cell? ⟨w.heap.size, 0, none⟩ = some (.int .i64 (i : Int)) := by simp [World.cell?, HR.out.1.2]
      have k1 : wr.cell? ⟨w.heap.size, 1, none⟩ = some (.slice A len cap) := by simp [World.cell?, HR.out.1.2]
      have HI : Hid (IntsAt wr wr.heap.size (some ⟨g, 0, none⟩) i (lI (List.range i))) := Lib.hid (by
        have h := HR.out.2
        rw [upV_end] at h
        have h2 := IntsAt.of_row h h.lt
        rwa [lI_len, List.length_range] at h2)
      go_wp2_with fail
      refine (far_any i A len cap es _ i i (List.range i) v wr (by exact HE.out.go_ HR.out.1.1) HG.out HF.out HI.out (fun x hx => List.mem_range.1 hx) hm10 HVV.out).mono ?_
      rintro e w4 ⟨hO, hB⟩
      have HB4 := Lib.hid (HR.out.1.1.trans (hB.mono HR.out.1.1.size))
      cases v with
      | true =>
        obtain rfl := hO.1 rfl
        clear hB hO k0 k1
        go_wp2_with fail
        go_ret3
        exact ⟨fun _ => rfl, (fun h => by cases h), HB4.out⟩
      | false =>
        obtain ⟨F, I, fb, ib, rfl, hS⟩ := hO.2 rfl
        have HFS := Lib.hid hS
        clear hB hO k0 k1 hS
        go_wp2_with fail
        go_ret3
        refine ⟨(fun h => by cases h), fun _ => ⟨F, I, fb, ib, rfl, HFS.out.rowF, HFS.out.rowI, fun j hj => ?_⟩, HB4.out⟩
        obtain ⟨x, h1, _, h3, h4⟩ := HFS.out.rows j hj
        rw [List.getElem?_range hj] at h1
        injection h1 with h1
        subst h1
        exact ⟨h3, h4⟩
end Go.Proofs.Ytkpejmpnbdblbaa
