/- For every graph: all degrees together are twice as many as edges, so an even number of them is odd. No conditions. -/
import Derived.Test.YthfgbgmkiggjmaaDegrees
import Derived.Test.YthfgbgmkiggjmaaKeepGood
import Derived.Test.YthfgbgmkiggjmaaOpen
namespace Go.Proofs.Ythfgbgmkiggjmaa
open Go.ChangeShapes Go.WideShapes Go.ChangeAt Go.RowKit

theorem sum_set : ∀ (xs : List Int) (i : Nat) (v x : Int), xs[i]? = some x → (xs.set i v).sum = xs.sum - x + v
  | [], _, _, _, h => by simp at h
  | a :: r, 0, v, x, h => by simp at h; subst h; simp; omega
  | a :: r, i + 1, v, x, h => by
    simp only [List.getElem?_cons_succ] at h
    have := sum_set r i v x h
    simp only [List.set_cons_succ, List.sum_cons, this]
    omega
theorem sum_replicate0 : ∀ m : Nat, (List.replicate m (0 : Int)).sum = 0
  | 0 => rfl
  | m + 1 => by simp [List.replicate_succ, sum_replicate0 m]
theorem sum_deg {m : Nat} {es : List E3} (hg : goodE m es) : ∀ k, k ≤ es.length → (degL m (es.take k)).sum = 2 * k
  | 0, _ => by rw [List.take_zero, degL_nil, sum_replicate0]; rfl
  | k + 1, hk => by
    have ih := sum_deg hg k (by omega)
    have hx : es[k]? = some es[k] := List.getElem?_eq_getElem (by omega)
    obtain ⟨p0, p1, p2, p3, p4, _⟩ := edge_ok (hg k _ hx)
    generalize es[k] = e at hx p0 p1 p2 p3 p4
    obtain ⟨a, b, c⟩ := e
    simp only at p0 p1 p2 p3 p4
    obtain ⟨i, rfl⟩ := Int.eq_ofNat_of_zero_le p0
    obtain ⟨j, rfl⟩ := Int.eq_ofNat_of_zero_le p2
    rw [← degL_next m es k i j c hx, sum_set _ j _ (degN (es.take k) (j : Int)), sum_set _ i _ (degN (es.take k) (i : Int)), ih]
    · omega
    · exact degL_get _ (by omega)
    · rw [List.getElem?_set, if_neg (by omega)]
      exact degL_get _ (by omega)
def oddL (xs : List Int) : Int := (xs.map (· % 2)).sum
theorem odd_mod : ∀ xs : List Int, oddL xs % 2 = xs.sum % 2
  | [] => rfl
  | a :: r => by
    have := odd_mod r
    simp only [oddL, List.map_cons, List.sum_cons] at this ⊢
    omega
theorem take_next (xs : List Int) (k : Nat) (x : Int) (h : xs[k]? = some x) : (xs.take (k + 1)).sum = (xs.take k).sum + x ∧ oddL (xs.take (k + 1)) = oddL (xs.take k) + x % 2 := by
  obtain ⟨hk, rfl⟩ := List.getElem?_eq_some_iff.1 h
  rw [List.take_succ_eq_append_getElem hk]
  simp only [oddL, List.sum_append, List.map_append, List.sum_cons, List.sum_nil, List.map_cons, List.map_nil]
  omega
theorem deg_bounds (m : Nat) (es : List E3) (hl : es.length ≤ 45) : ∀ k, k ≤ m → 0 ≤ ((degL m es).take k).sum ∧ ((degL m es).take k).sum ≤ 45 * k ∧ 0 ≤ oddL ((degL m es).take k) ∧ oddL ((degL m es).take k) ≤ k
  | 0, _ => by simp [oddL]
  | k + 1, hk => by
    obtain ⟨h0, h1, h2, h3⟩ := deg_bounds m es hl k (by omega)
    obtain ⟨e1, e2⟩ := take_next (degL m es) k _ (degL_get es (show k < m by omega))
    have := degN_le es (k : Int)
    rw [e1, e2]
    omega

set_option maxRecDepth 100000 in
set_option maxHeartbeats 400000 in
theorem graphHands_bad (n : Int) (A : Option Addr) (len cap : Nat) (es : List E3) (v : Int) (w : World) (hE : EdgesAt w w.heap.size A len es) (hcap : len ≤ cap) (hv : gcheck n es = v) (hv0 : v ≠ 0) :
    Calls Try.prog 5 #[.agg #[.int .i64 n, .slice A len cap]] w fun e w' => e = .returned (.bool true) ∧ Below w.heap.size w w' := by
  have HE := Lib.hid (show EdgesAt (bx w n A len cap) (bx w n A len cap).heap.size A len es from (hE.alloc (Nat.le_refl _) _).more (by simp [bx]))
  have HV := Lib.hid hv
  have HV0 := Lib.hid hv0
  have HG : Hid ((gcheck n es == 0) = false) := Lib.hid (by rw [hv]; simpa using hv0)
  have hb0 : (v != 0) = true := by simpa using hv0
  clear hE hv hv0
  go_enter Try.func5, Try.ntmps5
  go_wp2_with (first
    | (go_at_call 17; refine (degrees_bad n A len cap es v _ (by exact HE.out) HV.out HV0.out).mono ?_; rintro e w1 ⟨rfl, hb1⟩; obtain ⟨hcc, hff⟩ := bcell hb1; have HE1 := Lib.hid (EdgesAt.go_ HE.out hb1))
    | (go_at_call 20; refine (good_v n A len cap es false _ (by exact HE1.out) hcap HG.out).mono ?_; rintro e w2 ⟨rfl, hb2⟩))
  go_ret
  exact ⟨rfl, (((Below.refl _ _).alloc (Nat.le_refl _) _).trans (hb1.mono (by simp))).trans (hb2.mono (by have := hb1.size; simp at this; omega))⟩

set_option maxRecDepth 100000 in
set_option maxHeartbeats 1000000 in
theorem graphHands_good (m : Nat) (A : Option Addr) (len cap : Nat) (es : List E3) (w : World) (hE : EdgesAt w w.heap.size A len es) (hcap : len ≤ cap) (hv : gcheck m es = 0) :
    Calls Try.prog 5 #[.agg #[.int .i64 m, .slice A len cap]] w fun e w' => e = .returned (.bool true) ∧ Below w.heap.size w w' := by
  obtain ⟨_, hm10, hl45, hgood⟩ := good_of_gcheck hv
  have hlen : len ≤ 45 := by have := hE.1; omega
  have HL := Lib.hid hE.1
  have HE := Lib.hid (show EdgesAt (bx w m A len cap) (bx w m A len cap).heap.size A len es from (hE.alloc (Nat.le_refl _) _).more (by simp [bx]))
  have HV := Lib.hid hv
  have HG : Hid ((gcheck m es == 0) = true) := Lib.hid (by rw [hv]; rfl)
  have HD := Lib.hid hgood
  have HB := Lib.hid (deg_bounds m es hl45)
  clear hE hv hgood
  go_enter Try.func5, Try.ntmps5
  go_wp2_with (first
    | (go_at_call 17; refine (degrees_good m A len cap es _ (by exact HE.out) HV.out).mono ?_; rintro e w1 ⟨g, rfl, hrow, hgle, hb1⟩; have HB1 := Lib.hid hb1; have HR1 := Lib.hid hrow; clear hrow; obtain ⟨hcc, hff⟩ := bcell hb1; have HE1 := Lib.hid (EdgesAt.go_ HE.out hb1); clear hb1)
    | (go_at_call 20; refine (good_v m A len cap es true _ (by exact HE1.out) hcap HG.out).mono ?_; rintro e w2 ⟨rfl, hb2⟩))
  clear hcc hff
  have hB2 : Below (w.heap.size + 1) (bx w m A len cap) w2 := (HB1.out.mono (by simp)).trans (hb2.mono (by have := HB1.out.size; simp at this; omega))
  have HR2 := Lib.hid (HR1.out.keep hb2)
  have hbx0 : w2.cell? ⟨w.heap.size, 0, none⟩ = some (.int .i64 m) := by
    rw [hB2.cell (p := ⟨w.heap.size, 0, none⟩) (Nat.lt_succ_self _)]; simp [bx, go_sem]
  have hbx1 : w2.cell? ⟨w.heap.size, 1, none⟩ = some (.slice A len cap) := by
    rw [hB2.cell (p := ⟨w.heap.size, 1, none⟩) (Nat.lt_succ_self _)]; simp [bx, go_sem]
  have HB2 := Lib.hid hB2
  clear hb2 hB2 HE HE1 HR1 HB1
  go_loop [5, 6, 21] (fun s o j => ∃ k : Nat, k ≤ m ∧ j = .int .i64 k ∧ s = .int .i64 ((degL m es).take k).sum ∧ o = .int .i64 (oddL ((degL m es).take k))) (fun _ _ j => m - (intOf j).toNat)
  case atStart => exact ⟨0, Nat.zero_le _, rfl, rfl, rfl⟩
  case round =>
    obtain ⟨k, hk, rfl, rfl, rfl⟩ := hrel
    obtain ⟨b0, b1, b2, b3⟩ := HB.out k hk
    by_cases hlt : k < m
    · have hx := degL_get es hlt
      obtain ⟨e1, e2⟩ := take_next (degL m es) k _ hx
      have E1 := Lib.hid e1
      have E2 := Lib.hid e2
      have hc := HR2.out.cell (i := k) (v := .int .i64 (degN es (k : Int))) (by simp [hx])
      have hd := degN_le es (k : Int)
      clear e1 e2 hx
      generalize ((degL m es).take k).sum = S at b0 b1 E1 ⊢
      generalize oddL ((degL m es).take k) = O at b2 b3 E2 ⊢
      generalize degN es (k : Int) = D at hc hd E1 E2
      go_wp2
      go_round
      case rel => exact ⟨k + 1, by omega, by go_num, by rw [E1.out], by rw [E2.out]⟩
      case measure => simp [intOf]; omega
    · obtain rfl : k = m := by omega
      have hall : (degL k es).take k = degL k es := List.take_of_length_le (by rw [degL_length]; omega)
      have hsum := sum_deg HD.out es.length (Nat.le_refl _)
      rw [List.take_length, HL.out] at hsum
      have hodd := odd_mod (degL k es)
      rw [hall] at b0 b1 b2 b3 ⊢
      rw [hsum] at hodd b0 b1 ⊢
      generalize oddL (degL k es) = O at b2 b3 hodd ⊢
      have hO : (O % 2 == 0) = true := by simp; omega
      clear hall hsum hodd
      go_wp2
      go_ret
      exact ⟨rfl, ((Below.refl _ _).alloc (Nat.le_refl _) _).trans (HB2.out.mono (Nat.le_succ _))⟩

set_option maxRecDepth 100000 in
theorem graphHands_any (n : Int) (A : Option Addr) (len cap : Nat) (es : List E3) (w : World) (hE : EdgesAt w w.heap.size A len es) (hcap : len ≤ cap) (_ : ∀ e ∈ es, WfE e) (_ : (Lit.int .i64 n).wf = true) :
    Calls Try.prog 5 #[.agg #[.int .i64 n, .slice A len cap]] w fun e w' => e = .returned (.bool true) ∧ Below w.heap.size w w' := by
  by_cases h : gcheck n es = 0
  · obtain ⟨m, rfl⟩ := Int.eq_ofNat_of_zero_le (good_of_gcheck h).1
    exact graphHands_good m A len cap es w hE hcap h
  · exact graphHands_bad n A len cap es _ w hE hcap rfl h
end Go.Proofs.Ythfgbgmkiggjmaa
