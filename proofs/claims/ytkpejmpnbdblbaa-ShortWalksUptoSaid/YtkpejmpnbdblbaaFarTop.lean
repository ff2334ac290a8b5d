/- short.checkNodes, Far, All, Way: what they tell. -/
import Derived.Test.YtkpejmpnbdblbaaFarGo
import Derived.Test.YtkpejmpnbdblbaaNetV
namespace Go.Proofs.Ytkpejmpnbdblbaa
open Go.RowKit Go.Maps

open Classical in
/-- What is wrong with a net, or with nodes that are asked of. -/
noncomputable def askF (n : Int) (es : List A4) (xs : List Int) : Int := if netF n es = 0 then (if ∀ x ∈ xs, 0 ≤ x ∧ x < n then 0 else 2) else netF n es
section
variable {n : Int} {es : List A4} {xs : List Int}
theorem askF_bad (h : netF n es ≠ 0) : askF n es xs = netF n es := if_neg h
theorem askF_ok (h : netF n es = 0) (hx : ∀ x ∈ xs, 0 ≤ x ∧ x < n) : askF n es xs = 0 := by unfold askF; rw [if_pos h, if_pos hx]
theorem askF_arg (h : netF n es = 0) (hx : ¬ ∀ x ∈ xs, 0 ≤ x ∧ x < n) : askF n es xs = 2 := by unfold askF; rw [if_pos h, if_neg hx]
end
set_option maxRecDepth 100000 in
set_option maxHeartbeats 1000000 in
theorem checkNodes_any (n v : Int) (A : Option Addr) (len cap : Nat) (es : List A4) (A2 : Option Addr) (k c2 : Nat) (xs : List Int) (w : World) (hE : ArcsAt w w.heap.size A len es) (hI : IntsAt w w.heap.size A2 k xs) (hk : k ≤ 100) (hv : askF n es xs = v) :
    Calls Try.prog 23 #[.agg #[.int .i64 n, .slice A len cap], .slice A2 k c2] w fun e w' => e = .returned (.int .i64 v) ∧ Below w.heap.size w w' := by
  have HX := Lib.hid (BoxN.start (n := n) (cap := cap) hE)
  have HI := Lib.hid hI
  have HV := Lib.hid hv
  have HXL := Lib.hid hI.1
  obtain ⟨x, hx⟩ : ∃ x, netF n es = x := ⟨_, rfl⟩
  have HN := Lib.hid hx
  clear hE hI hv
  have k0 := HX.out.k0
  have k1 := HX.out.k1
  by_cases h0 : x = 0
  · subst h0
    clear hx
    go_enter Try.func23, Try.ntmps23
    go_wp2_with fail
    refine (flowCheck_v n 0 A len cap es _ (by exact HX.out.arcs) HN.out).mono ?_
    rintro e w1 ⟨rfl, hB⟩
    have HX1 := Lib.hid (HX.out.next hB)
    clear k0 k1 hB HX
    go_wp2_with fail
    go_loopw [15] (fun j wr => ∃ i : Nat, i ≤ k ∧ j = .int .i64 i ∧ wr = w1 ∧ Hid (∀ j x, j < i → xs[j]? = some x → 0 ≤ x ∧ x < n)) (fun j _ => k - (intOf j).toNat)
    case atStart => exact ⟨0, Nat.zero_le _, rfl, rfl, Lib.hid fun j x hj => by omega⟩
    case round =>
      obtain ⟨i, hi, rfl, rfl, HP⟩ := hrel
      by_cases hlt : i < k
      · have k0 := HX1.out.k0
        obtain ⟨bi, oi, z, rfl, hbi, hz, hcz⟩ := (HI.out.go_ HX1.out.below).at_ hlt
        have HZ := Lib.hid hz
        have ik0 : (0 : Int) ≤ (i : Int) := by omega
        have ik1 : (i : Int) < (k : Int) := by omega
        clear hz
        by_cases hin : 0 ≤ z ∧ z < n
        · have HH : Hid ((decide (0 ≤ z) && decide (z < n)) = true) := Lib.hid (by simp; omega)
          have HN2 : Hid (∀ j x, j < i + 1 → xs[j]? = some x → 0 ≤ x ∧ x < n) := Lib.hid fun j x hj hx => by
            by_cases e : j = i
            · subst e; rw [HZ.out] at hx; injection hx with hx; subst hx; exact hin
            · exact HP.out j x (by omega) hx
          clear hin HP
          go_wp2_with fail
          refine (isNode_any n z true _ HH.out).mono ?_
          rintro e w2 ⟨rfl, rfl⟩
          go_wp2_with fail
          go_roundw
          case rel => exact ⟨i + 1, by omega, by go_num, by first | rfl | trivial, HN2⟩
          case measure => simp [intOf]; omega
        · have HH : Hid ((decide (0 ≤ z) && decide (z < n)) = false) := Lib.hid (by simp; omega)
          have HE : Hid (v = 2) := Lib.hid (by rw [← HV.out]; exact askF_arg HN.out fun h => hin (h z (List.mem_of_getElem? HZ.out)))
          clear hin HP
          go_wp2_with fail
          refine (isNode_any n z false _ HH.out).mono ?_
          rintro e w2 ⟨rfl, rfl⟩
          go_wp2_with fail
          go_ret
          exact ⟨by rw [HE.out]; rfl, HX1.out.below⟩
      · obtain rfl : i = k := by omega
        have HE : Hid (v = 0) := Lib.hid (by
          rw [← HV.out]
          refine askF_ok HN.out fun x hx => ?_
          obtain ⟨j, hj⟩ := List.getElem?_of_mem hx
          exact HP.out j x (by have := (List.getElem?_eq_some_iff.1 hj).1; have := HXL.out; omega) hj)
        clear HP
        go_wp2_with fail
        go_ret
        exact ⟨by rw [HE.out]; rfl, HX1.out.below⟩
  · have HE : Hid (v = x) := Lib.hid (by rw [← HV.out, askF_bad (by rw [hx]; exact h0), hx])
    have hx0 : (x != 0) = true := by simpa using h0
    clear hx h0
    go_enter Try.func23, Try.ntmps23
    go_wp2_with fail
    refine (flowCheck_v n x A len cap es _ (by exact HX.out.arcs) HN.out).mono ?_
    rintro e w1 ⟨rfl, hB⟩
    have HX1 := Lib.hid (HX.out.next hB)
    clear k0 k1 hB HX
    go_wp2_with fail
    go_ret
    exact ⟨by rw [HE.out]; rfl, HX1.out.below⟩
theorem ints_one (w : World) (s : Int) (t : TypeId) : IntsAt (w.alloc (.cells #[.int .i64 s] t)) (w.alloc (.cells #[.int .i64 s] t)).heap.size (some ⟨w.heap.size, 0, none⟩) 1 [s] :=
  IntsAt.of_row (t := t) (xs := [s]) ((MapKept.heap_alloc w _).1) (by simp)
theorem ints_two (w : World) (s u : Int) (t : TypeId) : IntsAt (w.alloc (.cells #[.int .i64 s, .int .i64 u] t)) (w.alloc (.cells #[.int .i64 s, .int .i64 u] t)).heap.size (some ⟨w.heap.size, 0, none⟩) 2 [s, u] :=
  IntsAt.of_row (t := t) (xs := [s, u]) ((MapKept.heap_alloc w _).1) (by simp)
set_option maxRecDepth 100000 in
set_option maxHeartbeats 1000000 in
theorem far_bad (n x : Int) (A : Option Addr) (len cap : Nat) (es : List A4) (s : Int) (w : World) (hE : ArcsAt w w.heap.size A len es) (hx : askF n es [s] = x) (h0 : x ≠ 0) :
    Calls Try.prog 9 #[.agg #[.int .i64 n, .slice A len cap], .int .i64 s] w fun e w' => e = .returned (.tuple #[.slice none 0 0, .slice none 0 0, .int .i64 x]) ∧ Below w.heap.size w w' := by
  have HX := Lib.hid (BoxN.start (n := n) (cap := cap) hE)
  have HV := Lib.hid hx
  have hx0 : (x != 0) = true := by simpa using h0
  have k0 := HX.out.k0
  have k1 := HX.out.k1
  have HB1 : Hid (Below (bxN w n A len cap).heap.size (bxN w n A len cap) ((bxN w n A len cap).alloc (.cells #[.int .i64 s] 3))) := Lib.hid ((Below.refl _ _).alloc (Nat.le_refl _) _)
  have HX1 := Lib.hid (HX.out.next HB1.out)
  have hsz : (bxN w n A len cap).heap.size = w.heap.size + 1 := by simp [bxN]
  have HI1 := ints_one (bxN w n A len cap) s 3
  rw [hsz] at HI1
  have HI := Lib.hid HI1
  clear hE hx h0 hsz HI1
  go_enter Try.func9, Try.ntmps9
  go_wp2_with fail
  refine (checkNodes_any n x A len cap es _ 1 1 [s] _ (by exact HX1.out.arcs) (by exact HI.out) (by omega) HV.out).mono ?_
  rintro e w1 ⟨rfl, hB⟩
  have HX2 := Lib.hid (HX1.out.next hB)
  clear k0 k1 hB
  go_wp2_with fail
  go_ret3
  exact ⟨rfl, HX2.out.below⟩
/-- What Far tells of a net and a node of it. -/
def FarR (w : World) (m : Nat) (es : List A4) (s : Nat) (v : Bool) (e : Ending) (w' : World) : Prop :=
  (v = true → e = .returned (.tuple #[.slice none 0 0, .slice none 0 0, .int .i64 5])) ∧ (v = false → ∃ g1 g2, e = .returned (.tuple #[.slice (some ⟨g1, 0, none⟩) m m, .slice (some ⟨g2, 0, none⟩) m m, .int .i64 0]) ∧ RowOf w' g1 2 (farL (netA m es) (runD (netA m es) s m) m) ∧ RowOf w' g2 4 (isL (runD (netA m es) s m) m) ∧ w.heap.size ≤ g1 ∧ w.heap.size ≤ g2) ∧ Below w.heap.size w w'
set_option maxRecDepth 100000 in
set_option maxHeartbeats 1000000 in
theorem far_good (m : Nat) (A : Option Addr) (len cap : Nat) (es : List A4) (s : Nat) (v : Bool) (w : World) (hE : ArcsAt w w.heap.size A len es) (hx : netF (m : Int) es = 0) (hs : s < m) (hv : v = true ↔ SinksP (netA m es) s) :
    Calls Try.prog 9 #[.agg #[.int .i64 (m : Int), .slice A len cap], .int .i64 (s : Int)] w (FarR w m es s v) := by
  have HX := Lib.hid (BoxN.start (n := (m : Int)) (cap := cap) hE)
  have HV : Hid (askF (m : Int) es [(s : Int)] = 0) := Lib.hid (askF_ok hx fun x hx => by simp at hx; omega)
  have HG := Lib.hid (good_of_netF hx)
  have HF := Lib.hid (feeS_of_netF hx)
  have HVV : Hid (v = true ↔ ∃ x ∈ [s], SinksP (netA m es) x) := Lib.hid (by rw [hv]; simp)
  have k0 := HX.out.k0
  have k1 := HX.out.k1
  have HB1 : Hid (Below (bxN w (m : Int) A len cap).heap.size (bxN w (m : Int) A len cap) ((bxN w (m : Int) A len cap).alloc (.cells #[.int .i64 s] 3))) := Lib.hid ((Below.refl _ _).alloc (Nat.le_refl _) _)
  have HX1 := Lib.hid (HX.out.next HB1.out)
  have hsz : (bxN w (m : Int) A len cap).heap.size = w.heap.size + 1 := by simp [bxN]
  have HI1 := ints_one (bxN w (m : Int) A len cap) s 3
  rw [hsz] at HI1
  have HI := Lib.hid HI1
  clear hE hx hsz HI1 hv
  go_enter Try.func9, Try.ntmps9
  go_wp2_with fail
  refine (checkNodes_any (m : Int) 0 A len cap es _ 1 1 [(s : Int)] _ (by exact HX1.out.arcs) (by exact HI.out) (by omega) HV.out).mono ?_
  rintro e w1 ⟨rfl, hB⟩
  have HX2 := Lib.hid (HX1.out.next hB)
  clear k0 k1 hB
  have k0 := HX2.out.k0
  have k1 := HX2.out.k1
  have HI2 := Lib.hid (ints_one w1 s 3)
  have HX3 := Lib.hid (HX2.out.next ((Below.refl _ w1).alloc (Nat.le_refl _) (.cells #[.int .i64 s] 3)))
  go_wp2_with fail
  refine (far_any m A len cap es _ 1 1 [s] v _ (by exact HX3.out.arcs) HG.out HF.out (by exact HI2.out) (fun x hx => by simp at hx; omega) (by omega) HVV.out).mono ?_
  rintro e w4 ⟨hO, hB⟩
  have HX4 := Lib.hid (HX3.out.next hB)
  have HS : Hid (w.heap.size ≤ (w1.alloc (.cells #[.int .i64 s] 3)).heap.size) := Lib.hid (by have := HX2.out.lt; simp; omega)
  cases v with
  | true =>
    obtain rfl := hO.1 rfl
    clear hB hO k0 k1
    go_wp2_with fail
    go_ret3
    exact ⟨fun _ => rfl, (fun h => by cases h), HX4.out.below⟩
  | false =>
    obtain ⟨F, I, fb, ib, rfl, hS⟩ := hO.2 rfl
    have HFS := Lib.hid hS
    have cF : w4.cell? ⟨F, 0, none⟩ = some (.slice (some ⟨fb 0, 0, none⟩) m m) := hS.rowF.cell (by simp [rowsV])
    have cI : w4.cell? ⟨I, 0, none⟩ = some (.slice (some ⟨ib 0, 0, none⟩) m m) := hS.rowI.cell (by simp [rowsV])
    clear hB hO k0 k1 hS
    go_wp2_with fail
    go_quiet (fail)
    go_wp2
    go_ret3
    refine ⟨(fun h => by cases h), fun _ => ?_, below_drewN HX4.out.below _⟩
    obtain ⟨x, h1, _, h3, h4⟩ := HFS.out.rows 0 (by omega)
    have hf := HFS.out.fresh 0 (by omega)
    obtain rfl : s = x := by simpa using h1
    exact ⟨fb 0, ib 0, rfl, h3, h4, by have := HS.out; omega, by have := HS.out; omega⟩
set_option maxRecDepth 100000 in
set_option maxHeartbeats 1000000 in
theorem way_bad (n x : Int) (A : Option Addr) (len cap : Nat) (es : List A4) (s t : Int) (w : World) (hE : ArcsAt w w.heap.size A len es) (hx : askF n es [s, t] = x) (h0 : x ≠ 0) :
    Calls Try.prog 17 #[.agg #[.int .i64 n, .slice A len cap], .int .i64 s, .int .i64 t] w fun e w' => e = .returned (.tuple #[.slice none 0 0, .int .i64 x]) ∧ Below w.heap.size w w' := by
  have HX := Lib.hid (BoxN.start (n := n) (cap := cap) hE)
  have HV := Lib.hid hx
  have hx0 : (x != 0) = true := by simpa using h0
  have k0 := HX.out.k0
  have k1 := HX.out.k1
  have HB1 : Hid (Below (bxN w n A len cap).heap.size (bxN w n A len cap) ((bxN w n A len cap).alloc (.cells #[.int .i64 s, .int .i64 t] 3))) := Lib.hid ((Below.refl _ _).alloc (Nat.le_refl _) _)
  have HX1 := Lib.hid (HX.out.next HB1.out)
  have hsz : (bxN w n A len cap).heap.size = w.heap.size + 1 := by simp [bxN]
  have HI1 := ints_two (bxN w n A len cap) s t 3
  rw [hsz] at HI1
  have HI := Lib.hid HI1
  clear hE hx h0 hsz HI1
  go_enter Try.func17, Try.ntmps17
  go_wp2_with fail
  refine (checkNodes_any n x A len cap es _ 2 2 [s, t] _ (by exact HX1.out.arcs) (by exact HI.out) (by omega) HV.out).mono ?_
  rintro e w1 ⟨rfl, hB⟩
  have HX2 := Lib.hid (HX1.out.next hB)
  clear k0 k1 hB
  go_wp2_with fail
  go_ret2
  exact ⟨rfl, HX2.out.below⟩
/-- What Way tells of a net and two nodes of it. -/
def WayR (w : World) (m : Nat) (es : List A4) (s t : Nat) (v : Bool) (e : Ending) (w' : World) : Prop :=
  ((v = true ∨ runD (netA m es) s m t = none) → e = .returned (.tuple #[.slice none 0 0, .int .i64 5])) ∧ (v = false → ∀ l, runD (netA m es) s m t = some l → ∃ A n c, e = .returned (.tuple #[.slice A n c, .int .i64 0]) ∧ PlAt w' w'.heap.size A n c l) ∧ Below w.heap.size w w'
set_option maxRecDepth 100000 in
set_option maxHeartbeats 1000000 in
theorem way_good (m : Nat) (A : Option Addr) (len cap : Nat) (es : List A4) (s t : Nat) (v : Bool) (w : World) (hE : ArcsAt w w.heap.size A len es) (hx : netF (m : Int) es = 0) (hs : s < m) (ht : t < m) (hv : v = true ↔ SinksP (netA m es) s) :
    Calls Try.prog 17 #[.agg #[.int .i64 (m : Int), .slice A len cap], .int .i64 (s : Int), .int .i64 (t : Int)] w (WayR w m es s t v) := by
  have HX := Lib.hid (BoxN.start (n := (m : Int)) (cap := cap) hE)
  have HV : Hid (askF (m : Int) es [(s : Int), (t : Int)] = 0) := Lib.hid (askF_ok hx fun x hx => by simp at hx; omega)
  have hm10 : m ≤ 10 := by have := (good_of_netF hx).n1; omega
  have HW := Lib.hid (fun W hW => walks_any m s A len cap es v W hW (good_of_netF hx) (feeS_of_netF hx) hs hv)
  have wft : (Lit.int .i64 (t : Int)).wf = true := wf_nat (by omega)
  have k0 := HX.out.k0
  have k1 := HX.out.k1
  have HB1 : Hid (Below (bxN w (m : Int) A len cap).heap.size (bxN w (m : Int) A len cap) ((bxN w (m : Int) A len cap).alloc (.cells #[.int .i64 s, .int .i64 t] 3))) := Lib.hid ((Below.refl _ _).alloc (Nat.le_refl _) _)
  have HX1 := Lib.hid (HX.out.next HB1.out)
  have hsz : (bxN w (m : Int) A len cap).heap.size = w.heap.size + 1 := by simp [bxN]
  have HI1 := ints_two (bxN w (m : Int) A len cap) s t 3
  rw [hsz] at HI1
  have HI := Lib.hid HI1
  clear hE hx hsz HI1 hv
  go_enter Try.func17, Try.ntmps17
  go_wp2_with fail
  refine (checkNodes_any (m : Int) 0 A len cap es _ 2 2 [(s : Int), (t : Int)] _ (by exact HX1.out.arcs) (by exact HI.out) (by omega) HV.out).mono ?_
  rintro e w1 ⟨rfl, hB⟩
  have HX2 := Lib.hid (HX1.out.next hB)
  clear k0 k1 hB
  have k0 := HX2.out.k0
  have k1 := HX2.out.k1
  go_wp2_with fail
  refine (HW.out w1 HX2.out.arcs).mono ?_
  cases v with
  | true =>
    rintro e w4 ⟨rfl, hB, _⟩
    have HX4 := Lib.hid (HX2.out.next hB)
    clear hB k0 k1
    go_wp2_with fail
    go_ret2
    exact ⟨fun _ => rfl, (fun h => by cases h), HX4.out.below⟩
  | false =>
    rintro e w4 ⟨⟨rfl, hm⟩, hB, _⟩
    have HX4 := Lib.hid (HX2.out.next hB)
    have HM := Lib.hid hm
    generalize w1.heap.size + 1 = b at *
    clear hB k0 k1 hm
    cases hD : runD (netA m es) s m t with
    | none =>
      have HD := Lib.hid hD
      clear hD
      go_wp2_with (at_lookup; refine look_none rfl _ _ rfl rfl HM.out wft rfl HD.out ?_)
      go_ret2
      exact ⟨fun _ => rfl, (fun _ l hl => by rw [HD.out] at hl; cases hl), HX4.out.below.alloc (by have := HX4.out.lt; omega) _⟩
    | some l =>
      have HD := Lib.hid hD
      clear hD
      go_wp2_with (at_lookup; refine look_some rfl _ _ rfl rfl HM.out wft rfl HD.out ?_; intro A1 n1 c1 hp1; have HP1 := Lib.hid hp1; clear hp1)
      go_ret2
      exact ⟨(fun h => by rcases h with h | h; · cases h
                          · rw [HD.out] at h; cases h), (fun _ l' hl => by
        rw [HD.out] at hl
        injection hl with hl
        subst hl
        exact ⟨A1, n1, c1, rfl, HP1.out.go_ ((Below.refl _ _).alloc (Nat.le_refl _) _)⟩), HX4.out.below.alloc (by have := HX4.out.lt; omega) _⟩
end Go.Proofs.Ytkpejmpnbdblbaa
