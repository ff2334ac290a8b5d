/- JARNIK, PRIM: of the edges that lead out of a set one of the lightest is kept. -/
import Derived.Test.YthfgbgmkiggjmaaLeast
import Derived.Test.YthfgbgmkiggjmaaInside
import Derived.Test.YthfgbgmkiggjmaaKeepGood
namespace Go.Proofs.Ythfgbgmkiggjmaa
open Go.RowKit

/-- Is a node in a set? -/
def cutC (u z : Int) : Bool := bits BinOp.and IntKind.u32 u ((2 ^ z.toNat : Nat) : Int) != 0
set_option maxRecDepth 100000 in
set_option maxHeartbeats 1000000 in
theorem bit_any (u z : Int) (h0 : 0 ≤ z) (h1 : z < 10) (W : World) : Calls Try.prog 28 #[.int .u32 u, .int .i64 z] W fun e w' => e = .returned (.bool (cutC u z)) ∧ w' = W := by
  rcases (show z = 0 ∨ z = 1 ∨ z = 2 ∨ z = 3 ∨ z = 4 ∨ z = 5 ∨ z = 6 ∨ z = 7 ∨ z = 8 ∨ z = 9 by omega) with rfl | rfl | rfl | rfl | rfl | rfl | rfl | rfl | rfl | rfl
  all_goals
    clear h0 h1
    go_enter Try.func28, Try.ntmps28
    go_wp2
    go_ret
    exact ⟨rfl, rfl⟩
set_option maxRecDepth 100000 in
theorem bit_c (u z : Int) (b : Bool) (h0 : 0 ≤ z) (h1 : z < 10) (hb : cutC u z = b) (W : World) : Calls Try.prog 28 #[.int .u32 u, .int .i64 z] W fun e w' => e = .returned (.bool b) ∧ w' = W := by
  subst hb; exact bit_any u z h0 h1 W
set_option maxRecDepth 100000 in
theorem bit_two {u x y : Int} {a b : Bool} (x0 : 0 ≤ x) (x1 : x < 10) (ha : cutC u x = a) (y0 : 0 ≤ y) (y1 : y < 10) (hb : cutC u y = b) (z : Int) (v : Bool) (h : (z = x ∧ v = a) ∨ (z = y ∧ v = b)) (W : World) : Calls Try.prog 28 #[.int .u32 u, .int .i64 z] W fun e w' => e = .returned (.bool v) ∧ w' = W := by
  rcases h with ⟨rfl, rfl⟩ | ⟨rfl, rfl⟩
  · exact bit_c u _ _ x0 x1 ha W
  · exact bit_c u _ _ y0 y1 hb W
/-- As far as the lightest of the edges that lead out was sought. -/
def CutInv (es : List E3) (c : Int → Bool) (i : Nat) (L : Int) : Prop :=
  (L = -1 ∧ ∀ j, j < i → crossB c (edgeAt es j) = false) ∨ ∃ p : Nat, p < i ∧ L = (p : Int) ∧ crossB c (edgeAt es p) = true ∧ ∀ j, j < i → crossB c (edgeAt es j) = true → wAt es p ≤ wAt es j
section
variable {es : List E3} {c : Int → Bool} {i p : Nat} {L : Int}
theorem CutInv.skip (h : CutInv es c i L) (hc : crossB c (edgeAt es i) = false) : CutInv es c (i + 1) L := by
  rcases h with ⟨h1, h2⟩ | ⟨p, h1, h2, h3, h4⟩
  · refine .inl ⟨h1, fun j hj => ?_⟩
    rcases Nat.lt_or_ge j i with h | h
    · exact h2 j h
    · obtain rfl : j = i := by omega
      exact hc
  · refine .inr ⟨p, by omega, h2, h3, fun j hj hcj => ?_⟩
    rcases Nat.lt_or_ge j i with h | h
    · exact h4 j h hcj
    · obtain rfl : j = i := by omega
      rw [hc] at hcj; cases hcj
theorem CutInv.one (h : CutInv es c i (-1)) (hc : crossB c (edgeAt es i) = true) : CutInv es c (i + 1) (i : Int) := by
  rcases h with ⟨_, h2⟩ | ⟨p, _, h2, _⟩
  · refine .inr ⟨i, by omega, rfl, hc, fun j hj hcj => ?_⟩
    rcases Nat.lt_or_ge j i with h | h
    · rw [h2 j h] at hcj; cases hcj
    · obtain rfl : j = i := by omega
      exact Int.le_refl _
  · omega
theorem CutInv.less (h : CutInv es c i (p : Int)) (hc : crossB c (edgeAt es i) = true) (hw : wAt es i < wAt es p) : CutInv es c (i + 1) (i : Int) := by
  rcases h with ⟨h1, _⟩ | ⟨q, _, h2, _, h4⟩
  · omega
  · obtain rfl : p = q := by omega
    refine .inr ⟨i, by omega, rfl, hc, fun j hj hcj => ?_⟩
    rcases Nat.lt_or_ge j i with h | h
    · have := h4 j h hcj; omega
    · obtain rfl : j = i := by omega
      exact Int.le_refl _
theorem CutInv.more (h : CutInv es c i (p : Int)) (hw : wAt es p ≤ wAt es i) : CutInv es c (i + 1) (p : Int) := by
  rcases h with ⟨h1, _⟩ | ⟨q, h1, h2, h3, h4⟩
  · omega
  · obtain rfl : p = q := by omega
    refine .inr ⟨p, by omega, rfl, h3, fun j hj hcj => ?_⟩
    rcases Nat.lt_or_ge j i with h | h
    · exact h4 j h hcj
    · obtain rfl : j = i := by omega
      exact hw
end
theorem edgeAt_of {es : List E3} {i : Nat} {e : E3} (h : es[i]? = some e) : edgeAt es i = e := by unfold edgeAt; rw [List.getD_eq_getElem?_getD, h]; rfl

set_option maxRecDepth 100000 in
set_option maxHeartbeats 1000000 in
theorem spanCut_bad (u n : Int) (A : Option Addr) (len cap : Nat) (es : List E3) (v : Int) (w : World) (hE : EdgesAt w w.heap.size A len es) (hcap : len ≤ cap) (hv : gcheck n es = v) (hv0 : v ≠ 0) :
    Calls Try.prog 9 #[.agg #[.int .i64 n, .slice A len cap], .int .u32 u] w fun e w' => e = .returned (.bool true) ∧ Below w.heap.size w w' := by
  have HX := Lib.hid (BoxG.start (n := n) (cap := cap) hE)
  have HV := Lib.hid hv
  have HV0 := Lib.hid hv0
  have HCAP := Lib.hid hcap
  have hb0 : (v != 0) = true := by simpa using hv0
  have HG : Hid ((gcheck n es == 0) = false) := Lib.hid (by rw [hv]; simpa using hv0)
  clear hE hv hv0 hcap
  go_enter Try.func9, Try.ntmps9
  go_wp2_with fail
  refine (least_bad n A len cap es v _ (by exact HX.out.edges) HV.out HV0.out).mono ?_
  rintro e w1 ⟨rfl, hb1⟩
  have HX1 := Lib.hid (HX.out.next hb1)
  clear hb1
  have hc0 := HX1.out.c0
  have hc1 := HX1.out.c1
  go_wp2_with fail
  refine (good_v n A len cap es false _ (by exact HX1.out.edges) HCAP.out HG.out).mono ?_
  rintro e w2 ⟨rfl, hb2⟩
  have HX2 := Lib.hid (HX1.out.next hb2)
  clear hb2
  go_wp2_with fail
  go_ret
  exact ⟨rfl, HX2.out.below⟩
def CutM (es : List E3) (c : Int → Bool) (p x : Nat) : Prop := crossB c (edgeAt es x) = true ∧ wAt es x = wAt es p

set_option maxRecDepth 100000 in
set_option maxHeartbeats 1000000 in
theorem spanCut_good (u : Int) (m : Nat) (A : Option Addr) (len cap : Nat) (es : List E3) (w : World) (hE : EdgesAt w w.heap.size A len es) (hcap : len ≤ cap) (hv : gcheck m es = 0) :
    Calls Try.prog 9 #[.agg #[.int .i64 m, .slice A len cap], .int .u32 u] w fun e w' => e = .returned (.bool true) ∧ Below w.heap.size w w' := by
  obtain ⟨_, hm10', hl45, hgood⟩ := good_of_gcheck hv
  have hm10 : m ≤ 10 := by omega
  have hlen : len ≤ 45 := by have := hE.1; omega
  have HLE : Hid (es.length = len) := Lib.hid hE.1
  have HX := Lib.hid (BoxG.start (n := m) (cap := cap) hE)
  have HV := Lib.hid hv
  have HG := Lib.hid hgood
  have HCAP := Lib.hid hcap
  have HGC : Hid ((gcheck m es == 0) = true) := Lib.hid (by rw [hv]; rfl)
  clear hE hv hl45 hgood hcap
  go_enter Try.func9, Try.ntmps9
  go_wp2_with fail
  refine (least_loop m A len cap es _ (by exact HX.out.edges) HV.out).mono ?_
  rintro e w1 ⟨⟨B, cp, rfl, hin1⟩, hb1⟩
  have HX1 := Lib.hid (HX.out.next hb1)
  have HK1 := Lib.hid hin1
  clear hb1 hin1
  have hc0 := HX1.out.c0
  have hc1 := HX1.out.c1
  go_wp2_with fail
  refine (good_v m A len cap es true _ (by exact HX1.out.edges) HCAP.out HGC.out).mono ?_
  rintro e w2 ⟨rfl, hb2⟩
  have HX2 := Lib.hid (HX1.out.next hb2)
  have HK2 := Lib.hid (HK1.out.go_ hb2)
  clear hb2 hc0 hc1
  have hd1 := HX2.out.c1
  go_wp2_with fail
  go_loopw [7, 8, 26] (fun v _ j wr => ∃ (i : Nat) (L : Int), i ≤ len ∧ j = .int .i64 i ∧ v = .int .i64 L ∧ Hid (CutInv es (cutC u) i L) ∧ Hid (BoxG w m A len cap es wr) ∧ Hid (Below w2.heap.size w2 wr)) (fun _ _ j _ => len - (intOf j).toNat)
  case atStart => exact ⟨0, -1, Nat.zero_le _, rfl, rfl, Lib.hid (.inl ⟨rfl, fun j hj => by omega⟩), HX2, Lib.hid (Below.refl _ _)⟩
  case round =>
    obtain ⟨i, L, hi, rfl, rfl, HC, HXr, HBr⟩ := hrel
    have r1 := HXr.out.c1
    by_cases hlt : i < len
    · obtain ⟨b, off, ⟨a0, a1, a2⟩, rfl, hb, hx, hq0, hq1, hq2⟩ := HXr.out.edges.at_ hlt
      obtain ⟨p0, p1, p2, p3, p4, _⟩ := edge_ok (HG.out i _ hx)
      simp only at p0 p1 p2 p3 p4 hq0 hq1 hq2
      have HED : Hid (edgeAt es i = (a0, a1, a2)) := Lib.hid (edgeAt_of hx)
      have hz := HXr.out.below.size
      go_wp2
      have HXW := Lib.hid (HXr.out.next ((Below.refl _ _).alloc (Nat.le_refl _) (.cells #[.int .i64 a0, .int .i64 a1, .int .i64 a2] 43)))
      have HBW : Hid (Below w2.heap.size w2 (wr.alloc (.cells #[.int .i64 a0, .int .i64 a1, .int .i64 a2] 43))) := Lib.hid (HBr.out.alloc HBr.out.size _)
      have q0 : (wr.alloc (.cells #[.int .i64 a0, .int .i64 a1, .int .i64 a2] 43)).cell? ⟨wr.heap.size, 0, none⟩ = some (.int .i64 a0) := by simp [go_sem]
      have q1 : (wr.alloc (.cells #[.int .i64 a0, .int .i64 a1, .int .i64 a2] 43)).cell? ⟨wr.heap.size, 1, none⟩ = some (.int .i64 a1) := by simp [go_sem]
      have q2 : (wr.alloc (.cells #[.int .i64 a0, .int .i64 a1, .int .i64 a2] 43)).cell? ⟨wr.heap.size, 2, none⟩ = some (.int .i64 a2) := by simp [go_sem]
      clear hx hq0 hq1 hq2 r1 HXr HBr
      generalize wr.alloc (.cells #[.int .i64 a0, .int .i64 a1, .int .i64 a2] 43) = W at HXW HBW q0 q1 q2 ⊢
      have r1 := HXW.out.c1
      have HLI : Hid (L = -1 ∨ ∃ p : Nat, L = (p : Int) ∧ p < len ∧ wAt es p = wAt es p) := Lib.hid (by
        rcases HC.out with ⟨h, _⟩ | ⟨p, h1, h2, _⟩
        · exact .inl h
        · exact .inr ⟨p, h2, by omega, rfl⟩)
      have HCR : Hid (crossB (cutC u) (edgeAt es i) = (cutC u a0 != cutC u a1)) := Lib.hid (by rw [HED.out]; rfl)
      have HWT : Hid (wAt es i = a2) := Lib.hid (by unfold wAt; rw [HED.out])
      have a0m : a0 < 10 := by omega
      have a1m : a1 < 10 := by omega
      cases hcx : cutC u a0 <;> cases hcy : cutC u a1
      all_goals
        have HBB := Lib.hid (bit_two (u := u) (x := a0) (y := a1) p0 a0m hcx p2 a1m hcy)
        rw [hcx, hcy] at HCR
        clear hcx hcy
      · have HN := Lib.hid (HC.out.skip HCR.out)
        clear HC HCR HLI HED HWT
        go_quiet ((go_at_call 28; exact Calls.quiet_of_same (HBB.out _ _ (by first | exact Or.inl ⟨rfl, rfl⟩ | exact Or.inr ⟨rfl, rfl⟩) _)))
        go_wp2
        go_roundw
        case rel => exact ⟨i + 1, L, by omega, by go_num, rfl, HN, Lib.hid (HXW.out.next (below_drewN (Below.refl _ _) _)), Lib.hid (below_drewN HBW.out _)⟩
        case measure => simp [intOf]; omega
      · rcases HLI.out with rfl | ⟨p, rfl, hp, _⟩
        · have HN := Lib.hid (HC.out.one HCR.out)
          clear HC HCR HLI HED HWT
          go_quiet ((go_at_call 28; exact Calls.quiet_of_same (HBB.out _ _ (by first | exact Or.inl ⟨rfl, rfl⟩ | exact Or.inr ⟨rfl, rfl⟩) _)))
          go_wp2
          go_roundw
          case rel => exact ⟨i + 1, (i : Int), by omega, by go_num, rfl, HN, Lib.hid (HXW.out.next (below_drewN (Below.refl _ _) _)), Lib.hid (below_drewN HBW.out _)⟩
          case measure => simp [intOf]; omega
        · obtain ⟨b2, off2, ⟨d0, d1, d2⟩, hA2, hb2, hx2, g0, g1, g2⟩ := HXW.out.edges.at_ hp
          cases hA2
          simp only at g0 g1 g2
          have HWP : Hid (wAt es p = d2) := Lib.hid (by unfold wAt; rw [edgeAt_of hx2])
          have ip0 : (0 : Int) ≤ (p : Int) := by omega
          have ip1 : (p : Int) < (len : Int) := by omega
          have hpd : decide ((p : Int) < 0) = false := decide_eq_false (by omega)
          clear hx2 HLI
          by_cases hw : a2 < d2
          · have hwb : decide (a2 < d2) = true := decide_eq_true hw
            have HN := Lib.hid (HC.out.less HCR.out (by rw [HWT.out, HWP.out]; exact hw))
            clear HC HCR HED HWT HWP
            go_quiet ((go_at_call 28; exact Calls.quiet_of_same (HBB.out _ _ (by first | exact Or.inl ⟨rfl, rfl⟩ | exact Or.inr ⟨rfl, rfl⟩) _)))
            go_wp2
            go_roundw
            case rel => exact ⟨i + 1, (i : Int), by omega, by go_num, rfl, HN, Lib.hid (HXW.out.next (below_drewN (Below.refl _ _) _)), Lib.hid (below_drewN HBW.out _)⟩
            case measure => simp [intOf]; omega
          · have hwb : decide (a2 < d2) = false := decide_eq_false hw
            have HN := Lib.hid (HC.out.more (by rw [HWT.out, HWP.out]; omega))
            clear HC HCR HED HWT HWP
            go_quiet ((go_at_call 28; exact Calls.quiet_of_same (HBB.out _ _ (by first | exact Or.inl ⟨rfl, rfl⟩ | exact Or.inr ⟨rfl, rfl⟩) _)))
            go_wp2
            go_roundw
            case rel => exact ⟨i + 1, (p : Int), by omega, by go_num, rfl, HN, Lib.hid (HXW.out.next (below_drewN (Below.refl _ _) _)), Lib.hid (below_drewN HBW.out _)⟩
            case measure => simp [intOf]; omega
      · rcases HLI.out with rfl | ⟨p, rfl, hp, _⟩
        · have HN := Lib.hid (HC.out.one HCR.out)
          clear HC HCR HLI HED HWT
          go_quiet ((go_at_call 28; exact Calls.quiet_of_same (HBB.out _ _ (by first | exact Or.inl ⟨rfl, rfl⟩ | exact Or.inr ⟨rfl, rfl⟩) _)))
          go_wp2
          go_roundw
          case rel => exact ⟨i + 1, (i : Int), by omega, by go_num, rfl, HN, Lib.hid (HXW.out.next (below_drewN (Below.refl _ _) _)), Lib.hid (below_drewN HBW.out _)⟩
          case measure => simp [intOf]; omega
        · obtain ⟨b2, off2, ⟨d0, d1, d2⟩, hA2, hb2, hx2, g0, g1, g2⟩ := HXW.out.edges.at_ hp
          cases hA2
          simp only at g0 g1 g2
          have HWP : Hid (wAt es p = d2) := Lib.hid (by unfold wAt; rw [edgeAt_of hx2])
          have ip0 : (0 : Int) ≤ (p : Int) := by omega
          have ip1 : (p : Int) < (len : Int) := by omega
          have hpd : decide ((p : Int) < 0) = false := decide_eq_false (by omega)
          clear hx2 HLI
          by_cases hw : a2 < d2
          · have hwb : decide (a2 < d2) = true := decide_eq_true hw
            have HN := Lib.hid (HC.out.less HCR.out (by rw [HWT.out, HWP.out]; exact hw))
            clear HC HCR HED HWT HWP
            go_quiet ((go_at_call 28; exact Calls.quiet_of_same (HBB.out _ _ (by first | exact Or.inl ⟨rfl, rfl⟩ | exact Or.inr ⟨rfl, rfl⟩) _)))
            go_wp2
            go_roundw
            case rel => exact ⟨i + 1, (i : Int), by omega, by go_num, rfl, HN, Lib.hid (HXW.out.next (below_drewN (Below.refl _ _) _)), Lib.hid (below_drewN HBW.out _)⟩
            case measure => simp [intOf]; omega
          · have hwb : decide (a2 < d2) = false := decide_eq_false hw
            have HN := Lib.hid (HC.out.more (by rw [HWT.out, HWP.out]; omega))
            clear HC HCR HED HWT HWP
            go_quiet ((go_at_call 28; exact Calls.quiet_of_same (HBB.out _ _ (by first | exact Or.inl ⟨rfl, rfl⟩ | exact Or.inr ⟨rfl, rfl⟩) _)))
            go_wp2
            go_roundw
            case rel => exact ⟨i + 1, (p : Int), by omega, by go_num, rfl, HN, Lib.hid (HXW.out.next (below_drewN (Below.refl _ _) _)), Lib.hid (below_drewN HBW.out _)⟩
            case measure => simp [intOf]; omega
      · have HN := Lib.hid (HC.out.skip HCR.out)
        clear HC HCR HLI HED HWT
        go_quiet ((go_at_call 28; exact Calls.quiet_of_same (HBB.out _ _ (by first | exact Or.inl ⟨rfl, rfl⟩ | exact Or.inr ⟨rfl, rfl⟩) _)))
        go_wp2
        go_roundw
        case rel => exact ⟨i + 1, L, by omega, by go_num, rfl, HN, Lib.hid (HXW.out.next (below_drewN (Below.refl _ _) _)), Lib.hid (below_drewN HBW.out _)⟩
        case measure => simp [intOf]; omega
    · have hlt2 : ¬ (i : Int) < (len : Int) := by omega
      have hin := InE.of_good HG.out
      have hk10 : (keptS es).length ≤ 10 := by have := kept_forest hin; omega
      have HKw := Lib.hid (HK2.out.go_ HBr.out)
      have HIN : Hid (((keptS es).map fun x : Nat => (x : Int)).all (isIn (len : Int)) = true) := Lib.hid (by
        rw [List.all_eq_true]
        intro y hy
        obtain ⟨x, hx, rfl⟩ := List.mem_map.1 hy
        have h1 := (mem_keptS.1 hx).1
        rw [HLE.out] at h1
        simp [isIn]
        omega)
      have HII := Lib.hid (inside_v (len : Int) B (keptS es).length cp _ true _ HKw.out (by omega) HIN.out)
      rcases HC.out with ⟨hL, _⟩ | ⟨p, hp, hL, hcp, hmin⟩
      · subst hL
        clear HC
        go_wp2_with fail
        refine HII.out.mono ?_
        rintro e5 w5 ⟨rfl, rfl⟩
        go_wp2
        go_ret
        exact ⟨rfl, HXr.out.below⟩
      · subst hL
        have HEND : Hid (∃ q x, (keptS es)[q]? = some x ∧ CutM es (cutC u) p x) := Lib.hid (by
          obtain ⟨y, h1, h2, h3⟩ := kept_cut hin (cutC u) (i0 := p) (by have := HLE.out; omega) hcp (fun j hj => hmin j (by have := HLE.out; omega))
          obtain ⟨q, hq⟩ := List.getElem?_of_mem (mem_keptS.2 h1)
          exact ⟨q, y, hq, h2, h3⟩)
        have hpl : p < len := by omega
        have hpd : decide ((p : Int) < 0) = false := decide_eq_false (by omega)
        clear HC hcp hmin
        go_wp2_with fail
        refine HII.out.mono ?_
        rintro e5 w5 ⟨rfl, rfl⟩
        clear r1
        go_wp2
        obtain ⟨wo, rfl⟩ : ∃ wo : World, wo = wr := ⟨_, rfl⟩
        go_loopw [11, 71] (fun _ j wq => ∃ k : Nat, k ≤ (keptS es).length ∧ j = .int .i64 k ∧ Hid (∀ q x, q < k → (keptS es)[q]? = some x → ¬ CutM es (cutC u) p x) ∧ Hid (BoxG w m A len cap es wq) ∧ Hid (Below wo.heap.size wo wq)) (fun _ j _ => (keptS es).length - (intOf j).toNat)
        case atStart => exact ⟨0, Nat.zero_le _, rfl, Lib.hid (fun q x hq => by omega), HXr, Lib.hid (Below.refl _ _)⟩
        case round =>
          obtain ⟨k, hk, rfl, HM, HXq, HBq⟩ := hrel
          by_cases hkt : k < (keptS es).length
          · obtain ⟨bB, oB, y, rfl, hbB, hy, hyc⟩ := (HKw.out.below HBq.out).at_ hkt
            obtain ⟨x, hx, rfl⟩ : ∃ x, (keptS es)[k]? = some x ∧ (x : Int) = y := by
              rw [List.getElem?_map, Option.map_eq_some_iff] at hy; exact hy
            have hxl : x < len := by have := (mem_keptS.1 (List.mem_of_getElem? hx)).1; have := HLE.out; omega
            have HMN : Hid (¬ CutM es (cutC u) p x → ∀ q x, q < k + 1 → (keptS es)[q]? = some x → ¬ CutM es (cutC u) p x) := Lib.hid fun hn q x' hq hx' => by
              rcases Nat.lt_or_ge q k with h | h
              · exact HM.out q x' h hx'
              · obtain rfl : q = k := by omega
                rw [hx] at hx'
                injection hx' with hx'
                subst hx'
                exact hn
            obtain ⟨b, off, ⟨a0, a1, a2⟩, rfl, hb, hxe, hq0, hq1, hq2⟩ := HXq.out.edges.at_ hxl
            obtain ⟨p0, p1, p2, p3, p4, _⟩ := edge_ok (HG.out x _ hxe)
            simp only at p0 p1 p2 p3 p4 hq0 hq1 hq2
            have HCR : Hid (crossB (cutC u) (edgeAt es x) = (cutC u a0 != cutC u a1)) := Lib.hid (by rw [edgeAt_of hxe]; rfl)
            have HWX : Hid (wAt es x = a2) := Lib.hid (by unfold wAt; rw [edgeAt_of hxe])
            have r1 := HXq.out.c1
            have ix0 : (0 : Int) ≤ (x : Int) := by omega
            have ix1 : (x : Int) < (len : Int) := by omega
            have ik1 : (k : Int) < ((keptS es).length : Int) := by omega
            have hz := HXq.out.below.size
            clear hxe hx hy HM HII HIN
            generalize (keptS es).length = K at *
            go_wp2
            have HXW := Lib.hid (HXq.out.next ((Below.refl _ _).alloc (Nat.le_refl _) (.cells #[.int .i64 a0, .int .i64 a1, .int .i64 a2] 43)))
            have HBW : Hid (Below wo.heap.size wo (wr.alloc (.cells #[.int .i64 a0, .int .i64 a1, .int .i64 a2] 43))) := Lib.hid (HBq.out.alloc HBq.out.size _)
            have q0 : (wr.alloc (.cells #[.int .i64 a0, .int .i64 a1, .int .i64 a2] 43)).cell? ⟨wr.heap.size, 0, none⟩ = some (.int .i64 a0) := by simp [go_sem]
            have q1 : (wr.alloc (.cells #[.int .i64 a0, .int .i64 a1, .int .i64 a2] 43)).cell? ⟨wr.heap.size, 1, none⟩ = some (.int .i64 a1) := by simp [go_sem]
            have q2 : (wr.alloc (.cells #[.int .i64 a0, .int .i64 a1, .int .i64 a2] 43)).cell? ⟨wr.heap.size, 2, none⟩ = some (.int .i64 a2) := by simp [go_sem]
            clear hq0 hq1 hq2 r1 HXq HBq hyc
            generalize wr.alloc (.cells #[.int .i64 a0, .int .i64 a1, .int .i64 a2] 43) = W at HXW HBW q0 q1 q2 ⊢
            have r1 := HXW.out.c1
            obtain ⟨b2, off2, ⟨d0, d1, d2⟩, hA2, hb2, hx2, g0, g1, g2⟩ := HXW.out.edges.at_ hpl
            cases hA2
            simp only at g0 g1 g2
            have HWP : Hid (wAt es p = d2) := Lib.hid (by unfold wAt; rw [edgeAt_of hx2])
            have ip0 : (0 : Int) ≤ (p : Int) := by omega
            have ip1 : (p : Int) < (len : Int) := by omega
            clear hx2
            have a0m : a0 < 10 := by omega
            have a1m : a1 < 10 := by omega
            cases hcx : cutC u a0 <;> cases hcy : cutC u a1
            all_goals
              have HBB := Lib.hid (bit_two (u := u) (x := a0) (y := a1) p0 a0m hcx p2 a1m hcy)
              rw [hcx, hcy] at HCR
              clear hcx hcy
            · have HN := Lib.hid (HMN.out fun h => absurd (h.1.symm.trans HCR.out) (by decide))
              clear HMN HCR
              go_quiet ((go_at_call 28; exact Calls.quiet_of_same (HBB.out _ _ (by first | exact Or.inl ⟨rfl, rfl⟩ | exact Or.inr ⟨rfl, rfl⟩) _)))
              go_wp2
              go_roundw
              case rel => exact ⟨k + 1, by omega, by go_num, HN, Lib.hid (HXW.out.next (below_drewN (Below.refl _ _) _)), Lib.hid (below_drewN HBW.out _)⟩
              case measure => simp [intOf]; omega
            · by_cases hw : a2 = d2
              · subst hw
                clear HMN HCR HWP
                go_quiet ((go_at_call 28; exact Calls.quiet_of_same (HBB.out _ _ (by first | exact Or.inl ⟨rfl, rfl⟩ | exact Or.inr ⟨rfl, rfl⟩) _)))
                go_wp2
                go_ret
                exact ⟨rfl, (HXW.out.next (below_drewN (Below.refl _ _) _)).below⟩
              · have hwb : (a2 == d2) = false := by simpa using hw
                have HN := Lib.hid (HMN.out fun h => hw (by rw [← HWX.out, ← HWP.out]; exact h.2))
                clear HMN HCR HWX HWP
                go_quiet ((go_at_call 28; exact Calls.quiet_of_same (HBB.out _ _ (by first | exact Or.inl ⟨rfl, rfl⟩ | exact Or.inr ⟨rfl, rfl⟩) _)))
                go_wp2
                go_roundw
                case rel => exact ⟨k + 1, by omega, by go_num, HN, Lib.hid (HXW.out.next (below_drewN (Below.refl _ _) _)), Lib.hid (below_drewN HBW.out _)⟩
                case measure => simp [intOf]; omega
            · by_cases hw : a2 = d2
              · subst hw
                clear HMN HCR HWP
                go_quiet ((go_at_call 28; exact Calls.quiet_of_same (HBB.out _ _ (by first | exact Or.inl ⟨rfl, rfl⟩ | exact Or.inr ⟨rfl, rfl⟩) _)))
                go_wp2
                go_ret
                exact ⟨rfl, (HXW.out.next (below_drewN (Below.refl _ _) _)).below⟩
              · have hwb : (a2 == d2) = false := by simpa using hw
                have HN := Lib.hid (HMN.out fun h => hw (by rw [← HWX.out, ← HWP.out]; exact h.2))
                clear HMN HCR HWX HWP
                go_quiet ((go_at_call 28; exact Calls.quiet_of_same (HBB.out _ _ (by first | exact Or.inl ⟨rfl, rfl⟩ | exact Or.inr ⟨rfl, rfl⟩) _)))
                go_wp2
                go_roundw
                case rel => exact ⟨k + 1, by omega, by go_num, HN, Lib.hid (HXW.out.next (below_drewN (Below.refl _ _) _)), Lib.hid (below_drewN HBW.out _)⟩
                case measure => simp [intOf]; omega
            · have HN := Lib.hid (HMN.out fun h => absurd (h.1.symm.trans HCR.out) (by decide))
              clear HMN HCR
              go_quiet ((go_at_call 28; exact Calls.quiet_of_same (HBB.out _ _ (by first | exact Or.inl ⟨rfl, rfl⟩ | exact Or.inr ⟨rfl, rfl⟩) _)))
              go_wp2
              go_roundw
              case rel => exact ⟨k + 1, by omega, by go_num, HN, Lib.hid (HXW.out.next (below_drewN (Below.refl _ _) _)), Lib.hid (below_drewN HBW.out _)⟩
              case measure => simp [intOf]; omega
          · exfalso
            obtain ⟨q, x, hq, hM⟩ := HEND.out
            exact HM.out q x (by have := (List.getElem?_eq_some_iff.1 hq).1; omega) hq hM
end Go.Proofs.Ythfgbgmkiggjmaa
