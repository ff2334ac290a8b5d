/- The program's checkGoes, and fee.Spare: what it tells of what goes in a net. No conditions. -/
import Derived.Test.YtmlmnmphmghdlaaStepsOf
import Derived.Test.YtmlmnmphmghdlaaLowerGo
import Derived.Test.YtmlmnmphmghdlaaRefCheaper
import Derived.Test.YtmlmnmphmghdlaaNetEndsGo
import Derived.Deep.OwnRows
namespace Go.Proofs.Ytmlmnmphmghdlaa
open Go.RowKit

open Classical in
/-- What is wrong with what goes. -/
noncomputable def wrongG (n : Int) (es : List A4) (xs : List Int) : Int := if netF n es = 0 then (if xs.length = es.length then (if MayP (netP n es) (goesF xs) then 0 else 4) else 3) else netF n es
section
variable {n : Int} {es : List A4} {xs : List Int}
theorem wrongG_net {x : Int} (h : netF n es = x) (h0 : x ≠ 0) : wrongG n es xs = x := by unfold wrongG; rw [h, if_neg h0]
theorem wrongG_form (h : netF n es = 0) (hl : xs.length ≠ es.length) : wrongG n es xs = 3 := by unfold wrongG; rw [if_pos h, if_neg hl]
theorem wrongG_range (h : netF n es = 0) (hl : xs.length = es.length) (hm : ¬ MayP (netP n es) (goesF xs)) : wrongG n es xs = 4 := by unfold wrongG; rw [if_pos h, if_pos hl, if_neg hm]
theorem wrongG_ok (h : netF n es = 0) (hl : xs.length = es.length) (hm : MayP (netP n es) (goesF xs)) : wrongG n es xs = 0 := by unfold wrongG; rw [if_pos h, if_pos hl, if_pos hm]
theorem wrongG_zero (h : wrongG n es xs = 0) : netF n es = 0 ∧ xs.length = es.length ∧ MayP (netP n es) (goesF xs) := by
  unfold wrongG at h
  split at h
  · split at h
    · split at h
      · exact ⟨‹_›, ‹_›, ‹_›⟩
      · cases h
    · cases h
  · exact absurd h ‹_›
end
set_option maxRecDepth 100000 in
set_option maxHeartbeats 1000000 in
theorem checkGoes_any (n : Int) (A : Option Addr) (len cap : Nat) (es : List A4) (A2 : Option Addr) (l2 cap2 : Nat) (xs : List Int) (w : World) (hE : ArcsAt w w.heap.size A len es) (hI : IntsAt w w.heap.size A2 l2 xs) (hl2 : l2 ≤ 9223372036854775807) :
    Calls Try.prog 22 #[.agg #[.int .i64 n, .slice A len cap], .slice A2 l2 cap2] w fun e w' => e = .returned (.int .i64 (wrongG n es xs)) ∧ Below w.heap.size w w' := by
  have HX := Lib.hid (BoxN.start (n := n) (cap := cap) hE)
  obtain ⟨x, hx⟩ : ∃ x, netF n es = x := ⟨_, rfl⟩
  have HV := Lib.hid hx
  have HI := Lib.hid hI
  have HLL := Lib.hid (And.intro hE.1 hI.1)
  have k0 := HX.out.k0
  have k1 := HX.out.k1
  by_cases h0 : x = 0
  · subst h0
    have HG := Lib.hid (good_of_netF hx)
    have hl30 : len ≤ 30 := by have := HG.out.len; have := hE.1; omega
    by_cases hll : l2 = len
    · subst hll
      clear hE hI hx
      go_enter Try.func22, Try.ntmps22
      go_wp2_with fail
      refine (flowCheck_v n 0 A l2 cap es _ (by exact HX.out.arcs) HV.out).mono ?_
      rintro e w1 ⟨rfl, hB⟩
      have HX1 := Lib.hid (HX.out.next hB)
      clear k0 k1 hB
      have k1 := HX1.out.k1
      go_wp2_with fail
      clear k1
      go_loopw [22] (fun j wr => ∃ k : Nat, k ≤ l2 ∧ j = .int .i64 k ∧ Hid (BoxN w n A l2 cap es wr) ∧ Hid (∀ q, q < k → 0 ≤ goesF xs q ∧ goesF xs q ≤ (netP n es).mo q)) (fun j _ => l2 - (intOf j).toNat)
      case atStart => exact ⟨0, Nat.zero_le _, rfl, HX1, Lib.hid (fun q hq => by omega)⟩
      case round =>
        clear HX1 HX
        obtain ⟨k, hk, rfl, HB, HP⟩ := hrel
        by_cases hlt : k < l2
        · obtain ⟨bb, off, ⟨x0, x1, x2, x3⟩, rfl, hbb, hx, hc0, hc1, hc2, hc3⟩ := HB.out.arcs.at_ hlt
          obtain ⟨bi, oi, z, rfl, hbi, hz, hcz⟩ := (HI.out.go_ HB.out.below).at_ hlt
          have e2 : (netP n es).mo k = x2 := by show (es.getD k default).2.2.1 = x2; rw [List.getD_eq_getElem?_getD, hx]; rfl
          have eZ : goesF xs k = z := by unfold goesF; rw [List.getD_eq_getElem?_getD, hz]; rfl
          have HB2 : Hid (∀ W, Below wr.heap.size wr W → BoxN w n (some ⟨bb, off, none⟩) l2 cap es W) := Lib.hid fun W h => HB.out.next h
          have HE2 := Lib.hid (And.intro e2 eZ)
          have HKL : Hid (k < (netP n es).K) := Lib.hid (by show k < es.length; have := HLL.out.1; omega)
          have ik0 : (0 : Int) ≤ (k : Int) := by omega
          have ik1 : (k : Int) < (l2 : Int) := by omega
          simp only at hc0 hc1 hc2 hc3
          clear hx hz e2 eZ
          by_cases h1 : z < 0
          · have HF : Hid (wrongG n es xs = 4) := Lib.hid (wrongG_range HV.out (by rw [HLL.out.1, HLL.out.2]) fun h => by
              have := h k HKL.out
              rw [HE2.out.2] at this
              omega)
            go_wp2_with fail
            go_quiet (fail)
            go_wp2
            go_ret
            exact ⟨by rw [HF.out]; rfl, below_drewN (HB2.out _ ((Below.refl _ _).alloc (Nat.le_refl _) _)).below _⟩
          · by_cases h2 : x2 < z
            · have HF : Hid (wrongG n es xs = 4) := Lib.hid (wrongG_range HV.out (by rw [HLL.out.1, HLL.out.2]) fun h => by
                have := h k HKL.out
                rw [HE2.out.2, HE2.out.1] at this
                omega)
              have h1b : decide (z < 0) = false := decide_eq_false h1
              clear h1
              go_wp2_with fail
              go_quiet (fail)
              go_wp2
              go_ret
              exact ⟨by rw [HF.out]; rfl, below_drewN (HB2.out _ ((Below.refl _ _).alloc (Nat.le_refl _) _)).below _⟩
            · have HP2 : Hid (∀ q, q < k + 1 → 0 ≤ goesF xs q ∧ goesF xs q ≤ (netP n es).mo q) := Lib.hid fun q hq => by
                by_cases e : q = k
                · subst e; rw [HE2.out.1, HE2.out.2]; omega
                · exact HP.out q (by omega)
              have h1b : decide (z < 0) = false := decide_eq_false h1
              have h2b : decide (x2 < z) = false := decide_eq_false h2
              clear h1 h2 HP
              go_wp2_with fail
              go_quiet (fail)
              go_wp2
              go_roundw
              case rel => exact ⟨k + 1, by omega, by go_num, Lib.hid (HB2.out _ (below_drewN ((Below.refl _ _).alloc (Nat.le_refl _) _) _)), HP2⟩
              case measure => simp [intOf]; omega
        · obtain rfl : k = l2 := by omega
          have HF : Hid (wrongG n es xs = 0) := Lib.hid (wrongG_ok HV.out (by rw [HLL.out.1, HLL.out.2]) fun q hq => HP.out q (by
            have : q < es.length := hq
            have := HLL.out.1
            omega))
          go_wp2_with fail
          go_ret
          exact ⟨by rw [HF.out]; rfl, HB.out.below⟩
    · have HF : Hid (wrongG n es xs = 3) := Lib.hid (wrongG_form hx (by rw [hE.1, hI.1]; exact hll))
      have hllb : ((l2 : Int) == (len : Int)) = false := by simp; omega
      clear hE hI hx hll
      go_enter Try.func22, Try.ntmps22
      go_wp2_with fail
      refine (flowCheck_v n 0 A len cap es _ (by exact HX.out.arcs) HV.out).mono ?_
      rintro e w1 ⟨rfl, hB⟩
      have HX1 := Lib.hid (HX.out.next hB)
      clear k0 k1 hB
      have k1 := HX1.out.k1
      go_wp2_with fail
      go_ret
      exact ⟨by rw [HF.out]; rfl, HX1.out.below⟩
  · have HF : Hid (wrongG n es xs = x) := Lib.hid (wrongG_net hx h0)
    have hx0 : (x != 0) = true := by simpa using h0
    clear hE hI hx h0
    go_enter Try.func22, Try.ntmps22
    go_wp2_with fail
    refine (flowCheck_v n x A len cap es _ (by exact HX.out.arcs) HV.out).mono ?_
    rintro e w1 ⟨rfl, hB⟩
    have HX1 := Lib.hid (HX.out.next hB)
    clear k0 k1 hB
    go_wp2_with fail
    go_ret
    exact ⟨by rw [HF.out]; rfl, HX1.out.below⟩

set_option maxRecDepth 100000 in
set_option maxHeartbeats 1000000 in
theorem spare_bad (n x : Int) (A : Option Addr) (len cap : Nat) (es : List A4) (A2 : Option Addr) (l2 cap2 : Nat) (xs : List Int) (w : World) (hE : ArcsAt w w.heap.size A len es) (hI : IntsAt w w.heap.size A2 l2 xs) (hl2 : l2 ≤ 9223372036854775807) (hx : wrongG n es xs = x) (h0 : x ≠ 0) :
    Calls Try.prog 13 #[.agg #[.int .i64 n, .slice A len cap], .slice A2 l2 cap2] w fun e w' => e = .returned (.tuple #[.bool false, .int .i64 x]) ∧ Below w.heap.size w w' := by
  have HX := Lib.hid (BoxN.start (n := n) (cap := cap) hE)
  have HI := Lib.hid hI
  have HV := Lib.hid hx
  have hx0 : (x != 0) = true := by simpa using h0
  have k0 := HX.out.k0
  have k1 := HX.out.k1
  clear hE hI hx h0
  go_enter Try.func13, Try.ntmps13
  go_wp2_with fail
  refine ((checkGoes_any n A len cap es A2 l2 cap2 xs _ (by exact HX.out.arcs) (by exact HI.out.go_ HX.out.below) hl2).mono (R' := fun e w' => e = .returned (.int .i64 x) ∧ Below (bxN w n A len cap).heap.size (bxN w n A len cap) w') (fun e w' h => by rw [HV.out] at h; exact h)).mono ?_
  rintro e w1 ⟨rfl, hB⟩
  have HX1 := Lib.hid (HX.out.next hB)
  clear k0 k1 hB
  go_wp2_with fail
  go_ret2
  exact ⟨rfl, HX1.out.below⟩
/-- The rounds of Spare stay small. -/
theorem spare_small {N : NetP} {fee : Nat → Int} (hN : N.ok) (hf : ∀ k, -1048576 ≤ fee k ∧ fee k ≤ 1048576) (hn : N.n ≤ 10) (hK : N.K ≤ 60) {r : Nat} (hr : r ≤ N.n) : ∀ k, k ≤ N.K → ∀ i, i < N.n →
    -1125899906842624 ≤ lowK N fee (rndD N fee (fun _ => 0) r) k i ∧ lowK N fee (rndD N fee (fun _ => 0) r) k i ≤ 1125899906842624 := fun k hk i hi => by
  have h1 := low_abs (M := 1048576) (fun k _ => (hf k).1) (by decide) hN (fun i hi => rnd_abs (M := 1048576) (d := fun _ => 0) (fun k _ => (hf k).1) (by decide) hN (fun _ => rfl) r i hi) k hk i hi
  have h2 := lowK_le (N := N) (fee := fee) (d := rndD N fee (fun _ => 0) r) i k
  have h3 : rndD N fee (fun _ => 0) r i ≤ 0 := rnd_down i r
  have h4 : (N.K : Int) * 1048576 ≤ 60 * 1048576 := Int.mul_le_mul_of_nonneg_right (by omega) (by decide)
  have h5 : (r : Int) * ((N.K : Int) * 1048576) ≤ 10 * ((N.K : Int) * 1048576) := Int.mul_le_mul_of_nonneg_right (by omega) (by omega)
  have h6 : (k : Int) * 1048576 ≤ 60 * 1048576 := Int.mul_le_mul_of_nonneg_right (by omega) (by decide)
  omega
set_option maxRecDepth 100000 in
set_option maxHeartbeats 2000000 in
theorem spare_good (m : Nat) (A : Option Addr) (len cap : Nat) (es : List A4) (A2 : Option Addr) (l2 cap2 : Nat) (xs : List Int) (b : Bool) (w : World) (hE : ArcsAt w w.heap.size A len es) (hI : IntsAt w w.heap.size A2 l2 xs) (hx : wrongG (m : Int) es xs = 0)
    (hb : b = true ↔ ¬ NoNeg (StepC (netP (m : Int) es) (feeP es) (goesF xs))) :
    Calls Try.prog 13 #[.agg #[.int .i64 m, .slice A len cap], .slice A2 l2 cap2] w fun e w' => e = .returned (.tuple #[.bool b, .int .i64 0]) ∧ Below w.heap.size w w' := by
  obtain ⟨hn0, hll, hM⟩ := wrongG_zero hx
  have hG := good_of_netF hn0
  have hFB := feeP_abs (fee_of_netF hn0)
  have hl2e : l2 = len := by rw [← hI.1, ← hE.1]; exact hll
  subst hl2e
  have hl30 : l2 ≤ 30 := by have := hG.len; have := hE.1; omega
  have hm10 : m ≤ 10 := by have := hG.n1; omega
  obtain ⟨S, hS⟩ : ∃ S, S = stepT es (goesF xs) es.length := ⟨_, rfl⟩
  have hSl : S.length = 2 * l2 := by rw [hS, stepT_len, hE.1]
  have hBig : BigN (m : Int) S := by rw [hS]; exact stepT_big hG hM
  have hSF : ∀ k, -1048576 ≤ feeP S k ∧ feeP S k ≤ 1048576 := fun k => by rw [hS]; exact stepT_fee hFB k
  have hok := netP_ok hBig
  have hNn : (netP (m : Int) S).n = m := by simp [netP]
  have hNK : (netP (m : Int) S).K = 2 * l2 := hSl
  have hb2 : b = true ↔ lowB (netP (m : Int) S) (feeP S) (rndD (netP (m : Int) S) (feeP S) (fun _ => 0) m) (2 * l2) = true := by
    rw [hb, ← avail_eq, ← hS, ← spare_iff hok (d := fun _ => 0) (fun _ => rfl), hNn, hNK]
  have hsm : ∀ r, r ≤ m → ∀ k, k ≤ 2 * l2 → ∀ i, i < m → -1125899906842624 ≤ lowK (netP (m : Int) S) (feeP S) (rndD (netP (m : Int) S) (feeP S) (fun _ => 0) r) k i ∧ lowK (netP (m : Int) S) (feeP S) (rndD (netP (m : Int) S) (feeP S) (fun _ => 0) r) k i ≤ 1125899906842624 := fun r hr k hk i hi =>
    spare_small hok hSF (by omega) (by omega) (by omega) k (by omega) i (by omega)
  have HSM := Lib.hid hsm
  have HB2 := Lib.hid hb2
  have HBIG := Lib.hid hBig
  have HSF := Lib.hid hSF
  have HSS := Lib.hid (And.intro hS hSl)
  have HNK := Lib.hid hNK
  have HV := Lib.hid hx
  have HST := Lib.hid (fun W (h1 : ArcsAt W W.heap.size A l2 es) (h2 : IntsAt W W.heap.size A2 l2 xs) => stepsOf_any m A l2 cap es A2 cap2 xs W h1 h2 hG hFB hM)
  have HX := Lib.hid (BoxN.start (n := (m : Int)) (cap := cap) hE)
  have HI := Lib.hid hI
  have HEL := Lib.hid hE.1
  have k0 := HX.out.k0
  have k1 := HX.out.k1
  have hmk := fun W => run_make_row' (P := Try.prog) 25 2 (.int .i64 0) 8 Try.underlying25 (by kernel_rfl) rfl .i64 .i64 m (by omega) (by omega) W
  clear hE hI hx hb hn0 hll hM hG hFB hS hSl hBig hSF hok hNn hNK hb2 hsm
  go_enter Try.func13, Try.ntmps13
  go_wp2_with fail
  refine ((checkGoes_any (m : Int) A l2 cap es A2 l2 cap2 xs _ (by exact HX.out.arcs) (by exact HI.out.go_ HX.out.below) (by omega)).mono (R' := fun e w' => e = .returned (.int .i64 0) ∧ Below (bxN w (m : Int) A l2 cap).heap.size (bxN w (m : Int) A l2 cap) w') (fun e w' h => by rw [HV.out] at h; exact h)).mono ?_
  rintro e w1 ⟨rfl, hB⟩
  have HX1 := Lib.hid (HX.out.next hB)
  clear k0 k1 hB
  have k0 := HX1.out.k0
  have k1 := HX1.out.k1
  go_wp2_with fail
  refine (HST.out _ (by exact HX1.out.arcs) (by exact HI.out.go_ HX1.out.below)).mono ?_
  rintro e w2 ⟨A', cap', rfl, hown, hB⟩
  have HX2 := Lib.hid (HX1.out.next hB)
  have HAS : Hid (ArcsAt w2 w2.heap.size A' (2 * l2) S) := Lib.hid (ArcsAt.of_own4 (by rw [HSS.out.1, HEL.out]; exact hown))
  clear k0 k1 hB hown HST
  have k0 := HX2.out.k0
  have hlt2 := HX2.out.lt
  go_wp2_with fail
  clear hmk k0 hlt2
  obtain ⟨W0, hW0⟩ : ∃ W0, W0 = ((w2.alloc (.cells #[.int .i64 m, .slice A' (2 * l2) cap'] 24)).alloc (.cells (madeCells #[.int .i64 0] m) 2)) := ⟨_, rfl⟩
  rw [← hW0]
  have hb0 : Below w2.heap.size w2 W0 := by rw [hW0]; exact ((Below.refl _ _).alloc (Nat.le_refl _) _).alloc (by simp) _
  have HAW : Hid (ArcsAt W0 w2.heap.size A' (2 * l2) S) := Lib.hid (HAS.out.below hb0)
  have HBW : Hid (Below w.heap.size w W0) := Lib.hid (HX2.out.below.trans (hb0.mono HX2.out.below.size))
  have HSZ : Hid (W0.heap.size = w2.heap.size + 1 + 1) := Lib.hid (by rw [hW0]; simp)
  have HBX : Hid (W0.heap[w2.heap.size]? = some (.cells #[.int .i64 m, .slice A' (2 * l2) cap'] 24 (0, 0))) := Lib.hid (by rw [hW0, Below.heap_alloc _ _ _ (by simp)]; exact (MapKept.heap_alloc w2 _).1)
  have HL0 : Hid (LowW W0 (w2.heap.size + 1) m (rndD (netP (m : Int) S) (feeP S) (fun _ => 0) 0) W0) := Lib.hid (by
    refine ⟨⟨madeCells #[.int .i64 0] m, ?_, fun j hj => by simp [madeCells, Nat.mod_one, hj]; rfl⟩, But.refl _ _⟩
    rw [hW0]
    have := (MapKept.heap_alloc (w2.alloc (.cells #[.int .i64 m, .slice A' (2 * l2) cap'] 24)) (.cells (madeCells #[.int .i64 0] m) 2)).1
    rwa [World.size_alloc] at this)
  have kN : ((w2.heap.size = w2.heap.size + 1) → False) := by omega
  have HNE := Lib.hid kN
  clear hW0 hb0 kN HAS
  have HC0 : Hid (∀ d W, LowW W0 (w2.heap.size + 1) m d W → W.cell? ⟨w2.heap.size, 0, none⟩ = some (.int .i64 m) ∧ W.cell? ⟨w2.heap.size, 1, none⟩ = some (.slice A' (2 * l2) cap')) := Lib.hid fun d W h =>
    ⟨h.cell (by omega) (by simp [World.cell?, HBX.out]), h.cell (by omega) (by simp [World.cell?, HBX.out])⟩
  have HLOW : Hid (∀ r W, r ≤ m → LowW W0 (w2.heap.size + 1) m (rndD (netP (m : Int) S) (feeP S) (fun _ => 0) r) W → Calls Try.prog 24 #[.agg #[.int .i64 m, .slice A' (2 * l2) cap'], .slice (some ⟨w2.heap.size + 1, 0, none⟩) m m] W fun e w' => e = .returned (.bool (lowB (netP (m : Int) S) (feeP S) (rndD (netP (m : Int) S) (feeP S) (fun _ => 0) r) (2 * l2))) ∧ LowW W0 (w2.heap.size + 1) m (rndD (netP (m : Int) S) (feeP S) (fun _ => 0) (r + 1)) w') := Lib.hid fun r W hr hW =>
    (lower_any m A' (2 * l2) cap' S (w2.heap.size + 1) m w2.heap.size _ W (hW.arcs HAW.out (Nat.le_succ _) (by have := HSZ.out; omega)) (Nat.le_succ _) hW.row HBIG.out HSF.out (HSM.out r hr)).mono fun e w' ⟨h1, h2, h3⟩ => ⟨h1, ⟨by
      show RowI w' (w2.heap.size + 1) m (lowK _ _ _ (netP (m : Int) S).K)
      rw [HNK.out]; exact h2, hW.but.trans h3⟩⟩
  go_loopw [23] (fun j wr => ∃ r : Nat, r ≤ m ∧ j = .int .i64 r ∧ Hid (LowW W0 (w2.heap.size + 1) m (rndD (netP (m : Int) S) (feeP S) (fun _ => 0) r) wr)) (fun j _ => m - (intOf j).toNat)
  case atStart => exact ⟨0, Nat.zero_le _, rfl, HL0⟩
  case round =>
    clear HL0
    obtain ⟨r, hr, rfl, HW⟩ := hrel
    have c0 := (HC0.out _ _ HW.out).1
    have c1 := (HC0.out _ _ HW.out).2
    by_cases hrm : r < m
    · go_wp2_with fail
      refine (HLOW.out r _ hr (by exact HW.out)).mono ?_
      rintro e w3 ⟨rfl, h2⟩
      have HN := Lib.hid h2
      clear h2 c0 c1
      go_wp2_with fail
      go_roundw
      case rel => exact ⟨r + 1, by omega, by go_num, HN⟩
      case measure => simp [intOf]; omega
    · obtain rfl : r = m := by omega
      go_wp2_with fail
      refine (HLOW.out r _ hr (by exact HW.out)).mono ?_
      rintro e w3 ⟨rfl, h2⟩
      have HBE : Hid (lowB (netP (r : Int) S) (feeP S) (rndD (netP (r : Int) S) (feeP S) (fun _ => 0) r) (2 * l2) = b) := Lib.hid (by
        have h := HB2.out
        rw [Bool.eq_iff_iff]; exact h.symm)
      have HBT : Hid (Below w.heap.size w w3) := Lib.hid (HBW.out.trans (h2.but.below (by have := HBW.out.size; omega) (fun b hb => by have := HX2.out.below.size; omega)))
      clear h2 c0 c1
      go_wp2_with fail
      go_ret2
      exact ⟨by rw [← HBE.out]; rfl, HBT.out⟩
end Go.Proofs.Ytmlmnmphmghdlaa
