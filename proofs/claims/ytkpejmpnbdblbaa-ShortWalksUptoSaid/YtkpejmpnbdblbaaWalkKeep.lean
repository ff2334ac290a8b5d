/- The keepers' walk: is a list of arcs one from s to t, and how long? -/
import Derived.Test.YtkpejmpnbdblbaaWkP
import Derived.Test.YtkpejmpnbdblbaaRefReach
import Derived.Test.YtkpejmpnbdblbaaInsideV
import Derived.Test.YtkpejmpnbdblbaaFarTop
namespace Go.Proofs.Ytkpejmpnbdblbaa
open Go.RowKit

set_option maxRecDepth 100000 in
set_option maxHeartbeats 2000000 in
theorem keepWalk_any (m s t : Nat) (A : Option Addr) (len cap : Nat) (es : List A4) (A2 : Option Addr) (k c2 : Nat) (ms : List Int) (w : World) (hE : ArcsAt w w.heap.size A len es) (hG : GoodN (m : Int) es) (hF : FeeS es) (hs : s < m)
    (hI : IntsAt w w.heap.size A2 k ms) (hk : k ≤ 4194304) :
    Calls Try.prog 22 #[.agg #[.int .i64 (m : Int), .slice A len cap], .int .i64 (s : Int), .int .i64 (t : Int), .slice A2 k c2] w fun e w' => e = .returned (.tuple #[.int .i64 (wkX (netA m es) s ms), .bool (wkB (netA m es) s t ms)]) ∧ Below w.heap.size w w' := by
  have hl30 : len ≤ 30 := by have := hG.len; have := hE.1; omega
  have hm10 : m ≤ 10 := by have := hG.n1; omega
  have HX := Lib.hid (FrN.start (w := w) (n := (m : Int)) (A := A) (len := len) (cap := cap))
  have HE := Lib.hid hE
  have HI := Lib.hid hI
  have HML := Lib.hid hI.1
  have HG := Lib.hid hG
  have HFE := Lib.hid (netA_fee hG hF)
  have HKL : Hid ((netA m es).K = len) := Lib.hid hE.1
  clear hE hI hG hF
  go_enter Try.func22, Try.ntmps22
  go_wp2_with fail
  go_loopw [1, 8, 9, 10, 12, 15] (fun x1 _ _ x _ y wr => ∃ (i c : Nat) (z : Int), i ≤ k ∧ y = .int .i64 i ∧ x1 = .int .i64 c ∧ c < m ∧ x = .int .i64 z ∧ -(1048576 * (i : Int)) ≤ z ∧ z ≤ 1048576 * (i : Int) ∧ Hid (wkF (netA m es) s (ms.take i) = some (z, c)) ∧ Hid (FrN w (m : Int) A len cap wr)) (fun _ _ _ _ _ y _ => k - (intOf y).toNat)
  case atStart => exact ⟨0, s, 0, Nat.zero_le _, rfl, rfl, hs, rfl, by simp, by simp, Lib.hid rfl, HX⟩
  case round =>
    clear HX
    obtain ⟨i, c, z, hi, rfl, rfl, hc, rfl, hz1, hz2, HW, HR⟩ := hrel
    by_cases hlt : i < k
    · obtain ⟨bi, oi, p, rfl, hbi, hp, hcp⟩ := (HI.out.go_ HR.out.below).at_ hlt
      have HTK : Hid (ms.take (i + 1) = ms.take i ++ [p] ∧ (wkF (netA m es) s (ms.take (i + 1)) = none → wkF (netA m es) s ms = none)) := Lib.hid ⟨by
        obtain ⟨h1, h2⟩ := List.getElem?_eq_some_iff.1 hp
        rw [List.take_succ_eq_append_getElem h1, h2], fun hn => by rw [← List.take_append_drop (i + 1) ms]; exact wkF_none hn⟩
      have k1 := HR.out.k1
      have hlw := HR.out.lt
      have ik0 : (0 : Int) ≤ (i : Int) := by omega
      have ik1 : (i : Int) < (k : Int) := by omega
      have HI1 := Lib.hid (ints_one wr p 3)
      have hbiw : bi < wr.heap.size := hbi
      clear hp
      by_cases hin : 0 ≤ p ∧ p < (len : Int)
      · obtain ⟨q, rfl⟩ := Int.eq_ofNat_of_zero_le hin.1
        have hql : q < len := by omega
        have HIN : Hid ([(q : Int)].all (isIn (len : Int)) = true) := Lib.hid (by simp [isIn]; omega)
        obtain ⟨bb, off, ⟨x0, x1, x2, x3⟩, rfl, hbb, hx, hc0', hc1, hc2, hc3⟩ := (HR.out.arcs HE.out).at_ hql
        obtain ⟨e0, e1, e2, l0, l1, l2⟩ := netA_at HG.out hx
        simp only at e0 e1 e2 hc0' hc1 hc2 hc3
        subst e0 e1
        obtain ⟨f1, f2⟩ := HFE.out q l2
        rw [e2] at f1 f2
        have HFR := Lib.hid e2
        generalize hfr : (netA m es).fr q = fr at *
        generalize hto : (netA m es).to q = to at *
        have HFT := Lib.hid (And.intro hfr hto)
        have iq0 : (0 : Int) ≤ (q : Int) := by omega
        have iq1 : (q : Int) < (len : Int) := by omega
        have hbbw : bb < wr.heap.size := hbb
        clear hx e2 hfr hto l2 hin
        go_wp2_with fail
        refine (inside_v (len : Int) _ 1 1 [(q : Int)] true _ (by exact HI1.out) (by omega) HIN.out).mono ?_
        rintro e w2 ⟨rfl, rfl⟩
        have HR2 : Hid (FrN w (m : Int) (some ⟨bb, off, none⟩) len cap (wr.alloc (.cells #[.int .i64 (q : Int)] 3))) := Lib.hid (HR.out.later ((Below.refl _ _).alloc (Nat.le_refl _) _))
        by_cases hfc : fr = c
        · have hfb : ((fr : Int) != (c : Int)) = false := by simp [hfc]
          have hfn : (fr != c) = false := by simp [hfc]
          have hw1 : IntKind.i64.wrap (z + x3) = z + x3 := IntWalk.i64_in _ (by omega)
          have hw2 : wrap64 (z + x3) = z + x3 := by unfold wrap64; omega
          have HN : Hid (wkF (netA m es) s (ms.take (i + 1)) = some (z + x3, to)) := Lib.hid (by
            have h := wkF_one (k := (q : Int)) HW.out (by omega) (by rw [HKL.out]; omega) (by rw [Int.toNat_natCast, HFT.out.1, hfc])
            rw [Int.toNat_natCast, HFR.out, HFT.out.2] at h
            rw [HTK.out.1]; exact h)
          have HZ : Hid (-(1048576 * ((i + 1 : Nat) : Int)) ≤ z + x3 ∧ z + x3 ≤ 1048576 * ((i + 1 : Nat) : Int)) := Lib.hid (by omega)
          clear hfc HW hz1 hz2
          go_wp2_with fail
          go_roundw
          case rel => exact ⟨i + 1, to, z + x3, by omega, by go_num, rfl, l1, rfl, HZ.out.1, HZ.out.2, HN, HR2⟩
          case measure => simp [intOf]; omega
        · have hfb : ((fr : Int) != (c : Int)) = true := by simp; omega
          have hfn : (fr != c) = true := by simp [hfc]
          have HN : Hid (wkF (netA m es) s ms = none) := Lib.hid (HTK.out.2 (by
            rw [HTK.out.1]
            exact wkF_bad HW.out fun h => hfc (by rw [← HFT.out.1, ← h.2.2, Int.toNat_natCast])))
          clear hfc HW hz1 hz2
          go_wp2_with fail
          go_ret2
          exact ⟨by unfold wkX wkB; rw [HN.out]; rfl, HR2.out.below⟩
      · have HIN : Hid ([p].all (isIn (len : Int)) = false) := Lib.hid (by simp [isIn]; omega)
        have HN : Hid (wkF (netA m es) s ms = none) := Lib.hid (HTK.out.2 (by
          rw [HTK.out.1]
          exact wkF_bad HW.out fun h => hin ⟨h.1, by rw [← HKL.out]; exact h.2.1⟩))
        have HR2 : Hid (FrN w (m : Int) A len cap (wr.alloc (.cells #[.int .i64 p] 3))) := Lib.hid (HR.out.later ((Below.refl _ _).alloc (Nat.le_refl _) _))
        clear hin HW hz1 hz2
        go_wp2_with fail
        refine (inside_v (len : Int) _ 1 1 [p] false _ (by exact HI1.out) (by omega) HIN.out).mono ?_
        rintro e w2 ⟨rfl, rfl⟩
        go_wp2_with fail
        go_ret2
        exact ⟨by unfold wkX wkB; rw [HN.out]; rfl, HR2.out.below⟩
    · obtain rfl : i = k := by omega
      have HF : Hid (wkF (netA m es) s ms = some (z, c)) := Lib.hid (by
        have h := HW.out
        rwa [List.take_of_length_le (by rw [HML.out]; exact Nat.le_refl _)] at h)
      have HRES : Hid (wkX (netA m es) s ms = z ∧ wkB (netA m es) s t ms = ((c : Int) == (t : Int))) := Lib.hid (by
        unfold wkX wkB
        rw [HF.out]
        refine ⟨rfl, ?_⟩
        show decide (c = t) = _
        rw [Bool.eq_iff_iff]
        simp only [decide_eq_true_eq, beq_iff_eq]
        omega)
      clear HW hz1 hz2
      go_wp2_with fail
      go_ret2
      exact ⟨by rw [HRES.out.1, HRES.out.2]; rfl, HR.out.below⟩
end Go.Proofs.Ytkpejmpnbdblbaa
