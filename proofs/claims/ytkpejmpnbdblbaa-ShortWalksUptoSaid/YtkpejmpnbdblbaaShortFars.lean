/- ShortFars, walked: Far tells how far all are, or that it gets shorter for ever. -/
import Derived.Test.YtkpejmpnbdblbaaLawReach
import Derived.Test.YtkpejmpnbdblbaaOpenNet
namespace Go.Proofs.Ytkpejmpnbdblbaa
open Go.RowKit

theorem sinks_bool (N : ArcsF) (s : Nat) : ∃ v : Bool, v = true ↔ SinksP N s := by
  classical
  exact ⟨decide (SinksP N s), decide_eq_true_iff⟩
theorem out_far {m s : Nat} {es : List A4} (hG : GoodN (m : Int) es) (hF : FeeS es) (hs : s < m) (hS : ¬ SinksP (netA m es) s) (t : Nat) : outF (reachV (netA m es) s m) t = farV (netA m es) (runD (netA m es) s m) t ∧ outB (reachV (netA m es) s m) t = (runD (netA m es) s m t).isSome := by
  have hm10 : m ≤ 10 := by have := hG.n1; omega
  have h := run_bf (netA_fee hG hF) (by decide) (netA_ok hG) (show s < (netA m es).n from hs) (netA_K hG) hS (r := m) (k := m) (Nat.le_succ m) (Nat.le_succ m) t
  unfold outF outB reachV farV
  cases hd : runD (netA m es) s m t with
  | none =>
    rw [h, hd]
    exact ⟨if_pos rfl, if_pos rfl⟩
  | some l =>
    rw [hd] at h
    have hb := bfR_abs (netA_fee hG hF) (by decide) h
    rw [h]
    have hne : ¬ encR (Option.map (lenL (netA m es)) (some l)) = 1152921504606846976 := by
      show ¬ lenL (netA m es) l = _
      omega
    exact ⟨(if_neg hne).trans rfl, (if_neg hne).trans rfl⟩
theorem farL_ints (N : ArcsF) (D : Nat → Option (List Nat)) (m : Nat) : farL N D m = ((List.range m).map (farV N D)).map (Value.int .i64) := by
  unfold farL; rw [List.map_map]; rfl
theorem isL_bools (D : Nat → Option (List Nat)) (m : Nat) : isL D m = ((List.range m).map fun t => (D t).isSome).map Value.bool := by
  unfold isL; rw [List.map_map]; rfl
theorem far_ints {w : World} {g m : Nat} {N : ArcsF} {D : Nat → Option (List Nat)} (h : RowOf w g 2 (farL N D m)) : IntsAt w w.heap.size (some ⟨g, 0, none⟩) m ((List.range m).map (farV N D)) := by
  rw [farL_ints] at h
  have h2 := IntsAt.of_row h h.lt
  rwa [List.length_map, List.length_range] at h2
theorem is_bools {w : World} {g m : Nat} {D : Nat → Option (List Nat)} (h : RowOf w g 4 (isL D m)) : BoolsAt w w.heap.size (some ⟨g, 0, none⟩) m ((List.range m).map fun t => (D t).isSome) := by
  rw [isL_bools] at h
  have h2 := BoolsAt.of_row h h.lt
  rwa [List.length_map, List.length_range] at h2
theorem askF_zero {n : Int} {es : List A4} {xs : List Int} (h : askF n es xs = 0) : netF n es = 0 ∧ ∀ x ∈ xs, 0 ≤ x ∧ x < n := by
  by_cases h0 : netF n es = 0
  · refine ⟨h0, ?_⟩
    apply Classical.byContradiction
    intro hx
    rw [askF_arg h0 hx] at h
    cases h
  · rw [askF_bad h0] at h; exact absurd h h0
set_option maxRecDepth 100000 in
set_option maxHeartbeats 2000000 in
theorem shortFars_any (n : Int) (A : Option Addr) (len cap : Nat) (es : List A4) (s : Int) (w : World) (hE : ArcsAt w w.heap.size A len es) (_ : len ≤ cap) (_ : ∀ e ∈ es, WfA e) (_ : (Lit.int .i64 n).wf = true) (_ : (Lit.int .i64 s).wf = true) :
    Calls Try.prog 3 #[.agg #[.int .i64 n, .slice A len cap], .int .i64 s] w fun e w' => e = .returned (.bool true) ∧ Below w.heap.size w w' := by
  have HX := Lib.hid (BoxN.start (n := n) (cap := cap) hE)
  obtain ⟨x, hx⟩ : ∃ x, askF n es [s] = x := ⟨_, rfl⟩
  have HV := Lib.hid hx
  have k0 := HX.out.k0
  have k1 := HX.out.k1
  by_cases h0 : x = 0
  · subst h0
    obtain ⟨hn0, hsn⟩ := askF_zero hx
    have hG := good_of_netF hn0
    obtain ⟨m, rfl⟩ := Int.eq_ofNat_of_zero_le hG.n0
    obtain ⟨hs0, hs1⟩ := hsn s (by simp)
    obtain ⟨s, rfl⟩ := Int.eq_ofNat_of_zero_le hs0
    have hsm : s < m := by omega
    obtain ⟨v, hv⟩ := sinks_bool (netA m es) s
    have HFG := Lib.hid (fun W hW => far_good m A len cap es s v W hW hn0 hsm hv)
    have HSI := Lib.hid (fun W hW => sinks_v m s A len cap es v W hW hG (feeS_of_netF hn0) hsm hv)
    have HLR := Lib.hid (fun W hW => lawReach_any m s A len cap es W hW hG (feeS_of_netF hn0) hsm)
    have HOF := Lib.hid (fun hS => out_far hG (feeS_of_netF hn0) hsm hS)
    have HVV := Lib.hid hv
    have hm10 : m ≤ 10 := by have := hG.n1; omega
    clear hE hx hn0 hsn hG hs0 hs1 hv
    go_enter Try.func3, Try.ntmps3
    go_wp2_with fail
    refine (HFG.out _ HX.out.arcs).mono ?_
    cases v with
    | true =>
      rintro e w1 ⟨h1, _, hB⟩
      obtain rfl := h1 rfl
      have HX1 := Lib.hid (HX.out.next hB)
      clear k0 k1 hB HFG HLR HOF
      have k0 := HX1.out.k0
      have k1 := HX1.out.k1
      go_wp2_with fail
      refine (nodeCheck_v (m : Int) (s : Int) 0 A len cap es _ (by exact HX1.out.arcs) HV.out).mono ?_
      rintro e w2 ⟨rfl, hB⟩
      have HX2 := Lib.hid (HX1.out.next hB)
      clear k0 k1 hB
      have k0 := HX2.out.k0
      have k1 := HX2.out.k1
      go_wp2_with fail
      refine (HSI.out _ HX2.out.arcs).mono ?_
      rintro e w3 ⟨rfl, hB⟩
      have HX3 := Lib.hid (HX2.out.next hB)
      clear k0 k1 hB
      go_wp2_with fail
      go_ret
      exact ⟨rfl, HX3.out.below⟩
    | false =>
      rintro e w1 ⟨_, h2, hB⟩
      obtain ⟨g1, g2, rfl, hr1, hr2, _⟩ := h2 rfl
      have HX1 := Lib.hid (HX.out.next hB)
      have HR1 := Lib.hid (far_ints hr1)
      have HR2 := Lib.hid (is_bools hr2)
      have HOO := Lib.hid (HOF.out (fun h => by have := HVV.out.2 h; cases this))
      clear k0 k1 hB HFG hr1 hr2
      have k0 := HX1.out.k0
      have k1 := HX1.out.k1
      go_wp2_with fail
      refine (nodeCheck_v (m : Int) (s : Int) 0 A len cap es _ (by exact HX1.out.arcs) HV.out).mono ?_
      rintro e w2 ⟨rfl, hB⟩
      have HX2 := Lib.hid (HX1.out.next hB)
      have HB2 := Lib.hid hB
      clear k0 k1 hB
      have k0 := HX2.out.k0
      have k1 := HX2.out.k1
      go_wp2_with fail
      refine (HSI.out _ HX2.out.arcs).mono ?_
      rintro e w3 ⟨rfl, hB⟩
      have HX3 := Lib.hid (HX2.out.next hB)
      have HB3 := Lib.hid (HB2.out.trans (hB.mono HB2.out.size))
      clear k0 k1 hB
      have k0 := HX3.out.k0
      have k1 := HX3.out.k1
      go_wp2_with fail
      refine (HLR.out _ HX3.out.arcs).mono ?_
      rintro e w4 ⟨⟨A1, c1, A2, c2, rfl, hi1, hi2⟩, hB⟩
      have HX4 := Lib.hid (HX3.out.next hB)
      have HB4 := Lib.hid (HB3.out.trans (hB.mono HB3.out.size))
      have HI1 := Lib.hid hi1
      have HI2 := Lib.hid hi2
      clear k0 k1 hB hi1 hi2
      go_wp2_with fail
      refine (longs_v _ A1 m m m c1 _ _ true w4 (HR1.out.go_ HB4.out) HI1.out (by omega) (by omega) ⟨fun _ => List.map_congr_left fun t _ => (HOO.out t).1.symm, fun _ => rfl⟩).mono ?_
      rintro e w5 ⟨rfl, q5, rfl⟩
      have HBQ : Hid (Below w4.heap.size w4 (w4.drewN q5)) := Lib.hid (below_drewN (Below.refl _ _) q5)
      have HI3 : Hid (BoolsAt (w4.drewN q5) (w4.drewN q5).heap.size A2 m ((List.range m).map fun t => (runD (netA m es) s m t).isSome)) := Lib.hid (by
        have h := HI2.out.go_ HBQ.out
        rwa [List.map_congr_left (g := fun t => (runD (netA m es) s m t).isSome) fun t _ => (HOO.out t).2] at h)
      go_wp2_with fail
      refine (bools_same _ A2 m m c2 _ _ ((HR2.out.go_ HB4.out).go_ HBQ.out) HI3.out (by omega)).mono ?_
      rintro e w6 ⟨rfl, q6, rfl⟩
      go_wp2_with fail
      go_ret
      exact ⟨rfl, below_drewN HX4.out.below _⟩
  · have HH0 := Lib.hid h0
    have hx0 : (x != 0) = true := by simpa using h0
    have hx1 : (x == 0) = false := by simpa using h0
    clear hE hx h0
    go_enter Try.func3, Try.ntmps3
    go_wp2_with fail
    refine (far_bad n x A len cap es s _ (by exact HX.out.arcs) HV.out HH0.out).mono ?_
    rintro e w1 ⟨rfl, hB⟩
    have HX1 := Lib.hid (HX.out.next hB)
    clear k0 k1 hB
    have k0 := HX1.out.k0
    have k1 := HX1.out.k1
    go_wp2_with fail
    refine (nodeCheck_v n s x A len cap es _ (by exact HX1.out.arcs) HV.out).mono ?_
    rintro e w2 ⟨rfl, hB⟩
    have HX2 := Lib.hid (HX1.out.next hB)
    clear k0 k1 hB
    go_wp2_with fail
    go_ret
    exact ⟨rfl, HX2.out.below⟩
end Go.Proofs.Ytkpejmpnbdblbaa
