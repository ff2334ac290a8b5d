/- ShortWalks, walked, for lists of at most 1048576 numbers: what is told is a walk, as long as is told; and no walk is shorter. -/
import Derived.Test.YtkpejmpnbdblbaaWalkKeep
import Derived.Test.YtkpejmpnbdblbaaShortBellman
import Derived.Test.YtkpejmpnbdblbaaOpenInts
namespace Go.Proofs.Ytkpejmpnbdblbaa
open Go.RowKit

theorem keepRest (n t : Int) (es : List A4) (s : Int) (hs : askF n es [s] = 0) (ht : ¬ (0 ≤ t ∧ t < n)) : askF n es [s, t] = 2 := by
  obtain ⟨h1, _⟩ := askF_zero hs
  exact askF_arg h1 fun h => ht (h t (by simp))
theorem keepFirst (n t : Int) (es : List A4) (s : Int) (hs : askF n es [s] ≠ 0) : askF n es [s, t] ≠ 0 := fun h => hs (by
  obtain ⟨h1, h2⟩ := askF_zero h
  exact askF_ok h1 fun x hx => h2 x (by simp at hx; simp [hx]))
theorem keepBoth (n t : Int) (es : List A4) (s : Int) (hs : askF n es [s] = 0) (ht : 0 ≤ t ∧ t < n) : askF n es [s, t] = 0 := by
  obtain ⟨h1, h2⟩ := askF_zero hs
  refine askF_ok h1 fun x hx => ?_
  rcases List.mem_cons.1 hx with rfl | hx
  · exact h2 x (by simp)
  · simp at hx; subst hx; exact ht
theorem reach_runW {m s : Nat} {es : List A4} (hG : GoodN (m : Int) es) (hF : FeeS es) (hs : s < m) (hS : ¬ SinksP (netA m es) s) (t : Nat) :
    (∀ l, runD (netA m es) s m t = some l → BestW (netA m es) s t l ∧ l.length ≤ 300) ∧ (runD (netA m es) s m t = none → ∀ l, ¬ PathL (netA m es) s t l) := by
  have hall := run_all (r := m) (netA_fee hG hF) (by decide) (netA_ok hG) (show s < (netA m es).n from hs) (netA_K hG) hS (Nat.le_succ m)
  refine ⟨fun l hl => ⟨(hall.1 t).1 l hl, ?_⟩, (hall.1 t).2⟩
  have h := ((OkD.run (N := netA m es) (netA_ok hG) (show s < (netA m es).n from hs) m).1 t l hl).2.1
  have h2 : m * (netA m es).K ≤ 10 * 30 := Nat.mul_le_mul (by have := hG.n1; omega) hG.len
  omega
set_option maxRecDepth 100000 in
set_option maxHeartbeats 4000000 in
theorem shortWalks_any (n : Int) (A : Option Addr) (len cap : Nat) (es : List A4) (s t : Int) (A3 : Option Addr) (len3 cap3 : Nat) (ms : List Int) (w : World) (hE : ArcsAt w w.heap.size A len es) (_ : len ≤ cap) (_ : ∀ e ∈ es, WfA e) (_ : (Lit.int .i64 n).wf = true) (_ : (Lit.int .i64 s).wf = true) (_ : (Lit.int .i64 t).wf = true)
    (hI : IntsAt w w.heap.size A3 len3 ms) (_ : len3 ≤ cap3) (_ : cap3 ≤ maxLen) (hsmall : len3 ≤ 1048576) :
    Calls Try.prog 7 #[.agg #[.int .i64 n, .slice A len cap], .int .i64 s, .int .i64 t, .slice A3 len3 cap3] w fun e w' => e = .returned (.bool true) ∧ Below w.heap.size w w' := by
  have HX := Lib.hid (BoxN.start (n := n) (cap := cap) hE)
  have HI := Lib.hid hI
  obtain ⟨x, hx⟩ : ∃ x, askF n es [s] = x := ⟨_, rfl⟩
  have HV := Lib.hid hx
  have k0 := HX.out.k0
  have k1 := HX.out.k1
  by_cases h0 : x = 0
  · subst h0
    obtain ⟨hn0, hsn⟩ := askF_zero hx
    have hG := good_of_netF hn0
    obtain ⟨m, rfl⟩ := Int.eq_ofNat_of_zero_le hG.n0
    obtain ⟨hs0, hs1⟩ := hsn s (by simp)
    obtain ⟨s, rfl⟩ := Int.eq_ofNat_of_zero_le hs0
    have hsm : s < m := by omega
    have hF := feeS_of_netF hn0
    have hm10 : m ≤ 10 := by have := hG.n1; omega
    obtain ⟨v, hv⟩ := sinks_bool (netA m es) s
    have HFG := Lib.hid (fun W hW => far_good m A len cap es s v W hW hn0 hsm hv)
    by_cases htn : 0 ≤ t ∧ t < (m : Int)
    · obtain ⟨t, rfl⟩ := Int.eq_ofNat_of_zero_le htn.1
      have htm : t < m := by omega
      have HWG := Lib.hid (fun W hW => way_good m A len cap es s t v W hW hn0 hsm htm hv)
      have HKW := Lib.hid (fun W A2 k c2 l hW hI hk => keepWalk_any m s t A len cap es A2 k c2 l W hW hG hF hsm hI hk)
      have HIN : Hid ([(t : Int)].all (isIn (m : Int)) = true) := Lib.hid (by simp [isIn]; omega)
      have HNS : Hid (v = false → ¬ SinksP (netA m es) s) := Lib.hid fun h hS => by rw [hv.2 hS] at h; cases h
      have HRR := Lib.hid (fun hS => reach_runW hG hF hsm hS t)
      have it0 : (0 : Int) ≤ (t : Int) := by omega
      have it1 : (t : Int) < (m : Int) := by omega
      clear hE hI hx hn0 hsn hG hs0 hs1 hv hF htn
      go_enter Try.func7, Try.ntmps7
      go_wp2_with fail
      refine (HWG.out _ HX.out.arcs).mono ?_
      cases v with
      | true =>
        rintro e w1 ⟨h1, _, hB⟩
        obtain rfl := h1 (.inl rfl)
        have HX1 := Lib.hid (HX.out.next hB)
        clear k0 k1 hB h1
        have k0 := HX1.out.k0
        have k1 := HX1.out.k1
        go_wp2_with fail
        refine (HFG.out _ HX1.out.arcs).mono ?_
        rintro e w2 ⟨h1, _, hB⟩
        obtain rfl := h1 rfl
        have HX2 := Lib.hid (HX1.out.next hB)
        clear k0 k1 hB h1
        have k0 := HX2.out.k0
        have k1 := HX2.out.k1
        go_wp2_with fail
        refine (keepNet_yes (m : Int) (s : Int) A len cap es _ (by exact HX2.out.arcs) HV.out).mono ?_
        rintro e w3 ⟨rfl, hB⟩
        have HX3 := Lib.hid (HX2.out.next hB)
        clear k0 k1 hB
        have k0 := HX3.out.k0
        have HI1 := Lib.hid (ints_one w3 (t : Int) 3)
        go_wp2_with fail
        refine (inside_v (m : Int) _ 1 1 [(t : Int)] true _ (by exact HI1.out) (by omega) HIN.out).mono ?_
        rintro e w4 ⟨rfl, rfl⟩
        go_wp2_with fail
        go_ret
        exact ⟨rfl, HX3.out.below.alloc (by have := HX3.out.lt; omega) _⟩
      | false =>
        rintro e w1 ⟨h1, h2, hB⟩
        have HX1 := Lib.hid (HX.out.next hB)
        have HB1 := Lib.hid (HX.out.below.trans (hB.mono HX.out.below.size))
        have hS := HNS.out rfl
        cases hD : runD (netA m es) s m t with
        | none =>
          obtain rfl := h1 (.inr hD)
          have HNO := Lib.hid ((HRR.out hS).2 hD)
          have HD := Lib.hid hD
          clear k0 k1 hB h1 h2 hD hS
          have k0 := HX1.out.k0
          have k1 := HX1.out.k1
          go_wp2_with fail
          refine (HFG.out _ HX1.out.arcs).mono ?_
          rintro e w2 ⟨_, h2, hB⟩
          obtain ⟨g1, g2, rfl, hr1, hr2, _⟩ := h2 rfl
          have HX2 := Lib.hid (HX1.out.next hB)
          have HR1 := Lib.hid hr1
          have HR2 := Lib.hid hr2
          clear k0 k1 hB h2 hr1 hr2
          have k0 := HX2.out.k0
          have k1 := HX2.out.k1
          go_wp2_with fail
          refine (keepNet_yes (m : Int) (s : Int) A len cap es _ (by exact HX2.out.arcs) HV.out).mono ?_
          rintro e w3 ⟨rfl, hB⟩
          have HX3 := Lib.hid (HX2.out.next hB)
          have HR3 := Lib.hid (HR2.out.keep hB)
          clear k0 k1 hB
          have k0 := HX3.out.k0
          have HI1 := Lib.hid (ints_one w3 (t : Int) 3)
          go_wp2_with fail
          refine (inside_v (m : Int) _ 1 1 [(t : Int)] true _ (by exact HI1.out) (by omega) HIN.out).mono ?_
          rintro e w4 ⟨rfl, rfl⟩
          have hb4 : Below w3.heap.size w3 (w3.alloc (.cells #[.int .i64 (t : Int)] 3)) := (Below.refl _ _).alloc (Nat.le_refl _) _
          generalize w3.alloc (.cells #[.int .i64 (t : Int)] 3) = w4 at *
          have HX4 := Lib.hid (HX3.out.next hb4)
          have HR4 := Lib.hid (HR3.out.keep hb4)
          clear k0 hb4 HI1
          have k0 := HX4.out.k0
          have k1 := HX4.out.k1
          have ct : w4.cell? ⟨g2, t, none⟩ = some (.bool false) := by
            have h := HR4.out.cell (i := t) (v := .bool (runD (netA m es) s m t).isSome) (by unfold isL; rw [List.getElem?_map, List.getElem?_range htm]; rfl)
            rwa [HD.out] at h
          go_wp2_with fail
          refine (HKW.out _ A3 len3 cap3 ms HX4.out.arcs (HI.out.go_ HX4.out.below) (by omega)).mono ?_
          rintro e w5 ⟨rfl, hB⟩
          have HX5 := Lib.hid (HX4.out.next hB)
          have hwb : wkB (netA m es) s t ms = false := by
            cases h : wkB (netA m es) s t ms with
            | false => rfl
            | true =>
              unfold wkB at h
              cases hw : wkF (netA m es) s ms with
              | none => rw [hw] at h; cases h
              | some p =>
                rw [hw] at h
                have h2 : p.2 = t := of_decide_eq_true h
                obtain ⟨y, e⟩ := p
                simp only at h2
                subst h2
                obtain ⟨l, _, hp, _⟩ := wkF_path _ _ _ hw
                exact absurd hp (HNO.out l)
          rw [hwb]
          clear k0 k1 ct hB hwb
          go_wp2_with fail
          go_ret
          exact ⟨rfl, HX5.out.below⟩
        | some l =>
          obtain ⟨A1, n1, c1, rfl, hp1⟩ := h2 rfl l hD
          have HBE := Lib.hid ((HRR.out hS).1 l hD)
          have HD := Lib.hid hD
          have HP1 := Lib.hid hp1
          clear k0 k1 hB h1 h2 hD hS hp1
          have k0 := HX1.out.k0
          have k1 := HX1.out.k1
          go_wp2_with fail
          refine (HFG.out _ HX1.out.arcs).mono ?_
          rintro e w2 ⟨_, h2, hB⟩
          obtain ⟨g1, g2, rfl, hr1, hr2, _⟩ := h2 rfl
          have HX2 := Lib.hid (HX1.out.next hB)
          have HP2 := Lib.hid (HP1.out.go_ hB)
          have HR1 := Lib.hid hr1
          have HR2 := Lib.hid hr2
          clear k0 k1 hB h2 hr1 hr2
          have k0 := HX2.out.k0
          have k1 := HX2.out.k1
          go_wp2_with fail
          refine (keepNet_yes (m : Int) (s : Int) A len cap es _ (by exact HX2.out.arcs) HV.out).mono ?_
          rintro e w3 ⟨rfl, hB⟩
          have HX3 := Lib.hid (HX2.out.next hB)
          have HP3 := Lib.hid (HP2.out.go_ hB)
          have HR3 := Lib.hid (And.intro (HR1.out.keep hB) (HR2.out.keep hB))
          clear k0 k1 hB
          have k0 := HX3.out.k0
          have HI1 := Lib.hid (ints_one w3 (t : Int) 3)
          go_wp2_with fail
          refine (inside_v (m : Int) _ 1 1 [(t : Int)] true _ (by exact HI1.out) (by omega) HIN.out).mono ?_
          rintro e w4 ⟨rfl, rfl⟩
          have hb4 : Below w3.heap.size w3 (w3.alloc (.cells #[.int .i64 (t : Int)] 3)) := (Below.refl _ _).alloc (Nat.le_refl _) _
          generalize w3.alloc (.cells #[.int .i64 (t : Int)] 3) = w4 at *
          have HX4 := Lib.hid (HX3.out.next hb4)
          have HP4 := Lib.hid (HP3.out.go_ hb4)
          have HR4 := Lib.hid (And.intro (HR3.out.1.keep hb4) (HR3.out.2.keep hb4))
          clear k0 hb4 HI1
          have k0 := HX4.out.k0
          have k1 := HX4.out.k1
          have ct : w4.cell? ⟨g2, t, none⟩ = some (.bool true) := by
            have h := HR4.out.2.cell (i := t) (v := .bool (runD (netA m es) s m t).isSome) (by unfold isL; rw [List.getElem?_map, List.getElem?_range htm]; rfl)
            rwa [HD.out] at h
          go_wp2_with fail
          refine (HKW.out _ A3 len3 cap3 ms HX4.out.arcs (HI.out.go_ HX4.out.below) (by omega)).mono ?_
          rintro e w5 ⟨rfl, hB⟩
          have HX5 := Lib.hid (HX4.out.next hB)
          have HP5 := Lib.hid (HP4.out.go_ hB)
          have HR5 := Lib.hid (HR4.out.1.keep hB)
          have HLE : Hid (wkB (netA m es) s t ms = true → lenL (netA m es) l ≤ wkX (netA m es) s ms) := Lib.hid fun h => by
            unfold wkB at h
            unfold wkX
            cases hw : wkF (netA m es) s ms with
            | none => rw [hw] at h; cases h
            | some p =>
              rw [hw] at h
              have h2 : p.2 = t := of_decide_eq_true h
              obtain ⟨y, e⟩ := p
              simp only at h2
              subst h2
              obtain ⟨q, _, hp, hq⟩ := wkF_path _ _ _ hw
              have := LessW.len_le (HBE.out.1.2 q hp)
              simp only
              omega
          have HLW : Hid (wkX (netA m es) s (lI l) = lenL (netA m es) l ∧ wkB (netA m es) s t (lI l) = true) := Lib.hid (by
            unfold wkX wkB
            rw [path_wkF HBE.out.1.1]
            exact ⟨rfl, decide_eq_true rfl⟩)
          generalize hy : wkX (netA m es) s ms = y at *
          generalize hb : wkB (netA m es) s t ms = b at *
          clear k0 k1 ct hB hy hb
          have k0 := HX5.out.k0
          have k1 := HX5.out.k1
          have hn1 : n1 ≤ 4194304 := by have h1 := HP5.out.len; have h2 := HBE.out.2; omega
          go_wp2_with fail
          refine (HKW.out _ A1 n1 c1 (lI l) HX5.out.arcs HP5.out.ints hn1).mono ?_
          rintro e w6 ⟨rfl, hB⟩
          have HX6 := Lib.hid (HX5.out.next hB)
          rw [HLW.out.1, HLW.out.2]
          have cf : w6.cell? ⟨g1, t, none⟩ = some (.int .i64 (lenL (netA m es) l)) := by
            have h := (HR5.out.keep hB).cell (i := t) (v := .int .i64 (farV (netA m es) (runD (netA m es) s m) t)) (by unfold farL; rw [List.getElem?_map, List.getElem?_range htm]; rfl)
            rwa [show farV (netA m es) (runD (netA m es) s m) t = lenL (netA m es) l by unfold farV; rw [HD.out]] at h
          generalize lenL (netA m es) l = z at *
          clear k0 k1 hB HLW
          cases b with
          | false =>
            clear HLE
            go_wp2_with fail
            go_ret
            exact ⟨rfl, HX6.out.below⟩
          | true =>
            have hle := HLE.out rfl
            have hlb : decide (z ≤ y) = true := decide_eq_true hle
            clear HLE hle
            go_wp2_with fail
            go_ret
            exact ⟨rfl, HX6.out.below⟩
    · have HVT := Lib.hid (keepRest (m : Int) t es (s : Int) hx htn)
      have HIN : Hid ([t].all (isIn (m : Int)) = false) := Lib.hid (by simp [isIn]; omega)
      clear hE hI hx hn0 hsn hG hs0 hs1 hF htn
      go_enter Try.func7, Try.ntmps7
      go_wp2_with fail
      refine (way_bad (m : Int) 2 A len cap es (s : Int) t _ (by exact HX.out.arcs) HVT.out (by decide)).mono ?_
      rintro e w1 ⟨rfl, hB⟩
      have HX1 := Lib.hid (HX.out.next hB)
      clear k0 k1 hB
      have k0 := HX1.out.k0
      have k1 := HX1.out.k1
      go_wp2_with fail
      refine (HFG.out _ HX1.out.arcs).mono ?_
      rintro e w2 ⟨h1, h2, hB⟩
      have HX2 := Lib.hid (HX1.out.next hB)
      obtain ⟨q1, q2, q3, he⟩ : ∃ q1 q2 q3, e = .returned (.tuple #[q1, q2, q3]) := by
        cases v with
        | true => exact ⟨_, _, _, h1 rfl⟩
        | false => obtain ⟨g1, g2, h3, _⟩ := h2 rfl; exact ⟨_, _, _, h3⟩
      subst he
      clear k0 k1 hB h1 h2
      have k0 := HX2.out.k0
      have k1 := HX2.out.k1
      go_wp2_with fail
      refine (keepNet_yes (m : Int) (s : Int) A len cap es _ (by exact HX2.out.arcs) HV.out).mono ?_
      rintro e w3 ⟨rfl, hB⟩
      have HX3 := Lib.hid (HX2.out.next hB)
      clear k0 k1 hB
      have k0 := HX3.out.k0
      have HI1 := Lib.hid (ints_one w3 t 3)
      go_wp2_with fail
      refine (inside_v (m : Int) _ 1 1 [t] false _ (by exact HI1.out) (by omega) HIN.out).mono ?_
      rintro e w4 ⟨rfl, rfl⟩
      go_wp2_with fail
      go_ret
      exact ⟨rfl, HX3.out.below.alloc (by have := HX3.out.lt; omega) _⟩
  · have HH0 := Lib.hid h0
    have HNO : Hid (askF n es [s] ≠ 0) := Lib.hid (by rw [hx]; exact h0)
    obtain ⟨y, hy⟩ : ∃ y, askF n es [s, t] = y := ⟨_, rfl⟩
    have hy0 : y ≠ 0 := by rw [← hy]; exact keepFirst n t es s HNO.out
    have HVT := Lib.hid (And.intro hy hy0)
    have hyb : (y != 0) = true := by simpa using hy0
    clear hE hI hx h0 hy hy0
    go_enter Try.func7, Try.ntmps7
    go_wp2_with fail
    refine (way_bad n y A len cap es s t _ (by exact HX.out.arcs) HVT.out.1 HVT.out.2).mono ?_
    rintro e w1 ⟨rfl, hB⟩
    have HX1 := Lib.hid (HX.out.next hB)
    clear k0 k1 hB
    have k0 := HX1.out.k0
    have k1 := HX1.out.k1
    go_wp2_with fail
    refine (far_bad n x A len cap es s _ (by exact HX1.out.arcs) HV.out HH0.out).mono ?_
    rintro e w2 ⟨rfl, hB⟩
    have HX2 := Lib.hid (HX1.out.next hB)
    clear k0 k1 hB
    have k0 := HX2.out.k0
    have k1 := HX2.out.k1
    go_wp2_with fail
    refine (keepNet_no n s A len cap es _ (by exact HX2.out.arcs) HNO.out).mono ?_
    rintro e w3 ⟨rfl, hB⟩
    have HX3 := Lib.hid (HX2.out.next hB)
    clear k0 k1 hB
    go_wp2_with fail
    go_ret
    exact ⟨rfl, HX3.out.below⟩
end Go.Proofs.Ytkpejmpnbdblbaa
