/- ShortWays, walked: Way tells the first shortest walk, or that there is none. -/
import Derived.Test.YtkpejmpnbdblbaaRefWay
import Derived.Test.YtkpejmpnbdblbaaShortFars
import Derived.Test.YtkpejmpnbdblbaaIntsAny
namespace Go.Proofs.Ytkpejmpnbdblbaa
open Go.RowKit

theorem reach_run {m s : Nat} {es : List A4} (hG : GoodN (m : Int) es) (hF : FeeS es) (hs : s < m) (hS : ¬ SinksP (netA m es) s) (t : Nat) :
    (∀ l, runD (netA m es) s m t = some l → reachV (netA m es) s m t = lenL (netA m es) l ∧ -104857600 ≤ lenL (netA m es) l ∧ lenL (netA m es) l ≤ 104857600 ∧ BestW (netA m es) s t l) ∧ (runD (netA m es) s m t = none → reachV (netA m es) s m t = 1152921504606846976) := by
  have hm10 : m ≤ 10 := by have := hG.n1; omega
  have h := run_bf (netA_fee hG hF) (by decide) (netA_ok hG) (show s < (netA m es).n from hs) (netA_K hG) hS (r := m) (k := m) (Nat.le_succ m) (Nat.le_succ m) t
  have hall := run_all (r := m) (netA_fee hG hF) (by decide) (netA_ok hG) (show s < (netA m es).n from hs) (netA_K hG) hS (Nat.le_succ m)
  refine ⟨fun l hl => ?_, fun hn => ?_⟩
  · rw [hl] at h
    have hb := bfR_abs (netA_fee hG hF) (by decide) h
    exact ⟨by unfold reachV; rw [h]; rfl, by omega, by omega, (hall.1 t).1 l hl⟩
  · rw [hn] at h
    unfold reachV
    rw [h]; rfl
theorem way_eq {m s t : Nat} {es : List A4} {l l2 : List Nat} (hG : GoodN (m : Int) es) (hF : FeeS es) (hs : s < m) (hS : ¬ SinksP (netA m es) s) (hl : runD (netA m es) s m t = some l) (hw : WayF (netA m es) m s t l2) : l = l2 := by
  have hM := netA_fee hG hF
  obtain ⟨h1, h2, h3, hb⟩ := (reach_run hG hF hs hS t).1 l hl
  obtain ⟨L, hL, e1, e2, hg, c, hc⟩ := hw
  have hLf : (1048576 : Int) * (L : Int) < farE := by unfold farE; omega
  obtain ⟨g1, g2, g3⟩ := greedy_path hM (by decide) L s l2 hLf hg ⟨c, hc⟩
  have e3 : lenL (netA m es) l2 = lenL (netA m es) l := by
    rw [← h1, ← e1]; unfold exV; rw [g3]; rfl
  refine LessW.total (netA_K hG) hb.1 g1 (fun hlt => ?_) (hb.2 l2 g1)
  unfold LessW lessL at hlt
  rcases hlt with h | ⟨_, h | ⟨h4, h5⟩⟩
  · omega
  · -- fewer arcs
    refine e2 l.length (by omega) ?_
    obtain ⟨c', h6, h7⟩ := ex_least l.length s _ hb.1.walk
    obtain ⟨q, _, h9, h10⟩ := (ex_sound l.length s c' h6).path
    have h11 := LessW.len_le (hb.2 q h9)
    rw [h1]
    unfold exV
    rw [h6]
    simp only [encR]; omega
  · have := greedy_least hM (by decide) (netA_K hG) L s l2 l [] hLf hg ⟨c, hc⟩ hb.1 (by omega) (by rw [g3, e3])
    simp only [List.nil_append] at this
    omega
theorem way_none {m s t : Nat} {es : List A4} {l2 : List Nat} (hG : GoodN (m : Int) es) (hF : FeeS es) (hs : s < m) (hS : ¬ SinksP (netA m es) s) (hl : runD (netA m es) s m t = none) (hw : WayF (netA m es) m s t l2) : False := by
  have h := (reach_run hG hF hs hS t).2 hl
  obtain ⟨L, hL, e1, _, _, c, hc⟩ := hw
  have hb := exR_abs (netA_fee hG hF) hc
  rw [h] at e1
  unfold exV at e1
  rw [hc] at e1
  simp only [encR] at e1
  omega
set_option maxRecDepth 100000 in
set_option maxHeartbeats 2000000 in
theorem shortWays_any (n : Int) (A : Option Addr) (len cap : Nat) (es : List A4) (s t : Int) (w : World) (hE : ArcsAt w w.heap.size A len es) (_ : len ≤ cap) (_ : ∀ e ∈ es, WfA e) (_ : (Lit.int .i64 n).wf = true) (_ : (Lit.int .i64 s).wf = true) (_ : (Lit.int .i64 t).wf = true) :
    Calls Try.prog 5 #[.agg #[.int .i64 n, .slice A len cap], .int .i64 s, .int .i64 t] w fun e w' => e = .returned (.bool true) ∧ Below w.heap.size w w' := by
  have HX := Lib.hid (BoxN.start (n := n) (cap := cap) hE)
  obtain ⟨x, hx⟩ : ∃ x, askF n es [s, t] = x := ⟨_, rfl⟩
  have HV := Lib.hid hx
  have k0 := HX.out.k0
  have k1 := HX.out.k1
  by_cases h0 : x = 0
  · subst h0
    obtain ⟨hn0, hsn⟩ := askF_zero hx
    have hG := good_of_netF hn0
    obtain ⟨m, rfl⟩ := Int.eq_ofNat_of_zero_le hG.n0
    obtain ⟨hs0, hs1⟩ := hsn s (by simp)
    obtain ⟨ht0, ht1⟩ := hsn t (by simp)
    obtain ⟨s, rfl⟩ := Int.eq_ofNat_of_zero_le hs0
    obtain ⟨t, rfl⟩ := Int.eq_ofNat_of_zero_le ht0
    have hsm : s < m := by omega
    have htm : t < m := by omega
    have hF := feeS_of_netF hn0
    obtain ⟨v, hv⟩ := sinks_bool (netA m es) s
    have HVS : Hid (askF (m : Int) es [(s : Int)] = 0) := Lib.hid (askF_ok hn0 fun x hx => by simp at hx; omega)
    have HVT : Hid (askF (m : Int) es [(t : Int)] = 0) := Lib.hid (askF_ok hn0 fun x hx => by simp at hx; omega)
    have HFG := Lib.hid (fun W hW => way_good m A len cap es s t v W hW hn0 hsm htm hv)
    have HRW := Lib.hid (fun W hW => refWay_any m s t A len cap es v W hW hG hF hsm htm hv)
    have HEQ := Lib.hid (fun hS l l2 hl hw => way_eq (t := t) (l := l) (l2 := l2) hG hF hsm hS hl hw)
    have HNN := Lib.hid (fun hS l2 hl hw => way_none (t := t) (l2 := l2) hG hF hsm hS hl hw)
    have HRR := Lib.hid (fun hS => reach_run hG hF hsm hS t)
    have HNS : Hid (v = false → ¬ SinksP (netA m es) s) := Lib.hid fun h hS => by rw [hv.2 hS] at h; cases h
    clear hE hx hn0 hsn hG hs0 hs1 ht0 ht1 hv hF
    go_enter Try.func5, Try.ntmps5
    go_wp2_with fail
    refine (HFG.out _ HX.out.arcs).mono ?_
    rintro e w1 ⟨h1, h2, hB⟩
    have HX1 := Lib.hid (HX.out.next hB)
    clear HFG
    have hcs : (Hid (v = true ∨ runD (netA m es) s m t = none) ∧ e = .returned (.tuple #[.slice none 0 0, .int .i64 5])) ∨ ∃ l A1 n1 c1, Hid (v = false ∧ runD (netA m es) s m t = some l) ∧ e = .returned (.tuple #[.slice A1 n1 c1, .int .i64 0]) ∧ Hid (PlAt w1 w1.heap.size A1 n1 c1 l) := by
      cases v with
      | true => exact .inl ⟨Lib.hid (.inl rfl), h1 (.inl rfl)⟩
      | false =>
        cases hD : runD (netA m es) s m t with
        | none => exact .inl ⟨Lib.hid (.inr rfl), h1 (.inr hD)⟩
        | some l =>
          obtain ⟨A1, n1, c1, h3, h4⟩ := h2 rfl l hD
          exact .inr ⟨l, A1, n1, c1, Lib.hid ⟨rfl, rfl⟩, h3, Lib.hid h4⟩
    clear h1 h2
    rcases hcs with ⟨HC, rfl⟩ | ⟨l, A1, n1, c1, HC, rfl, HP⟩
    · clear k0 k1 hB
      have k0 := HX1.out.k0
      have k1 := HX1.out.k1
      go_wp2_with fail
      refine (nodeCheck_v (m : Int) (s : Int) 0 A len cap es _ (by exact HX1.out.arcs) HVS.out).mono ?_
      rintro e w2 ⟨rfl, hB⟩
      have HX2 := Lib.hid (HX1.out.next hB)
      clear k0 k1 hB
      have k0 := HX2.out.k0
      have k1 := HX2.out.k1
      go_wp2_with fail
      refine (nodeCheck_v (m : Int) (t : Int) 0 A len cap es _ (by exact HX2.out.arcs) HVT.out).mono ?_
      rintro e w3 ⟨rfl, hB⟩
      have HX3 := Lib.hid (HX2.out.next hB)
      clear k0 k1 hB
      have k0 := HX3.out.k0
      have k1 := HX3.out.k1
      go_wp2_with fail
      refine (HRW.out _ HX3.out.arcs).mono ?_
      rintro e w4 ⟨hR, hB⟩
      have HX4 := Lib.hid (HX3.out.next hB)
      have he : e = .returned (.tuple #[.slice none 0 0, .bool false]) := by
        rcases hR with ⟨_, h⟩ | ⟨hvf, A1, n1, c1, l, _, _, _, hw⟩
        · exact h
        · rcases HC.out with h | h
          · rw [hvf] at h; cases h
          · exact (HNN.out (HNS.out hvf) l h hw).elim
      subst he
      clear k0 k1 hB hR
      go_wp2_with fail
      go_ret
      exact ⟨rfl, HX4.out.below⟩
    · have HB1 := Lib.hid hB
      clear k0 k1 hB
      have k0 := HX1.out.k0
      have k1 := HX1.out.k1
      go_wp2_with fail
      refine (nodeCheck_v (m : Int) (s : Int) 0 A len cap es _ (by exact HX1.out.arcs) HVS.out).mono ?_
      rintro e w2 ⟨rfl, hB⟩
      have HX2 := Lib.hid (HX1.out.next hB)
      have HP2 := Lib.hid (HP.out.go_ hB)
      clear k0 k1 hB
      have k0 := HX2.out.k0
      have k1 := HX2.out.k1
      go_wp2_with fail
      refine (nodeCheck_v (m : Int) (t : Int) 0 A len cap es _ (by exact HX2.out.arcs) HVT.out).mono ?_
      rintro e w3 ⟨rfl, hB⟩
      have HX3 := Lib.hid (HX2.out.next hB)
      have HP3 := Lib.hid (HP2.out.go_ hB)
      clear k0 k1 hB
      have k0 := HX3.out.k0
      have k1 := HX3.out.k1
      go_wp2_with fail
      refine (HRW.out _ HX3.out.arcs).mono ?_
      rintro e w4 ⟨hR, hB⟩
      have HX4 := Lib.hid (HX3.out.next hB)
      have HP4 := Lib.hid (HP3.out.go_ hB)
      obtain ⟨A2, n2, c2, he, HI2⟩ : ∃ A2 n2 c2, e = .returned (.tuple #[.slice A2 n2 c2, .bool true]) ∧ Hid (IntsAt w4 w4.heap.size A2 n2 (lI l) ∧ n2 ≤ 100) := by
        have hS := HNS.out HC.out.1
        rcases hR with ⟨h, _⟩ | ⟨_, A2, n2, c2, l2, h3, h4, h5, hw⟩
        · rcases h with h | h
          · rw [HC.out.1] at h; cases h
          · obtain ⟨h6, h7, h8, _⟩ := (HRR.out hS).1 l HC.out.2
            rw [h6] at h; omega
        · have := HEQ.out hS l l2 HC.out.2 hw
          subst this
          exact ⟨A2, n2, c2, h3, Lib.hid ⟨h4, h5⟩⟩
      subst he
      have hn2 : n2 ≤ 4000000000 := by have := HI2.out.2; omega
      have hn1 : n1 ≤ 4000000000 := by have h1 := HP4.out.len; have h2 := HI2.out.1.1; rw [lI_len] at h2; omega
      clear k0 k1 hB hR
      go_wp2_with fail
      refine (ints_v A1 A2 n1 n2 c1 c2 (lI l) (lI l) true w4 HP4.out.ints HI2.out.1 hn1 hn2 ⟨fun _ => rfl, fun _ => rfl⟩).mono ?_
      rintro e w5 ⟨rfl, q5, rfl⟩
      go_wp2_with fail
      go_ret
      exact ⟨rfl, below_drewN HX4.out.below _⟩
  · have HH0 := Lib.hid h0
    have hx0 : (x != 0) = true := by simpa using h0
    have hx1 : (x == 0) = false := by simpa using h0
    by_cases hst : askF n es [s] = 0
    · obtain ⟨hn0, hsn⟩ := askF_zero hst
      have hxt : askF n es [t] = x := by
        have hno : ¬ ∀ y ∈ [s, t], 0 ≤ y ∧ y < n := fun h => by rw [askF_ok hn0 h] at hx; exact h0 hx.symm
        rw [askF_arg hn0 hno] at hx
        rw [← hx]
        refine askF_arg hn0 fun h => hno fun y hy => ?_
        rcases List.mem_cons.1 hy with rfl | hy
        · exact hsn y (by simp)
        · exact h y hy
      have HVS := Lib.hid hst
      have HVT := Lib.hid hxt
      clear hE hx h0 hst hn0 hsn hxt
      go_enter Try.func5, Try.ntmps5
      go_wp2_with fail
      refine (way_bad n x A len cap es s t _ (by exact HX.out.arcs) HV.out HH0.out).mono ?_
      rintro e w1 ⟨rfl, hB⟩
      have HX1 := Lib.hid (HX.out.next hB)
      clear k0 k1 hB
      have k0 := HX1.out.k0
      have k1 := HX1.out.k1
      go_wp2_with fail
      refine (nodeCheck_v n s 0 A len cap es _ (by exact HX1.out.arcs) HVS.out).mono ?_
      rintro e w2 ⟨rfl, hB⟩
      have HX2 := Lib.hid (HX1.out.next hB)
      clear k0 k1 hB
      have k0 := HX2.out.k0
      have k1 := HX2.out.k1
      go_wp2_with fail
      refine (nodeCheck_v n t x A len cap es _ (by exact HX2.out.arcs) HVT.out).mono ?_
      rintro e w3 ⟨rfl, hB⟩
      have HX3 := Lib.hid (HX2.out.next hB)
      clear k0 k1 hB
      go_wp2_with fail
      go_ret
      exact ⟨rfl, HX3.out.below⟩
    · have hxs : askF n es [s] = x := by
        by_cases hn0 : netF n es = 0
        · have hno1 : ¬ ∀ y ∈ [s], 0 ≤ y ∧ y < n := fun h => hst (askF_ok hn0 h)
          have hno : ¬ ∀ y ∈ [s, t], 0 ≤ y ∧ y < n := fun h => hno1 fun y hy => h y (by simp at hy; simp [hy])
          rw [askF_arg hn0 hno1, ← hx, askF_arg hn0 hno]
        · rw [askF_bad hn0, ← hx, askF_bad hn0]
      have HVS := Lib.hid hxs
      clear hE hx h0 hst hxs
      go_enter Try.func5, Try.ntmps5
      go_wp2_with fail
      refine (way_bad n x A len cap es s t _ (by exact HX.out.arcs) HV.out HH0.out).mono ?_
      rintro e w1 ⟨rfl, hB⟩
      have HX1 := Lib.hid (HX.out.next hB)
      clear k0 k1 hB
      have k0 := HX1.out.k0
      have k1 := HX1.out.k1
      go_wp2_with fail
      refine (nodeCheck_v n s x A len cap es _ (by exact HX1.out.arcs) HVS.out).mono ?_
      rintro e w2 ⟨rfl, hB⟩
      have HX2 := Lib.hid (HX1.out.next hB)
      clear k0 k1 hB
      have k0 := HX2.out.k0
      have k1 := HX2.out.k1
      go_wp2_with fail
      go_ret
      exact ⟨rfl, HX2.out.below⟩
end Go.Proofs.Ytkpejmpnbdblbaa
