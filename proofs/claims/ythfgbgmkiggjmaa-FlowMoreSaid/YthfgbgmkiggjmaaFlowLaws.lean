/- FlowMost and FlowCuts, walked. -/
import Derived.Test.YthfgbgmkiggjmaaMostFlow
import Derived.Test.YthfgbgmkiggjmaaRefFlows
import Derived.Test.YthfgbgmkiggjmaaRefCutGo
import Derived.Test.YthfgbgmkiggjmaaOpenNet
namespace Go.Proofs.Ythfgbgmkiggjmaa
open Go.RowKit

theorem flow_min {N : NetP} {s t c : Nat} {f : Nat → Int} {v : Int} (hN : N.ok) (hs : s < N.n) (F : FlowP N s t f v) (hn : ¬ ComeP N f s t) (hc : MinCutP N s t c) : cutP N (fun i => c.testBit i) = v := by
  classical
  obtain ⟨a, ha, hb⟩ := word_ex (fun i => decide (ComeP N f s i)) N.n
  have hbit : ∀ i, i < N.n → (a.testBit i = true ↔ ComeP N f s i) := fun i hi => by rw [hb i hi]; exact decide_eq_true_iff
  have ht : a.testBit t = false := by
    cases h : a.testBit t with
    | false => rfl
    | true =>
      exfalso
      rcases Nat.lt_or_ge t N.n with h1 | h1
      · exact hn ((hbit t h1).1 h)
      · rw [bit_pow ha h1] at h; cases h
  obtain ⟨h1, h2⟩ := come_min hN hs F ha hbit ht
  rw [hc.eq h1]; exact h2
theorem ints_of_row {w : World} {g len : Nat} {f : Nat → Int} (h : RowI w g len f) : IntsAt w w.heap.size (some ⟨g, 0, none⟩) len ((List.range len).map f) :=
  ⟨by simp, fun _ => ⟨g, 0, rfl, h.lt, fun i x hx => by
    obtain ⟨h1, h2⟩ := List.getElem?_eq_some_iff.1 hx
    simp at h1 h2
    rw [Nat.zero_add, h.cell h1, h2]⟩⟩
theorem goes_row {f : Nat → Int} {len k : Nat} (hk : k < len) : goesF ((List.range len).map f) k = f k := by
  unfold goesF
  rw [List.getD_eq_getElem?_getD, List.getElem?_eq_getElem (by simpa using hk)]
  simp
theorem FlowP.congr {N : NetP} {s t : Nat} {f f' : Nat → Int} {v : Int} (h : FlowP N s t f v) (he : ∀ k, k < N.K → f k = f' k) : FlowP N s t f' v := by
  have ho : ∀ i, outP N f' i = outP N f i := fun i => sumI_congr _ fun k hk => by rw [he k hk]
  exact ⟨fun k hk => by rw [← he k hk]; exact h.may k hk, fun i hi h1 h2 => by rw [ho]; exact h.bal i hi h1 h2, by rw [ho]; exact h.val⟩

set_option maxRecDepth 100000 in
set_option maxHeartbeats 2000000 in
theorem flowMost_any (n : Int) (A : Option Addr) (len cap : Nat) (es : List A4) (s t : Int) (w : World) (hE : ArcsAt w w.heap.size A len es) (_ : len ≤ cap) (_ : ∀ e ∈ es, WfA e) (_ : (Lit.int .i64 n).wf = true) (_ : (Lit.int .i64 s).wf = true) (_ : (Lit.int .i64 t).wf = true) :
    Calls Try.prog 11 #[.agg #[.int .i64 n, .slice A len cap], .int .i64 s, .int .i64 t] w fun e w' => e = .returned (.bool true) ∧ Below w.heap.size w w' := by
  have HX := Lib.hid (BoxN.start (n := n) (cap := cap) hE)
  have hl := Lib.hid hE.1
  clear hE
  have k0 := HX.out.k0
  have k1 := HX.out.k1
  obtain ⟨x, hx⟩ : ∃ x, endsF n es s t = x := ⟨_, rfl⟩
  by_cases h0 : x = 0
  · subst h0
    obtain ⟨hg, h1, h2, h3, h4, h5⟩ := endsF_zero hx
    have HG0 := good_of_netF hg
    obtain ⟨m, rfl⟩ := Int.eq_ofNat_of_zero_le HG0.n0
    obtain ⟨s, rfl⟩ := Int.eq_ofNat_of_zero_le h1
    obtain ⟨t, rfl⟩ := Int.eq_ofNat_of_zero_le h3
    have HG := Lib.hid HG0
    have HV := Lib.hid hx
    have hs : s < m := by omega
    have ht : t < m := by omega
    have hst : s ≠ t := by omega
    have hl30 : len ≤ 30 := by have := HG0.len; have := hl.out; omega
    clear hx hg h1 h2 h3 h4 h5 HG0
    go_enter Try.func11, Try.ntmps11
    go_wp2_with fail
    refine (mostF_good m A len cap es s t _ (by exact HX.out.arcs) HV.out).mono ?_
    rintro e w1 ⟨g, f, v, rfl, hfl, hn, hr, hgl, hB⟩
    have HX1 := Lib.hid (HX.out.next hB)
    have j0 := HX1.out.k0
    have j1 := HX1.out.k1
    have HFL := Lib.hid hfl
    have HNC := Lib.hid hn
    have HR := Lib.hid hr
    clear k0 k1 hfl hn hr hB
    go_wp2_with fail
    refine (endsCheck_v (m : Int) 0 A len cap es s t _ (by exact HX1.out.arcs) HV.out).mono ?_
    rintro e w2 ⟨rfl, hB⟩
    have HX2 := Lib.hid (HX1.out.next hB)
    have i0 := HX2.out.k0
    have i1 := HX2.out.k1
    have HR2 := Lib.hid (HR.out.of_block (hB.block _ HR.out.lt))
    clear j0 j1 hB
    go_wp2_with fail
    refine (flows_any m A len cap es (some ⟨g, 0, none⟩) len len ((List.range len).map f) s t _ (by exact HX2.out.arcs) (ints_of_row HR2.out) (by omega) HG.out hs ht).mono ?_
    rintro e w3 ⟨⟨v', b, rfl, hb1, hb2⟩, hB⟩
    obtain ⟨rfl, rfl⟩ := hb2 rfl v (HFL.out.congr fun k hk => (goes_row (by have h : k < es.length := hk; have := hl.out; omega)).symm)
    have HX3 := Lib.hid (HX2.out.next hB)
    have l0 := HX3.out.k0
    have l1 := HX3.out.k1
    clear i0 i1 hB hb1 hb2
    go_wp2_with fail
    refine (refCut_any m A len cap es s t _ (by exact HX3.out.arcs) HG.out hs ht hst).mono ?_
    rintro e w4 ⟨c, rfl, hc, hB⟩
    have hcv := flow_min (netP_ok HG.out.big) (by simpa [netP] using hs) HFL.out HNC.out hc
    have HX4 := Lib.hid (HX3.out.next hB)
    rw [hcv]
    clear hB hc hcv
    go_wp2
    go_ret
    exact ⟨rfl, HX4.out.below⟩
  · have HV := Lib.hid hx
    have hx0 : (x != 0) = true := by simpa using h0
    have hH0 := Lib.hid h0
    clear hx h0
    go_enter Try.func11, Try.ntmps11
    go_wp2_with fail
    refine (mostF_bad n x A len cap es s t _ (by exact HX.out.arcs) HV.out hH0.out).mono ?_
    rintro e w1 ⟨rfl, hB⟩
    have HX1 := Lib.hid (HX.out.next hB)
    have j0 := HX1.out.k0
    have j1 := HX1.out.k1
    clear k0 k1 hB
    go_wp2_with fail
    refine (endsCheck_v n x A len cap es s t _ (by exact HX1.out.arcs) HV.out).mono ?_
    rintro e w2 ⟨rfl, hB⟩
    have HX2 := Lib.hid (HX1.out.next hB)
    clear j0 j1 hB
    go_wp2
    go_ret
    exact ⟨rfl, HX2.out.below⟩

set_option maxRecDepth 100000 in
set_option maxHeartbeats 2000000 in
theorem flowCuts_any (n : Int) (A : Option Addr) (len cap : Nat) (es : List A4) (s t : Int) (w : World) (hE : ArcsAt w w.heap.size A len es) (_ : len ≤ cap) (_ : ∀ e ∈ es, WfA e) (_ : (Lit.int .i64 n).wf = true) (_ : (Lit.int .i64 s).wf = true) (_ : (Lit.int .i64 t).wf = true) :
    Calls Try.prog 12 #[.agg #[.int .i64 n, .slice A len cap], .int .i64 s, .int .i64 t] w fun e w' => e = .returned (.bool true) ∧ Below w.heap.size w w' := by
  have HX := Lib.hid (BoxN.start (n := n) (cap := cap) hE)
  clear hE
  have k0 := HX.out.k0
  have k1 := HX.out.k1
  obtain ⟨x, hx⟩ : ∃ x, endsF n es s t = x := ⟨_, rfl⟩
  by_cases h0 : x = 0
  · subst h0
    obtain ⟨hg, h1, h2, h3, h4, h5⟩ := endsF_zero hx
    have HG0 := good_of_netF hg
    obtain ⟨m, rfl⟩ := Int.eq_ofNat_of_zero_le HG0.n0
    obtain ⟨s, rfl⟩ := Int.eq_ofNat_of_zero_le h1
    obtain ⟨t, rfl⟩ := Int.eq_ofNat_of_zero_le h3
    have HG := Lib.hid HG0
    have HV := Lib.hid hx
    have hs : s < m := by omega
    have ht : t < m := by omega
    have hst : s ≠ t := by omega
    clear hx hg h1 h2 h3 h4 h5 HG0
    go_enter Try.func12, Try.ntmps12
    go_wp2_with fail
    refine (cutF_good m A len cap es s t _ (by exact HX.out.arcs) HV.out).mono ?_
    rintro e w1 ⟨c, rfl, hc, hB⟩
    have HX1 := Lib.hid (HX.out.next hB)
    have j0 := HX1.out.k0
    have j1 := HX1.out.k1
    have HC := Lib.hid hc
    clear k0 k1 hc hB
    go_wp2_with fail
    refine (endsCheck_v (m : Int) 0 A len cap es s t _ (by exact HX1.out.arcs) HV.out).mono ?_
    rintro e w2 ⟨rfl, hB⟩
    have HX2 := Lib.hid (HX1.out.next hB)
    have i0 := HX2.out.k0
    have i1 := HX2.out.k1
    clear j0 j1 hB
    go_wp2_with fail
    refine (refCut_any m A len cap es s t _ (by exact HX2.out.arcs) HG.out hs ht hst).mono ?_
    rintro e w3 ⟨c', rfl, hc', hB⟩
    obtain rfl := hc'.eq HC.out
    have HX3 := Lib.hid (HX2.out.next hB)
    generalize cutP (netP (m : Int) es) (fun i => c'.testBit i) = y
    clear hB hc'
    go_wp2
    go_ret
    exact ⟨rfl, HX3.out.below⟩
  · have HV := Lib.hid hx
    have hx0 : (x != 0) = true := by simpa using h0
    have hH0 := Lib.hid h0
    clear hx h0
    go_enter Try.func12, Try.ntmps12
    go_wp2_with fail
    refine (cutF_bad n x A len cap es s t _ (by exact HX.out.arcs) HV.out hH0.out).mono ?_
    rintro e w1 ⟨rfl, hB⟩
    have HX1 := Lib.hid (HX.out.next hB)
    have j0 := HX1.out.k0
    have j1 := HX1.out.k1
    clear k0 k1 hB
    go_wp2_with fail
    refine (endsCheck_v n x A len cap es s t _ (by exact HX1.out.arcs) HV.out).mono ?_
    rintro e w2 ⟨rfl, hB⟩
    have HX2 := Lib.hid (HX1.out.next hB)
    clear j0 j1 hB
    go_wp2
    go_ret
    exact ⟨rfl, HX2.out.below⟩
end Go.Proofs.Ythfgbgmkiggjmaa
