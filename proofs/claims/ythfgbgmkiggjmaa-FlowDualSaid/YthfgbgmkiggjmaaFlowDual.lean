/- FlowDual, walked: no flow has more than any cut lets go; and what is told is both. -/
import Derived.Test.YthfgbgmkiggjmaaFlowLaws
namespace Go.Proofs.Ythfgbgmkiggjmaa
open Go.RowKit

theorem wf_u32f {z : Int} (h : (Lit.int .u32 z).wf = true) : 0 ≤ z ∧ z < 4294967296 := by
  simp [Lit.wf, IntKind.min, IntKind.max, IntKind.signed, IntKind.bits] at h
  omega
set_option maxRecDepth 100000 in
set_option maxHeartbeats 4000000 in
theorem flowDual_any (n : Int) (A : Option Addr) (len cap : Nat) (es : List A4) (s t : Int) (A2 : Option Addr) (l2 cap2 : Nat) (xs : List Int) (u : Int) (w : World) (hE : ArcsAt w w.heap.size A len es) (_ : len ≤ cap) (_ : ∀ e ∈ es, WfA e) (_ : (Lit.int .i64 n).wf = true) (_ : (Lit.int .i64 s).wf = true) (_ : (Lit.int .i64 t).wf = true)
    (hI : IntsAt w w.heap.size A2 l2 xs) (hcap2 : l2 ≤ cap2) (hmx : cap2 ≤ maxLen) (hu : (Lit.int .u32 u).wf = true) :
    Calls Try.prog 13 #[.agg #[.int .i64 n, .slice A len cap], .int .i64 s, .int .i64 t, .slice A2 l2 cap2, .int .u32 u] w fun e w' => e = .returned (.bool true) ∧ Below w.heap.size w w' := by
  obtain ⟨hu0, hu1⟩ := wf_u32f hu
  obtain ⟨u, rfl⟩ := Int.eq_ofNat_of_zero_le hu0
  have hu32 : u < 4294967296 := by omega
  have hl63 : l2 ≤ 9223372036854775807 := by unfold maxLen at hmx; omega
  have HX := Lib.hid (BoxN.start (n := n) (cap := cap) hE)
  have HI := Lib.hid hI
  have hl := Lib.hid hE.1
  clear hE hI hmx hcap2 hu hu0 hu1
  have k0 := HX.out.k0
  have k1 := HX.out.k1
  obtain ⟨x, hx⟩ : ∃ x, endsF n es s t = x := ⟨_, rfl⟩
  by_cases h0 : x = 0
  · subst h0
    obtain ⟨hg, h1, h2, h3, h4, h5⟩ := endsF_zero hx
    have HG0 := good_of_netF hg
    obtain ⟨m, rfl⟩ := Int.eq_ofNat_of_zero_le HG0.n0
    obtain ⟨s, rfl⟩ := Int.eq_ofNat_of_zero_le h1
    obtain ⟨t, rfl⟩ := Int.eq_ofNat_of_zero_le h3
    have HG := Lib.hid HG0
    have HV := Lib.hid hx
    have hs : s < m := by omega
    have ht : t < m := by omega
    have hst : s ≠ t := by omega
    have hl30 : len ≤ 30 := by have := HG0.len; have := hl.out; omega
    have hm10 : m ≤ 10 := by have := HG0.n1; omega
    have hsN : s < (netP (m : Int) es).n := by simpa [netP] using hs
    clear hx hg h1 h2 h3 h4 h5 HG0
    go_enter Try.func13, Try.ntmps13
    go_wp2_with fail
    refine (mostF_good m A len cap es s t _ (by exact HX.out.arcs) HV.out).mono ?_
    rintro e w1 ⟨g, f, v, rfl, hfl, hn, hr, hgl, hB⟩
    have HX1 := Lib.hid (HX.out.next hB)
    have j0 := HX1.out.k0
    have j1 := HX1.out.k1
    have HFL := Lib.hid hfl
    have HNC := Lib.hid hn
    have HR := Lib.hid hr
    clear k0 k1 hfl hn hr hB
    go_wp2_with fail
    refine (cutF_good m A len cap es s t _ (by exact HX1.out.arcs) HV.out).mono ?_
    rintro e w2 ⟨c, rfl, hc, hB⟩
    have hcv := flow_min (netP_ok HG.out.big) hsN HFL.out HNC.out hc
    have hc10 : c < 1024 := Nat.lt_of_lt_of_le hc.lt (by rw [show 1024 = 2 ^ 10 from rfl]; exact Nat.pow_le_pow_right (by decide) (by simpa [netP] using hm10))
    have HC := Lib.hid hc
    have HCV := Lib.hid hcv
    rw [hcv]
    have HX2 := Lib.hid (HX1.out.next hB)
    have i0 := HX2.out.k0
    have i1 := HX2.out.k1
    have HR2 := Lib.hid (HR.out.of_block (hB.block _ HR.out.lt))
    clear j0 j1 hB hc hcv
    go_wp2_with fail
    refine (endsCheck_v (m : Int) 0 A len cap es s t _ (by exact HX2.out.arcs) HV.out).mono ?_
    rintro e w3 ⟨rfl, hB⟩
    have HX3 := Lib.hid (HX2.out.next hB)
    have l0 := HX3.out.k0
    have l1 := HX3.out.k1
    have HR3 := Lib.hid (HR2.out.of_block (hB.block _ HR2.out.lt))
    clear i0 i1 hB
    go_wp2_with fail
    refine (flows_any m A len cap es (some ⟨g, 0, none⟩) len len ((List.range len).map f) s t _ (by exact HX3.out.arcs) (ints_of_row HR3.out) (by omega) HG.out hs ht).mono ?_
    rintro e w4 ⟨⟨v', b, rfl, hb1, hb2⟩, hB⟩
    obtain ⟨rfl, rfl⟩ := hb2 rfl v (HFL.out.congr fun k hk => (goes_row (by have h : k < es.length := hk; have := hl.out; omega)).symm)
    have HX4 := Lib.hid (HX3.out.next hB)
    have m0 := HX4.out.k0
    have m1 := HX4.out.k1
    clear l0 l1 hB hb1 hb2
    go_wp2_with fail
    refine (bit_nat c s true (by omega) (by omega) HC.out.src _).mono ?_
    rintro e w5 ⟨rfl, rfl⟩
    go_wp2_with fail
    refine (bit_nat c t false (by omega) (by omega) HC.out.dst _).mono ?_
    rintro e w5 ⟨rfl, rfl⟩
    go_wp2_with fail
    refine (cutSize_v m A len cap es c v (by omega) _ (by exact HX4.out.arcs) HG.out HCV.out).mono ?_
    rintro e w6 ⟨rfl, hB⟩
    have HX6 := Lib.hid (HX4.out.next hB)
    have o0 := HX6.out.k0
    have o1 := HX6.out.k1
    clear m0 m1 hB
    go_wp2_with fail
    refine (flows_any m A len cap es A2 l2 cap2 xs s t _ (by exact HX6.out.arcs) (by exact HI.out.go_ HX6.out.below) hl63 HG.out hs ht).mono ?_
    rintro e w7 ⟨⟨v2, b, rfl, hb1, hb2⟩, hB⟩
    have HX7 := Lib.hid (HX6.out.next hB)
    have p0 := HX7.out.k0
    have p1 := HX7.out.k1
    have hle : b = true → ¬ v2 > v := fun h => by
      have h1 := flow_le (W := fun i => c.testBit i) (netP_ok HG.out.big) hsN (hb1 h).2 HC.out.src HC.out.dst
      rw [HCV.out] at h1; omega
    have HEND : Hid (u.testBit s = true → u.testBit t = false → cutP (netP (m : Int) es) (fun i => u.testBit i) ≥ v) := Lib.hid fun h1 h2 => flow_le (W := fun i => u.testBit i) (netP_ok HG.out.big) hsN HFL.out h1 h2
    clear o0 o1 hB hb1 hb2
    cases b
    · clear hle
      cases hus : u.testBit s
      · have H1 := Lib.hid hus
        clear hus
        go_wp2_with fail
        refine (bit_nat u s false hu32 (by omega) H1.out _).mono ?_
        rintro e w8 ⟨rfl, rfl⟩
        go_wp2
        go_ret
        exact ⟨rfl, HX7.out.below⟩
      · have H1 := Lib.hid hus
        clear hus
        cases hut : u.testBit t
        · have H2 := Lib.hid hut
          have hge := HEND.out H1.out hut
          generalize hy : cutP (netP (m : Int) es) (fun i => u.testBit i) = y at hge
          have HY := Lib.hid hy
          clear hut hy
          go_wp2_with fail
          refine (bit_nat u s true hu32 (by omega) H1.out _).mono ?_
          rintro e w8 ⟨rfl, rfl⟩
          go_wp2_with fail
          refine (bit_nat u t false hu32 (by omega) H2.out _).mono ?_
          rintro e w8 ⟨rfl, rfl⟩
          go_wp2_with fail
          refine (cutSize_v m A len cap es u y hu32 _ (by exact HX7.out.arcs) HG.out HY.out).mono ?_
          rintro e w9 ⟨rfl, hB⟩
          have HX9 := Lib.hid (HX7.out.next hB)
          clear hB
          go_wp2
          go_ret
          exact ⟨rfl, HX9.out.below⟩
        · have H2 := Lib.hid hut
          clear hut
          go_wp2_with fail
          refine (bit_nat u s true hu32 (by omega) H1.out _).mono ?_
          rintro e w8 ⟨rfl, rfl⟩
          go_wp2_with fail
          refine (bit_nat u t true hu32 (by omega) H2.out _).mono ?_
          rintro e w8 ⟨rfl, rfl⟩
          go_wp2
          go_ret
          exact ⟨rfl, HX7.out.below⟩
    · have hle2 := hle rfl
      clear hle
      cases hus : u.testBit s
      · have H1 := Lib.hid hus
        clear hus
        go_wp2_with fail
        refine (bit_nat u s false hu32 (by omega) H1.out _).mono ?_
        rintro e w8 ⟨rfl, rfl⟩
        go_wp2
        go_ret
        exact ⟨rfl, HX7.out.below⟩
      · have H1 := Lib.hid hus
        clear hus
        cases hut : u.testBit t
        · have H2 := Lib.hid hut
          have hge := HEND.out H1.out hut
          generalize hy : cutP (netP (m : Int) es) (fun i => u.testBit i) = y at hge
          have HY := Lib.hid hy
          clear hut hy
          go_wp2_with fail
          refine (bit_nat u s true hu32 (by omega) H1.out _).mono ?_
          rintro e w8 ⟨rfl, rfl⟩
          go_wp2_with fail
          refine (bit_nat u t false hu32 (by omega) H2.out _).mono ?_
          rintro e w8 ⟨rfl, rfl⟩
          go_wp2_with fail
          refine (cutSize_v m A len cap es u y hu32 _ (by exact HX7.out.arcs) HG.out HY.out).mono ?_
          rintro e w9 ⟨rfl, hB⟩
          have HX9 := Lib.hid (HX7.out.next hB)
          clear hB
          go_wp2
          go_ret
          exact ⟨rfl, HX9.out.below⟩
        · have H2 := Lib.hid hut
          clear hut
          go_wp2_with fail
          refine (bit_nat u s true hu32 (by omega) H1.out _).mono ?_
          rintro e w8 ⟨rfl, rfl⟩
          go_wp2_with fail
          refine (bit_nat u t true hu32 (by omega) H2.out _).mono ?_
          rintro e w8 ⟨rfl, rfl⟩
          go_wp2
          go_ret
          exact ⟨rfl, HX7.out.below⟩
  · have HV := Lib.hid hx
    have hx0 : (x != 0) = true := by simpa using h0
    have hH0 := Lib.hid h0
    clear hx h0
    go_enter Try.func13, Try.ntmps13
    go_wp2_with fail
    refine (mostF_bad n x A len cap es s t _ (by exact HX.out.arcs) HV.out hH0.out).mono ?_
    rintro e w1 ⟨rfl, hB⟩
    have HX1 := Lib.hid (HX.out.next hB)
    have j0 := HX1.out.k0
    have j1 := HX1.out.k1
    clear k0 k1 hB
    go_wp2_with fail
    refine (cutF_bad n x A len cap es s t _ (by exact HX1.out.arcs) HV.out hH0.out).mono ?_
    rintro e w2 ⟨rfl, hB⟩
    have HX2 := Lib.hid (HX1.out.next hB)
    have i0 := HX2.out.k0
    have i1 := HX2.out.k1
    clear j0 j1 hB
    go_wp2_with fail
    refine (endsCheck_v n x A len cap es s t _ (by exact HX2.out.arcs) HV.out).mono ?_
    rintro e w3 ⟨rfl, hB⟩
    have HX3 := Lib.hid (HX2.out.next hB)
    clear i0 i1 hB
    go_wp2
    go_ret
    exact ⟨rfl, HX3.out.below⟩
end Go.Proofs.Ythfgbgmkiggjmaa
