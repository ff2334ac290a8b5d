/- flow.Most: what it tells of a net; and that a smallest cut lets go just that. No conditions. -/
import Derived.Test.YtmlmnmphmghdlaaFillGo
import Derived.Test.YtmlmnmphmghdlaaValueGo
import Derived.Test.YtmlmnmphmghdlaaNetEndsGo
namespace Go.Proofs.Ytmlmnmphmghdlaa
open Go.RowKit

def MostOut (m : Nat) (len : Nat) (es : List A4) (s t : Nat) (w : World) (e : Ending) (w' : World) : Prop :=
  ∃ g f v, e = .returned (.tuple #[.int .i64 v, .slice (some ⟨g, 0, none⟩) len len, .int .i64 0]) ∧ FlowP (netP (m : Int) es) s t f v ∧ ¬ ComeP (netP (m : Int) es) f s t ∧ RowI w' g len f ∧ w.heap.size ≤ g ∧ Below w.heap.size w w'
theorem flow_min {N : NetP} {s t c : Nat} {f : Nat → Int} {v : Int} (hN : N.ok) (hs : s < N.n) (F : FlowP N s t f v) (hn : ¬ ComeP N f s t) (hc : MinCutP N s t c) : cutP N (fun i => c.testBit i) = v := by
  classical
  obtain ⟨a, ha, hb⟩ := word_ex (fun i => decide (ComeP N f s i)) N.n
  have hbit : ∀ i, i < N.n → (a.testBit i = true ↔ ComeP N f s i) := fun i hi => by rw [hb i hi]; exact decide_eq_true_iff
  have ht : a.testBit t = false := by
    cases h : a.testBit t with
    | false => rfl
    | true =>
      exfalso
      rcases Nat.lt_or_ge t N.n with h1 | h1
      · exact hn ((hbit t h1).1 h)
      · rw [bit_pow ha h1] at h; cases h
  obtain ⟨h1, h2⟩ := come_min hN hs F ha hbit ht
  rw [hc.eq h1]; exact h2

set_option maxRecDepth 100000 in
set_option maxHeartbeats 2000000 in
theorem mostF_bad (n x : Int) (A : Option Addr) (len cap : Nat) (es : List A4) (s t : Int) (w : World) (hE : ArcsAt w w.heap.size A len es) (hx : endsF n es s t = x) (h0 : x ≠ 0) :
    Calls Try.prog 15 #[.agg #[.int .i64 n, .slice A len cap], .int .i64 s, .int .i64 t] w fun e w' => e = .returned (.tuple #[.int .i64 0, .slice none 0 0, .int .i64 x]) ∧ Below w.heap.size w w' := by
  have HX := Lib.hid (BoxN.start (n := n) (cap := cap) hE)
  have HV := Lib.hid hx
  have hx0 : (x != 0) = true := by simpa using h0
  have k0 := HX.out.k0
  have k1 := HX.out.k1
  clear hE hx h0
  go_enter Try.func15, Try.ntmps15
  go_wp2_with fail
  refine (checkEnds_v n x A len cap es s t _ (by exact HX.out.arcs) HV.out).mono ?_
  rintro e w1 ⟨rfl, hB⟩
  have HX1 := Lib.hid (HX.out.next hB)
  clear hB
  go_wp2
  go_ret3
  exact ⟨rfl, HX1.out.below⟩

set_option maxRecDepth 100000 in
set_option maxHeartbeats 2000000 in
theorem mostF_good (m : Nat) (A : Option Addr) (len cap : Nat) (es : List A4) (s t : Nat) (w : World) (hE : ArcsAt w w.heap.size A len es) (hx : endsF (m : Int) es s t = 0) :
    Calls Try.prog 15 #[.agg #[.int .i64 m, .slice A len cap], .int .i64 s, .int .i64 t] w (MostOut m len es s t w) := by
  have HX := Lib.hid (BoxN.start (n := (m : Int)) (cap := cap) hE)
  have HV := Lib.hid hx
  obtain ⟨hg, _, h1, _, h2, h3⟩ := endsF_zero hx
  have HG := Lib.hid (good_of_netF hg)
  have hs : s < m := by omega
  have ht : t < m := by omega
  have hst : s ≠ t := by omega
  have k0 := HX.out.k0
  have k1 := HX.out.k1
  clear hE hx hg h1 h2 h3
  go_enter Try.func15, Try.ntmps15
  go_wp2_with fail
  refine (checkEnds_v (m : Int) 0 A len cap es s t _ (by exact HX.out.arcs) HV.out).mono ?_
  rintro e w1 ⟨rfl, hB⟩
  have HX1 := Lib.hid (HX.out.next hB)
  have j0 := HX1.out.k0
  have j1 := HX1.out.k1
  clear hB k0 k1
  go_wp2_with fail
  refine (fill_any m A len cap es s t _ (by exact HX1.out.arcs) HG.out.big hs ht hst).mono ?_
  rintro e w2 ⟨F, g, f, v, rfl, hF, hfl, hn, hgl, hB⟩
  have HF := Lib.hid hF
  have HFL := Lib.hid hfl
  have HNC := Lib.hid hn
  have HBw : Hid (Below w.heap.size w w2) := Lib.hid (HX1.out.below.trans (hB.mono HX1.out.below.size))
  have c2 := hF.c2
  have hFlt : F < w2.heap.size := hF.lt
  have hgl2 : w.heap.size ≤ g := by have := HX1.out.below.size; omega
  have HFd : Hid (FillAt w2.drew F g w1.heap.size (m : Int) A len cap es f) := Lib.hid (hF.drewN 1)
  clear hF hfl hn hB hgl
  go_wp2_with fail
  go_region_with (go_at_call 27; refine (value_any F g w1.heap.size m A len cap es f s _ (by exact HFd.out) HG.out HFL.out.may).mono ?_; rintro e w3 ⟨rfl, hb⟩; have c3 := (HFd.out.below hb HFd.out.lt).c2)
  all_goals
    go_wp2
    go_ret3
    exact ⟨g, f, outP (netP (m : Int) es) f s, rfl, by rw [HFL.out.val]; exact HFL.out, HNC.out, HF.out.row.of_block (hb.block _ (by have := HF.out.up; simp; omega)), hgl2, HBw.out.drew.trans (hb.mono HBw.out.size)⟩
end Go.Proofs.Ytmlmnmphmghdlaa
