/- flow.Most and flow.Cut: what they tell of a net. -/
import Derived.Test.YthfgbgmkiggjmaaFillGo
import Derived.Test.YthfgbgmkiggjmaaValueGo
import Derived.Test.YthfgbgmkiggjmaaNetEndsGo
namespace Go.Proofs.Ythfgbgmkiggjmaa
open Go.RowKit

def MostOut (m : Nat) (len : Nat) (es : List A4) (s t : Nat) (w : World) (e : Ending) (w' : World) : Prop :=
  ∃ g f v, e = .returned (.tuple #[.int .i64 v, .slice (some ⟨g, 0, none⟩) len len, .int .i64 0]) ∧ FlowP (netP (m : Int) es) s t f v ∧ ¬ ComeP (netP (m : Int) es) f s t ∧ RowI w' g len f ∧ w.heap.size ≤ g ∧ Below w.heap.size w w'
def CutOut (m : Nat) (es : List A4) (s t : Nat) (w : World) (e : Ending) (w' : World) : Prop :=
  ∃ c : Nat, e = .returned (.tuple #[.int .u32 c, .int .i64 (cutP (netP (m : Int) es) fun i => c.testBit i), .int .i64 0]) ∧ MinCutP (netP (m : Int) es) s t c ∧ Below w.heap.size w w'

set_option maxRecDepth 100000 in
set_option maxHeartbeats 2000000 in
theorem mostF_bad (n x : Int) (A : Option Addr) (len cap : Nat) (es : List A4) (s t : Int) (w : World) (hE : ArcsAt w w.heap.size A len es) (hx : endsF n es s t = x) (h0 : x ≠ 0) :
    Calls Try.prog 32 #[.agg #[.int .i64 n, .slice A len cap], .int .i64 s, .int .i64 t] w fun e w' => e = .returned (.tuple #[.int .i64 0, .slice none 0 0, .int .i64 x]) ∧ Below w.heap.size w w' := by
  have HX := Lib.hid (BoxN.start (n := n) (cap := cap) hE)
  have HV := Lib.hid hx
  have hx0 : (x != 0) = true := by simpa using h0
  have k0 := HX.out.k0
  have k1 := HX.out.k1
  clear hE hx h0
  go_enter Try.func32, Try.ntmps32
  go_wp2_with fail
  refine (checkEnds_v n x A len cap es s t _ (by exact HX.out.arcs) HV.out).mono ?_
  rintro e w1 ⟨rfl, hB⟩
  have HX1 := Lib.hid (HX.out.next hB)
  clear hB
  go_wp2
  go_ret3
  exact ⟨rfl, HX1.out.below⟩

set_option maxRecDepth 100000 in
set_option maxHeartbeats 2000000 in
theorem cutF_bad (n x : Int) (A : Option Addr) (len cap : Nat) (es : List A4) (s t : Int) (w : World) (hE : ArcsAt w w.heap.size A len es) (hx : endsF n es s t = x) (h0 : x ≠ 0) :
    Calls Try.prog 36 #[.agg #[.int .i64 n, .slice A len cap], .int .i64 s, .int .i64 t] w fun e w' => e = .returned (.tuple #[.int .u32 0, .int .i64 0, .int .i64 x]) ∧ Below w.heap.size w w' := by
  have HX := Lib.hid (BoxN.start (n := n) (cap := cap) hE)
  have HV := Lib.hid hx
  have hx0 : (x != 0) = true := by simpa using h0
  have k0 := HX.out.k0
  have k1 := HX.out.k1
  clear hE hx h0
  go_enter Try.func36, Try.ntmps36
  go_wp2_with fail
  refine (checkEnds_v n x A len cap es s t _ (by exact HX.out.arcs) HV.out).mono ?_
  rintro e w1 ⟨rfl, hB⟩
  have HX1 := Lib.hid (HX.out.next hB)
  clear hB
  go_wp2
  go_ret3
  exact ⟨rfl, HX1.out.below⟩

set_option maxRecDepth 100000 in
set_option maxHeartbeats 2000000 in
theorem mostF_good (m : Nat) (A : Option Addr) (len cap : Nat) (es : List A4) (s t : Nat) (w : World) (hE : ArcsAt w w.heap.size A len es) (hx : endsF (m : Int) es s t = 0) :
    Calls Try.prog 32 #[.agg #[.int .i64 m, .slice A len cap], .int .i64 s, .int .i64 t] w (MostOut m len es s t w) := by
  have HX := Lib.hid (BoxN.start (n := (m : Int)) (cap := cap) hE)
  have HV := Lib.hid hx
  obtain ⟨hg, _, h1, _, h2, h3⟩ := endsF_zero hx
  have HG := Lib.hid (good_of_netF hg)
  have hs : s < m := by omega
  have ht : t < m := by omega
  have hst : s ≠ t := by omega
  have k0 := HX.out.k0
  have k1 := HX.out.k1
  clear hE hx hg h1 h2 h3
  go_enter Try.func32, Try.ntmps32
  go_wp2_with fail
  refine (checkEnds_v (m : Int) 0 A len cap es s t _ (by exact HX.out.arcs) HV.out).mono ?_
  rintro e w1 ⟨rfl, hB⟩
  have HX1 := Lib.hid (HX.out.next hB)
  have j0 := HX1.out.k0
  have j1 := HX1.out.k1
  clear hB k0 k1
  go_wp2_with fail
  refine (fill_any m A len cap es s t _ (by exact HX1.out.arcs) HG.out.big hs ht hst).mono ?_
  rintro e w2 ⟨F, g, f, v, rfl, hF, hfl, hn, hgl, hB⟩
  have HF := Lib.hid hF
  have HFL := Lib.hid hfl
  have HNC := Lib.hid hn
  have HBw : Hid (Below w.heap.size w w2) := Lib.hid (HX1.out.below.trans (hB.mono HX1.out.below.size))
  have c2 := hF.c2
  have hFlt : F < w2.heap.size := hF.lt
  have hgl2 : w.heap.size ≤ g := by have := HX1.out.below.size; omega
  have HFd : Hid (FillAt w2.drew F g w1.heap.size (m : Int) A len cap es f) := Lib.hid (hF.drewN 1)
  clear hF hfl hn hB hgl
  go_wp2_with fail
  go_region_with (go_at_call 55; refine (value_any F g w1.heap.size m A len cap es f s _ (by exact HFd.out) HG.out HFL.out.may).mono ?_; rintro e w3 ⟨rfl, hb⟩; have c3 := (HFd.out.below hb HFd.out.lt).c2)
  all_goals
    go_wp2
    go_ret3
    exact ⟨g, f, outP (netP (m : Int) es) f s, rfl, by rw [HFL.out.val]; exact HFL.out, HNC.out, HF.out.row.of_block (hb.block _ (by have := HF.out.up; simp; omega)), hgl2, HBw.out.drew.trans (hb.mono HBw.out.size)⟩

set_option maxRecDepth 100000 in
set_option maxHeartbeats 2000000 in
theorem cutF_good (m : Nat) (A : Option Addr) (len cap : Nat) (es : List A4) (s t : Nat) (w : World) (hE : ArcsAt w w.heap.size A len es) (hx : endsF (m : Int) es s t = 0) :
    Calls Try.prog 36 #[.agg #[.int .i64 m, .slice A len cap], .int .i64 s, .int .i64 t] w (CutOut m es s t w) := by
  have HX := Lib.hid (BoxN.start (n := (m : Int)) (cap := cap) hE)
  have HV := Lib.hid hx
  obtain ⟨hg, _, h1, _, h2, h3⟩ := endsF_zero hx
  have HG := Lib.hid (good_of_netF hg)
  have hs : s < m := by omega
  have ht : t < m := by omega
  have hst : s ≠ t := by omega
  have hm10 : m ≤ 10 := by have := HG.out.n1; omega
  have k0 := HX.out.k0
  have k1 := HX.out.k1
  clear hE hx hg h1 h2 h3
  go_enter Try.func36, Try.ntmps36
  go_wp2_with fail
  refine (checkEnds_v (m : Int) 0 A len cap es s t _ (by exact HX.out.arcs) HV.out).mono ?_
  rintro e w1 ⟨rfl, hB⟩
  have HX1 := Lib.hid (HX.out.next hB)
  have j0 := HX1.out.k0
  have j1 := HX1.out.k1
  clear hB k0 k1
  go_wp2_with fail
  refine (fill_any m A len cap es s t _ (by exact HX1.out.arcs) HG.out.big hs ht hst).mono ?_
  rintro e w2 ⟨F, g, f, v, rfl, hF, hfl, hn, hgl, hB⟩
  have HF := Lib.hid hF
  have HFL := Lib.hid hfl
  have HNC := Lib.hid hn
  have HBw : Hid (Below w.heap.size w w2) := Lib.hid (HX1.out.below.trans (hB.mono HX1.out.below.size))
  clear hF hfl hn hB hgl
  go_wp2_with fail
  refine (reach_any F g w1.heap.size m A len cap es f s _ (by exact HF.out) HG.out.big HFL.out.may hs).mono ?_
  rintro e w3 ⟨M, L, T, rfl, hR, hT, hL, hB⟩
  have hM : M < 1024 := Nat.lt_of_lt_of_le hR.lt (by rw [show 1024 = 2 ^ 10 from rfl]; exact Nat.pow_le_pow_right (by decide) (by simpa [netP] using hm10))
  have HC : Hid (MinCutP (netP (m : Int) es) s t M) := Lib.hid (come_min (netP_ok HG.out.big) (by simpa [netP] using hs) HFL.out hR.lt (fun i _ => hR.iff i) (by
    cases h : M.testBit t with
    | false => rfl
    | true => exact absurd ((hR.iff t).1 h) HNC.out)).1
  have HF3 : Hid (FillAt w3 F g w1.heap.size (m : Int) A len cap es f) := Lib.hid (HF.out.below hB HF.out.lt)
  have HBw3 : Hid (Below w.heap.size w w3) := Lib.hid (HBw.out.trans (hB.mono HBw.out.size))
  clear hR hT hB hL
  go_wp2_with fail
  refine (size_fill F g w1.heap.size m A len cap es f M hM _ (by exact HF3.out) HG.out).mono ?_
  rintro e w4 ⟨rfl, hB⟩
  have HBw4 : Hid (Below w.heap.size w w4) := Lib.hid (HBw3.out.trans (hB.mono HBw3.out.size))
  clear hB
  go_wp2
  go_ret3
  exact ⟨M, rfl, HC.out, HBw4.out⟩
end Go.Proofs.Ythfgbgmkiggjmaa
