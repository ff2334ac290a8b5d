/- The program's farFrom: rounds of steps until none takes anything down. Condition: no ring of steps costs less than nothing. -/
import Derived.Test.YtmlmnmphmghdlaaRepeatQ
import Derived.Test.YtmlmnmphmghdlaaLowerGo
import Derived.Deep.LoopGhost
namespace Go.Proofs.Ytmlmnmphmghdlaa
open Go.RowKit

/-- What it is said to cost at first. -/
def farD (s : Nat) : Nat → Int := updI (fun _ => 41943040) s 0
theorem farD_far {s i : Nat} (h : i ≠ s) : farD s i = 41943040 := by unfold farD updI; rw [if_neg h]
theorem farD_src (s : Nat) : farD s s = 0 := by unfold farD updI; rw [if_pos rfl]
theorem farD_abs (s i : Nat) : 0 ≤ farD s i ∧ farD s i ≤ 41943040 := by
  by_cases h : i = s
  · subst h; rw [farD_src]; decide
  · rw [farD_far h]; decide
structure FarP (N : NetP) (fee : Nat → Int) (s : Nat) (d : Nat → Int) : Prop where
  src : FromP (AvailP N fee) N.n (farD s) d
  down : ∀ i, d i ≤ farD s i
section
variable {N : NetP} {fee d : Nat → Int} {s : Nat}
theorem FarP.low (hN : N.ok) (h : FarP N fee s d) {k : Nat} (hk : k ≤ N.K) : FarP N fee s (lowK N fee d k) := ⟨low_from hN h.src k hk, fun i => Int.le_trans (lowK_le i k) (h.down i)⟩
theorem FarP.abs (hN : N.ok) (hf : ∀ k, -1048576 ≤ fee k ∧ fee k ≤ 1048576) (hNN : NoNeg (AvailP N fee)) (hn : N.n ≤ 11) (h : FarP N fee s d) {i : Nat} (hi : i < N.n) : -41943040 ≤ d i ∧ d i ≤ 41943040 := by
  have h1 := from_abs (A := AvailP N fee) (M := 1048576) (L := 41943040) (fun i j c h => avail_lt hN h) (fun i j c ⟨k, _, _, _, _, h⟩ => by rw [← h]; exact hf k) (by decide) hNN (farD_abs s) h.src h.down hi
  have h2 : (N.n : Int) * 1048576 ≤ 11 * 1048576 := Int.mul_le_mul_of_nonneg_right (by omega) (by decide)
  omega
theorem FarP.sum (hN : N.ok) (hf : ∀ k, -1048576 ≤ fee k ∧ fee k ≤ 1048576) (hNN : NoNeg (AvailP N fee)) (hn : N.n ≤ 11) (h : FarP N fee s d) : 0 ≤ sumI d N.n + N.n * 41943040 := by
  have := (sum_ge (M := 41943040) (c := d) N.n fun t ht => h.abs hN hf hNN hn ht).1
  omega
end
def FarOut (N : NetP) (fee : Nat → Int) (s m : Nat) (w : World) (e : Ending) (w' : World) : Prop :=
  ∃ g d, e = .returned (.slice (some ⟨g, 0, none⟩) m m) ∧ RowI w' g m d ∧ FarP N fee s d ∧ FeasP (AvailP N fee) d ∧ w.heap.size ≤ g ∧ Below w.heap.size w w'
set_option maxRecDepth 100000 in
set_option maxHeartbeats 2000000 in
theorem farFrom_any (m : Nat) (A : Option Addr) (len cap : Nat) (es : List A4) (s : Nat) (w : World) (hE : ArcsAt w w.heap.size A len es) (hG : BigN (m : Int) es) (hm10 : m ≤ 10) (hs : s < m)
    (hFB : ∀ k, -1048576 ≤ feeP es k ∧ feeP es k ≤ 1048576) (hNN : NoNeg (AvailP (netP (m : Int) es) (feeP es))) :
    Calls Try.prog 30 #[.agg #[.int .i64 m, .slice A len cap], .int .i64 s] w (FarOut (netP (m : Int) es) (feeP es) s m w) := by
  have HX := Lib.hid (BoxN.start (n := (m : Int)) (cap := cap) hE)
  have HE := Lib.hid hE
  have HG := Lib.hid hG
  have HFB := Lib.hid hFB
  have HNN := Lib.hid hNN
  have hok := netP_ok hG
  have HOK := Lib.hid hok
  have HK : Hid ((netP (m : Int) es).K = len ∧ (netP (m : Int) es).n = m) := Lib.hid ⟨hE.1, by simp [netP]⟩
  obtain ⟨N, hN⟩ : ∃ N, N = netP (m : Int) es := ⟨_, rfl⟩
  have HN := Lib.hid hN
  rw [← hN] at HNN HOK HK ⊢
  have hlt := HX.out.lt
  have k0 := HX.out.k0
  have k1 := HX.out.k1
  clear hE hG hFB hNN hok hN
  go_enter Try.func30, Try.ntmps30
  go_wp2_with fail
  refine (repeatQ_any (w.heap.size + 1) m _ (by
    have := (MapKept.heap_alloc (w.alloc (.cells #[.int .i64 m, .slice A len cap] 24)) (.cells #[.int .i64 41943040] 2)).1
    rw [World.size_alloc] at this
    simp only [World.cell?, this]; rfl) (by simp) hm10).mono ?_
  rintro e w1 ⟨g, rfl, hgl, hrow, hB⟩
  have hBw : Below w.heap.size w w1 := ((Below.refl _ _).alloc (Nat.le_refl _) _).alloc (by simp) _ |>.trans (hB.mono (by simp; omega))
  have HB1 := Lib.hid hBw
  have hgl2 : w.heap.size + 1 + 1 ≤ g := by simpa using hgl
  have HBX : Hid (w1.heap[w.heap.size]? = some (.cells #[.int .i64 m, .slice A len cap] 24 (0, 0))) := Lib.hid (by
    rw [hB.block w.heap.size (by simp; omega), Below.heap_alloc _ _ _ (by simp)]
    exact (MapKept.heap_alloc w _).1)
  have HR := Lib.hid hrow
  have cs := hrow.cell hs
  have fs := hrow.frozen s
  have is0 : (0 : Int) ≤ (s : Int) := by omega
  have is1 : (s : Int) < (m : Int) := by omega
  clear hgl hrow hB hBw k0 k1 hlt HX
  go_wp2_with fail
  obtain ⟨W0, hW0⟩ : ∃ W0, W0 = w1.setCell ⟨g, s, none⟩ (.int .i64 0) := ⟨_, rfl⟩
  rw [← hW0]
  have HL0 : Hid (LowW W0 g m (farD s) W0) := Lib.hid ⟨by rw [hW0]; exact HR.out.set_ s 0, But.refl _ _⟩
  have HBW : Hid (Below w.heap.size w W0) := Lib.hid (by rw [hW0]; exact HB1.out.setCell (p := ⟨g, s, none⟩) (by show w.heap.size ≤ g; omega) _)
  have HBX0 : Hid (W0.heap[w.heap.size]? = some (.cells #[.int .i64 m, .slice A len cap] 24 (0, 0))) := Lib.hid (by rw [hW0]; exact (Below.heap_setCell _ _ _ _ (by show w.heap.size ≠ g; omega)).trans HBX.out)
  have HGW : Hid (g < W0.heap.size) := Lib.hid HL0.out.row.lt
  have HAW : Hid (ArcsAt W0 w.heap.size A len es) := Lib.hid (HE.out.below HBW.out)
  have HC0 : Hid (∀ d W, LowW W0 g m d W → W.cell? ⟨w.heap.size, 0, none⟩ = some (.int .i64 m) ∧ W.cell? ⟨w.heap.size, 1, none⟩ = some (.slice A len cap)) := Lib.hid fun d W h =>
    ⟨h.cell (by omega) (by simp [World.cell?, HBX0.out]), h.cell (by omega) (by simp [World.cell?, HBX0.out])⟩
  clear hW0 cs fs HB1 HBX HR
  have HF0 : Hid (FarP N (feeP es) s (farD s)) := Lib.hid ⟨from_start, fun i => Int.le_refl _⟩
  have HLOW : Hid (∀ d W, LowW W0 g m d W → FarP N (feeP es) s d → Calls Try.prog 24 #[.agg #[.int .i64 m, .slice A len cap], .slice (some ⟨g, 0, none⟩) m m] W fun e w' => e = .returned (.bool (lowB N (feeP es) d len)) ∧ LowW W0 g m (lowK N (feeP es) d len) w') := Lib.hid fun d W hW hd => by
    have h := lower_any m A len cap es g m w.heap.size d W (hW.arcs HAW.out (by omega) HGW.out) (by omega) hW.row HG.out HFB.out (fun k hk i hi => by
      have h1 := (hd.low HOK.out (k := k) (by rw [HK.out.1]; exact hk)).abs HOK.out HFB.out HNN.out (by rw [HK.out.2]; omega) (i := i) (by rw [HK.out.2]; exact hi)
      rw [← HN.out]
      omega)
    rw [← HN.out] at h
    exact h.mono fun e w' ⟨h1, h2, h3⟩ => ⟨h1, h2, hW.but.trans h3⟩
  go_loopg [15] (sumI (farD s) N.n + N.n * 41943040).toNat (fun c x wr => Hid (∃ d, FarP N (feeP es) s d ∧ (sumI d N.n + N.n * 41943040).toNat = c ∧ LowW W0 g m d wr))
  case atStart => exact Lib.hid ⟨_, HF0.out, rfl, HL0.out⟩
  case round =>
    obtain ⟨d, HD⟩ : ∃ d, Hid (FarP N (feeP es) s d ∧ (sumI d N.n + N.n * 41943040).toNat = gk ∧ LowW W0 g m d wr) := by
      obtain ⟨d, h⟩ := hrel.out
      exact ⟨d, Lib.hid h⟩
    clear hrel HF0 HL0
    have c0 := (HC0.out _ _ HD.out.2.2).1
    have c1 := (HC0.out _ _ HD.out.2.2).2
    cases hb : lowB N (feeP es) d len with
    | true =>
      have HBT := Lib.hid hb
      clear hb
      have HN2 : Hid (FarP N (feeP es) s (lowK N (feeP es) d len) ∧ (sumI (lowK N (feeP es) d len) N.n + N.n * 41943040).toNat < gk) := Lib.hid (by
        have h1 := HD.out.1.low HOK.out (k := len) (by rw [HK.out.1]; exact Nat.le_refl _)
        have h2 := h1.sum HOK.out HFB.out HNN.out (by rw [HK.out.2]; omega)
        have h3 := low_sum (fee := feeP es) (d := d) HOK.out (by rw [HK.out.1]; exact HBT.out)
        rw [HK.out.1] at h3
        have h4 := HD.out.2.1
        exact ⟨h1, by omega⟩)
      go_wp2_with fail
      refine (HLOW.out d _ (by exact HD.out.2.2) HD.out.1).mono ?_
      rintro e w3 ⟨he, h2⟩
      rw [HBT.out] at he
      subst he
      have HW3 := Lib.hid h2
      clear h2 c0 c1
      go_wp2_with fail
      go_roundg (sumI (lowK N (feeP es) d len) N.n + N.n * 41943040).toNat
      case measure => exact HN2.out.2
      case rel => exact Lib.hid ⟨_, HN2.out.1, rfl, HW3.out⟩
    | false =>
      have HBT := Lib.hid hb
      clear hb
      go_wp2_with fail
      refine (HLOW.out d _ (by exact HD.out.2.2) HD.out.1).mono ?_
      rintro e w3 ⟨he, h2⟩
      rw [HBT.out] at he
      subst he
      have HO : Hid (FarOut N (feeP es) s m w (.returned (.slice (some ⟨g, 0, none⟩) m m)) w3) := Lib.hid (by
        have e := (lowB_false (N := N) (fee := feeP es) (d := d) len HBT.out).1
        rw [e] at h2
        refine ⟨g, d, rfl, h2.row, HD.out.1, low_feas (by rw [HK.out.1]; exact HBT.out), by omega, HBW.out.trans (h2.but.below (by have := HBW.out.size; omega) (fun b hb => by omega))⟩)
      clear h2 c0 c1
      go_wp2_with fail
      go_ret
      exact HO.out
end Go.Proofs.Ytmlmnmphmghdlaa
