/- short.walksFrom: the best walks from a node, or that there is more to be had for ever. -/
import Derived.Test.YtkpejmpnbdblbaaImprove
namespace Go.Proofs.Ytkpejmpnbdblbaa
open Go.RowKit Go.Maps

structure RunW (w : World) (m : Nat) (A : Option Addr) (len cap : Nat) (es : List A4) (s r : Nat) (w1 : World) : Prop where
  arcs : ArcsAt w1 w1.heap.size A len es
  map : WMap (netA m es) (runD (netA m es) s r) w1 (w.heap.size + 1) (1 + r * len)
  below : Below w.heap.size w w1
  box : w1.heap[w.heap.size]? = some (.cells #[.int .i64 (m : Int), .slice A len cap] 24 (0, 0))
section
variable {w w1 w2 : World} {m : Nat} {A : Option Addr} {len cap s r : Nat} {es : List A4}
theorem RunW.k0 (h : RunW w m A len cap es s r w1) : w1.cell? ⟨w.heap.size, 0, none⟩ = some (.int .i64 (m : Int)) := by simp [World.cell?, h.box]
theorem RunW.k1 (h : RunW w m A len cap es s r w1) : w1.cell? ⟨w.heap.size, 1, none⟩ = some (.slice A len cap) := by simp [World.cell?, h.box]
theorem RunW.next (h : RunW w m A len cap es s r w1) (hm : WMap (netA m es) (goD (netA m es) (runD (netA m es) s r) (netA m es).K) w2 (w.heap.size + 1) (1 + r * len + len)) (hg : w1.grownBy w2 (some (w.heap.size + 1))) (ha : ArcsAt w2 w2.heap.size A len es) : RunW w m A len cap es s (r + 1) w2 :=
  ⟨ha, by rw [Nat.succ_mul, ← Nat.add_assoc]; exact hm, h.below.grown hg h.below.size (fun g hg => by cases hg; omega), (hg.block _ (by have := h.map.lt; omega) (fun e => by injection e; omega)).trans h.box⟩
end
theorem run_small {r len m : Nat} (hr : r ≤ m) (hm : m ≤ 10) (hl : len ≤ 30) : r * len ≤ 300 := Nat.le_trans (Nat.mul_le_mul (show r ≤ 10 by omega) hl) (by decide)
set_option maxRecDepth 100000 in
set_option maxHeartbeats 2000000 in
theorem walks_any (m s : Nat) (A : Option Addr) (len cap : Nat) (es : List A4) (v : Bool) (w : World) (hE : ArcsAt w w.heap.size A len es) (hG : GoodN (m : Int) es) (hF : FeeS es) (hs : s < m) (hv : v = true ↔ SinksP (netA m es) s) :
    Calls Try.prog 26 #[.agg #[.int .i64 (m : Int), .slice A len cap], .int .i64 (s : Int)] w fun e w' =>
      (if v then e = .returned (.tuple #[.map none, .int .i64 5]) else e = .returned (.tuple #[.map (some (w.heap.size + 1)), .int .i64 0]) ∧ WMap (netA m es) (runD (netA m es) s m) w' (w.heap.size + 1) (1 + m * len)) ∧ Below w.heap.size w w' ∧ w.heap.size + 2 ≤ w'.heap.size := by
  have hl30 : len ≤ 30 := by have := hG.len; have := hE.1; omega
  have hm10 : m ≤ 10 := by have := hG.n1; omega
  have hwf : (Lit.int .i64 (s : Int)).wf = true := wf_nat (by omega)
  obtain ⟨m1, hm1⟩ : ∃ m1, m = m1 + 1 := ⟨m - 1, by omega⟩
  have HKL : Hid ((netA m es).K = len) := Lib.hid hE.1
  have HOK := Lib.hid (OkD.run (N := netA m es) (netA_ok hG) (show s < (netA m es).n from hs))
  have HBIT : Hid (bitD (netA m es) (runD (netA m es) s m1) (netA m es).K = v) := Lib.hid (by
    have h := bit_sinks (r := m1) (netA_fee hG hF) (by decide) (netA_ok hG) (show s < (netA m es).n from hs) (netA_K hG) (show m ≤ m1 + 1 by omega)
    rw [← hv] at h
    exact Bool.eq_iff_iff.2 h)
  have HIMP : Hid (∀ r W, r ≤ m1 → RunW w m A len cap es s r W → Calls Try.prog 30 #[.agg #[.int .i64 (m : Int), .slice A len cap], .map (some (w.heap.size + 1))] W fun e w' => e = .returned (.bool (bitD (netA m es) (runD (netA m es) s r) (netA m es).K)) ∧ RunW w m A len cap es s (r + 1) w') := Lib.hid fun r W hr hW => by
    have hsm := run_small (r := r) (len := len) (m := m) (by omega) hm10 hl30
    refine (improve_any m s (r * len) A len cap (w.heap.size + 1) (1 + r * len) es _ W hW.arcs hG hF hW.map (by have := HOK.out r; rwa [HKL.out] at this) (by omega) (by omega)).mono ?_
    rintro e w' ⟨h1, h2, h3, h4⟩
    exact ⟨h1, hW.next h2 h3 h4⟩
  obtain ⟨w3, g1, g2, g3⟩ := insert_start (netA m es) (bxN w (m : Int) A len cap) s hwf
  have hsz : (bxN w (m : Int) A len cap).heap.size = w.heap.size + 1 := by simp [bxN]
  rw [hsz] at g1 g2 g3
  have hb0 : Below w.heap.size w ((bxN w (m : Int) A len cap).alloc (.map #[] 0)) := ((Below.refl _ _).alloc (Nat.le_refl _) _).alloc (by simp) _
  have HR0 : Hid (RunW w m A len cap es s 0 w3) := Lib.hid (by
    have hM : IsM ((bxN w (m : Int) A len cap).alloc (.map #[] 0)) (w.heap.size + 1) := ⟨#[], 0, by have := (MapKept.heap_alloc (bxN w (m : Int) A len cap) (.map #[] 0)).1; rwa [hsz] at this⟩
    refine ⟨(hE.go_ hb0).grown hM g3, by rw [Nat.zero_mul]; exact g2, hb0.grown g3 (by simp [bxN]; omega) (fun g hg => by cases hg; omega), (g3.block _ (by simp [bxN]; omega) (fun e => by injection e; omega)).trans ?_⟩
    rw [Below.heap_alloc _ _ _ (by simp [bxN])]; exact (MapKept.heap_alloc w _).1)
  have hmm := @run_makeMap Try.prog
  have hwr : IntKind.i64.wrap ((m : Int) - 1) = (m1 : Int) := by rw [show (m : Int) - 1 = (m1 : Int) by omega]; exact IntWalk.i64_in _ (by omega)
  have HM1 := Lib.hid hm1
  have hm9 : m1 ≤ 10 := by omega
  unfold bxN at g1
  clear hE hG hF hs hv g2 g3 hb0 HOK hsz hm1 HKL
  have k0 := HR0.out.k0
  go_enter Try.func26, Try.ntmps26
  go_wp2_with fail
  clear k0 hmm g1
  go_loopw [14] (fun j wr => ∃ r : Nat, r ≤ m1 ∧ j = .int .i64 r ∧ Hid (RunW w m A len cap es s r wr)) (fun j _ => m1 - (intOf j).toNat)
  case atStart => exact ⟨0, Nat.zero_le _, rfl, HR0⟩
  case round =>
    clear HR0
    obtain ⟨r, hr, rfl, HR⟩ := hrel
    have k0 := HR.out.k0
    have k1 := HR.out.k1
    by_cases hlt : r < m1
    · go_wp2_with fail
      refine (HIMP.out r _ hr HR.out).mono ?_
      rintro e w4 ⟨rfl, h4⟩
      have HN := Lib.hid h4
      clear h4 k0 k1
      go_wp2_with fail
      go_roundw
      case rel => exact ⟨r + 1, by omega, by go_num, HN⟩
      case measure => simp [intOf]; omega
    · obtain rfl : r = m1 := by omega
      go_wp2_with fail
      refine ((HIMP.out r _ hr HR.out).mono (R' := fun e w' => e = .returned (.bool v) ∧ RunW w m A len cap es s m w') (fun e w' h => by
        obtain ⟨h1, h2⟩ := h
        rw [HBIT.out] at h1
        rw [← HM1.out] at h2
        exact ⟨h1, h2⟩)).mono ?_
      rintro e w4 ⟨rfl, h4⟩
      have HN := Lib.hid h4
      clear h4 k0 k1 HIMP HBIT
      cases v with
      | true =>
        go_wp2_with fail
        go_ret2
        exact ⟨rfl, HN.out.below, by have := HN.out.map.lt; omega⟩
      | false =>
        go_wp2_with fail
        go_ret2
        exact ⟨⟨rfl, HN.out.map⟩, HN.out.below, by have := HN.out.map.lt; omega⟩
end Go.Proofs.Ytkpejmpnbdblbaa
