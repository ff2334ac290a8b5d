/- The reference's IsWay, of a list of nodes that is a way. -/
import Derived.Test.YtmelemjngnadpaaZNear
import Derived.Test.YtmelemjngnadpaaZHas
import Derived.Test.YtmelemjngnadpaaZBox0
import Derived.Test.YtmelemjngnadpaaZb2
import Derived.Deep.RegionHeld3
import Derived.Deep.QuietTactic
import Derived.BigQuiet
import Derived.IntWalk
namespace Go.Proofs.Ytmelemjngnadpaa
open Go.RowKit

def natsW (l : List Nat) : List Int := l.map fun x : Nat => (x : Int)
theorem natsW_length (l : List Nat) : (natsW l).length = l.length := by simp [natsW]
theorem natsW_get {l : List Nat} {i : Nat} {x : Int} (h : (natsW l)[i]? = some x) : x = ((l.getD i 0 : Nat) : Int) ∧ i < l.length := by
  unfold natsW at h
  obtain ⟨h1, h2⟩ := List.getElem?_eq_some_iff.1 h
  simp at h1 h2
  refine ⟨?_, h1⟩
  rw [← h2, List.getD_eq_getElem?_getD, List.getElem?_eq_getElem h1]; rfl
theorem IntsAt.takeW {w : World} {B n : Nat} {A : Option Addr} {xs : List Int} (h : IntsAt w B A n xs) {k : Nat} (hk : k ≤ n) : IntsAt w B A k (xs.take k) := by
  refine ⟨by rw [List.length_take, h.1]; omega, fun h0 => ?_⟩
  obtain ⟨b, off, h1, h2, h3⟩ := h.2 (by omega)
  refine ⟨b, off, h1, h2, fun i x hx => h3 i x ?_⟩
  rw [List.getElem?_take] at hx
  split at hx
  · exact hx
  · cases hx
theorem natsW_not {l : List Nat} {k : Nat} (hn : ∀ i j, i < j → j < l.length → l.getD i 0 ≠ l.getD j 0) (hk : k < l.length) : hasI ((natsW l).take k) ((l.getD k 0 : Nat) : Int) = false := by
  cases h : hasI ((natsW l).take k) ((l.getD k 0 : Nat) : Int) with
  | false => rfl
  | true =>
    rw [hasI_iff] at h
    obtain ⟨i, hi⟩ := List.getElem?_of_mem h
    rw [List.getElem?_take] at hi
    split at hi
    · rename_i hik
      obtain ⟨h1, h2⟩ := natsW_get hi
      exact absurd (Int.ofNat_inj.1 h1).symm (hn i k hik hk)
    · cases hi

set_option maxRecDepth 100000 in
set_option maxHeartbeats 4000000 in
theorem isWay_true (m a b : Nat) (A Al : Option Addr) (len cap n capl : Nat) (es : List E3) (l : List Nat) (w : World) (hE : EdgesAt w w.heap.size A len es) (hl : len ≤ 45) (hI : IntsAt w w.heap.size Al n (natsW l)) (hc : n ≤ capl) (hn2 : 2 ≤ n) (hn : n ≤ 1000)
    (hlt : ∀ i, i < n → l.getD i 0 < m) (hnd : ∀ i j, i < j → j < n → l.getD i 0 ≠ l.getD j 0) (h0 : l.getD 0 0 = a) (hz : l.getD (n - 1) 0 = b) (had : ∀ i, i + 1 < n → adjE es (l.getD i 0) (l.getD (i + 1) 0) = true) :
    Calls Try.prog 6 #[.agg #[.int .i64 m, .slice A len cap], .int .i64 a, .int .i64 b, .slice Al n capl] w fun e w' => e = .returned (.bool true) ∧ Below w.heap.size w w' := by
  have HX := Lib.hid (BoxG.start (n := m) (cap := cap) hE)
  have HI := Lib.hid hI
  have HLL : Hid (l.length = n) := Lib.hid (by have := hI.1; rwa [natsW_length] at this)
  have HLT := Lib.hid hlt
  have HND := Lib.hid hnd
  have HAD := Lib.hid had
  have hIb := hI.below (w' := bx w m A len cap) ((Below.refl _ _).alloc (Nat.le_refl _) _)
  obtain ⟨g, off, x0, rfl, _, hx0, hc0⟩ := hIb.at_ (show 0 < n by omega)
  obtain ⟨g', off', xz, hA2, _, hxz, hcz⟩ := hIb.at_ (show n - 1 < n by omega)
  injection hA2 with hA2
  injection hA2 with hA2 hA3
  subst hA2
  subst hA3
  obtain ⟨rfl, _⟩ := natsW_get hx0
  obtain ⟨rfl, _⟩ := natsW_get hxz
  rw [h0, Nat.add_zero] at hc0
  rw [hz] at hcz
  unfold bx at hc0 hcz
  clear hE hI hlt hnd had hx0 hxz h0 hz hIb
  have hwz : IntKind.i64.wrap ((n : Int) - 1) = ((n - 1 : Nat) : Int) := by rw [IntWalk.i64_in _ (by omega)]; omega
  have hn2i : ¬ (n : Int) < 2 := by omega
  have hz0 : (0 : Int) ≤ ((n - 1 : Nat) : Int) := by omega
  have hz1 : ((n - 1 : Nat) : Int) < (n : Int) := by omega
  have hn0 : (0 : Int) < (n : Int) := by omega
  generalize n - 1 = z at hwz hz0 hz1 hcz
  go_enter Try.func6, Try.ntmps6
  go_wp2
  go_loopw [9] (fun j wr => ∃ k : Nat, k ≤ n ∧ j = .int .i64 k ∧ Hid (BoxG w m A len cap es wr)) (fun j _ => n - (intOf j).toNat)
  case atStart => exact ⟨0, Nat.zero_le _, rfl, HX⟩
  case round =>
    clear HX hc0 hcz hwz hz0 hz1 hn2i hn0
    obtain ⟨k, hk, rfl, HB⟩ := hrel
    by_cases hkn : k < n
    · have hIr := HI.out.below HB.out.below
      obtain ⟨g', off', x, hA2, hbl, hx, hcx⟩ := hIr.at_ hkn
      injection hA2 with hA2
      injection hA2 with hA2 hA3
      subst hA2
      subst hA3
      obtain ⟨rfl, _⟩ := natsW_get hx
      have hxm := HLT.out k hkn
      have HHAS : Hid (hasI ((natsW l).take k) ((l.getD k 0 : Nat) : Int) = false) := Lib.hid (natsW_not (by rw [HLL.out]; exact HND.out) (by rw [HLL.out]; exact hkn))
      have HTK : Hid (IntsAt wr wr.heap.size (some ⟨g, off, none⟩) k ((natsW l).take k)) := Lib.hid ((hIr.takeW hk).more HB.out.below.size)
      have hc0 := HB.out.c0
      have hc1 := HB.out.c1
      have HEr := Lib.hid HB.out.edges
      have hwl := HB.out.lt
      have ik0 : (0 : Int) ≤ (k : Int) := by omega
      have ik1 : (k : Int) < (n : Int) := by omega
      have ik2 : (k : Int) ≤ (capl : Int) := by omega
      by_cases hk0 : k = 0
      · subst hk0
        rw [Nat.add_zero] at hcx
        clear hx hIr HEr
        generalize l.getD 0 0 = x at *
        have ix1 : decide ((m : Int) ≤ (x : Int)) = false := by simp; omega
        have ix2 : decide (m ≤ x) = false := by simp; omega
        have ix3 : ¬ m ≤ x := by omega
        have ix4 : decide ((x : Int) < 0) = false := by simp
        go_wp2
        have HTD : Hid (∀ q, IntsAt (wr.drewN q) (wr.drewN q).heap.size (some ⟨g, off, none⟩) 0 ((natsW l).take 0)) := Lib.hid (fun q => HTK.out.drewN q)
        go_quiet ((go_at_call 7; exact Calls.quiet_of_same ((has_v 0 capl (x : Int) false (some ⟨g, off, none⟩) ((natsW l).take 0) _ (HTD.out _) (by omega) HHAS.out).mono fun _ _ h => ⟨h.1, h.2.symm⟩)))
        have HT1 := Lib.hid (fun q => HB.out.next (below_drewN (Below.refl wr.heap.size wr) q))
        clear HTD HTK HHAS
        go_wp2
        go_roundw
        case rel => exact ⟨1, by omega, by go_num, Lib.hid (HT1.out _)⟩
        case measure => simp [intOf]; omega
      · obtain ⟨g', off', y, hA2, _, hy, hcy⟩ := hIr.at_ (show k - 1 < n by omega)
        injection hA2 with hA2
        injection hA2 with hA2 hA3
        subst hA2
        subst hA3
        obtain ⟨rfl, _⟩ := natsW_get hy
        have HNR : Hid (nearI es ((l.getD (k - 1) 0 : Nat) : Int) ((l.getD k 0 : Nat) : Int) = true) := Lib.hid (by
          rw [nearI_nat]
          have := HAD.out (k - 1) (by omega)
          rwa [show k - 1 + 1 = k by omega] at this)
        have hw1 : IntKind.i64.wrap ((k : Int) - 1) = ((k - 1 : Nat) : Int) := by rw [IntWalk.i64_in _ (by omega)]; omega
        have iq0 : (0 : Int) ≤ ((k - 1 : Nat) : Int) := by omega
        have iq1 : ((k - 1 : Nat) : Int) < (n : Int) := by omega
        have hkp : (0 : Int) < (k : Int) := by omega
        have hkp1 : 0 < k := by omega
        have ikc : k ≤ capl := by omega
        clear hx hy hIr
        generalize k - 1 = q at *
        generalize l.getD k 0 = x at *
        generalize l.getD q 0 = y at *
        have ix1 : decide ((m : Int) ≤ (x : Int)) = false := by simp; omega
        have ix2 : decide (m ≤ x) = false := by simp; omega
        have ix3 : ¬ m ≤ x := by omega
        have ix4 : decide ((x : Int) < 0) = false := by simp
        go_wp2
        go_region_held3 (fun W => W.cell? ⟨w.heap.size, 0, none⟩ = some (.int .i64 m) ∧ W.cell? ⟨w.heap.size, 1, none⟩ = some (.slice A len cap) ∧ W.cell? ⟨g, off + k, none⟩ = some (.int .i64 x) ∧ W.cell? ⟨g, off + q, none⟩ = some (.int .i64 y))
          (first | exact ⟨hc0, hc1, hcx, hcy⟩ | exact ⟨q0, q1, q2, q3⟩ | go_keep)
          (first
            | (go_at_call 7; refine (has_v k capl (x : Int) false (some ⟨g, off, none⟩) ((natsW l).take k) _ (by exact HTK.out) (by omega) HHAS.out).mono ?_; rintro e W3 ⟨rfl, rfl⟩)
            | (go_at_call 16; refine (near_v m y x A len cap es true _ (by exact HEr.out) hl HNR.out).mono ?_; rintro e W4 ⟨rfl, hb4⟩; have q0 := (hb4.cell (p := ⟨w.heap.size, 0, none⟩) (by exact hwl)).trans hc0; have q1 := (hb4.cell (p := ⟨w.heap.size, 1, none⟩) (by exact hwl)).trans hc1; have q2 := (hb4.cell (p := ⟨g, off + k, none⟩) (by show g < _; simp; omega)).trans hcx; have q3 := (hb4.cell (p := ⟨g, off + q, none⟩) (by show g < _; simp; omega)).trans hcy; have HB4 := Lib.hid hb4; clear hb4))
        have HB5 : Hid (BoxG w m A len cap es W4) := Lib.hid (HB.out.next ((Below.refl _ _).drew.trans HB4.out))
        clear HB4 HNR HHAS HTK hc0 hc1 q0 q1 q2 q3 hcx hcy HEr
        go_wp2
        go_roundw
        case rel => exact ⟨k + 1, by omega, by go_num, HB5⟩
        case measure => simp [intOf]; omega
    · obtain rfl : k = n := by omega
      go_wp2
      go_ret
      exact ⟨rfl, HB.out.below⟩
end Go.Proofs.Ytmelemjngnadpaa
