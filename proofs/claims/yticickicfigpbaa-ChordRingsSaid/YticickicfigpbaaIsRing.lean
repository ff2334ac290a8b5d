/- The reference's IsRing, of a list of nodes none of which is there twice. -/
import Derived.Test.YticickicfigpbaaNear
import Derived.Test.YticickicfigpbaaHas
import Derived.Test.YticickicfigpbaaBoxB
import Derived.Test.YticickicfigpbaaSidesP
import Derived.Test.YticickicfigpbaaInts
import Derived.Deep.RegionHeld3
import Derived.IntWalk
namespace Go.Proofs.Yticickicfigpbaa
open Go.RowKit

def natsL (l : List Nat) : List Int := l.map fun x : Nat => (x : Int)
theorem natsL_length (l : List Nat) : (natsL l).length = l.length := by simp [natsL]
theorem natsL_get {l : List Nat} {i : Nat} {x : Int} (h : (natsL l)[i]? = some x) : x = ((l.getD i 0 : Nat) : Int) ∧ i < l.length := by
  unfold natsL at h
  obtain ⟨h1, h2⟩ := List.getElem?_eq_some_iff.1 h
  simp at h1 h2
  refine ⟨?_, h1⟩
  rw [← h2, List.getD_eq_getElem?_getD, List.getElem?_eq_getElem h1]; rfl
theorem IntsAt.take {w : World} {B n : Nat} {A : Option Addr} {xs : List Int} (h : IntsAt w B A n xs) {k : Nat} (hk : k ≤ n) : IntsAt w B A k (xs.take k) := by
  refine ⟨by rw [List.length_take, h.1]; omega, fun h0 => ?_⟩
  obtain ⟨b, off, h1, h2, h3⟩ := h.2 (by omega)
  refine ⟨b, off, h1, h2, fun i x hx => h3 i x ?_⟩
  rw [List.getElem?_take] at hx
  split at hx
  · exact hx
  · cases hx
theorem natsL_not {l : List Nat} {k : Nat} (hn : ∀ i j, i < j → j < l.length → l.getD i 0 ≠ l.getD j 0) (hk : k < l.length) : hasI ((natsL l).take k) ((l.getD k 0 : Nat) : Int) = false := by
  cases h : hasI ((natsL l).take k) ((l.getD k 0 : Nat) : Int) with
  | false => rfl
  | true =>
    rw [hasI_iff] at h
    obtain ⟨i, hi⟩ := List.getElem?_of_mem h
    rw [List.getElem?_take] at hi
    split at hi
    · rename_i hik
      obtain ⟨h1, h2⟩ := natsL_get hi
      exact absurd (Int.ofNat_inj.1 h1).symm (hn i k hik hk)
    · cases hi

set_option maxRecDepth 100000 in
set_option maxHeartbeats 2000000 in
theorem isRing_v (m : Nat) (A Al : Option Addr) (len cap n capl : Nat) (es : List E3) (l : List Nat) (v : Bool) (w : World) (hE : EdgesAt w w.heap.size A len es) (hl : len ≤ 45) (hI : IntsAt w w.heap.size Al n (natsL l)) (hc : n ≤ capl) (hn3 : 3 ≤ n) (hn : n ≤ 1000)
    (hlt : ∀ i, i < n → l.getD i 0 < m) (hnd : ∀ i j, i < j → j < n → l.getD i 0 ≠ l.getD j 0) (hv : v = true ↔ ∀ i, i < n → adjE es (l.getD i 0) (l.getD ((i + 1) % n) 0) = true) :
    Calls Try.prog 14 #[.agg #[.int .i64 m, .slice A len cap], .slice Al n capl] w fun e w' => e = .returned (.bool v) ∧ Below w.heap.size w w' := by
  have HX := Lib.hid (BoxG.start (n := m) (cap := cap) hE)
  have HI := Lib.hid hI
  have HLL : Hid (l.length = n) := Lib.hid (by have := hI.1; rwa [natsL_length] at this)
  have HLT := Lib.hid hlt
  have HND := Lib.hid hnd
  have HV := Lib.hid hv
  clear hE hI hlt hnd hv
  go_enter Try.func14, Try.ntmps14
  go_wp2
  go_loopw [5] (fun j wr => ∃ k : Nat, k ≤ n ∧ j = .int .i64 k ∧ Hid (∀ i, i < k → adjE es (l.getD i 0) (l.getD ((i + 1) % n) 0) = true) ∧ Hid (BoxG w m A len cap es wr)) (fun j _ => n - (intOf j).toNat)
  case atStart => exact ⟨0, Nat.zero_le _, rfl, Lib.hid (fun i hi => by omega), HX⟩
  case round =>
    obtain ⟨k, hk, rfl, HA, HB⟩ := hrel
    by_cases hkn : k < n
    · have hIr := HI.out.below HB.out.below
      obtain ⟨b, off, x, rfl, hbl, hx, hcx⟩ := hIr.at_ hkn
      have hyn : (k + 1) % n < n := Nat.mod_lt _ (by omega)
      obtain ⟨b', off', y, hA2, _, hy, hcy⟩ := hIr.at_ hyn
      injection hA2 with hA2
      injection hA2 with hA2 hA3
      subst hA2
      subst hA3
      obtain ⟨rfl, _⟩ := natsL_get hx
      obtain ⟨rfl, _⟩ := natsL_get hy
      have hxm := HLT.out k hkn
      have HHAS : Hid (hasI ((natsL l).take k) ((l.getD k 0 : Nat) : Int) = false) := Lib.hid (natsL_not (by rw [HLL.out]; exact HND.out) (by rw [HLL.out]; exact hkn))
      have HTK : Hid (IntsAt wr wr.heap.size (some ⟨b, off, none⟩) k ((natsL l).take k)) := Lib.hid ((hIr.take hk).more HB.out.below.size)
      have hc0 := HB.out.c0
      have hc1 := HB.out.c1
      have HEr := Lib.hid HB.out.edges
      have hwl := HB.out.lt
      have hm1 : ((k : Int) + 1).tmod (n : Int) = (((k + 1) % n : Nat) : Int) := by
        rw [Int.tmod_eq_emod_of_nonneg (by omega)]; simp
      have hm2 : ((k : Int) + 1) % (n : Int) = (((k + 1) % n : Nat) : Int) := by simp
      have HNX : Hid (adjE es (l.getD k 0) (l.getD ((k + 1) % n) 0) = true → ∀ i, i < k + 1 → adjE es (l.getD i 0) (l.getD ((i + 1) % n) 0) = true) := Lib.hid fun h i hi => by
        rcases Nat.lt_or_ge i k with h1 | h1
        · exact HA.out i h1
        · obtain rfl : i = k := by omega
          exact h
      have HFL : Hid (adjE es (l.getD k 0) (l.getD ((k + 1) % n) 0) = false → v = false) := Lib.hid fun h => by
        cases hvv : v with
        | false => rfl
        | true => have := HV.out.1 hvv k hkn; rw [h] at this; cases this
      clear hx hy hIr
      generalize (k + 1) % n = q at *
      generalize l.getD k 0 = x at *
      generalize l.getD q 0 = y at *
      have ik0 : (0 : Int) ≤ (k : Int) := by omega
      have ik1 : (k : Int) < (n : Int) := by omega
      have ik2 : (k : Int) ≤ (capl : Int) := by omega
      have iq0 : (0 : Int) ≤ (q : Int) := by omega
      have iq1 : (q : Int) < (n : Int) := by omega
      have in0 : ¬ (n : Int) = 0 := by omega
      have in1 : ¬ n = 0 := by omega
      have ix1 : decide ((m : Int) ≤ (x : Int)) = false := by simp; omega
      have ix2 : decide (m ≤ x) = false := by simp; omega
      have ix3 : ¬ m ≤ x := by omega
      have ix4 : decide ((x : Int) < 0) = false := by simp
      have ikc : k ≤ capl := by omega
      have hw1 : IntKind.i64.wrap ((k : Int) + 1) = (k : Int) + 1 := IntWalk.i64_in _ (by omega)
      have hw2 : IntKind.i64.wrap (q : Int) = (q : Int) := IntWalk.i64_in _ (by omega)
      obtain ⟨a, ha⟩ : ∃ a : Bool, adjE es x y = a := ⟨_, rfl⟩
      have HAD : Hid (nearI es (x : Int) (y : Int) = a) := Lib.hid (by rw [nearI_nat]; exact ha)
      rw [ha] at HNX HFL
      clear ha
      go_wp2
      go_region_held3 (fun W => W.cell? ⟨w.heap.size, 0, none⟩ = some (.int .i64 m) ∧ W.cell? ⟨w.heap.size, 1, none⟩ = some (.slice A len cap) ∧ W.cell? ⟨b, off + k, none⟩ = some (.int .i64 x) ∧ W.cell? ⟨b, off + q, none⟩ = some (.int .i64 y))
        (first | exact ⟨hc0, hc1, hcx, hcy⟩ | exact ⟨q0, q1, q2, q3⟩ | go_keep)
        (first
          | (go_at_call 27; refine (has_v k capl (x : Int) false (some ⟨b, off, none⟩) ((natsL l).take k) _ (by exact HTK.out) (by omega) HHAS.out).mono ?_; rintro e W3 ⟨rfl, rfl⟩)
          | (go_at_call 30; refine (near_v m x y A len cap es a _ (by exact HEr.out) hl HAD.out).mono ?_; rintro e W4 ⟨rfl, hb4⟩; have q0 := (hb4.cell (p := ⟨w.heap.size, 0, none⟩) (by exact hwl)).trans hc0; have q1 := (hb4.cell (p := ⟨w.heap.size, 1, none⟩) (by exact hwl)).trans hc1; have q2 := (hb4.cell (p := ⟨b, off + k, none⟩) (by show b < _; simp; omega)).trans hcx; have q3 := (hb4.cell (p := ⟨b, off + q, none⟩) (by show b < _; simp; omega)).trans hcy; have HB4 := Lib.hid hb4; clear hb4))
      have HB5 : Hid (BoxG w m A len cap es W4) := Lib.hid (HB.out.next ((Below.refl _ _).drew.trans HB4.out))
      clear HB4 HAD HHAS HTK hc0 hc1 q0 q1 q2 q3 hcx hcy HEr
      cases a with
      | true =>
        have HN := Lib.hid (HNX.out rfl)
        go_wp2
        go_roundw
        case rel => exact ⟨k + 1, by omega, by go_num, HN, HB5⟩
        case measure => simp [intOf]; omega
      | false =>
        have HF := Lib.hid (HFL.out rfl)
        go_wp2
        go_ret
        exact ⟨ret_bool HF.out.symm, HB5.out.below⟩
    · obtain rfl : k = n := by omega
      have HT : Hid (v = true) := Lib.hid (HV.out.2 HA.out)
      have hk3 : (3 : Int) ≤ (k : Int) := by omega
      go_wp2
      go_ret
      exact ⟨ret_bool HT.out.symm, HB.out.below⟩
end Go.Proofs.Yticickicfigpbaa
