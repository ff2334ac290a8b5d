/- The statement CrowdColoursSaid, out of the law's walk. No conditions. -/
import Derived.Test.YthnchnamdoobeaaCrowdW
import Derived.Test.YthnchnamdoobeaaDegEq
import Derived.Test.YthnchnamdoobeaaLooseP
import Derived.Test.YthnchnamdoobeaaColourP
import Derived.Test.YthnchnamdoobeaaBox0
import Derived.Test.YthnchnamdoobeaaCheckGo
import Derived.Test.YthnchnamdoobeaaLeastC
import Derived.Test.YthnchnamdoobeaaBitSize
import Derived.Test.YthnchnamdoobeaaWords
import Derived.Test.YthnchnamdoobeaaNbP
import Derived.Test.YthnchnamdoobeaaWordsAt
import Derived.Test.YthnchnamdoobeaaNeigh
import Derived.Test.YthnchnamdoobeaaMem
import Derived.Test.YthnchnamdoobeaaLeastTop
import Derived.IntWalk
import Derived.Deep.RegionHeld3
import Derived.WalkSpells
import Derived.WalkLawsBesides
import Derived.Lib.Hide
import Derived.Deep.QuietTactic
import Derived.BigQuiet
import Derived.Lib.BitFns
import Derived.RegionTactic
import Derived.BigRegion
import Derived.ChangeAlike
import Derived.Test.YthnchnamdoobeaaRows
import Derived.ProofKit
import Derived.Deep.Slices
import Derived.Deep.Strs
import Derived.Lib.SmallJoins
namespace Go.Proofs.Ythnchnamdoobeaa

section
variable {m b a c k : Nat} {es : List E3}
theorem adj_irr (hg : goodE m es) (i : Nat) : adjE es i i = false := by
  cases ha : adjE es i i with
  | false => rfl
  | true => exact absurd rfl (adjE_lt hg ha).2.2
def belowB (m : Nat) : BS := fun i => decide (i < m)
theorem below_size (m : Nat) : sizeP (belowB m) m = m := by
  rw [sizeP_congr (T := fun i => !((fun _ => false) i)) m fun i hi => by simp [belowB, hi]]
  have h := sizeP_not (fun _ => false) m
  rw [show sizeP (fun _ => false) m = 0 from sizeP_none fun i _ => rfl, Nat.add_zero] at h
  exact h
theorem deg_below (hg : goodE m es) (v : Nat) : degS (adjE es) m (belowB m) v = degN es v := by
  rw [← deg_eq hg]
  exact sizeP_congr m fun j hj => by simp [belowB, hj]
/-- A set of one. -/
theorem one_size {i : Nat} (hi : i < m) : 1 ≤ sizeP (fun j => decide (j = i)) m := by
  have h := sizeP_del (A := fun j => decide (j = i)) (i := i) (by simp) hi
  omega
theorem most_one (hm : 0 < m) (hm10 : m ≤ 32) (hg : goodE m es) (ap : Bool) (h : MostW (CrowdW (adjE es) ap m) sizeW (2 ^ m) b) : 1 ≤ sizeW b := by
  have h0 := one_size hm
  cases ap with
  | false => exact Nat.le_trans h0 (h.clq_le (K := fun j => decide (j = 0)) (adjE_symm es) hm10 (fun i hi => by have := of_decide_eq_true hi; omega) fun i j hi hj hne => by
      have := of_decide_eq_true hi
      have := of_decide_eq_true hj
      omega)
  | true => exact Nat.le_trans h0 (h.lse_le (K := fun j => decide (j = 0)) (adjE_symm es) (adj_irr hg) hm10 (fun i hi => by have := of_decide_eq_true hi; omega) fun i j hi hj => by
      have e1 := of_decide_eq_true hi
      have e2 := of_decide_eq_true hj
      rw [e1, e2]
      exact adj_irr hg 0)
theorem turan_w (hm10 : m ≤ 32) (hg : goodE m es) (h : MostW (CrowdW (adjE es) false m) sizeW (2 ^ m) b) : 2 * es.length * sizeW b ≤ (sizeW b - 1) * m * m := by
  have h1 := turan (n := m) (adjE_symm es) (adj_irr hg) (sizeW b) (belowB m) (fun i hi => of_decide_eq_true hi) fun K hK hc => h.clq_le (adjE_symm es) hm10 (fun i hi => of_decide_eq_true (hK i hi)) hc
  rw [below_size] at h1
  have h2 : sumA (belowB m) (degS (adjE es) m (belowB m)) m = 2 * es.length := by
    have h3 := sum_degN hg es.length (Nat.le_refl _)
    rw [List.take_length] at h3
    rw [← h3]
    exact sumTo_congr m fun i hi => by
      rw [if_pos (show belowB m i = true from decide_eq_true hi), deg_below hg]
  rw [h2] at h1
  rw [Nat.mul_assoc (sizeW b - 1)]
  exact h1
theorem wei_w (hm10 : m ≤ 32) (hg : goodE m es) (h : MostW (CrowdW (adjE es) true m) sizeW (2 ^ m) b) : sumTo (fun i => 2520 / (degN es i + 1)) m ≤ 2520 * sizeW b := by
  obtain ⟨I, h1, h2, h3⟩ := wei (n := m) (adjE_symm es) (adj_irr hg) 2520 m (belowB m) (by rw [below_size]; exact Nat.le_refl _) fun i hi => of_decide_eq_true hi
  have h4 := h.lse_le (K := I) (adjE_symm es) (adj_irr hg) hm10 (fun i hi => of_decide_eq_true (h1 i hi)) h2
  have h5 : sumA (belowB m) (fun i => 2520 / (degS (adjE es) m (belowB m) i + 1)) m = sumTo (fun i => 2520 / (degN es i + 1)) m := sumTo_congr m fun i hi => by
    rw [if_pos (show belowB m i = true from decide_eq_true hi)]
    show 2520 / (degS (adjE es) m (belowB m) i + 1) = _
    rw [deg_below hg]
  rw [h5] at h3
  exact Nat.le_trans h3 (Nat.mul_le_mul_left _ h4)
def farB (es : List E3) (i j : Nat) : Bool := !adjE es i j && !decide (i = j)
theorem far_or (es : List E3) (i j : Nat) (h : i ≠ j) : adjE es i j = true ∨ farB es i j = true := by
  unfold farB
  cases adjE es i j <;> simp [h]
theorem far_symm (es : List E3) (i j : Nat) : farB es i j = farB es j i := by
  unfold farB
  rw [adjE_symm es i j]
  congr 2
  exact decide_eq_decide.2 ⟨fun h => h.symm, fun h => h.symm⟩
theorem far_lse (hg : goodE m es) {T : BS} (h : ClqB (farB es) T) : LseB (adjE es) T := fun i j hi hj => by
  by_cases e : i = j
  · subst e; exact adj_irr hg i
  · have h1 := h i j hi hj e
    unfold farB at h1
    rw [Bool.and_eq_true, Bool.not_eq_true'] at h1
    exact h1.1
theorem ramsey_w (hm10 : m ≤ 32) (hg : goodE m es) (hc : MostW (CrowdW (adjE es) false m) sizeW (2 ^ m) c) (ha : MostW (CrowdW (adjE es) true m) sizeW (2 ^ m) a) :
    (m < 6 ∨ 3 ≤ sizeW c ∨ 3 ≤ sizeW a) ∧ (m < 9 ∨ 3 ≤ sizeW c ∨ 4 ≤ sizeW a) ∧ (m < 9 ∨ 4 ≤ sizeW c ∨ 3 ≤ sizeW a) := by
  have one : ∀ r, Has (adjE es) m (belowB m) r → r ≤ sizeW c := fun r ⟨T, h1, h2, h3⟩ => Nat.le_trans h3 (hc.clq_le (adjE_symm es) hm10 (fun i hi => of_decide_eq_true (h1 i hi)) h2)
  have two : ∀ r, Has (farB es) m (belowB m) r → r ≤ sizeW a := fun r ⟨T, h1, h2, h3⟩ => Nat.le_trans h3 (ha.lse_le (adjE_symm es) (adj_irr hg) hm10 (fun i hi => of_decide_eq_true (h1 i hi)) (far_lse hg h2))
  have hA : ∀ i, belowB m i = true → i < m := fun i hi => of_decide_eq_true hi
  refine ⟨?_, ?_, ?_⟩
  · rcases Nat.lt_or_ge m 6 with h | h
    · exact .inl h
    · exact .inr ((ramsey33 (far_or es) (adjE_symm es) (far_symm es) hA (by rw [below_size]; exact h)).imp (one 3) (two 3))
  · rcases Nat.lt_or_ge m 9 with h | h
    · exact .inl h
    · exact .inr ((ramsey34 (far_or es) (adjE_symm es) (far_symm es) (adj_irr hg) hA (by rw [below_size]; exact h)).imp (one 3) (two 4))
  · rcases Nat.lt_or_ge m 9 with h | h
    · exact .inl h
    · exact .inr ((ramsey34 (R := farB es) (Q := adjE es) (fun i j hne => (far_or es i j hne).symm) (far_symm es) (adjE_symm es) (fun i => by unfold farB; simp) hA (by rw [below_size]; exact h)).elim (fun h => .inr (two 3 h)) fun h => .inl (one 4 h))
/-- The word of those that are not in it. -/
def restW (m w : Nat) : Nat := (2 ^ m - 1) ^^^ w
theorem rest_bit {w : Nat} (hw : w < 2 ^ m) (i : Nat) : (restW m w).testBit i = (decide (i < m) && !w.testBit i) := by
  unfold restW
  rw [Nat.testBit_xor, Nat.testBit_two_pow_sub_one]
  rcases Nat.lt_or_ge i m with h | h
  · simp [h]
  · rw [Nat.testBit_lt_two_pow (Nat.lt_of_lt_of_le hw (Nat.pow_le_pow_right (by decide) h))]
    have : ¬ i < m := by omega
    simp [this]
theorem rest_lt {w : Nat} (hw : w < 2 ^ m) : restW m w < 2 ^ m := Nat.xor_lt_two_pow (by have := Nat.two_pow_pos m; omega) hw
theorem rest_rest (m w : Nat) : restW m (restW m w) = w := by
  unfold restW
  rw [← Nat.xor_assoc, Nat.xor_self, Nat.zero_xor]
theorem rest_size (hm10 : m ≤ 32) {w : Nat} (hw : w < 2 ^ m) : sizeW (restW m w) + sizeW w = m := by
  rw [size_bitB hm10 (rest_lt hw), size_bitB hm10 hw]
  have h := sizeP_not (bitB w) m
  rw [← sizeP_congr (S := bitB (restW m w)) m fun i hi => by
    show (restW m w).testBit i = !w.testBit i
    rw [rest_bit hw]; simp [hi]] at h
  exact h
/-- A set with a node of each edge. -/
def GuardW (es : List E3) (m w : Nat) : Prop := looseE es (restW m w) = true
theorem loose_crowd (hg : goodE m es) {w : Nat} (hw : w < 2 ^ m) : looseE es w = true ↔ CrowdW (adjE es) true m w := by
  rw [loose_adj hg, crowd_lse (adjE_symm es) (adj_irr hg) hw]
  exact Iff.rfl
theorem guard_all (es : List E3) (m : Nat) : GuardW es m (2 ^ m - 1) := by
  unfold GuardW restW
  rw [Nat.xor_self]
  exact looseE_zero es
theorem all_most (hm10 : m ≤ 32) : ∀ j, j < 2 ^ m - 1 → sizeW j < sizeW (2 ^ m - 1) := fun j hj => by
  have h1 := rest_size hm10 (m := m) (w := j) (by omega)
  have h2 := rest_size hm10 (m := m) (w := 2 ^ m - 1) (by have := Nat.two_pow_pos m; omega)
  have h3 : sizeW (restW m (2 ^ m - 1)) = 0 := by
    unfold restW
    rw [Nat.xor_self]
    have := size_bitB (n := 0) (w := 0) (by decide) (by decide)
    rw [this]; rfl
  have h4 : 0 < sizeW (restW m j) := by
    have hr : restW m j < 2 ^ m := rest_lt (by omega)
    rw [size_bitB hm10 hr]
    apply Nat.pos_of_ne_zero
    intro e
    have hz : restW m j = 0 := by
      apply Nat.eq_of_testBit_eq
      intro i
      rw [Nat.zero_testBit]
      cases hb : (restW m j).testBit i with
      | false => rfl
      | true =>
        have hi := bit_lt hr hb
        have h5 := sizeP_del (A := bitB (restW m j)) (i := i) hb hi
        omega
    have e2 := rest_rest m j
    rw [hz] at e2
    unfold restW at e2
    rw [Nat.xor_zero] at e2
    omega
  omega
theorem gallai_w (hm10 : m ≤ 32) (hg : goodE m es) (ha : MostW (CrowdW (adjE es) true m) sizeW (2 ^ m) a) (hc : FewW (GuardW es m) sizeW (2 ^ m - 1) (2 ^ m) c) : sizeW a + sizeW c = m := by
  have hpos := Nat.two_pow_pos m
  have hal := ha.below hpos
  have hcl : c < 2 ^ m := by rcases hc.lt with e | e <;> omega
  have h1 := rest_size hm10 hal
  have h2 := rest_size hm10 hcl
  have h3 := hc.le (restW m a) (rest_lt hal) (by unfold GuardW; rw [rest_rest]; exact (loose_crowd hg hal).2 ha.ok)
  have h4 := ha.le (restW m c) (rest_lt hcl) ((loose_crowd hg (rest_lt hcl)).1 hc.ok)
  omega
theorem colours_w (hm10 : m ≤ 32) (hg : goodE m es) {col : Nat → Nat} (hlt : ∀ i, i < m → col i < k) (hne : ∀ i j, i < m → j < i → adjE es j i = true → col j ≠ col i)
    (hc : MostW (CrowdW (adjE es) false m) sizeW (2 ^ m) c) (ha : MostW (CrowdW (adjE es) true m) sizeW (2 ^ m) a) : sizeW c ≤ k ∧ m ≤ k * sizeW a := by
  have hn2 : ∀ i j, i < m → j < m → adjE es i j = true → col i ≠ col j := fun i j hi hj h => by
    rcases Nat.lt_trichotomy i j with h1 | h1 | h1
    · exact hne j i hj h1 h
    · subst h1; rw [adj_irr hg] at h; cases h
    · exact (hne i j hi h1 (by rw [adjE_symm]; exact h)).symm
  have hcl := hc.below (Nat.two_pow_pos m)
  constructor
  · rw [size_bitB hm10 hcl]
    exact clq_col (n := m) (K := bitB c) (adj := adjE es) ((crowd_clq (adjE_symm es) hcl).1 hc.ok) (fun i hi _ => hlt i hi) fun i j hi hj _ _ h => hn2 i j hi hj h
  · exact col_part hlt hn2 fun S hS hl => ha.lse_le (adjE_symm es) (adj_irr hg) hm10 hS hl
end
end Go.Proofs.Ythnchnamdoobeaa

namespace Go.Proofs.Ythnchnamdoobeaa
open Go.RowKit

def CrowdTop (ap : Bool) (w : World) (n : Int) (es : List E3) (e : Ending) (w' : World) : Prop :=
  (gcheck n es ≠ 0 → e = .returned (.tuple #[.int .u32 0, .int .i64 (gcheck n es)])) ∧
  (gcheck n es = 0 → ∃ b : Nat, MostW (CrowdW (adjE es) ap n.toNat) sizeW (2 ^ n.toNat) b ∧ e = .returned (.tuple #[.int .u32 (b : Int), .int .i64 0])) ∧ Below w.heap.size w w'
def CoverTop (w : World) (n : Int) (es : List E3) (e : Ending) (w' : World) : Prop :=
  (gcheck n es ≠ 0 → e = .returned (.tuple #[.int .u32 0, .int .i64 (gcheck n es)])) ∧
  (gcheck n es = 0 → ∃ b : Nat, FewW (GuardW es n.toNat) sizeW (2 ^ n.toNat - 1) (2 ^ n.toNat) b ∧ e = .returned (.tuple #[.int .u32 (b : Int), .int .i64 0])) ∧ Below w.heap.size w w'
end Go.Proofs.Ythnchnamdoobeaa

namespace Go.Proofs.Ythnchnamdoobeaa
open Go.RowKit

set_option maxRecDepth 100000 in
set_option maxHeartbeats 400000 in
theorem good_any (n : Int) (A : Option Addr) (len cap : Nat) (es : List E3) (w : World) (hE : EdgesAt w w.heap.size A len es) (hcap : len ≤ cap) :
    Calls Try.prog 17 #[.agg #[.int .i64 n, .slice A len cap]] w fun e w' => e = .returned (.bool (gcheck n es == 0)) ∧ Below w.heap.size w w' := by
  have HE := Lib.hid (show EdgesAt (bx w n A len cap) (bx w n A len cap).heap.size A len es from (hE.alloc (Nat.le_refl _) _).more (by simp [bx]))
  clear hE
  go_enter Try.func17, Try.ntmps17
  go_wp2_with (go_at_call 12; refine (graphCheck_any n A len cap es _ (by exact HE.out) hcap).mono ?_; rintro e w2 ⟨rfl, hb2⟩)
  go_ret
  exact ⟨rfl, ((Below.refl _ _).alloc (Nat.le_refl _) _).trans (hb2.mono (by simp))⟩
set_option maxRecDepth 100000 in
theorem good_v (n : Int) (A : Option Addr) (len cap : Nat) (es : List E3) (v : Bool) (w : World) (hE : EdgesAt w w.heap.size A len es) (hcap : len ≤ cap) (hv : (gcheck n es == 0) = v) :
    Calls Try.prog 17 #[.agg #[.int .i64 n, .slice A len cap]] w fun e w' => e = .returned (.bool v) ∧ Below w.heap.size w w' := by
  subst hv; exact good_any n A len cap es w hE hcap

end Go.Proofs.Ythnchnamdoobeaa

namespace Go.Proofs.Ythnchnamdoobeaa
open Go.RowKit

theorem mul_wrapN {a b c : Nat} (h : a * b = c) (hc : c ≤ 1000000) : IntKind.i64.wrap ((a : Int) * (b : Int)) = (c : Int) := by
  rw [← Int.natCast_mul, h]
  exact IntWalk.i64_in _ (by omega)
set_option maxRecDepth 100000 in
set_option maxHeartbeats 4000000 in
theorem crowdColours_of (n : Int) (A : Option Addr) (len cap : Nat) (es : List E3) (w : World) (hE : EdgesAt w w.heap.size A len es) (hcap : len ≤ cap)
    (HO : ∀ W, Below w.heap.size w W → EdgesAt W W.heap.size A len es → Calls Try.prog 11 #[.agg #[.int .i64 n, .slice A len cap]] W (CrowdTop false W n es))
    (HP : ∀ W, Below w.heap.size w W → EdgesAt W W.heap.size A len es → Calls Try.prog 14 #[.agg #[.int .i64 n, .slice A len cap]] W (CrowdTop true W n es))
    (HR : ∀ W, Below w.heap.size w W → EdgesAt W W.heap.size A len es → Calls Try.prog 22 #[.agg #[.int .i64 n, .slice A len cap]] W (LeastTop W n es)) :
    Calls Try.prog 10 #[.agg #[.int .i64 n, .slice A len cap]] w fun e w' => e = .returned (.bool true) ∧ Below w.heap.size w w' := by
  have HX0 := Lib.hid (BoxG.start (n := n) (cap := cap) hE)
  have HHO := Lib.hid HO
  have HHP := Lib.hid HP
  have HHR := Lib.hid HR
  obtain ⟨x, hx⟩ : ∃ x, gcheck n es = x := ⟨_, rfl⟩
  have HCX := Lib.hid hx
  have k0 := HX0.out.c0
  have k1 := HX0.out.c1
  have HLE : Hid (es.length = len) := Lib.hid hE.1
  clear hE HO HP HR
  by_cases h0 : x = 0
  · subst h0
    obtain ⟨hn0, hn1, hl, hg⟩ := good_of_gcheck hx
    obtain ⟨m, rfl⟩ := Int.eq_ofNat_of_zero_le hn0
    have hm10 : m ≤ 10 := by omega
    have hlen : len ≤ 45 := by have := HLE.out; omega
    have HG := Lib.hid hg
    have HCK := Lib.hid (fun W hW => good_v (m : Int) A len cap es true W hW hcap (by rw [hx]; rfl))
    clear hx hg hl
    go_enter Try.func10, Try.ntmps10
    go_wp2_with fail
    refine (HHO.out _ HX0.out.below HX0.out.edges).mono ?_
    rintro e w1 ⟨_, h2, hB⟩
    obtain ⟨c, hb, rfl⟩ := h2 HCX.out
    have HMc := Lib.hid (show MostW (CrowdW (adjE es) false m) sizeW (2 ^ m) c from hb)
    have HX1 := Lib.hid (HX0.out.next hB)
    clear h2 hB hb k0 k1
    have k0 := HX1.out.c0
    have k1 := HX1.out.c1
    go_wp2_with fail
    refine (HHP.out _ HX1.out.below HX1.out.edges).mono ?_
    rintro e w2 ⟨_, h2, hB⟩
    obtain ⟨a, hb, rfl⟩ := h2 HCX.out
    have HMa := Lib.hid (show MostW (CrowdW (adjE es) true m) sizeW (2 ^ m) a from hb)
    have HX2 := Lib.hid (HX1.out.next hB)
    clear h2 hB hb k0 k1
    have k0 := HX2.out.c0
    have k1 := HX2.out.c1
    go_wp2_with fail
    refine (HHR.out _ HX2.out.below HX2.out.edges).mono ?_
    rintro e w3 ⟨_, h2, hB⟩
    obtain ⟨kk, ll, A1, c1, hL, rfl, _, _⟩ := h2 HCX.out
    have HLC := Lib.hid (show LeastC (adjE es) m kk ll from hL)
    have HX3 := Lib.hid (HX2.out.next hB)
    clear h2 hB hL k0 k1
    have k0 := HX3.out.c0
    have k1 := HX3.out.c1
    go_wp2_with fail
    refine (HCK.out _ HX3.out.edges).mono ?_
    rintro e w4 ⟨rfl, hB⟩
    have HXg := Lib.hid (HX3.out.next hB)
    clear hB k0 k1
    have k0 := HXg.out.c0
    have k1 := HXg.out.c1
    obtain ⟨zc, hzc⟩ : ∃ z : Nat, sizeW c = z := ⟨_, rfl⟩
    obtain ⟨za, hza⟩ : ∃ z : Nat, sizeW a = z := ⟨_, rfl⟩
    have hcl : c < 1024 := pow10 hm10 (HMc.out.below (Nat.two_pow_pos m))
    have hal : a < 1024 := pow10 hm10 (HMa.out.below (Nat.two_pow_pos m))
    have hzl : za ≤ 32 := by rw [← hza]; exact sizeTo_le a 32
    have hkl : kk ≤ 10 := Nat.le_trans HLC.out.le_n hm10
    have hw : zc ≤ kk ∧ m ≤ kk * za := by
      obtain ⟨hp, hll⟩ := HLC.out.part
      have h := colours_w (k := kk) (by omega) HG.out (col := fun i => ll.getD i 0) (fun i hi => hp.lt i (by omega)) (fun i j hi hj ha => hp.ne i j (by omega) hj ha) HMc.out HMa.out
      rw [hzc, hza] at h
      exact h
    obtain ⟨p, hp⟩ : ∃ p : Nat, kk * za = p := ⟨_, rfl⟩
    rw [hp] at hw
    have hpl : p ≤ 10 * 32 := by rw [← hp]; exact Nat.mul_le_mul hkl hzl
    have x1 : IntKind.i64.wrap ((kk : Int) * (za : Int)) = (p : Int) := mul_wrapN hp (by omega)
    have g1 : (zc : Int) ≤ (kk : Int) := by omega
    have g2 : (m : Int) ≤ (p : Int) := by omega
    have HSZ := Lib.hid (fun (u : Nat) (z : Int) (hu : (u = c ∧ z = (zc : Int)) ∨ (u = a ∧ z = (za : Int))) W => size_v u z (by rcases hu with ⟨rfl, rfl⟩ | ⟨rfl, rfl⟩ <;> omega) (by rcases hu with ⟨rfl, rfl⟩ | ⟨rfl, rfl⟩ <;> omega) W)
    clear hzc hza hw hp hpl
    go_wp2_with fail
    go_region_held3 (fun W => W.cell? ⟨w.heap.size, 0, none⟩ = some (.int .i64 m))
      (first | exact k0 | go_keep)
      (first
        | (go_at_call 19; refine (HSZ.out _ _ (by first | exact Or.inl ⟨rfl, rfl⟩ | exact Or.inr ⟨rfl, rfl⟩) _).mono ?_; rintro e w6 ⟨rfl, rfl⟩))
    all_goals
      go_wp2_with fail
      go_ret
      exact ⟨rfl, by first | exact HXg.out.below | exact HXg.out.below.drew⟩
  · have HH0 := Lib.hid h0
    have hx0 : (x != 0) = true := by simpa using h0
    have HCK := Lib.hid (fun W hW => good_v n A len cap es false W hW hcap (by rw [hx]; simpa using h0))
    clear hx h0
    go_enter Try.func10, Try.ntmps10
    go_wp2_with fail
    refine (HHO.out _ HX0.out.below HX0.out.edges).mono ?_
    rintro e w1 ⟨h1, _, hB⟩
    obtain rfl := h1 (by rw [HCX.out]; exact HH0.out)
    rw [HCX.out]
    have HX1 := Lib.hid (HX0.out.next hB)
    clear h1 hB k0 k1
    have k0 := HX1.out.c0
    have k1 := HX1.out.c1
    go_wp2_with fail
    refine (HHP.out _ HX1.out.below HX1.out.edges).mono ?_
    rintro e w2 ⟨h1, _, hB⟩
    obtain rfl := h1 (by rw [HCX.out]; exact HH0.out)
    rw [HCX.out]
    have HX2 := Lib.hid (HX1.out.next hB)
    clear h1 hB k0 k1
    have k0 := HX2.out.c0
    have k1 := HX2.out.c1
    go_wp2_with fail
    refine (HHR.out _ HX2.out.below HX2.out.edges).mono ?_
    rintro e w3 ⟨h1, _, hB⟩
    obtain rfl := h1 (by rw [HCX.out]; exact HH0.out)
    rw [HCX.out]
    have HX3 := Lib.hid (HX2.out.next hB)
    clear h1 hB k0 k1
    have k0 := HX3.out.c0
    have k1 := HX3.out.c1
    go_wp2_with fail
    refine (HCK.out _ HX3.out.edges).mono ?_
    rintro e w4 ⟨rfl, hB⟩
    have HXg := Lib.hid (HX3.out.next hB)
    clear hB k0 k1
    go_wp2_with fail
    go_ret
    exact ⟨rfl, HXg.out.below⟩
end Go.Proofs.Ythnchnamdoobeaa

namespace Go.Proofs.Ythnchnamdoobeaa

theorem diff_rest {m w : Nat} (hm : m ≤ 10) (hw : w < 2 ^ m) : diffW (2 ^ m - 1) w = restW m w := by
  have h1 : 2 ^ m ≤ 1024 := by rw [show 1024 = 2 ^ 10 from rfl]; exact Nat.pow_le_pow_right (by decide) hm
  apply Nat.eq_of_testBit_eq
  intro i
  rw [diffW_testBit _ _ i (by omega) (by omega), rest_bit hw, Nat.testBit_two_pow_sub_one]
theorem diff_none {m w : Nat} (hm : m ≤ 10) (hw : w < 2 ^ m) : diffW w (2 ^ m - 1) = 0 := by
  have h1 : 2 ^ m ≤ 1024 := by rw [show 1024 = 2 ^ 10 from rfl]; exact Nat.pow_le_pow_right (by decide) hm
  apply Nat.eq_of_testBit_eq
  intro i
  rw [diffW_testBit _ _ i (by omega) (by omega), Nat.testBit_two_pow_sub_one, Nat.zero_testBit]
  cases hb : w.testBit i with
  | false => rfl
  | true => rw [decide_eq_true (bit_lt hw hb)]; rfl
end Go.Proofs.Ythnchnamdoobeaa

namespace Go.Proofs.Ythnchnamdoobeaa

/-- Of no member of a set is a neighbour in it. -/
def ApartL (xs : List Nat) (n s : Nat) : Prop := ∀ i, i < n → s.testBit i = true → s &&& xs.getD i 0 = 0
theorem and_none {s x : Nat} : s &&& x = 0 ↔ ∀ j, s.testBit j = true → x.testBit j = false := by
  constructor
  · intro h j hj
    have h1 : (s &&& x).testBit j = false := by rw [h, Nat.zero_testBit]
    rw [Nat.testBit_and, hj, Bool.true_and] at h1
    exact h1
  · intro h
    apply Nat.eq_of_testBit_eq
    intro j
    rw [Nat.testBit_and, Nat.zero_testBit]
    cases hj : s.testBit j with
    | false => rfl
    | true => rw [h j hj]; rfl
/-- Those that a node has no edge with, in a word of 32. -/
def strW (es : List E3) (i : Nat) : Nat := diffW (4294967295 - nbW es i) (2 ^ i)
def strL (m : Nat) (es : List E3) : List Nat := (List.range m).map (strW es)
theorem strL_length (m : Nat) (es : List E3) : (strL m es).length = m := by simp [strL]
theorem strL_get {m : Nat} (es : List E3) {i : Nat} (h : i < m) : (strL m es)[i]? = some (strW es i) := by simp [strL, h]
theorem nbW_all {m : Nat} {es : List E3} (hg : goodE m es) (i : Nat) : nbW es i < 2 ^ m := by
  have := nbW_lt hg i es.length
  rw [List.take_length] at this
  exact this
theorem strW_bit {m : Nat} {es : List E3} (hm : m ≤ 10) (hg : goodE m es) {i j : Nat} (hi : i < m) (hj : j < m) : (strW es i).testBit j = (!adjE es i j && !decide (i = j)) := by
  have h1 : nbW es i < 2 ^ 32 := Nat.lt_of_lt_of_le (nbW_all hg i) (Nat.pow_le_pow_right (by decide) (by omega))
  have h2 : 2 ^ i < 4294967296 := Nat.lt_of_lt_of_le (Nat.pow_lt_pow_right (by decide) hi) (by rw [show (4294967296 : Nat) = 2 ^ 32 from rfl]; exact Nat.pow_le_pow_right (by decide) (by omega))
  unfold strW
  rw [diffW_testBit _ _ _ (by omega) h2, show 4294967295 - nbW es i = 2 ^ 32 - (nbW es i + 1) by omega, Nat.testBit_two_pow_sub_succ h1, Nat.testBit_two_pow, decide_eq_true (show j < 32 by omega), Bool.true_and]
  have h3 := nbW_bit hg i j es.length
  rw [List.take_length] at h3
  rw [h3]
section
variable {m s : Nat} {es : List E3}
theorem apart_nb (hg : goodE m es) (hs : s < 2 ^ m) : ApartL (nbL m es) m s ↔ CrowdW (adjE es) true m s := by
  rw [crowd_lse (adjE_symm es) (adj_irr hg) hs]
  constructor
  · intro h i j hi hj
    have him := bit_lt hs hi
    have h1 := and_none.1 (h i him hi) j hj
    rw [nbL_bit hg him] at h1
    exact h1
  · intro h i him hi
    refine and_none.2 fun j hj => ?_
    rw [nbL_bit hg him]
    exact h i j hi hj
theorem apart_str (hm : m ≤ 10) (hg : goodE m es) (hs : s < 2 ^ m) : ApartL (strL m es) m s ↔ CrowdW (adjE es) false m s := by
  rw [crowd_clq (adjE_symm es) hs]
  have hget : ∀ i, i < m → (strL m es).getD i 0 = strW es i := fun i hi => by rw [List.getD_eq_getElem?_getD, strL_get es hi]; rfl
  constructor
  · intro h i j hi hj hne
    have him := bit_lt hs hi
    have h1 := and_none.1 (h i him hi) j hj
    rw [hget i him, strW_bit hm hg him (bit_lt hs hj), decide_eq_false hne] at h1
    cases ha : adjE es i j with
    | true => rfl
    | false => rw [ha] at h1; cases h1
  · intro h i him hi
    refine and_none.2 fun j hj => ?_
    rw [hget i him, strW_bit hm hg him (bit_lt hs hj)]
    by_cases e : i = j
    · simp [e]
    · rw [h i j hi hj e]; rfl
theorem ones_sizeP (s : Nat) (hs : s < 1024) : ones s = sizeW s := by
  rw [sizeW_bits (n := 10) (by decide) hs, ← sizeTo_bits]
  rfl
end
/-- The strangers' words, of the first k nodes. -/
def strG (xs : List Nat) (n k : Nat) : List Nat := (List.range n).map fun i => if i < k then diffW (4294967295 - xs.getD i 0) (2 ^ i) else 0
theorem strG_length (xs : List Nat) (n k : Nat) : (strG xs n k).length = n := by simp [strG]
theorem strG_zero (xs : List Nat) (n : Nat) : strG xs n 0 = List.replicate n 0 := by
  apply List.ext_getElem
  · simp [strG]
  · intro i h1 h2
    simp [strG]
theorem strG_next (xs : List Nat) (n k : Nat) : (strG xs n k).set k (diffW (4294967295 - xs.getD k 0) (2 ^ k)) = strG xs n (k + 1) := by
  apply List.ext_getElem
  · simp [strG]
  · intro i h1 h2
    rw [List.getElem_set]
    simp only [strG, List.getElem_map, List.getElem_range]
    by_cases e : k = i
    · subst e; rw [if_pos rfl, if_pos (Nat.lt_succ_self k)]
    · rw [if_neg e]
      by_cases h : i < k
      · rw [if_pos h, if_pos (by omega)]
      · rw [if_neg h, if_neg (by omega)]
theorem strG_all (m : Nat) (es : List E3) : strG (nbL m es) m m = strL m es := by
  unfold strG strL strW
  apply List.map_congr_left
  intro i hi
  have him := List.mem_range.1 hi
  rw [if_pos him, List.getD_eq_getElem?_getD, nbL_get es him]
  rfl
theorem strL_lt (m : Nat) (es : List E3) (i : Nat) : (strL m es).getD i 0 < 4294967296 := by
  rw [List.getD_eq_getElem?_getD]
  rcases Nat.lt_or_ge i m with h | h
  · rw [strL_get es h]; exact diffW_lt _ _
  · rw [List.getElem?_eq_none (by rw [strL_length]; exact h)]; decide
theorem xor_all (x : Nat) (hx : x < 4294967296) : 4294967295 ^^^ x = 4294967295 - x := by
  have h : (2 ^ 32 - 1) ^^^ x = 2 ^ 32 - (x + 1) := by
    apply Nat.eq_of_testBit_eq
    intro i
    rw [Nat.testBit_xor, Nat.testBit_two_pow_sub_one, Nat.testBit_two_pow_sub_succ (show x < 2 ^ 32 from hx)]
    by_cases h : i < 32
    · simp [h]
    · rw [Nat.testBit_lt_two_pow (Nat.lt_of_lt_of_le (show x < 2 ^ 32 from hx) (Nat.pow_le_pow_right (by decide) (by omega)))]
      simp [h]
  exact (show 4294967295 ^^^ x = 2 ^ 32 - (x + 1) from h).trans (by omega)
/-- One measure for another one. -/
theorem MostW.congr {P Q : Nat → Prop} {f g : Nat → Nat} {k b : Nat} (h : MostW P f k b) (hk : 0 < k) (hP : ∀ j, j < k → (P j ↔ Q j)) (hf : ∀ j, j < k → f j = g j) : MostW Q g k b := by
  have hb := h.below hk
  exact ⟨(hP b hb).1 h.ok, fun j hj hq => by rw [← hf j hj, ← hf b hb]; exact h.le j hj ((hP j hj).2 hq), fun j hj hq => by rw [← hf j (by omega), ← hf b hb]; exact h.first j hj ((hP j (by omega)).2 hq), h.lt⟩
/-- Left open the last one. -/
theorem FewW.last {P : Nat → Prop} {f : Nat → Nat} {all b : Nat} (h : FewW P f all all b) (hp : P all) (hall : ∀ j, j < all → f j < f all) : FewW P f all (all + 1) b := by
  have hb : f b ≤ f all := by
    rcases h.lt with e | e
    · subst e; exact Nat.le_refl _
    · exact Nat.le_of_lt (hall b e)
  exact h.keep hall hb
/-- What a cover leaves is apart. -/
theorem guard_apart {m k : Nat} {es : List E3} (hg : goodE m es) (hk : k < 2 ^ m) : GuardW es m k ↔ ApartL (nbL m es) m (restW m k) := by
  rw [apart_nb hg (rest_lt hk)]
  exact loose_crowd hg (rest_lt hk)
end Go.Proofs.Ythnchnamdoobeaa

namespace Go.Proofs.Ythnchnamdoobeaa
open Go.RowKit

theorem ones_dec : ∀ x, x < 1024 → Lib.pop8 ((x / 256 : Nat) : Int) = (ones (x / 256) : Int) ∧ Lib.pop8 ((x % 256 : Nat) : Int) = (ones (x % 256) : Int) ∧ ones x = ones (x / 256) + ones (x % 256) := by decide +kernel
theorem and255 (r : Nat) (h : r < 4294967296) : bits .and .u32 (r : Int) 255 = ((r % 256 : Nat) : Int) := by
  have := and_u32 r 255 h (by omega)
  rw [show ((255 : Nat) : Int) = 255 from rfl] at this
  rw [this, show (255 : Nat) = 2 ^ 8 - 1 from rfl, Nat.and_two_pow_sub_one_eq_mod]

set_option maxRecDepth 100000 in
set_option maxHeartbeats 1000000 in
theorem ones_core (x q r a b c : Nat) (w : World) (h0 : (x : Int) / 16777216 = 0) (h1 : (x : Int) / 65536 = 0) (h2 : (x : Int) / 256 = (q : Int)) (h3 : bits .and .u32 0 255 = 0) (h4 : bits .and .u32 (q : Int) 255 = (q : Int)) (h5 : bits .and .u32 (x : Int) 255 = (r : Int))
    (hq : q ≤ 255) (hr : r ≤ 255) (hp0 : Lib.pop8 0 = 0) (hpq : Lib.pop8 (q : Int) = (a : Int)) (hpr : Lib.pop8 (r : Int) = (b : Int)) (ha : a ≤ 10) (hb : b ≤ 10) (hc : Hid (c = a + b)) :
    Calls Try.prog 27 #[.int .u32 x] w fun e w' => e = .returned (.int .i64 c) ∧ ∃ k, w' = w.drewN k := by
  go_enter Try.func27, Try.ntmps27
  conv in (occs := *) (ByteArray.mk _) => all_goals change Lib.pop8tab
  have q0 : (0 : Int) ≤ (q : Int) := by omega
  have q1 : (q : Int) ≤ 255 := by omega
  have r0 : (0 : Int) ≤ (r : Int) := by omega
  have r1 : (r : Int) ≤ 255 := by omega
  go_wp2
  go_quiet (fail)
  go_wp2
  go_ret
  exact ⟨by rw [hc.out]; go_num, _, rfl⟩
set_option maxRecDepth 100000 in
theorem ones_any (x : Nat) (w : World) (hx : x < 1024) :
    Calls Try.prog 27 #[.int .u32 x] w fun e w' => e = .returned (.int .i64 (ones x)) ∧ ∃ k, w' = w.drewN k := by
  obtain ⟨h1, h2, h3⟩ := ones_dec x hx
  exact ones_core x (x / 256) (x % 256) (ones (x / 256)) (ones (x % 256)) (ones x) w (by omega) (by omega) (by omega) (by decide +kernel) (by rw [and255 _ (by omega)]; omega) (and255 x (by omega)) (by omega) (by omega) (by decide +kernel) h1 h2 (ones_le _) (ones_le _) (Lib.hid h3)
end Go.Proofs.Ythnchnamdoobeaa

namespace Go.Proofs.Ythnchnamdoobeaa
open Go.RowKit

set_option maxRecDepth 100000 in
theorem allOf_any (n cap : Nat) (A : Option Addr) (w : World) (hn : n ≤ 10) :
    Calls Try.prog 26 #[.slice A n cap] w fun e w' => e = .returned (.int .u32 ((2 ^ n - 1 : Nat) : Int)) ∧ w' = w := by
  have hp1 : 1 ≤ 2 ^ n := Nat.two_pow_pos n
  have hp2 : 2 ^ n ≤ 1024 := by rw [show 1024 = 2 ^ 10 from rfl]; exact Nat.pow_le_pow_right (by decide) hn
  have hsi : (2 : Int) ^ n % 4294967296 = ((2 ^ n : Nat) : Int) := pow_mod n (by omega)
  have hti : IntKind.u32.wrap ((2 : Int) ^ n) = ((2 ^ n : Nat) : Int) := by rw [wrap_u32n]; exact hsi
  have hn32 : (n : Int) ≤ 32 := by omega
  generalize 2 ^ n = p at hp1 hp2 hsi hti ⊢
  have HP : Hid (((p : Int) - 1) = ((p - 1 : Nat) : Int)) := Lib.hid (by omega)
  have hw : IntKind.u32.wrap ((p : Int) - 1) = (p : Int) - 1 := by rw [wrap_u32n]; omega
  go_enter Try.func26, Try.ntmps26
  go_wp2
  go_ret
  exact ⟨by rw [HP.out]; rfl, rfl⟩
set_option maxRecDepth 100000 in
set_option maxHeartbeats 1000000 in
theorem apartGo_any (n cap s : Nat) (A : Option Addr) (xs : List Nat) (r : Bool) (w : World) (hA : WordsAt w w.heap.size A n xs) (hn : n ≤ 10) (hs : s < 1024) (hxs : ∀ i, xs.getD i 0 < 4294967296) (hr : r = true ↔ ApartL xs n s) :
    Calls Try.prog 28 #[.slice A n cap, .int .u32 (s : Int)] w fun e w' => e = .returned (.bool r) ∧ w' = w := by
  have HW := Lib.hid hA
  have HR := Lib.hid hr
  have HS := Lib.hid hxs
  clear hA hr hxs
  go_enter Try.func28, Try.ntmps28
  go_wp2
  go_loop [9] (fun j => ∃ k : Nat, k ≤ n ∧ j = .int .i64 k ∧ Hid (∀ i, i < k → s.testBit i = true → s &&& xs.getD i 0 = 0)) (fun j => n - (intOf j).toNat)
  case atStart => exact ⟨0, Nat.zero_le _, rfl, Lib.hid fun i hi => absurd hi (Nat.not_lt_zero i)⟩
  case round =>
    obtain ⟨k, hk, rfl, HK⟩ := hrel
    by_cases hkn : k < n
    · have hkn' : (k : Int) < (n : Int) := by omega
      have hk32 : (k : Int) ≤ 32 := by omega
      obtain ⟨b, off, rfl, hb, hc⟩ := HW.out.at_ hkn
      have hx := HS.out k
      obtain ⟨x, hxe⟩ : ∃ x, xs.getD k 0 = x := ⟨_, rfl⟩
      have HX := Lib.hid hxe
      rw [hxe] at hc hx
      have hbit := shr_bit s k (by omega)
      have hand := and_u32 s x (by omega) hx
      clear hxe
      cases hbk : s.testBit k with
      | false =>
        rw [hbk] at hbit
        have HN : Hid (∀ i, i < k + 1 → s.testBit i = true → s &&& xs.getD i 0 = 0) := Lib.hid (fun i hi h => by
          by_cases e : i = k
          · subst e; rw [hbk] at h; cases h
          · exact HK.out i (by omega) h)
        clear hbk HK hand
        go_wp2
        go_round
        case rel => exact ⟨k + 1, by omega, by go_num, HN⟩
        case measure => simp [intOf]; omega
      | true =>
        rw [hbk] at hbit
        by_cases hz : s &&& x = 0
        · have HN : Hid (∀ i, i < k + 1 → s.testBit i = true → s &&& xs.getD i 0 = 0) := Lib.hid (fun i hi h => by
            by_cases e : i = k
            · subst e; rw [HX.out]; exact hz
            · exact HK.out i (by omega) h)
          rw [hz] at hand
          clear hbk HK hz
          go_wp2
          go_round
          case rel => exact ⟨k + 1, by omega, by go_num, HN⟩
          case measure => simp [intOf]; omega
        · have HF : Hid (r = false) := Lib.hid (by
            cases hrv : r with
            | false => rfl
            | true => exact absurd (by have := HR.out.1 hrv k hkn hbk; rw [HX.out] at this; exact this) hz)
          have hne : (((s &&& x : Nat) : Int) != 0) = true := by simpa using hz
          clear hbk HK hz
          generalize s &&& x = z at hand hne
          go_wp2
          go_ret
          exact ⟨ret_bool HF.out.symm, rfl⟩
    · obtain rfl : k = n := by omega
      have HT : Hid (r = true) := Lib.hid (HR.out.2 HK.out)
      clear HK
      go_wp2
      go_ret
      exact ⟨ret_bool HT.out.symm, rfl⟩
end Go.Proofs.Ythnchnamdoobeaa

namespace Go.Proofs.Ythnchnamdoobeaa
open Go.RowKit

set_option maxRecDepth 100000 in
set_option maxHeartbeats 2000000 in
theorem mostApart_any (n cap : Nat) (A : Option Addr) (xs : List Nat) (w : World) (hA : WordsAt w w.heap.size A n xs) (hn : n ≤ 10) (hxs : ∀ i, xs.getD i 0 < 4294967296) :
    Calls Try.prog 24 #[.slice A n cap] w fun e w' => (∃ b : Nat, MostW (ApartL xs n) ones (2 ^ n) b ∧ e = .returned (.int .u32 (b : Int))) ∧ Below w.heap.size w w' := by
  have HW := Lib.hid hA
  have HS := Lib.hid hxs
  have hn10 := hn
  have HA := Lib.hid (fun W => allOf_any n cap A W hn10)
  have h1 : 1 ≤ 2 ^ n := Nat.two_pow_pos n
  have h2 : 2 ^ n ≤ 1024 := by rw [show 1024 = 2 ^ 10 from rfl]; exact Nat.pow_le_pow_right (by decide) hn
  obtain ⟨M, hM⟩ : ∃ M, 2 ^ n = M + 1 := ⟨2 ^ n - 1, by omega⟩
  rw [hM] at HA h1 h2 ⊢
  rw [Nat.add_sub_cancel] at HA
  have hw : IntKind.u32.wrap ((M : Int) + 1) = (M : Int) + 1 := by rw [wrap_u32n]; omega
  have HON := Lib.hid (fun (x : Nat) (hx : x < 1024) W => ones_any x W hx)
  have HZ : Hid (MostW (ApartL xs n) ones 0 0) := Lib.hid (MostW.start fun i _ h => by simp at h)
  clear hA hxs hM
  go_enter Try.func24, Try.ntmps24
  go_wp2_with fail
  refine (HA.out _).mono ?_
  rintro e w1 ⟨rfl, rfl⟩
  go_wp2_with fail
  go_loopw [3, 8] (fun y j wr => ∃ k c : Nat, k ≤ M + 1 ∧ c < 1024 ∧ y = .int .u32 c ∧ j = .int .u32 k ∧ Hid (MostW (ApartL xs n) ones k c) ∧ Hid (Below w1.heap.size w1 wr)) (fun _ j _ => M + 1 - (intOf j).toNat)
  case atStart => exact ⟨0, 0, Nat.zero_le _, by omega, rfl, rfl, HZ, Lib.hid (Below.refl _ _)⟩
  case round =>
    obtain ⟨k, c, hk, hc, rfl, rfl, HM, HB⟩ := hrel
    by_cases hkn : k < M + 1
    · have hkn' : (k : Int) < (M : Int) + 1 := by omega
      have hk1 : k < 1024 := by omega
      have H1 := Lib.hid (HON.out k hk1)
      have H2 := Lib.hid (HON.out c hc)
      have hwk : IntKind.u32.wrap ((k : Int) + 1) = (k : Int) + 1 := by rw [wrap_u32n]; omega
      by_cases hlt : ones c < ones k
      · have hlt' : ((ones c : Nat) : Int) < ((ones k : Nat) : Int) := by omega
        by_cases hap : ApartL xs n k
        · have H3 := Lib.hid (fun W hW => apartGo_any n cap k A xs true W hW hn10 hk1 HS.out ⟨fun _ => hap, fun _ => rfl⟩)
          have HN := Lib.hid (HM.out.take hap hlt)
          clear hap HM hlt
          generalize ones k = ok at H1 hlt'
          generalize ones c = oc at H2 hlt'
          go_wp2_with fail
          refine (H1.out _).mono ?_
          rintro e w2 ⟨rfl, q1, hq1⟩
          have HB2 := Lib.hid (show Below w1.heap.size w1 w2 by rw [hq1]; exact below_drewN HB.out q1)
          clear hq1
          go_wp2_with fail
          refine (H2.out _).mono ?_
          rintro e w3 ⟨rfl, q2, hq2⟩
          have HB3 := Lib.hid (show Below w1.heap.size w1 w3 by rw [hq2]; exact below_drewN HB2.out q2)
          clear hq2
          go_wp2_with fail
          refine (H3.out _ (HW.out.go_ HB3.out)).mono ?_
          rintro e w4 ⟨rfl, rfl⟩
          go_wp2_with fail
          go_roundw
          case rel => exact ⟨k + 1, k, by omega, hk1, rfl, by go_num, HN, HB3⟩
          case measure => simp [intOf]; omega
        · have H3 := Lib.hid (fun W hW => apartGo_any n cap k A xs false W hW hn10 hk1 HS.out ⟨(fun h => by cases h), fun h => absurd h hap⟩)
          have HN := Lib.hid (HM.out.skip hap)
          clear hap HM hlt
          generalize ones k = ok at H1 hlt'
          generalize ones c = oc at H2 hlt'
          go_wp2_with fail
          refine (H1.out _).mono ?_
          rintro e w2 ⟨rfl, q1, hq1⟩
          have HB2 := Lib.hid (show Below w1.heap.size w1 w2 by rw [hq1]; exact below_drewN HB.out q1)
          clear hq1
          go_wp2_with fail
          refine (H2.out _).mono ?_
          rintro e w3 ⟨rfl, q2, hq2⟩
          have HB3 := Lib.hid (show Below w1.heap.size w1 w3 by rw [hq2]; exact below_drewN HB2.out q2)
          clear hq2
          go_wp2_with fail
          refine (H3.out _ (HW.out.go_ HB3.out)).mono ?_
          rintro e w4 ⟨rfl, rfl⟩
          go_wp2_with fail
          go_roundw
          case rel => exact ⟨k + 1, c, by omega, hc, rfl, by go_num, HN, HB3⟩
          case measure => simp [intOf]; omega
      · have hlt' : ¬ ((ones c : Nat) : Int) < ((ones k : Nat) : Int) := by omega
        have HN := Lib.hid (HM.out.keep (by omega))
        clear HM hlt
        generalize ones k = ok at H1 hlt'
        generalize ones c = oc at H2 hlt'
        go_wp2_with fail
        refine (H1.out _).mono ?_
        rintro e w2 ⟨rfl, q1, hq1⟩
        have HB2 := Lib.hid (show Below w1.heap.size w1 w2 by rw [hq1]; exact below_drewN HB.out q1)
        clear hq1
        go_wp2_with fail
        refine (H2.out _).mono ?_
        rintro e w3 ⟨rfl, q2, hq2⟩
        have HB3 := Lib.hid (show Below w1.heap.size w1 w3 by rw [hq2]; exact below_drewN HB2.out q2)
        clear hq2
        go_wp2_with fail
        go_roundw
        case rel => exact ⟨k + 1, c, by omega, hc, rfl, by go_num, HN, HB3⟩
        case measure => simp [intOf]; omega
    · obtain rfl : k = M + 1 := by omega
      go_wp2_with fail
      go_ret
      exact ⟨⟨c, HM.out, rfl⟩, HB.out⟩
end Go.Proofs.Ythnchnamdoobeaa

namespace Go.Proofs.Ythnchnamdoobeaa
open Go.RowKit

theorem xor_u32 (x : Nat) (hx : x < 4294967296) : bits .xor .u32 4294967295 (x : Int) = ((4294967295 - x : Nat) : Int) := by
  show IntKind.u32.wrap ((BitVec.ofInt 32 ((4294967295 : Nat) : Int) ^^^ BitVec.ofInt 32 (x : Int)).toNat : Int) = _
  rw [BitVec.toNat_xor, ofInt_u32 _ (by omega), ofInt_u32 _ hx, wrap_u32n, xor_all x hx]
  omega
set_option maxRecDepth 100000 in
set_option maxHeartbeats 1000000 in
theorem strangers_any (n cap : Nat) (A : Option Addr) (xs : List Nat) (w : World) (hA : WordsAt w w.heap.size A n xs) (hn : n ≤ 10) (hxs : ∀ i, xs.getD i 0 < 4294967296) :
    Calls Try.prog 25 #[.slice A n cap] w fun e w' => ∃ g, e = .returned (.slice (some ⟨g, 0, none⟩) n n) ∧ RowOf w' g 25 ((strG xs n n).map u32V) ∧ w.heap.size ≤ g ∧ Below w.heap.size w w' := by
  have HW := Lib.hid hA
  have HS := Lib.hid hxs
  clear hA hxs
  have hmk := fun W => run_make_row' (P := Try.prog) 41 25 (.int .u32 0) 4 Try.underlying41 (by kernel_rfl) rfl .i64 .i64 n (by omega) (by omega) W
  go_enter Try.func25, Try.ntmps25
  go_wp2
  clear hmk
  go_loopw [11] (fun j wr => ∃ k : Nat, k ≤ n ∧ j = .int .i64 k ∧ Hid (RowOf wr w.heap.size 25 ((strG xs n k).map u32V)) ∧ Below w.heap.size w wr) (fun j _ => n - (intOf j).toNat)
  case atStart =>
    refine ⟨0, Nat.zero_le _, rfl, Lib.hid ?_, (Below.refl _ _).alloc (Nat.le_refl _) _⟩
    rw [strG_zero, List.map_replicate]
    exact RowOf.made w (.int .u32 0) n 25
  case round =>
    obtain ⟨k, hk, rfl, HR, hB⟩ := hrel
    by_cases hkn : k < n
    · have hkn' : (k : Int) < (n : Int) := by omega
      have hk0 : (0 : Int) ≤ (k : Int) := by omega
      have hk32 : (k : Int) ≤ 32 := by omega
      obtain ⟨b, off, rfl, hb, hc⟩ := (HW.out.below hB).at_ hkn
      have hfk := HR.out.frozen k
      have hx := HS.out k
      have hpk : 2 ^ k < 1024 := Nat.lt_of_lt_of_le (Nat.pow_lt_pow_right (by decide) hkn) (by rw [show 1024 = 2 ^ 10 from rfl]; exact Nat.pow_le_pow_right (by decide) hn)
      have hsi : (2 : Int) ^ k % 4294967296 = ((2 ^ k : Nat) : Int) := pow_mod k (by omega)
      have hti : IntKind.u32.wrap ((2 : Int) ^ k) = ((2 ^ k : Nat) : Int) := by rw [wrap_u32n]; exact hsi
      have HN := Lib.hid (strG_next xs n k)
      have hxor : bits .xor .u32 (if IntKind.u32.signed = true then -1 else IntKind.u32.max) ((xs.getD k 0 : Nat) : Int) = ((4294967295 - xs.getD k 0 : Nat) : Int) := xor_u32 (xs.getD k 0) hx
      have hand := andNot_u32 (4294967295 - xs.getD k 0) (2 ^ k) (by omega) (by omega)
      have hold : wr.cell? ⟨w.heap.size, k, none⟩ = some (.int .u32 ((strG xs n k)[k]'(by rw [strG_length]; exact hkn) : Nat)) := HR.out.cell (by rw [List.getElem?_map, List.getElem?_eq_getElem (by rw [strG_length]; exact hkn)]; rfl)
      generalize (strG xs n k)[k]'(by rw [strG_length]; exact hkn) = old at hold
      have hdl := diffW_lt (4294967295 - xs.getD k 0) (2 ^ k)
      generalize diffW (4294967295 - xs.getD k 0) (2 ^ k) = d at hand HN hdl
      generalize 4294967295 - xs.getD k 0 = y at hxor hand
      generalize xs.getD k 0 = x at hx hxor hc
      generalize 2 ^ k = p at hpk hsi hti hand
      have hbr : b < wr.heap.size := by have := HR.out.lt; omega
      go_wp2
      go_roundw
      case rel =>
        refine ⟨k + 1, by omega, by go_num, Lib.hid ?_, (hB.setCell (p := ⟨w.heap.size, k, none⟩) (Nat.le_refl _) _)⟩
        rw [← HN.out, List.map_set]
        exact (HR.out.set_ k _)
      case measure => simp [intOf]; omega
    · obtain rfl : k = n := by omega
      go_wp2
      go_ret
      exact ⟨_, rfl, HR.out, Nat.le_refl _, hB⟩
end Go.Proofs.Ythnchnamdoobeaa

namespace Go.Proofs.Ythnchnamdoobeaa
open Go.RowKit

set_option maxRecDepth 100000 in
set_option maxHeartbeats 2000000 in
theorem mostTop_any (n : Int) (A : Option Addr) (len cap : Nat) (es : List E3) (w : World) (hE : EdgesAt w w.heap.size A len es) :
    Calls Try.prog 11 #[.agg #[.int .i64 n, .slice A len cap]] w (CrowdTop false w n es) := by
  have HX := Lib.hid (BoxG.start (n := n) (cap := cap) hE)
  have k0 := HX.out.c0
  have k1 := HX.out.c1
  obtain ⟨x, hx⟩ : ∃ x, gcheck n es = x := ⟨_, rfl⟩
  by_cases h0 : x = 0
  · subst h0
    obtain ⟨hn0, hn1, hl, hg⟩ := good_of_gcheck hx
    obtain ⟨m, rfl⟩ := Int.eq_ofNat_of_zero_le hn0
    have hm10 : m ≤ 10 := by omega
    have HNB := Lib.hid (fun W hW => neighbours_any m A len cap es W hW hx)
    have HXX := Lib.hid hx
    have HST := Lib.hid (fun g W hW => strangers_any m m (some ⟨g, 0, none⟩) (nbL m es) W hW hm10 (fun i => by have := pow10 hm10 (nbL_words hg i); omega))
    have HMA := Lib.hid (fun g W hW => mostApart_any m m (some ⟨g, 0, none⟩) (strL m es) W hW hm10 (strL_lt m es))
    clear hE hx hn0 hn1 hl
    go_enter Try.func11, Try.ntmps11
    go_wp2_with fail
    refine (HNB.out _ HX.out.edges).mono ?_
    rintro e w1 ⟨g, rfl, hrow, hg0, hB⟩
    have HX1 := Lib.hid (HX.out.next hB)
    have HR : Hid (WordsAt w1 w1.heap.size (some ⟨g, 0, none⟩) m (nbL m es)) := Lib.hid (by
      have h := WordsAt.of_row (B := w1.heap.size) hrow hrow.lt
      rw [nbL_length] at h
      exact h)
    clear hB k0 k1 HNB hrow
    go_wp2_with fail
    refine (HST.out g _ HR.out).mono ?_
    rintro e w2 ⟨g2, rfl, hrow, hg2, hB⟩
    have HX2 := Lib.hid (HX1.out.next hB)
    have HR2 : Hid (WordsAt w2 w2.heap.size (some ⟨g2, 0, none⟩) m (strL m es)) := Lib.hid (by
      rw [strG_all] at hrow
      have h := WordsAt.of_row (B := w2.heap.size) hrow hrow.lt
      rw [strL_length] at h
      exact h)
    clear hB hrow
    go_wp2_with fail
    refine (HMA.out g2 _ HR2.out).mono ?_
    rintro e w3 ⟨⟨b, hb, rfl⟩, hB⟩
    have HX3 := Lib.hid (HX2.out.next hB)
    have HBB := Lib.hid hb
    clear hB hb
    go_wp2_with fail
    go_ret2
    exact ⟨fun h => absurd HXX.out h, fun _ => ⟨b, HBB.out.congr (Nat.two_pow_pos m) (fun j hj => apart_str hm10 hg hj) (fun j hj => ones_sizeP j (pow10 hm10 hj)), rfl⟩, HX3.out.below⟩
  · have hx1 : (x != 0) = true := by simpa using h0
    have HNB := Lib.hid (fun W hW => neighbours_bad n A len cap es x W hW hx h0)
    have HXX := Lib.hid (show gcheck n es ≠ 0 by rw [hx]; exact h0)
    have HXE := Lib.hid hx
    clear hE hx h0
    go_enter Try.func11, Try.ntmps11
    go_wp2_with fail
    refine (HNB.out _ HX.out.edges).mono ?_
    rintro e w1 ⟨rfl, hB⟩
    have HX1 := Lib.hid (HX.out.next hB)
    clear hB k0 k1 HNB
    go_wp2_with fail
    go_ret2
    exact ⟨fun _ => by rw [HXE.out]; rfl, fun h => absurd h HXX.out, HX1.out.below⟩
end Go.Proofs.Ythnchnamdoobeaa

namespace Go.Proofs.Ythnchnamdoobeaa
open Go.RowKit

set_option maxRecDepth 100000 in
set_option maxHeartbeats 2000000 in
theorem apartTop_any (n : Int) (A : Option Addr) (len cap : Nat) (es : List E3) (w : World) (hE : EdgesAt w w.heap.size A len es) :
    Calls Try.prog 14 #[.agg #[.int .i64 n, .slice A len cap]] w (CrowdTop true w n es) := by
  have HX := Lib.hid (BoxG.start (n := n) (cap := cap) hE)
  have k0 := HX.out.c0
  have k1 := HX.out.c1
  obtain ⟨x, hx⟩ : ∃ x, gcheck n es = x := ⟨_, rfl⟩
  by_cases h0 : x = 0
  · subst h0
    obtain ⟨hn0, hn1, hl, hg⟩ := good_of_gcheck hx
    obtain ⟨m, rfl⟩ := Int.eq_ofNat_of_zero_le hn0
    have hm10 : m ≤ 10 := by omega
    have HNB := Lib.hid (fun W hW => neighbours_any m A len cap es W hW hx)
    have HXX := Lib.hid hx
    have HMA := Lib.hid (fun g W hW => mostApart_any m m (some ⟨g, 0, none⟩) (nbL m es) W hW hm10 (fun i => by have := pow10 hm10 (nbL_words hg i); omega))
    clear hE hx hn0 hn1 hl
    go_enter Try.func14, Try.ntmps14
    go_wp2_with fail
    refine (HNB.out _ HX.out.edges).mono ?_
    rintro e w1 ⟨g, rfl, hrow, hg0, hB⟩
    have HX1 := Lib.hid (HX.out.next hB)
    have HR : Hid (WordsAt w1 w1.heap.size (some ⟨g, 0, none⟩) m (nbL m es)) := Lib.hid (by
      have h := WordsAt.of_row (B := w1.heap.size) hrow hrow.lt
      rw [nbL_length] at h
      exact h)
    clear hB k0 k1 HNB hrow
    go_wp2_with fail
    refine (HMA.out g _ HR.out).mono ?_
    rintro e w2 ⟨⟨b, hb, rfl⟩, hB⟩
    have HX2 := Lib.hid (HX1.out.next hB)
    have HBB := Lib.hid hb
    clear hB hb
    go_wp2_with fail
    go_ret2
    exact ⟨fun h => absurd HXX.out h, fun _ => ⟨b, HBB.out.congr (Nat.two_pow_pos m) (fun j hj => apart_nb hg hj) (fun j hj => ones_sizeP j (pow10 hm10 hj)), rfl⟩, HX2.out.below⟩
  · have hx1 : (x != 0) = true := by simpa using h0
    have HNB := Lib.hid (fun W hW => neighbours_bad n A len cap es x W hW hx h0)
    have HXX := Lib.hid (show gcheck n es ≠ 0 by rw [hx]; exact h0)
    have HXE := Lib.hid hx
    clear hE hx h0
    go_enter Try.func14, Try.ntmps14
    go_wp2_with fail
    refine (HNB.out _ HX.out.edges).mono ?_
    rintro e w1 ⟨rfl, hB⟩
    have HX1 := Lib.hid (HX.out.next hB)
    clear hB k0 k1 HNB
    go_wp2_with fail
    go_ret2
    exact ⟨fun _ => by rw [HXE.out]; rfl, fun h => absurd h HXX.out, HX1.out.below⟩
end Go.Proofs.Ythnchnamdoobeaa

namespace Go.Proofs.Ythnchnamdoobeaa
open Go.ChangeShapes Go.WideShapes Go.ChangeAt Go.RowKit Go.Joins Go.Deep

set_option maxRecDepth 100000 in
theorem ownK : ownKnob Try.prog.godebug = none := by kernel_rfl
set_option maxRecDepth 100000 in
theorem laidOutO : laidOutB Try.prog = true := by kernel_rfl
set_option maxRecDepth 100000 in
theorem cellsInt : Try.prog.cellsOf 3 = 1 := by kernel_rfl
end Go.Proofs.Ythnchnamdoobeaa

namespace Go.Proofs.Ythnchnamdoobeaa
open Go.ChangeShapes Go.WideShapes Go.ChangeAt Go.RowKit Go.Joins Go.Deep

set_option maxRecDepth 100000 in
theorem recGraph : Try.prog.readableRec 24 = true := by kernel_rfl
set_option maxRecDepth 100000 in
theorem rowGraph : (24 : TypeId) < Try.prog.types.size := of_decide_eq_true (by kernel_rfl)
set_option maxRecDepth 100000 in
theorem cellsGraph : Try.prog.cellsOf 24 = 2 := by kernel_rfl
set_option maxRecDepth 100000 in
theorem cellsEdge : Try.prog.cellsOf 47 = 3 := by kernel_rfl
set_option maxRecDepth 100000 in
theorem cellsInt64 : Try.prog.cellsOf 2 = 1 := by kernel_rfl

/-- Every number of an edge is an int64. -/
def WfE (e : E3) : Prop := (Lit.int .i64 e.1).wf = true ∧ (Lit.int .i64 e.2.1).wf = true ∧ (Lit.int .i64 e.2.2).wf = true

section
variable {H : Type} {enc : TypeId × Value → H} {W : World} {base : Nat} {spare : Nat → Bool} {held : Bool}

set_option maxRecDepth 100000 in
theorem edge_of {n : Nat} {cs : List Value} {x : DataW H × List MemPlace} (h : DataW.trod enc Try.prog W base spare held n 47 cs = some x) :
    ∃ e : E3, cs = [.int .i64 e.1, .int .i64 e.2.1, .int .i64 e.2.2] ∧ WfE e := by
  obtain ⟨y0, y1, y2, m, _, hlen, h0, h1, h2⟩ := trod_struct3 Try.underlying47 h
  rw [cellsEdge] at hlen
  match cs, hlen with
  | [c0, c1, c2], _ =>
    simp only [cellsInt, cellsInt64, List.drop_zero, List.take_succ_cons, List.take_zero, List.drop_succ_cons] at h0 h1 h2
    obtain ⟨a, e0, _, wa⟩ := DataW.trod_int Try.underlying3 h0
    obtain ⟨b, e1, _, wb⟩ := DataW.trod_int Try.underlying3 h1
    obtain ⟨c, e2, _, wc⟩ := DataW.trod_int Try.underlying2 h2
    simp only [List.cons.injEq, and_true] at e0 e1 e2
    subst e0 e1 e2
    exact ⟨(a, b, c), rfl, wa, wb, wc⟩

set_option maxRecDepth 100000 in
theorem edges_of {n : Nat} {v : Value} {x : DataW H × List MemPlace} (h : DataW.trod enc Try.prog W base spare held n 22 [v] = some x) :
    ∃ (A : Option Addr) (len cap : Nat) (es : List E3), v = .slice A len cap ∧ EdgesAt W W.heap.size A len es ∧ len ≤ cap ∧ ∀ e ∈ es, WfE e := by
  rcases open_slice Try.underlying22 h with ⟨h0, _⟩ | ⟨a, len, cap, m, k, D, Pl, hcs, _, hl, _, hmm, _, hi⟩
  · simp only [List.cons.injEq, and_true] at h0
    subst h0
    exact ⟨none, 0, 0, [], rfl, ⟨rfl, fun h => absurd h (by omega)⟩, Nat.le_refl _, by simp⟩
  · simp only [List.cons.injEq, and_true] at hcs
    subst hcs
    have hlm : len ≤ m := by rw [hmm]; split <;> omega
    have hall : ∀ i, ∃ e : E3, i < len → (∀ j, j < 3 → W.cell? (a.add (i * 3 + j)) = [Value.int .i64 e.1, .int .i64 e.2.1, .int .i64 e.2.2][j]?) ∧ WfE e := fun i => by
      by_cases hlt : i < len
      · obtain ⟨cs', hc, ht⟩ := hi i (by omega)
        obtain ⟨e, rfl, he⟩ := edge_of ht
        rw [cellsEdge] at hc
        obtain ⟨_, _, hat⟩ := World.cells?_some hc
        exact ⟨e, fun _ => ⟨fun j hj => by rw [← Go.Deep.add_add]; exact hat j hj, he⟩⟩
      · exact ⟨default, fun h => absurd h hlt⟩
    obtain ⟨f, hf⟩ := Classical.axiomOfChoice hall
    refine ⟨some a, len, cap, (List.range len).map f, rfl, ⟨by simp, fun hn => ?_⟩, hl, fun e he => ?_⟩
    · have hz := (hf 0 hn).1 0 (by omega)
      simp only [Nat.zero_mul, Nat.add_zero, List.getElem?_cons_zero] at hz
      obtain ⟨b, off, spot⟩ := a
      have hspot : spot = none := by simpa [Addr.add] using World.cell?_spot hz
      subst hspot
      have hb : b < W.heap.size := by
        rcases Nat.lt_or_ge b W.heap.size with h | h
        · exact h
        · simp [World.cell?, Addr.add, Array.getElem?_eq_none h] at hz
      refine ⟨b, off, rfl, hb, fun i e hie => ?_⟩
      obtain ⟨hil, hie⟩ := List.getElem?_eq_some_iff.1 hie
      simp only [List.length_map, List.length_range] at hil
      simp only [List.getElem_map, List.getElem_range] at hie
      subst hie
      have hc := (hf i hil).1
      refine ⟨?_, ?_, ?_⟩
      · have := hc 0 (by omega); rw [Go.WideShapes.add_plain] at this; simpa using this
      · have := hc 1 (by omega); rw [Go.WideShapes.add_plain] at this; simpa [Nat.add_assoc] using this
      · have := hc 2 (by omega); rw [Go.WideShapes.add_plain] at this; simpa [Nat.add_assoc] using this
    · simp only [List.mem_map, List.mem_range] at he
      obtain ⟨i, hi', rfl⟩ := he
      exact (hf i hi').2

set_option maxRecDepth 100000 in
theorem open_graph {r : Reach} {b0 : Nat} {v : Value} {d : DataW H} {p : List MemPlace} (hv : Value.okWide Try.prog W r b0 24 v) (h : DataW.Trod enc Try.prog W base spare held 24 v d p) :
    ∃ (n : Int) (A : Option Addr) (len cap : Nat) (es : List E3), v = .agg #[.int .i64 n, .slice A len cap] ∧ EdgesAt W W.heap.size A len es ∧ len ≤ cap ∧ (∀ e ∈ es, WfE e) ∧ (Lit.int .i64 n).wf = true := by
  obtain ⟨c0, c1, y0, y1, m, rfl, _, _, hy0, hy1⟩ := open_agg2 Try.underlying24 (by kernel_rfl) cellsGraph hv h
  obtain ⟨n, e0, _, wn⟩ := DataW.trod_int Try.underlying3 hy0
  simp only [List.cons.injEq, and_true] at e0
  subst e0
  obtain ⟨A, len, cap, es, rfl, hE, hl, hw⟩ := edges_of hy1
  exact ⟨n, A, len, cap, es, rfl, hE, hl, hw, wn⟩
end
end Go.Proofs.Ythnchnamdoobeaa

namespace Go.Proofs.Ythnchnamdoobeaa
open Go.ChangeShapes Go.WideShapes Go.ChangeAt Go.RowKit

set_option maxRecDepth 100000 in
theorem crowdColours_any (n : Int) (A : Option Addr) (len cap : Nat) (es : List E3) (w : World) (hE : EdgesAt w w.heap.size A len es) (hcap : len ≤ cap) (_ : ∀ e ∈ es, WfE e) (_ : (Lit.int .i64 n).wf = true) :
    Calls Try.prog 10 #[.agg #[.int .i64 n, .slice A len cap]] w fun e w' => e = .returned (.bool true) ∧ Below w.heap.size w w' :=
  crowdColours_of n A len cap es w hE hcap (fun W _ h => mostTop_any n A len cap es W h) (fun W _ h => apartTop_any n A len cap es W h) (fun W _ h => leastTop_any n A len cap es W h)
set_option maxRecDepth 100000 in
theorem crowdColours_lifted (os : Os) (started : os.Started) (H : Type) (enc : TypeId × Value → H) :
    ReturnsInHanded {} Try.checked os 10 .any (Rows.crowdColoursSpec.pre6 enc Try.prog Try.f10 Rows.crowdColoursRow.domain false) (Rows.crowdColoursSpec.post enc Try.prog Try.f10 false true false false) := by
  refine returnsInHanded_of_change (C := Try.checked) ownK started (by kernel_rfl) Try.func10
    (ChangeSpec.witness6 (enc := enc) (C := Try.checked) false ⟨#[], #[.agg #[.int .i64 0, .slice none 0 0]], []⟩ 8 (by kernel_rfl) (by kernel_rfl) (by kernel_rfl) (by kernel_rfl)) ?_
  intro W base args ds gs before hval0 hW _ _
  have hval : ∀ (j : Nat) t v, Try.f10.params[j]? = some t → args[j]? = some v → Value.okWide Try.prog W .any base t v := hval0
  have hW' := hW
  obtain ⟨p, q, hA0, hV, rfl, _, _⟩ := hW
  have hA : DataW.TrodAll enc Try.prog W 0 (fun _ => true) true Try.f10.params.toList args.toList ds p := hA0
  rw [Try.params10] at hA hval
  obtain ⟨v0, d0, rfl, rfl, h0⟩ := trodAll_one hA
  obtain ⟨rfl, rfl⟩ := trodVars_none hV
  obtain ⟨n0, A0, len0, cap0, es0, rfl, hE0, hcap0, hwf0, hwn0⟩ := open_graph (hval 0 24 v0 rfl rfl) h0
  clear hA0 hval0
  simp only [List.append_nil] at hW'
  refine (crowdColours_any n0 A0 len0 cap0 es0 W hE0 hcap0 hwf0 hwn0).mono fun e W' ⟨he, hb⟩ => ?_
  subst he
  exact ⟨_, rfl, _, _, _, [], (p), [], hW', trodAll_mk1 (shut_bool Try.underlying4 _), trodAll_mk1 (Below.trod laidOutO recGraph rowGraph h0 hb (fun x hx => hW'.lt x hx)), rfl, hb.frame _, fun h => by cases h⟩

theorem crowdColours_holds : Rows.CrowdColoursSaid :=
  OpenClaim.holds_of_wide 10 Try.f10 rfl rfl rfl rfl rfl rfl rfl ⟨rfl, rfl, rfl, rfl, rfl⟩ rfl rfl rfl rfl rfl (by kernel_rfl) Try.func10 (by kernel_rfl)
    (of_decide_eq_true (by kernel_rfl)) (by unfold Func.isWrapper; first | (rw [if_pos (by decide +kernel)]; kernel_rfl) | (rw [if_neg (by decide +kernel)]; exact ⟨rfl, rfl⟩))
    (fun os started H enc _ => crowdColours_lifted os started H enc)
#print axioms crowdColours_holds
end Go.Proofs.Ythnchnamdoobeaa
