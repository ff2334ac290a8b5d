/- The reference's ring, of those without a short cut: the first one of so many nodes that begins with some, by trying all. -/
import Derived.Test.YticickicfigpbaaIsRing
import Derived.Test.YticickicfigpbaaBoxB
import Derived.Test.YticickicfigpbaaHoleFirstP
import Derived.Test.YticickicfigpbaaRefBare
import Derived.Test.YticickicfigpbaaRefRow
import Derived.Test.YticickicfigpbaaOwn
namespace Go.Proofs.Yticickicfigpbaa
open Go.RowKit

def nH (x : Nat) : Value := .int .i64 (x : Int)
theorem nH_natsL (l : List Nat) : l.map nH = (natsL l).map (Value.int .i64) := by simp [natsL, nH]
structure HoleOut (size : Nat) (o : Option (List Nat)) (e : Ending) (w' : World) : Prop where
  some_ : ∀ r, o = some r → ∃ A cap, e = .returned (.slice A size cap) ∧ IntsAt w' w'.heap.size A size (natsL r)
  none_ : o = none → e = .returned (.slice none 0 0)
theorem has_natsH (l : List Nat) (i : Nat) : hasI (natsL l) (i : Int) = l.contains i := by
  rw [Bool.eq_iff_iff, hasI_iff, List.contains_iff_mem]
  unfold natsL
  rw [List.mem_map]
  constructor
  · rintro ⟨a, ha, he⟩
    obtain rfl : a = i := by omega
    exact ha
  · intro h; exact ⟨i, h, rfl⟩
open Classical in
/-- What one looks at, node by node. -/
noncomputable def holeF (es : List E3) (m f : Nat) (l : List Nat) (i : Nat) : Option (List Nat) := if candB (adjE es) l i = true ∧ (f = 0 ∨ RowL (adjE es) (l ++ [i])) then refBareF (adjE es) m f (l ++ [i]) else none
theorem holeF_all {es : List E3} {m f : Nat} {l : List Nat} (h : ∀ i, i < m → holeF es m f l i = none) : refBareF (adjE es) m (f + 1) l = none := by
  unfold refBareF
  rw [List.findSome?_eq_none_iff]
  exact fun i hi => h i (List.mem_range.1 hi)
theorem holeF_one {es : List E3} {m f i : Nat} {l r : List Nat} (h : ∀ j, j < i → holeF es m f l j = none) (hi : i < m) (h1 : holeF es m f l i = some r) : refBareF (adjE es) m (f + 1) l = some r := by
  unfold refBareF
  exact range_find hi h h1
theorem holeF_no {es : List E3} {m f i : Nat} {l : List Nat} (h : candB (adjE es) l i = false) : holeF es m f l i = none := by
  unfold holeF
  rw [if_neg fun hc => by rw [h] at hc; cases hc.1]
theorem holeF_row {es : List E3} {m f i : Nat} {l : List Nat} (hf : f ≠ 0) (h : ¬ RowL (adjE es) (l ++ [i])) : holeF es m f l i = none := by
  unfold holeF
  rw [if_neg fun hc => hc.2.elim hf h]
theorem holeF_yes {es : List E3} {m f i : Nat} {l : List Nat} (h : candB (adjE es) l i = true) (hr : f = 0 ∨ RowL (adjE es) (l ++ [i])) : holeF es m f l i = refBareF (adjE es) m f (l ++ [i]) := by
  unfold holeF
  rw [if_pos ⟨h, hr⟩]

set_option maxRecDepth 100000 in
set_option maxHeartbeats 1000000 in
theorem refHole_zero (m : Nat) (A Al : Option Addr) (len cap size capl : Nat) (es : List E3) (l : List Nat) (w : World) (hE : EdgesAt w w.heap.size A len es) (hl : len ≤ 45) (hI : IntsAt w w.heap.size Al size (natsL l)) (hc : size ≤ capl) (hn3 : 3 ≤ size) (hn : size ≤ 10)
    (hlt : ∀ i, i < size → l.getD i 0 < m) (hnd : ∀ i j, i < j → j < size → l.getD i 0 ≠ l.getD j 0) :
    Calls Try.prog 29 #[.agg #[.int .i64 m, .slice A len cap], .slice Al size capl, .int .i64 size, .bool true] w fun e w' => HoleOut size (refBareF (adjE es) m 0 l) e w' ∧ Below w.heap.size w w' := by
  have HX := Lib.hid (BoxG.start (n := m) (cap := cap) hE)
  have hll : l.length = size := by have := hI.1; rwa [natsL_length] at this
  have HI := Lib.hid hI
  have HLT := Lib.hid hlt
  have HND := Lib.hid hnd
  have hI2 : IntsAt (bx w m A len cap) (bx w m A len cap).heap.size Al size (natsL l) := hI.go_ ((Below.refl _ _).alloc (Nat.le_refl _) _)
  have HI2 := Lib.hid hI2
  have HNB := Lib.hid (fun (r : Bool) (hr : r = true ↔ BareL (adjE es) l) W hW hIW => refBare_any (m : Int) A len cap es Al size capl l r W hW (show IntsAt W W.heap.size Al size (natG l) from hIW) hl hn (by unfold BareL at hr; rw [hll] at hr; exact hr))
  by_cases hr : RingT (adjE es) l
  · have HV : Hid (∀ i, i < size → adjE es (l.getD i 0) (l.getD ((i + 1) % size) 0) = true) := Lib.hid (by unfold RingT at hr; rwa [hll] at hr)
    by_cases hb : BareL (adjE es) l
    · have HO : Hid (refBareF (adjE es) m 0 l = some l) := Lib.hid (by unfold refBareF; rw [if_pos ⟨hr, hb⟩])
      have HBB := Lib.hid (HNB.out true ⟨fun _ => hb, fun _ => rfl⟩)
      clear hE hI hlt hnd hI2 hll hr hb HNB
      go_enter Try.func29, Try.ntmps29
      go_wp2_with fail
      refine (isRing_v m A Al len cap size capl es l true _ (by exact HX.out.edges) hl (by exact HI2.out) hc hn3 (by omega) HLT.out HND.out ⟨fun _ => HV.out, fun _ => rfl⟩).mono ?_
      rintro e w1 ⟨rfl, hb1⟩
      have HX1 := Lib.hid (HX.out.next hb1)
      have HI3 := Lib.hid (HI2.out.go_ hb1)
      have k0 := HX1.out.c0
      have k1 := HX1.out.c1
      clear hb1
      go_wp2_with fail
      refine (HBB.out _ HX1.out.edges HI3.out).mono ?_
      rintro e w2 ⟨rfl, hb2⟩
      have HX2 := Lib.hid (HX1.out.next hb2)
      have HI4 := Lib.hid (HI3.out.go_ hb2)
      clear hb2
      go_wp2_with fail
      go_ret
      exact ⟨⟨fun r h => (by rw [HO.out] at h; injection h with h; subst h; exact ⟨_, _, rfl, HI4.out⟩), fun h => (by rw [HO.out] at h; cases h)⟩, HX2.out.below⟩
    · have HO : Hid (refBareF (adjE es) m 0 l = none) := Lib.hid (by unfold refBareF; rw [if_neg fun h => hb h.2])
      have HBB := Lib.hid (HNB.out false ⟨fun h => (by cases h), fun h => absurd h hb⟩)
      clear hE hI hlt hnd hI2 hll hr hb HNB
      go_enter Try.func29, Try.ntmps29
      go_wp2_with fail
      refine (isRing_v m A Al len cap size capl es l true _ (by exact HX.out.edges) hl (by exact HI2.out) hc hn3 (by omega) HLT.out HND.out ⟨fun _ => HV.out, fun _ => rfl⟩).mono ?_
      rintro e w1 ⟨rfl, hb1⟩
      have HX1 := Lib.hid (HX.out.next hb1)
      have HI3 := Lib.hid (HI2.out.go_ hb1)
      have k0 := HX1.out.c0
      have k1 := HX1.out.c1
      clear hb1
      go_wp2_with fail
      refine (HBB.out _ HX1.out.edges HI3.out).mono ?_
      rintro e w2 ⟨rfl, hb2⟩
      have HX2 := Lib.hid (HX1.out.next hb2)
      clear hb2
      go_wp2_with fail
      go_ret
      exact ⟨⟨fun r h => (by rw [HO.out] at h; cases h), fun _ => rfl⟩, HX2.out.below⟩
  · have HV : Hid (¬ ∀ i, i < size → adjE es (l.getD i 0) (l.getD ((i + 1) % size) 0) = true) := Lib.hid (by unfold RingT at hr; rwa [hll] at hr)
    have HO : Hid (refBareF (adjE es) m 0 l = none) := Lib.hid (by unfold refBareF; rw [if_neg fun h => hr h.1])
    clear hE hI hlt hnd hI2 hll hr HNB
    go_enter Try.func29, Try.ntmps29
    go_wp2_with fail
    refine (isRing_v m A Al len cap size capl es l false _ (by exact HX.out.edges) hl (by exact HI2.out) hc hn3 (by omega) HLT.out HND.out ⟨fun h => (by cases h), fun h => absurd h HV.out⟩).mono ?_
    rintro e w1 ⟨rfl, hb1⟩
    have HX1 := Lib.hid (HX.out.next hb1)
    clear hb1
    go_wp2_with fail
    go_ret
    exact ⟨⟨fun r h => (by rw [HO.out] at h; cases h), fun _ => rfl⟩, HX1.out.below⟩
end Go.Proofs.Yticickicfigpbaa
