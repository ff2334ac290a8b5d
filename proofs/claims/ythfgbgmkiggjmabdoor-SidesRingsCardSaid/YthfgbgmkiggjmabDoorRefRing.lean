/- The reference's ring: the first ring of so many nodes that begins with some, by trying all. -/
import Derived.Test.YthfgbgmkiggjmabDoorIsRing
import Derived.Test.YthfgbgmkiggjmabDoorRingP
import Derived.Test.YthfgbgmkiggjmabDoorFirstRound
namespace Go.Proofs.YthfgbgmkiggjmabDoor
open Go.RowKit

theorem nV_natsL (l : List Nat) : l.map nV = (natsL l).map (Value.int .i64) := by simp [natsL, nV]
structure RingOut (size : Nat) (o : Option (List Nat)) (e : Ending) (w' : World) : Prop where
  some_ : ∀ r, o = some r → ∃ A cap, e = .returned (.slice A size cap) ∧ IntsAt w' w'.heap.size A size (natsL r)
  none_ : o = none → e = .returned (.slice none 0 0)
theorem has_nats (l : List Nat) (i : Nat) : hasI (natsL l) (i : Int) = l.contains i := by
  rw [Bool.eq_iff_iff, hasI_iff, List.contains_iff_mem]
  unfold natsL
  rw [List.mem_map]
  constructor
  · rintro ⟨a, ha, he⟩
    obtain rfl : a = i := by omega
    exact ha
  · intro h; exact ⟨i, h, rfl⟩
/-- What one looks at, node by node. -/
noncomputable def ringF (es : List E3) (m f : Nat) (l : List Nat) (i : Nat) : Option (List Nat) := if candB (adjE es) l i = true then refRing (adjE es) m f (l ++ [i]) else none
theorem ringF_all {es : List E3} {m f : Nat} {l : List Nat} (h : ∀ i, i < m → ringF es m f l i = none) : refRing (adjE es) m (f + 1) l = none := by
  unfold refRing
  rw [List.findSome?_eq_none_iff]
  exact fun i hi => h i (List.mem_range.1 hi)
theorem ringF_one {es : List E3} {m f i : Nat} {l r : List Nat} (h : ∀ j, j < i → ringF es m f l j = none) (hi : i < m) (h1 : ringF es m f l i = some r) : refRing (adjE es) m (f + 1) l = some r := by
  unfold refRing
  exact range_find hi h h1

set_option maxRecDepth 100000 in
set_option maxHeartbeats 1000000 in
theorem refRing_zero (m : Nat) (A Al : Option Addr) (len cap size capl : Nat) (es : List E3) (l : List Nat) (w : World) (hE : EdgesAt w w.heap.size A len es) (hl : len ≤ 45) (hI : IntsAt w w.heap.size Al size (natsL l)) (hc : size ≤ capl) (hn3 : 3 ≤ size) (hn : size ≤ 10)
    (hlt : ∀ i, i < size → l.getD i 0 < m) (hnd : ∀ i j, i < j → j < size → l.getD i 0 ≠ l.getD j 0) :
    Calls Tryd.prog 61 #[.agg #[.int .i64 m, .slice A len cap], .slice Al size capl, .int .i64 size, .bool false] w fun e w' => RingOut size (refRing (adjE es) m 0 l) e w' ∧ Below w.heap.size w w' := by
  have HX := Lib.hid (BoxG.start (n := m) (cap := cap) hE)
  have hll : l.length = size := by have := hI.1; rwa [natsL_length] at this
  have HI := Lib.hid hI
  have HLT := Lib.hid hlt
  have HND := Lib.hid hnd
  have hI2 : IntsAt (bx w m A len cap) (bx w m A len cap).heap.size Al size (natsL l) := hI.go_ ((Below.refl _ _).alloc (Nat.le_refl _) _)
  have HI2 := Lib.hid hI2
  by_cases hr : RingT (adjE es) l
  · have HV : Hid (∀ i, i < size → adjE es (l.getD i 0) (l.getD ((i + 1) % size) 0) = true) := Lib.hid (by unfold RingT at hr; rwa [hll] at hr)
    have HO : Hid (refRing (adjE es) m 0 l = some l) := Lib.hid (by unfold refRing; rw [if_pos hr])
    clear hE hI hlt hnd hI2 hll hr
    go_enter Tryd.func61, Tryd.ntmps61
    go_wp2_with (go_at_call 34; refine (isRing_v m A Al len cap size capl es l true _ (by exact HX.out.edges) hl (by exact HI2.out) hc hn3 (by omega) HLT.out HND.out ⟨fun _ => HV.out, fun _ => rfl⟩).mono ?_; rintro e w1 ⟨rfl, hb1⟩; have HX1 := Lib.hid (HX.out.next hb1); have HI3 := Lib.hid (HI2.out.go_ hb1); clear hb1)
    go_ret
    exact ⟨⟨fun r h => (by rw [HO.out] at h; injection h with h; subst h; exact ⟨_, _, rfl, HI3.out⟩), fun h => (by rw [HO.out] at h; cases h)⟩, HX1.out.below⟩
  · have HV : Hid (¬ ∀ i, i < size → adjE es (l.getD i 0) (l.getD ((i + 1) % size) 0) = true) := Lib.hid (by unfold RingT at hr; rwa [hll] at hr)
    have HO : Hid (refRing (adjE es) m 0 l = none) := Lib.hid (by unfold refRing; rw [if_neg hr])
    clear hE hI hlt hnd hI2 hll hr
    go_enter Tryd.func61, Tryd.ntmps61
    go_wp2_with (go_at_call 34; refine (isRing_v m A Al len cap size capl es l false _ (by exact HX.out.edges) hl (by exact HI2.out) hc hn3 (by omega) HLT.out HND.out ⟨fun h => (by cases h), fun h => absurd h HV.out⟩).mono ?_; rintro e w1 ⟨rfl, hb1⟩; have HX1 := Lib.hid (HX.out.next hb1); clear hb1)
    go_ret
    exact ⟨⟨fun r h => (by rw [HO.out] at h; cases h), fun _ => rfl⟩, HX1.out.below⟩
end Go.Proofs.YthfgbgmkiggjmabDoor
