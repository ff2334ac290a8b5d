/- The statement ChordRingsSaid, out of the law's walk. No conditions. -/
import Derived.Test.YticickicfigpbaaBoxB
import Derived.Test.YticickicfigpbaaCheckGo
import Derived.Test.YticickicfigpbaaElimP
import Derived.Test.YticickicfigpbaaNatG
import Derived.Test.YticickicfigpbaaAdj
import Derived.Test.YticickicfigpbaaGood
import Derived.Test.YticickicfigpbaaRows2
import Derived.Test.YticickicfigpbaaHoleFirstP
import Derived.Test.YticickicfigpbaaMapsP
import Derived.Test.YticickicfigpbaaRefHole2
import Derived.Test.YticickicfigpbaaInts
import Derived.Test.YticickicfigpbaaCountP
import Derived.Test.YticickicfigpbaaNbP
import Derived.Test.YticickicfigpbaaChordCloses
import Derived.Test.YticickicfigpbaaNeigh
import Derived.Test.YticickicfigpbaaMem
import Derived.Laws.EntriesVeiled
import Derived.Test.YticickicfigpbaaRows
import Derived.ProofKit
import Derived.Deep.Slices
import Derived.Deep.Strs
import Derived.Lib.SmallJoins
namespace Go.Proofs.Yticickicfigpbaa
open Go.RowKit

set_option maxRecDepth 100000 in
theorem check_v (n : Int) (A : Option Addr) (len cap : Nat) (es : List E3) (v : Int) (w : World) (hE : EdgesAt w w.heap.size A len es) (hcap : len ≤ cap) (hv : gcheck n es = v) :
    Calls Try.prog 8 #[.agg #[.int .i64 n, .slice A len cap]] w fun e w' => e = .returned (.int .i64 v) ∧ Below w.heap.size w w' := by
  subst hv; exact graphCheck_any n A len cap es w hE hcap
end Go.Proofs.Yticickicfigpbaa

namespace Go.Proofs.Yticickicfigpbaa
open Go.RowKit

def ChordTop (w : World) (n : Int) (es : List E3) (e : Ending) (w' : World) : Prop :=
  (gcheck n es ≠ 0 → e = .returned (.tuple #[.slice none 0 0, .int .i64 (gcheck n es)])) ∧
  (gcheck n es = 0 → elimF (adjE es) n.toNat n.toNat [] = none → e = .returned (.tuple #[.slice none 0 0, .int .i64 5])) ∧
  (gcheck n es = 0 → ∀ l, elimF (adjE es) n.toNat n.toNat [] = some l → ∃ A' c', e = .returned (.tuple #[.slice A' n.toNat c', .int .i64 0]) ∧ IntsAt w' w'.heap.size A' n.toNat (natG l) ∧ n.toNat ≤ c') ∧ Below w.heap.size w w'
/-- A ring of four or more without a short cut, as a list. -/
def HoleL (adj : Nat → Nat → Bool) (n : Nat) (r : List Nat) : Prop := HoleP adj (restB n []) r.length fun i => r.getD i 0
def HoleTop (w : World) (n : Int) (es : List E3) (e : Ending) (w' : World) : Prop :=
  (gcheck n es ≠ 0 → e = .returned (.tuple #[.slice none 0 0, .int .i64 (gcheck n es)])) ∧
  (gcheck n es = 0 → (∀ L q, ¬ HoleP (adjE es) (restB n.toNat []) L q) → e = .returned (.tuple #[.slice none 0 0, .int .i64 5])) ∧
  (gcheck n es = 0 → (∃ L q, HoleP (adjE es) (restB n.toNat []) L q) → ∃ r A' c', HoleL (adjE es) n.toNat r ∧ e = .returned (.tuple #[.slice A' r.length c', .int .i64 0]) ∧ IntsAt w' w'.heap.size A' r.length (natG r) ∧ r.length ≤ c') ∧ Below w.heap.size w w'
end Go.Proofs.Yticickicfigpbaa

namespace Go.Proofs.Yticickicfigpbaa
open Go.RowKit

def HoleFirst (w : World) (n : Int) (es : List E3) (e : Ending) (w' : World) : Prop :=
  (gcheck n es ≠ 0 → e = .returned (.tuple #[.slice none 0 0, .int .i64 (gcheck n es)])) ∧
  (gcheck n es = 0 → (∀ h, ¬ HoleG (adjE es) n.toNat h) → e = .returned (.tuple #[.slice none 0 0, .int .i64 5])) ∧
  (gcheck n es = 0 → ∀ g, FirstH (adjE es) n.toNat g → ∃ A' c', e = .returned (.tuple #[.slice A' g.length c', .int .i64 0]) ∧ IntsAt w' w'.heap.size A' g.length (natG g) ∧ g.length ≤ c') ∧ Below w.heap.size w w'
section
variable {adj : Nat → Nat → Bool} {m : Nat}
theorem holeG_len {h : List Nat} (hh : HoleG adj m h) : h.length ≤ m := by
  have hn : h.Nodup := by
    rw [List.nodup_iff_pairwise_ne, List.pairwise_iff_getElem]
    intro i j hi hj hij e
    refine hh.nd i j hij hj ?_
    rw [List.getD_eq_getElem?_getD, List.getD_eq_getElem?_getD, List.getElem?_eq_getElem hi, List.getElem?_eq_getElem hj, e]
  have h1 : h.length ≤ sizeP (fun i => decide (i ∈ h)) m := inj_size (N := m) h.length (fun i => h.getD i 0) (fun i => decide (i ∈ h)) (fun i hi => ⟨hh.lt i hi, by
    rw [decide_eq_true_eq, List.getD_eq_getElem?_getD, List.getElem?_eq_getElem hi]
    exact List.getElem_mem hi⟩) fun i j hij hj => hh.nd i j hij hj
  exact Nat.le_trans h1 (sizeP_le _ _)
/-- If there is one, there is a first one. -/
theorem first_ex {h : List Nat} (hh : HoleG adj m h) : ∃ g, FirstH adj m g := by
  have hex : ∃ k, 4 ≤ k ∧ refBareF adj m k [] ≠ none := by
    obtain ⟨r, hr, _⟩ := refBareF_lex hh h.length 0 (Nat.zero_add _)
    rw [List.take_zero] at hr
    exact ⟨h.length, hh.four, by rw [hr]; exact fun e => by cases e⟩
  obtain ⟨k0, hk0⟩ := hex
  obtain ⟨k, _, hk, hmin⟩ := least_of (p := fun k => 4 ≤ k ∧ refBareF adj m k [] ≠ none) k0 hk0
  cases hr : refBareF adj m k [] with
  | none => exact absurd hr hk.2
  | some g =>
    refine ⟨g, (bare_first hk.1 hr fun j h4 hj => ?_).1⟩
    cases hq : refBareF adj m j [] with
    | none => rfl
    | some r => exact absurd ⟨h4, by rw [hq]; exact fun e => by cases e⟩ (hmin j hj)
theorem holeG_P (hs : ∀ i j, adj i j = adj j i) {g : List Nat} (h : HoleG adj m g) : HoleL adj m g := by
  refine ⟨h.four, fun i hi => ?_, fun i j hi hj he => ?_, fun i j hij hj => ⟨fun ha => ?_, ?_⟩⟩
  · exact restB_iff.2 ⟨h.lt i hi, fun h => by cases h⟩
  · rcases Nat.lt_trichotomy i j with h1 | h1 | h1
    · exact absurd he (h.nd i j h1 hj)
    · exact h1
    · exact absurd he.symm (h.nd j i h1 hi)
  · have := h.bare j i hj hij (by rw [hs]; exact ha)
    omega
  · rintro (rfl | ⟨rfl, rfl⟩)
    · have := h.ring i (by omega)
      rw [Nat.mod_eq_of_lt hj] at this
      exact this
    · have := h.ring (g.length - 1) hj
      rw [show g.length - 1 + 1 = g.length by omega, Nat.mod_self] at this
      rw [hs]; exact this
theorem holeP_G (hs : ∀ i j, adj i j = adj j i) {L : Nat} {q : Nat → Nat} (h : HoleP adj (restB m []) L q) : HoleG adj m ((List.range L).map q) := by
  have hget : ∀ i, i < L → ((List.range L).map q).getD i 0 = q i := fun i hi => by simp [List.getD_eq_getElem?_getD, hi]
  have hl : ((List.range L).map q).length = L := by simp
  have h4 := h.four
  refine ⟨by omega, fun i hi => ?_, fun i j hij hj => ?_, fun i hi => ?_, fun i j hi hj ha => ?_⟩
  · rw [hl] at hi
    rw [hget i hi]
    have := h.mem i hi
    simpa [restB] using this
  · rw [hl] at hj
    rw [hget i (by omega), hget j hj]
    intro e
    have := h.inj i j (by omega) hj e
    omega
  · rw [hl] at hi ⊢
    rw [hget i hi, hget _ (Nat.mod_lt _ (by omega))]
    rcases Nat.lt_or_ge (i + 1) L with h1 | h1
    · rw [Nat.mod_eq_of_lt h1]
      exact (h.edge i (i + 1) (by omega) h1).2 (.inl rfl)
    · rw [show i + 1 = L by omega, Nat.mod_self, hs]
      exact (h.edge 0 i (by omega) hi).2 (.inr ⟨rfl, by omega⟩)
  · rw [hl] at hi ⊢
    rw [hget i hi, hget j (by omega), hs] at ha
    rcases (h.edge j i hj hi).1 ha with h1 | ⟨h1, h2⟩
    · exact .inl (by omega)
    · exact .inr (by omega)
end
/-- What the laws by hand want of it. -/
theorem hole_top {w w' : World} {n : Int} {es : List E3} {e : Ending} (h : HoleFirst w n es e w') : HoleTop w n es e w' := by
  obtain ⟨h1, h2, h3, h4⟩ := h
  refine ⟨h1, fun hg hno => h2 hg fun g hh => hno _ _ (holeG_P (adjE_symm es) hh), fun hg ⟨L, q, hq⟩ => ?_, h4⟩
  obtain ⟨g, hgf⟩ := first_ex (holeP_G (adjE_symm es) hq)
  obtain ⟨A', c', r1, r2, r3⟩ := h3 hg g hgf
  exact ⟨g, A', c', holeG_P (adjE_symm es) hgf.hole, r1, r2, r3⟩
end Go.Proofs.Yticickicfigpbaa

namespace Go.Proofs.Yticickicfigpbaa
open Go.RowKit

theorem hole_calls (m : Nat) (A : Option Addr) (len cap size : Nat) (es : List E3) (hl : len ≤ 45) (hm : m ≤ 10) (hs3 : 4 ≤ size) (hs : size ≤ 10) : ∀ (f k : Nat), k + f = size → 1 ≤ k → HoleCall m A len cap size es f k
  | 0, k, hk, _ => by
    obtain rfl : k = size := by omega
    exact fun l Al capl w hE hI hc hlt hnd => refHole_zero m A Al len cap k capl es l w hE hl hI hc (by omega) hs hlt hnd
  | f + 1, k, hk, h1 => by
    obtain ⟨q, rfl⟩ : ∃ q, k = q + 1 := ⟨k - 1, by omega⟩
    exact hole_step m A len cap size q f es hl hm hs (by omega) (hole_calls m A len cap size es hl hm hs3 hs f (q + 1 + 1) (by omega) (by omega))

set_option maxRecDepth 100000 in
set_option maxHeartbeats 4000000 in
theorem hole_top1 (m : Nat) (A : Option Addr) (len cap size f : Nat) (es : List E3) (w : World) (hE : EdgesAt w w.heap.size A len es) (hl : len ≤ 45) (hm : m ≤ 10) (hs4' : 4 ≤ size) (hs : size ≤ 10) (hf : 1 + f = size) (ih : HoleCall m A len cap size es f 1) :
    Calls Try.prog 29 #[.agg #[.int .i64 m, .slice A len cap], .slice none 0 0, .int .i64 size, .bool true] w fun e w' => HoleOut size (refBareF (adjE es) m (f + 1) []) e w' ∧ Below w.heap.size w w' := by
  have HIH := Lib.hid ih
  have HX := Lib.hid (BoxG.start (n := m) (cap := cap) hE)
  have HF := Lib.hid hf
  clear hE ih
  obtain ⟨i0, hi, hz0, hz1, hz2⟩ := info_parts infoInt
  have HJ := Lib.hid hi
  have HJ0 := Lib.hid hz0
  have HJ1 := Lib.hid hz1
  have HJ2 := Lib.hid hz2
  clear hi hz0 hz1 hz2
  have hs0 : decide (0 < (size : Int)) = true := by simp; omega
  have hs1 : decide (0 < size) = true := by simp; omega
  have hs2 : 0 < size := by omega
  have hs3 : ((0 : Int) == (size : Int)) = false := by simp; omega
  have hs4 : ¬ (0 : Int) = (size : Int) := by omega
  clear hf
  go_enter Try.func29, Try.ntmps29
  go_wp2
  go_loopw [9, 10, 11] (fun j _ _ wr => ∃ i : Nat, i ≤ m ∧ j = .int .i64 i ∧ Hid (∀ y, y < i → holeF es m f [] y = none) ∧ Hid (BoxG w m A len cap es wr)) (fun j _ _ _ => m - (intOf j).toNat)
  case atStart => exact ⟨0, Nat.zero_le _, rfl, Lib.hid (fun y hy => by omega), HX⟩
  case round =>
    obtain ⟨i, hi, rfl, HN, HB⟩ := hrel
    have hc0 := HB.out.c0
    have hc1 := HB.out.c1
    by_cases him : i < m
    · have HNX : Hid (holeF es m f [] i = none → ∀ y, y < i + 1 → holeF es m f [] y = none) := Lib.hid fun h y hy => by
        rcases Nat.lt_or_ge y i with h1 | h1
        · exact HN.out y h1
        · obtain rfl : y = i := by omega
          exact h
      have HRF : Hid (holeF es m f [] i = refBareF (adjE es) m f [i]) := Lib.hid (holeF_yes (l := []) (by simp [candB]) (.inr fun a b h1 h2 => by simp at h1; omega))
      have HHF : Hid (hasI ([] : List Int) (i : Int) = false) := Lib.hid rfl
      have ii1 : (i : Int) < (m : Int) := by omega
      go_wp2
      go_quiet ((go_at_call 27; exact Calls.quiet_of_same ((has_v 0 0 (i : Int) false none [] _ (IntsAt.nil_ _ _ _) (by omega) HHF.out).mono fun e w' h => ⟨h.1, h.2.symm⟩)))
      have HBq : Hid (BoxG w m A len cap es (wr.drewN nq)) := Lib.hid (HB.out.next (below_drewN (Below.refl _ _) _))
      clear hc0 hc1
      generalize wr.drewN nq = W at HBq ⊢
      have HOW : Hid ((W.alloc (.cells #[] 3)).ownsRow W.heap.size 3 1 (.slice (some ⟨W.heap.size, 0, none⟩) 0 0) 0 []) := Lib.hid ⟨rfl, .inr ⟨W.heap.size, 0, _, rfl, Nat.le_refl _, (MapKept.heap_alloc W _).1, Nat.le_refl _, by unfold maxLen; omega, rfl, rfl⟩⟩
      go_wp2_with (at_builtin; refine wpList_append_own _ rfl _ _ 25 rfl W.heap.size 3 i0 (.int .i64 0) 1 8 Try.underlying25 HJ.out HJ0.out HJ1.out HJ2.out rfl (by decide) _ _ _ rfl (HOW.out.alloc _) ⟨W.heap.size + 1, 0, none⟩ 1 1 [.int .i64 (i : Int)] rfl rfl ?d1 ?d2 ?d3 ?d4 ?d5 ?_)
      try (case d1 => intro j u hj; rcases j with _ | j <;> simp at hj; subst hj; simp [go_sem, Addr.add])
      case d2 => simp [Value.oneCell']
      case d3 => unfold maxLen; omega
      case d4 => omega
      case d5 => simp; omega
      intro v2 w6 hown6 hgrow6 _
      obtain ⟨g2, c2, HV2⟩ : ∃ g2 c2, Hid (v2 = .slice (some ⟨g2, 0, none⟩) 1 c2) := by
        obtain ⟨g2, c2, hv⟩ := own_someH hown6 (by omega)
        exact ⟨g2, c2, Lib.hid hv⟩
      obtain rfl := HV2.out
      have HI6 : Hid (IntsAt w6 w6.heap.size (some ⟨g2, 0, none⟩) 1 (natsL [i])) := Lib.hid (IntsAt.of_own (t := 3) hown6 (Nat.le_refl _))
      have hc2 : 1 ≤ c2 := own_capH hown6
      have HB6 : Hid (BoxG w m A len cap es w6) := Lib.hid (HBq.out.next ((((Below.refl _ _).alloc (Nat.le_refl _) _).alloc (by simp) _).grown hgrow6 (by simp; omega) (fun g hg => by simp [Value.ownBlock] at hg; omega)))
      clear hown6 hgrow6 HV2 HOW
      have HLT6 : Hid (∀ j, j < 1 → [i].getD j 0 < m) := Lib.hid fun j hj => by
        obtain rfl : j = 0 := by omega
        exact him
      have HND6 : Hid (∀ a b, a < b → b < 1 → [i].getD a 0 ≠ [i].getD b 0) := Lib.hid fun a b hab hb => by omega
      have hd0 := HB6.out.c0
      have hd1 := HB6.out.c1
      have hlt0 : (1 : Int) < (size : Int) := by omega
      have HRW := Lib.hid (refRow_any (m : Int) A len cap es (some ⟨g2, 0, none⟩) 1 c2 [i] true w6 HB6.out.edges (show IntsAt w6 w6.heap.size (some ⟨g2, 0, none⟩) 1 (natG [i]) from HI6.out) hl (by omega) ⟨fun _ a b h1 h2 => by omega, fun _ => rfl⟩)
      go_wp2_with fail
      refine HRW.out.mono ?_
      rintro e w8 ⟨rfl, hb8⟩
      have HB8 := Lib.hid (HB6.out.next hb8)
      have HI8 := Lib.hid (HI6.out.go_ hb8)
      have hf0 := HB8.out.c0
      have hf1 := HB8.out.c1
      have HCALL := Lib.hid (HIH.out [i] (some ⟨g2, 0, none⟩) c2 w8 HB8.out.edges HI8.out hc2 HLT6.out HND6.out)
      clear hb8 hd0 hd1 HRW HIH HLT6 HND6 HI6 HI8
      cases hr : refBareF (adjE es) m f [i] with
      | some r =>
        have HO := Lib.hid (holeF_one HN.out him (by rw [HRF.out]; exact hr))
        have HR := Lib.hid hr
        clear hr
        go_wp2_with (go_at_call 29; refine HCALL.out.mono ?_; rintro e w7 ⟨ho, hb7⟩; obtain ⟨A7, cap7, rfl, hi7⟩ := ho.some_ r HR.out; have HI7 := Lib.hid hi7; have HB7 := Lib.hid (HB8.out.next hb7); clear ho hi7 hb7)
        go_ret
        exact ⟨⟨fun r' h => (by rw [HO.out] at h; injection h with h; subst h; exact ⟨_, _, rfl, HI7.out⟩), fun h => (by rw [HO.out] at h; cases h)⟩, HB7.out.below⟩
      | none =>
        have HN2 := Lib.hid (HNX.out (by rw [HRF.out]; exact hr))
        have HR := Lib.hid hr
        clear hr
        go_wp2_with (go_at_call 29; refine HCALL.out.mono ?_; rintro e w7 ⟨ho, hb7⟩; obtain rfl := ho.none_ HR.out; have HB7 := Lib.hid (HB8.out.next hb7); clear ho hb7)
        go_roundw
        case rel => exact ⟨i + 1, by omega, by go_num, HN2, HB7⟩
        case measure => simp [intOf]; omega
    · have HO := Lib.hid (holeF_all (fun y hy => HN.out y (by omega)))
      go_wp2
      go_ret
      exact ⟨⟨fun r h => (by rw [HO.out] at h; cases h), fun _ => rfl⟩, HB.out.below⟩

set_option maxRecDepth 100000 in
/-- The first ring of a size, from nothing on. -/
theorem hole_nil (m : Nat) (A : Option Addr) (len cap size : Nat) (es : List E3) (o : Option (List Nat)) (w : World) (hE : EdgesAt w w.heap.size A len es) (hl : len ≤ 45) (hm : m ≤ 10) (hs3 : 4 ≤ size) (hs : size ≤ 10) (ho : refBareF (adjE es) m size [] = o) :
    Calls Try.prog 29 #[.agg #[.int .i64 m, .slice A len cap], .slice none 0 0, .int .i64 size, .bool true] w fun e w' => HoleOut size o e w' ∧ Below w.heap.size w w' := by
  obtain ⟨f, rfl⟩ : ∃ f, size = f + 1 := ⟨size - 1, by omega⟩
  subst ho
  exact hole_top1 m A len cap (f + 1) f es w hE hl hm (by omega) hs (by omega) (hole_calls m A len cap (f + 1) es hl hm hs3 hs f 1 (by omega) (Nat.le_refl _))

/-- What BareRing tells: the first of the shortest, or that there is none. -/
def BareOut (adj : Nat → Nat → Bool) (m : Nat) (e : Ending) (w' : World) : Prop := (∃ g A c, FirstH adj m g ∧ e = .returned (.slice A g.length c) ∧ IntsAt w' w'.heap.size A g.length (natG g)) ∨ ((∀ h, ¬ HoleG adj m h) ∧ e = .returned (.slice none 0 0))
set_option maxRecDepth 100000 in
set_option maxHeartbeats 1000000 in
theorem bareRing_any (m : Nat) (A : Option Addr) (len cap : Nat) (es : List E3) (w : World) (hE : EdgesAt w w.heap.size A len es) (hl : len ≤ 45) (hm : m ≤ 10) (hlm : ∀ h, HoleG (adjE es) m h → h.length ≤ m) :
    Calls Try.prog 12 #[.agg #[.int .i64 m, .slice A len cap]] w fun e w' => BareOut (adjE es) m e w' ∧ Below w.heap.size w w' := by
  have HX := Lib.hid (BoxG.start (n := m) (cap := cap) hE)
  have HLM := Lib.hid hlm
  clear hE hlm
  go_enter Try.func12, Try.ntmps12
  go_wp2
  go_loopw [3, 4] (fun j _ wr => ∃ k : Nat, 4 ≤ k ∧ k ≤ m + 4 ∧ j = .int .i64 k ∧ Hid (∀ j, 4 ≤ j → j < k → refBareF (adjE es) m j [] = none) ∧ Hid (BoxG w m A len cap es wr)) (fun j _ _ => m + 6 - (intOf j).toNat)
  case atStart => exact ⟨4, Nat.le_refl _, by omega, rfl, Lib.hid (fun j h1 h2 => by omega), HX⟩
  case round =>
    obtain ⟨k, hk4, hkn, rfl, HK, HB⟩ := hrel
    have hc0 := HB.out.c0
    have hc1 := HB.out.c1
    by_cases hk : k ≤ m
    · have hkm : (k : Int) ≤ (m : Int) := by omega
      have hkw : IntKind.i64.wrap ((k : Int) + 1) = (k : Int) + 1 := IntWalk.i64_in _ (by omega)
      cases hr : refBareF (adjE es) m k [] with
      | some g =>
        have HC := Lib.hid (hole_nil m A len cap k es (some g) wr HB.out.edges hl hm hk4 (by omega) hr)
        have HFI := Lib.hid (bare_first hk4 hr HK.out)
        have hs0 : decide (0 < (k : Int)) = true := by simp; omega
        have hs1 : decide (0 < k) = true := by simp; omega
        have hs2 : 0 < k := by omega
        clear hr
        go_wp2_with fail
        refine HC.out.mono ?_
        rintro e w7 ⟨ho, hb7⟩
        obtain ⟨A7, cap7, rfl, hi7⟩ := ho.some_ g rfl
        have HI7 := Lib.hid hi7
        have HB7 := Lib.hid (HB.out.next hb7)
        clear ho hi7 hb7
        go_wp2_with fail
        go_ret
        refine ⟨.inl ⟨g, A7, cap7, HFI.out.1, by rw [HFI.out.2]; rfl, ?_⟩, HB7.out.below⟩
        rw [HFI.out.2]
        exact HI7.out
      | none =>
        have HC := Lib.hid (hole_nil m A len cap k es none wr HB.out.edges hl hm hk4 (by omega) hr)
        have HK2 : Hid (∀ j, 4 ≤ j → j < k + 1 → refBareF (adjE es) m j [] = none) := Lib.hid (fun j h1 h2 => by
          by_cases e : j = k
          · subst e; exact hr
          · exact HK.out j h1 (by omega))
        clear hr
        go_wp2_with fail
        refine HC.out.mono ?_
        rintro e w7 ⟨ho, hb7⟩
        obtain rfl := ho.none_ rfl
        have HB7 := Lib.hid (HB.out.next hb7)
        clear ho hb7
        go_wp2_with fail
        go_roundw
        case rel => exact ⟨k + 1, by omega, by omega, by go_num, HK2, HB7⟩
        case measure => simp [intOf]; omega
    · have hkm : ¬ (k : Int) ≤ (m : Int) := by omega
      have HNO := Lib.hid (bare_none (fun j h1 h2 => HK.out j h1 (by omega)) HLM.out)
      go_wp2_with fail
      go_ret
      exact ⟨.inr ⟨HNO.out, rfl⟩, HB.out.below⟩
end Go.Proofs.Yticickicfigpbaa

namespace Go.Proofs.Yticickicfigpbaa
open Go.RowKit

set_option maxRecDepth 100000 in
set_option maxHeartbeats 1000000 in
theorem ints_v (A1 A2 : Option Addr) (n1 n2 c1 c2 : Nat) (xs ys : List Int) (v : Bool) (w : World) (h1 : IntsAt w w.heap.size A1 n1 xs) (h2 : IntsAt w w.heap.size A2 n2 ys) (hn : n1 ≤ 4000000000) (hn2 : n2 ≤ 4000000000) (hv : v = true ↔ xs = ys) :
    Calls Try.prog 10 #[.slice A1 n1 c1, .slice A2 n2 c2] w fun e w' => e = .returned (.bool v) ∧ ∃ k, w' = w.drewN k := by
  have H1 := Lib.hid h1
  have H2 := Lib.hid h2
  have HV := Lib.hid hv
  clear h1 h2 hv
  by_cases hl : n1 = n2
  · subst hl
    go_enter Try.func10, Try.ntmps10
    go_wp2
    go_loopw [5] (fun j wr => ∃ k q : Nat, k ≤ n1 ∧ j = .int .i64 k ∧ Hid (∀ i, i < k → xs[i]? = ys[i]?) ∧ wr = w.drewN q) (fun j _ => n1 - (intOf j).toNat)
    case atStart => exact ⟨0, 0, Nat.zero_le _, rfl, Lib.hid (fun i hi => by omega), rfl⟩
    case round =>
      obtain ⟨k, q, hk, rfl, HS, rfl⟩ := hrel
      by_cases hlt : k < n1
      · obtain ⟨b, off, x, rfl, _, hx, hc⟩ := H1.out.at_ hlt
        obtain ⟨b', off', y, rfl, _, hy, hc'⟩ := H2.out.at_ hlt
        have hki : (k : Int) < (n1 : Int) := by omega
        have hk0 : (0 : Int) ≤ (k : Int) := by omega
        by_cases hxy : x = y
        · subst hxy
          have HS2 : Hid (∀ i, i < k + 1 → xs[i]? = ys[i]?) := Lib.hid fun i hi => by
            rcases Nat.lt_or_ge i k with h | h
            · exact HS.out i h
            · obtain rfl : i = k := by omega
              rw [hx, hy]
          clear hx hy
          go_wp2
          go_quiet (fail)
          go_wp2
          go_roundw
          case rel => exact ⟨k + 1, _, by omega, by go_num, HS2, rfl⟩
          case measure => simp [intOf]; omega
        · have hne : (x != y) = true := by simpa using hxy
          have HR : Hid (v = false) := Lib.hid (by
            rw [Bool.eq_false_iff]
            intro h
            have := HV.out.1 h
            subst this
            rw [hx] at hy
            injection hy with hy
            exact hxy hy)
          clear hx hy
          go_wp2
          go_quiet (fail)
          go_wp2
          go_ret
          exact ⟨ret_bool HR.out.symm, _, World.drewN_drewN _ _ _⟩
      · have HR : Hid (v = true) := Lib.hid (HV.out.2 (List.ext_getElem? fun i => by
          rcases Nat.lt_or_ge i n1 with h | h
          · exact HS.out i (by omega)
          · rw [List.getElem?_eq_none (by rw [H1.out.1]; exact h), List.getElem?_eq_none (by rw [H2.out.1]; exact h)]))
        go_wp2
        go_ret
        exact ⟨ret_bool HR.out.symm, q, rfl⟩
  · have HR : Hid (v = false) := Lib.hid (by
      rw [Bool.eq_false_iff]
      intro h
      have := HV.out.1 h
      subst this
      exact hl (H1.out.1.symm.trans H2.out.1))
    have hb1 : ((n1 : Int) != (n2 : Int)) = true := by simp; omega
    have hb2 : (n1 != n2) = true := by simpa using hl
    go_enter Try.func10, Try.ntmps10
    go_wp2
    go_ret
    exact ⟨ret_bool HR.out.symm, 0, rfl⟩
end Go.Proofs.Yticickicfigpbaa

namespace Go.Proofs.Yticickicfigpbaa
open Go.RowKit

set_option maxRecDepth 100000 in
set_option maxHeartbeats 4000000 in
theorem chordRings_of (n : Int) (A : Option Addr) (len cap : Nat) (es : List E3) (w : World) (hE : EdgesAt w w.heap.size A len es) (hcap : len ≤ cap)
    (HO : ∀ W, Below w.heap.size w W → EdgesAt W W.heap.size A len es → Calls Try.prog 11 #[.agg #[.int .i64 n, .slice A len cap]] W (HoleFirst W n es)) :
    Calls Try.prog 4 #[.agg #[.int .i64 n, .slice A len cap]] w fun e w' => e = .returned (.bool true) ∧ Below w.heap.size w w' := by
  have HX := Lib.hid (BoxG.start (n := n) (cap := cap) hE)
  have HOO := Lib.hid HO
  obtain ⟨x, hx⟩ : ∃ x, gcheck n es = x := ⟨_, rfl⟩
  have HCX := Lib.hid hx
  have HGC := Lib.hid (fun W hW => check_v n A len cap es x W hW hcap hx)
  have k0 := HX.out.c0
  have k1 := HX.out.c1
  have HLE : Hid (es.length = len) := Lib.hid hE.1
  clear hE HO
  by_cases h0 : x = 0
  · subst h0
    obtain ⟨hn0, hn1, hl, hg⟩ := good_of_gcheck hx
    obtain ⟨m, rfl⟩ := Int.eq_ofNat_of_zero_le hn0
    have hm10 : m ≤ 10 := by omega
    have hlen : len ≤ 45 := by have := HLE.out; omega
    have HBR := Lib.hid (fun W hW => bareRing_any m A len cap es W hW hlen hm10 (fun h hh => holeG_len hh))
    by_cases hex : ∃ h, HoleG (adjE es) m h
    · obtain ⟨h, hh⟩ := hex
      obtain ⟨g, hgf⟩ := first_ex hh
      have hg4 := hgf.hole.four
      have hgm := holeG_len hgf.hole
      have HGF := Lib.hid hgf
      obtain ⟨L, hL⟩ : ∃ L, g.length = L := ⟨_, rfl⟩
      have HL := Lib.hid hL
      have hL4 : 4 ≤ L := by omega
      have hLm : L ≤ 10 := by omega
      clear hx hg hn0 hn1 hl hh hgf hg4 hgm hL
      go_enter Try.func4, Try.ntmps4
      go_wp2_with fail
      refine (HOO.out _ HX.out.below HX.out.edges).mono ?_
      rintro e w1 ⟨_, _, h3, hB⟩
      obtain ⟨A1, c1, rfl, hi1, hc1⟩ := h3 HCX.out g HGF.out
      rw [HL.out] at hi1 hc1 ⊢
      have HI1 := Lib.hid hi1
      have HX1 := Lib.hid (HX.out.next hB)
      clear h3 hB hi1 k0 k1
      have k0 := HX1.out.c0
      have k1 := HX1.out.c1
      go_wp2_with fail
      refine (HGC.out _ HX1.out.edges).mono ?_
      rintro e w2 ⟨rfl, hB⟩
      have HX2 := Lib.hid (HX1.out.next hB)
      have HI2 := Lib.hid (HI1.out.go_ hB)
      clear hB k0 k1
      have k0 := HX2.out.c0
      have k1 := HX2.out.c1
      go_wp2_with fail
      refine (HBR.out _ HX2.out.edges).mono ?_
      rintro e w3 ⟨ho, hB⟩
      obtain ⟨A3, c3, rfl, hi3⟩ : ∃ A3 c3, e = .returned (.slice A3 L c3) ∧ IntsAt w3 w3.heap.size A3 L (natG g) := by
        rcases ho with ⟨g', A', c', h1, h2, h3⟩ | ⟨h1, _⟩
        · obtain rfl := h1.one HGF.out
          rw [HL.out] at h2 h3
          exact ⟨A', c', h2, h3⟩
        · exact absurd HGF.out.hole (h1 g)
      have HI3 := Lib.hid hi3
      have HX3 := Lib.hid (HX2.out.next hB)
      have HI4 := Lib.hid (HI2.out.go_ hB)
      have hl0 : ((L : Int) == 0) = false := by simp; omega
      clear ho hB hi3 k0 k1
      go_wp2_with fail
      refine (ints_v A1 A3 L L c1 c3 (natG g) (natG g) true _ HI4.out HI3.out (by omega) (by omega) ⟨fun _ => rfl, fun _ => rfl⟩).mono ?_
      rintro e w4 ⟨rfl, q4, hq4⟩
      have HX4 : Hid (BoxG w (m : Int) A len cap es w4) := Lib.hid (HX3.out.next (by rw [hq4]; exact below_drewN (Below.refl _ _) q4))
      clear hq4
      go_wp2_with fail
      go_ret
      exact ⟨rfl, HX4.out.below⟩
    · have HNO : Hid (∀ h, ¬ HoleG (adjE es) m h) := Lib.hid (fun h hh => hex ⟨h, hh⟩)
      clear hx hg hn0 hn1 hl hex
      go_enter Try.func4, Try.ntmps4
      go_wp2_with fail
      refine (HOO.out _ HX.out.below HX.out.edges).mono ?_
      rintro e w1 ⟨_, h2, _, hB⟩
      obtain rfl := h2 HCX.out HNO.out
      have HX1 := Lib.hid (HX.out.next hB)
      clear h2 hB k0 k1
      have k0 := HX1.out.c0
      have k1 := HX1.out.c1
      go_wp2_with fail
      refine (HGC.out _ HX1.out.edges).mono ?_
      rintro e w2 ⟨rfl, hB⟩
      have HX2 := Lib.hid (HX1.out.next hB)
      clear hB k0 k1
      have k0 := HX2.out.c0
      have k1 := HX2.out.c1
      go_wp2_with fail
      refine (HBR.out _ HX2.out.edges).mono ?_
      rintro e w3 ⟨ho, hB⟩
      obtain rfl : e = .returned (.slice none 0 0) := by
        rcases ho with ⟨g', A', c', h1, _⟩ | ⟨_, h2⟩
        · exact absurd h1.hole (HNO.out g')
        · exact h2
      have HX3 := Lib.hid (HX2.out.next hB)
      clear ho hB k0 k1
      go_wp2_with fail
      go_ret
      exact ⟨rfl, HX3.out.below⟩
  · have HNZ : Hid (gcheck n es ≠ 0) := Lib.hid (by rw [hx]; exact h0)
    have hx0 : (x != 0) = true := by simpa using h0
    have hx1 : (x == 0) = false := by simpa using h0
    clear hx h0
    go_enter Try.func4, Try.ntmps4
    go_wp2_with fail
    refine (HOO.out _ HX.out.below HX.out.edges).mono ?_
    rintro e w1 ⟨h1, _, _, hB⟩
    obtain rfl := h1 HNZ.out
    rw [HCX.out]
    have HX1 := Lib.hid (HX.out.next hB)
    clear h1 hB k0 k1
    have k0 := HX1.out.c0
    have k1 := HX1.out.c1
    go_wp2_with fail
    refine (HGC.out _ HX1.out.edges).mono ?_
    rintro e w2 ⟨rfl, hB⟩
    have HX2 := Lib.hid (HX1.out.next hB)
    clear hB k0 k1
    go_wp2_with fail
    go_ret
    exact ⟨rfl, HX2.out.below⟩
end Go.Proofs.Yticickicfigpbaa

namespace Go.Proofs.Yticickicfigpbaa

def bothE (s : Nat) (e : E3) : Bool := s.testBit e.1.toNat && s.testBit e.2.1.toNat
def looseE (es : List E3) (s : Nat) : Bool := es.all fun e => !bothE s e
theorem looseE_zero (es : List E3) : looseE es 0 = true := by
  unfold looseE bothE
  simp
end Go.Proofs.Yticickicfigpbaa

namespace Go.Proofs.Yticickicfigpbaa

theorem loose_down {es : List E3} : ∀ s r, subQ r s = true → looseE es s = true → looseE es r = true := fun s r hr hs => by
  unfold looseE at hs ⊢
  rw [List.all_eq_true] at hs ⊢
  intro e he
  have h := hs e he
  simp only [bothE, Bool.not_eq_true', Bool.and_eq_false_iff] at h ⊢
  rcases h with h | h
  · refine .inl ?_
    cases hb : r.testBit e.1.toNat with
    | false => rfl
    | true => rw [subQ_iff.1 hr _ hb] at h; cases h
  · refine .inr ?_
    cases hb : r.testBit e.2.1.toNat with
    | false => rfl
    | true => rw [subQ_iff.1 hr _ hb] at h; cases h
theorem loose_iff {es : List E3} {s : Nat} : looseE es s = true ↔ ∀ e ∈ es, ¬ (s.testBit e.1.toNat = true ∧ s.testBit e.2.1.toNat = true) := by
  unfold looseE bothE
  rw [List.all_eq_true]
  refine ⟨fun h e he hh => ?_, fun h e he => ?_⟩
  · have := h e he
    rw [hh.1, hh.2] at this
    cases this
  · have := h e he
    cases h1 : s.testBit e.1.toNat <;> cases h2 : s.testBit e.2.1.toNat <;> simp_all
theorem loose_adj {m : Nat} {es : List E3} (hg : goodE m es) (s : Nat) : looseE es s = true ↔ ∀ i j, s.testBit i = true → s.testBit j = true → adjE es i j = false := by
  rw [loose_iff]
  constructor
  · intro h i j hi hj
    cases ha : adjE es i j with
    | false => rfl
    | true =>
      exfalso
      unfold adjE at ha
      rw [List.any_eq_true] at ha
      obtain ⟨e, he, h1⟩ := ha
      simp only [Bool.or_eq_true, Bool.and_eq_true, beq_iff_eq] at h1
      refine h e he ?_
      rcases h1 with ⟨h2, h3⟩ | ⟨h2, h3⟩ <;> rw [h2, h3] <;> simp [hi, hj]
  · intro h e he hh
    have h1 := h _ _ hh.1 hh.2
    obtain ⟨k, hk⟩ := List.getElem?_of_mem he
    obtain ⟨p0, _, p2, _, _, _⟩ := edge_ok (hg k e hk)
    have : adjE es e.1.toNat e.2.1.toNat = true := by
      unfold adjE
      rw [List.any_eq_true]
      refine ⟨e, he, ?_⟩
      simp only [Bool.or_eq_true, Bool.and_eq_true, beq_iff_eq]
      exact .inl ⟨by omega, by omega⟩
    rw [this] at h1
    cases h1
theorem one_loose {m : Nat} {es : List E3} (hg : goodE m es) (b : Nat) : looseE es (2 ^ b) = true := by
  rw [loose_adj hg]
  intro i j hi hj
  rw [Nat.testBit_two_pow] at hi hj
  have e1 := of_decide_eq_true hi
  have e2 := of_decide_eq_true hj
  subst e1 e2
  cases ha : adjE es b b with
  | false => rfl
  | true => exact absurd rfl (adjE_lt hg ha).2.2
/-- One more node: just if it is beside none of them. -/
theorem put_loose {m b s : Nat} {es : List E3} {nb : Nat → Nat} (hg : goodE m es) (hnb : ∀ i, (nb b).testBit i = adjE es b i) (hs : looseE es s = true) : s &&& nb b = 0 ↔ looseE es (s ||| 2 ^ b) = true := by
  rw [loose_adj hg] at hs ⊢
  constructor
  · intro h
    have key : ∀ i, s.testBit i = true → adjE es b i = false := fun i hi => by
      have h1 : (s &&& nb b).testBit i = false := by rw [h]; simp
      rw [Nat.testBit_and, hi, hnb] at h1
      simpa using h1
    have hbb : adjE es b b = false := by
      cases ha : adjE es b b with
      | false => rfl
      | true => exact absurd rfl (adjE_lt hg ha).2.2
    intro i j hi hj
    rw [Nat.testBit_or, Nat.testBit_two_pow, Bool.or_eq_true, decide_eq_true_iff] at hi hj
    rcases hi with hi | rfl
    · rcases hj with hj | rfl
      · exact hs i j hi hj
      · rw [adjE_symm]; exact key i hi
    · rcases hj with hj | rfl
      · exact key j hj
      · exact hbb
  · intro h
    apply Nat.eq_of_testBit_eq
    intro i
    rw [Nat.testBit_and, hnb, Nat.zero_testBit]
    cases hi : s.testBit i with
    | false => rfl
    | true => rw [h b i (by rw [Nat.testBit_or, Nat.testBit_two_pow]; simp) (by rw [Nat.testBit_or, hi]; rfl)]; rfl
theorem nb_bit {m : Nat} {es : List E3} (hg : goodE m es) {b : Nat} (hb : b < m) (i : Nat) : ((nbL m es).getD b 0).testBit i = adjE es b i := by
  rw [List.getD_eq_getElem?_getD, nbL_get es hb]
  have h := nbW_bit hg b i es.length
  rw [List.take_length] at h
  exact h
end Go.Proofs.Yticickicfigpbaa

namespace Go.Proofs.Yticickicfigpbaa
open Go.RowKit

/-- The boxes that firstRing lays. -/
theorem ring_env {m L g cW : Nat} {xs : List Nat} {adj : Nat → Nat → Bool} {w W1 W3 W5 : World} (hm : m ≤ 10) (hL : L ≤ 10) (hW : WordsAt w w.heap.size (some ⟨g, 0, none⟩) m xs) (hm0 : 0 < m) (hxl : ∀ i, xs.getD i 0 < 1024) (hbit : ∀ i j, i < m → (xs.getD i 0).testBit j = adj i j)
    (h1 : ((w.alloc (.cells #[.slice (some ⟨g, 0, none⟩) m cW] 46)).alloc (.cells #[.int .i64 (L : Int)] 3)).alloc (.cells #[.slice none 0 0] 25) = W1)
    (hup : RowOf W3 W1.heap.size 3 ((natG (List.range m)).map (Value.int .i64))) (hus : W3.heap.size = W1.heap.size + 1) (hub : Below W1.heap.size W1 W3)
    (h5 : (W3.alloc (.cells #[.slice (some ⟨w.heap.size + 1 + 1 + 1, 0, none⟩) m m] 25)).alloc (.cells #[.func (.func 40) #[] #[.pointer (some ⟨w.heap.size, 0, none⟩), .pointer (some ⟨w.heap.size + 1 + 1, 0, none⟩), .pointer (some ⟨w.heap.size + 1, 0, none⟩), .pointer (some ⟨w.heap.size + 1 + 1 + 1 + 1, 0, none⟩), .pointer (some ⟨w.heap.size + 1 + 1 + 1 + 1 + 1, 0, none⟩)]] 50) = W5) :
    RingE W5 adj m L w.heap.size (w.heap.size + 1 + 1) (w.heap.size + 1) (w.heap.size + 1 + 1 + 1 + 1) (w.heap.size + 1 + 1 + 1 + 1 + 1) g (w.heap.size + 1 + 1 + 1) cW xs ∧ RingS W5 (w.heap.size + 1 + 1) [] W5 ∧ Below w.heap.size w W5 := by
  have hs1 : W1.heap.size = w.heap.size + 1 + 1 + 1 := by rw [← h1]; simp
  have hs3 : W3.heap.size = w.heap.size + 1 + 1 + 1 + 1 := by rw [hus, hs1]
  have hs5 : W5.heap.size = w.heap.size + 1 + 1 + 1 + 1 + 1 + 1 := by rw [← h5]; simp [hs3]
  have hb1 : Below w.heap.size w W1 := by rw [← h1]; exact (((Below.refl _ _).alloc (Nat.le_refl _) _).alloc (by simp) _).alloc (by simp; omega) _
  have hb5 : Below W3.heap.size W3 W5 := by rw [← h5]; exact ((Below.refl _ _).alloc (Nat.le_refl _) _).alloc (by simp) _
  have hb15 : Below W1.heap.size W1 W5 := hub.trans (hb5.mono (by omega))
  have hb05 : Below w.heap.size w W5 := hb1.trans (hb15.mono (by omega))
  have rW : RowOf W1 w.heap.size 46 [.slice (some ⟨g, 0, none⟩) m cW] := by rw [← h1]; exact ((box_new w _ _).alloc _).alloc _
  have rL : RowOf W1 (w.heap.size + 1) 3 [.int .i64 (L : Int)] := by rw [← h1]; exact (box_next w _ _ _).alloc _
  have rR : RowOf W1 (w.heap.size + 1 + 1) 25 [.slice none 0 0] := by
    have h := box_next (w.alloc (.cells #[.slice (some ⟨g, 0, none⟩) m cW] 46)) (.cells #[.int .i64 (L : Int)] 3) (.slice none 0 0) 25
    rw [World.size_alloc] at h
    rw [← h1]; exact h
  have rB : RowOf W5 (w.heap.size + 1 + 1 + 1 + 1) 25 [.slice (some ⟨w.heap.size + 1 + 1 + 1, 0, none⟩) m m] := by
    have h := box_new W3 (.slice (some ⟨w.heap.size + 1 + 1 + 1, 0, none⟩) m m) 25
    rw [hs3] at h
    rw [← h5]; exact h.alloc _
  have rF : RowOf W5 (w.heap.size + 1 + 1 + 1 + 1 + 1) 50 [.func (.func 40) #[] #[.pointer (some ⟨w.heap.size, 0, none⟩), .pointer (some ⟨w.heap.size + 1 + 1, 0, none⟩), .pointer (some ⟨w.heap.size + 1, 0, none⟩), .pointer (some ⟨w.heap.size + 1 + 1 + 1 + 1, 0, none⟩), .pointer (some ⟨w.heap.size + 1 + 1 + 1 + 1 + 1, 0, none⟩)]] := by
    have h := box_next W3 (.cells #[.slice (some ⟨w.heap.size + 1 + 1 + 1, 0, none⟩) m m] 25) (.func (.func 40) #[] #[.pointer (some ⟨w.heap.size, 0, none⟩), .pointer (some ⟨w.heap.size + 1 + 1, 0, none⟩), .pointer (some ⟨w.heap.size + 1, 0, none⟩), .pointer (some ⟨w.heap.size + 1 + 1 + 1 + 1, 0, none⟩), .pointer (some ⟨w.heap.size + 1 + 1 + 1 + 1 + 1, 0, none⟩)]) 50
    rw [hs3] at h
    rw [← h5]; exact h
  have rN : RowOf W5 (w.heap.size + 1 + 1 + 1) 3 ((natG (List.range m)).map (Value.int .i64)) := by
    rw [hs1] at hup
    exact hup.keep hb5
  have hgl : g < w.heap.size := by
    obtain ⟨b, off, e, hb, _⟩ := hW.2 hm0
    injection e with e
    injection e with e1 _
    omega
  have rR5 := rR.keep hb15
  refine ⟨⟨(rW.keep hb15).cell (i := 0) rfl, (rL.keep hb15).cell (i := 0) rfl, rB.cell (i := 0) rfl, rF.cell (i := 0) rfl, fun i hi => ?_, fun i hi => rN.cell (by simp [natG, hi]), hW.1, by omega, by omega, ⟨by omega, by omega, by omega, by omega, by omega, by omega⟩, hxl, hbit, hm, hL⟩, ⟨Below.refl _ _, fun _ _ _ => rfl, none, 0, rR5, rfl, .inl ⟨rfl, rfl⟩⟩, hb05⟩
  obtain ⟨b, off, e, _, hc⟩ := (hW.below hb05).at_ hi
  injection e with e
  injection e with e1 e2
  subst e1 e2
  rw [Nat.zero_add] at hc
  exact hc
set_option maxRecDepth 100000 in
set_option maxHeartbeats 4000000 in
theorem firstRing_any (m L g cW : Nat) (xs : List Nat) (adj : Nat → Nat → Bool) (w : World) (hm : m ≤ 10) (h4 : 4 ≤ L) (hL : L ≤ 10) (hW : WordsAt w w.heap.size (some ⟨g, 0, none⟩) m xs) (hm0 : 0 < m) (hxl : ∀ i, xs.getD i 0 < 1024) (hbit : ∀ i j, i < m → (xs.getD i 0).testBit j = adj i j) :
    Calls Try.prog 28 #[.slice (some ⟨g, 0, none⟩) m cW, .int .i64 (L : Int)] w fun e w' =>
      (∀ r, searchF adj m L L [] = some r → ∃ A c, e = .returned (.slice (some A) L c) ∧ IntsAt w' w'.heap.size (some A) L (natG r) ∧ L ≤ c) ∧ (searchF adj m L L [] = none → e = .returned (.slice none 0 0)) ∧ Below w.heap.size w w' := by
  have HUP := Lib.hid (fun W => upTo_any m W hm)
  have HW := Lib.hid hW
  have HB := Lib.hid hbit
  have HX := Lib.hid hxl
  clear hW hbit hxl
  go_enter Try.func28, Try.ntmps28
  go_wp2_with fail
  refine (HUP.out _).mono ?_
  rintro e W3 ⟨rfl, hup, hus, hub⟩
  obtain ⟨W1, h1⟩ : ∃ W1, ((w.alloc (.cells #[.slice (some ⟨g, 0, none⟩) m cW] 46)).alloc (.cells #[.int .i64 (L : Int)] 3)).alloc (.cells #[.slice none 0 0] 25) = W1 := ⟨_, rfl⟩
  have HH1 := Lib.hid h1
  rw [h1] at hup hus hub
  have HUP2 := Lib.hid (And.intro hup (And.intro hus hub))
  rw [show W1.heap.size = w.heap.size + 1 + 1 + 1 by rw [← h1]; simp] at hus
  rw [show (((w.alloc (.cells #[.slice (some ⟨g, 0, none⟩) m cW] 46)).alloc (.cells #[.int .i64 (L : Int)] 3)).alloc (.cells #[.slice none 0 0] 25)).heap.size = w.heap.size + 1 + 1 + 1 by simp]
  clear h1 hup hub
  go_wp2_with fail
  obtain ⟨W5, h5⟩ : ∃ W5, (W3.alloc (.cells #[.slice (some ⟨w.heap.size + 1 + 1 + 1, 0, none⟩) m m] 25)).alloc (.cells #[.func (.func 40) #[] #[.pointer (some ⟨w.heap.size, 0, none⟩), .pointer (some ⟨w.heap.size + 1 + 1, 0, none⟩), .pointer (some ⟨w.heap.size + 1, 0, none⟩), .pointer (some ⟨w.heap.size + 1 + 1 + 1 + 1, 0, none⟩), .pointer (some ⟨w.heap.size + 1 + 1 + 1 + 1 + 1, 0, none⟩)]] 50) = W5 := ⟨_, rfl⟩
  obtain ⟨HE, hS, hB5⟩ := ring_env (L := L) (cW := cW) hm hL HW.out hm0 HX.out HB.out HH1.out HUP2.out.1 HUP2.out.2.1 HUP2.out.2.2 h5
  rw [h5]
  clear h5 hus
  have HHE := Lib.hid HE
  have HS := Lib.hid hS
  have HB5 := Lib.hid hB5
  have HL1 : Hid (L - 1 + 1 = L) := Lib.hid (by omega)
  have HHS := Lib.hid (hasRing_any W5 adj m L (L - 1) w.heap.size (w.heap.size + 1 + 1) (w.heap.size + 1) (w.heap.size + 1 + 1 + 1 + 1) (w.heap.size + 1 + 1 + 1 + 1 + 1) g (w.heap.size + 1 + 1 + 1) cW xs [] HE (fun x wr hx hs => closes_any W5 adj m L _ _ _ _ _ _ _ _ xs HE (L - 1) [] x wr (by simp; omega) (fun i hi => by simp at hi) hx hs) W5 hS)
  rw [HL1.out] at HHS
  clear HE hS hB5 HUP HUP2 HH1 HW HB HX
  obtain ⟨o, ho⟩ : ∃ o, searchF adj m L L [] = o := ⟨_, rfl⟩
  have HO := Lib.hid ho
  rw [ho] at HHS
  clear ho
  refine HHS.out.mono ?_
  rintro e W6 ⟨b, rfl, hb⟩
  cases o with
  | some r =>
    obtain ⟨rfl, h2⟩ := hb.1 r rfl
    have hrl : r.length = L := by
      have h := (search_some L [] r HO.out RowH.nil).1
      rw [List.length_nil, Nat.zero_add] at h
      exact h
    obtain ⟨A, c, hr, ho⟩ := h2.row
    have HI : Hid (IntsAt W6 W6.heap.size A L (natG r)) := Lib.hid (by rw [← hrl]; exact IntsAt.of_own ho (Nat.le_refl _))
    have HC : Hid (L ≤ c) := Lib.hid (by
      rw [← hrl]
      rcases ho.2 with ⟨_, h2⟩ | ⟨g, cap', cur, hv, _, _, hc, _⟩
      · omega
      · injection hv with _ _ e
        omega)
    have HB6 : Hid (Below w.heap.size w W6) := Lib.hid (HB5.out.trans ⟨h2.low.os, h2.low.tape, h2.low.output, h2.low.size, fun b hb => h2.blk b (by have := HB5.out.size; omega) (by omega)⟩)
    obtain ⟨a, rfl⟩ : ∃ a, A = some a := by
      obtain ⟨b, off, e, _⟩ := HI.out.2 (by omega)
      exact ⟨_, e⟩
    rw [hrl] at hr
    have c6 := hr.cell (i := 0) rfl
    clear hb h2 hr ho hrl
    go_wp2_with fail
    go_ret
    exact ⟨fun r' h => (by rw [HO.out] at h; injection h with h; subst h; exact ⟨_, _, rfl, HI.out, HC.out⟩), fun h => (by rw [HO.out] at h; cases h), HB6.out⟩
  | none =>
    obtain ⟨rfl, h2⟩ := hb.2 rfl
    have HB6 : Hid (Below w.heap.size w W6) := Lib.hid (HB5.out.trans ⟨h2.low.os, h2.low.tape, h2.low.output, h2.low.size, fun b hb => h2.blk b (by have := HB5.out.size; omega) (by omega)⟩)
    clear hb h2
    go_wp2_with fail
    go_ret
    exact ⟨fun r' h => (by rw [HO.out] at h; cases h), fun _ => rfl, HB6.out⟩
set_option maxRecDepth 100000 in
set_option maxHeartbeats 4000000 in
theorem ringTop_good (m : Nat) (A : Option Addr) (len cap : Nat) (es : List E3) (w : World) (hE : EdgesAt w w.heap.size A len es) (hx : gcheck m es = 0) :
    Calls Try.prog 11 #[.agg #[.int .i64 (m : Int), .slice A len cap]] w fun e w' =>
      ((∀ h, ¬ HoleG (adjE es) m h) → e = .returned (.tuple #[.slice none 0 0, .int .i64 5])) ∧ (∀ g, FirstH (adjE es) m g → ∃ A' c', e = .returned (.tuple #[.slice A' g.length c', .int .i64 0]) ∧ IntsAt w' w'.heap.size A' g.length (natG g) ∧ g.length ≤ c') ∧ Below w.heap.size w w' := by
  have HX := Lib.hid (BoxG.start (n := (m : Int)) (cap := cap) hE)
  have k0 := HX.out.c0
  have k1 := HX.out.c1
  obtain ⟨hn0, hn1, hl, hg⟩ := good_of_gcheck hx
  have hm10 : m ≤ 10 := by omega
  have HNB := Lib.hid (fun W hW => neighbours_any m A len cap es W hW hx)
  have HFR := Lib.hid (fun L g W h4 hL hW hm0 => firstRing_any m L g m (nbL m es) (adjE es) W hm10 h4 hL hW hm0 (fun i => pow10 hm10 (nbL_words hg i)) (fun i j hi => nb_bit hg hi j))
  clear hE hx hn0 hn1 hl hg
  have q := fun (w : World) (a : Option Addr) (n c n' c' : Nat) => Lib.run_eql_slice_nil w 25 3 a n c n' c' (show Try.prog.underlying 25 = some (.slice 3) from Try.underlying25)
  go_enter Try.func11, Try.ntmps11
  go_wp2_with fail
  refine (HNB.out _ HX.out.edges).mono ?_
  rintro e w1 ⟨g, rfl, hrow, hg0, hB⟩
  have HX1 := Lib.hid (HX.out.next hB)
  have HR : Hid (WordsAt w1 w1.heap.size (some ⟨g, 0, none⟩) m (nbL m es)) := Lib.hid (by
    have h := WordsAt.of_row (B := w1.heap.size) hrow hrow.lt
    rw [nbL_length] at h
    exact h)
  clear hB k0 k1 HNB hrow
  go_wp2_with fail
  go_loopw [6, 7] (fun y _ wr => ∃ k : Nat, 4 ≤ k ∧ k ≤ m + 4 ∧ y = .int .i64 k ∧ Hid ((∀ j, 4 ≤ j → j < k → searchF (adjE es) m j j [] = none) ∧ BoxG w (m : Int) A len cap es wr ∧ WordsAt wr wr.heap.size (some ⟨g, 0, none⟩) m (nbL m es))) (fun y _ _ => m + 5 - (intOf y).toNat)
  case atStart => exact ⟨4, Nat.le_refl _, by omega, rfl, Lib.hid ⟨fun j h1 h2 => by omega, HX1.out, HR.out⟩⟩
  case round =>
    obtain ⟨k, h4, hk4, rfl, HC⟩ := hrel
    have cM := HC.out.2.1.c0
    by_cases hkm : k ≤ m
    · have hkm' : (k : Int) ≤ (m : Int) := by omega
      obtain ⟨o, ho⟩ : ∃ o, searchF (adjE es) m k k [] = o := ⟨_, rfl⟩
      have HO := Lib.hid ho
      clear ho
      go_wp2_with fail
      refine (HFR.out k g wr h4 (by omega) HC.out.2.2 (by omega)).mono ?_
      rintro e w5 ⟨h1, h2, hB⟩
      have HX5 := Lib.hid (HC.out.2.1.next hB)
      have HR5 := Lib.hid (HC.out.2.2.go_ hB)
      cases o with
      | some r =>
        obtain ⟨a, c, rfl, hi, hc⟩ := h1 r HO.out
        have HFI := Lib.hid (search_first (adjE_symm es) h4 HO.out (fun j h5 h6 => HC.out.1 j h5 h6))
        have HI : Hid (IntsAt w5 w5.heap.size (some a) k (natG r) ∧ k ≤ c) := Lib.hid ⟨hi, hc⟩
        clear h1 h2 hB hi hc
        go_wp2_with fail
        go_ret2
        exact ⟨fun h => absurd HFI.out.1.hole (h r), fun g' hg' => (by
          obtain rfl := HFI.out.1.one hg'
          rw [HFI.out.2]
          exact ⟨_, _, rfl, HI.out.1, HI.out.2⟩), HX5.out.below⟩
      | none =>
        obtain rfl := h2 HO.out
        have HN : Hid ((∀ j, 4 ≤ j → j < k + 1 → searchF (adjE es) m j j [] = none) ∧ BoxG w (m : Int) A len cap es w5 ∧ WordsAt w5 w5.heap.size (some ⟨g, 0, none⟩) m (nbL m es)) := Lib.hid ⟨fun j h5 h6 => by
          by_cases e : j = k
          · rw [e]; exact HO.out
          · exact HC.out.1 j h5 (by omega), HX5.out, HR5.out⟩
        clear h1 h2 hB
        go_wp2_with fail
        go_roundw
        case rel => exact ⟨k + 1, by omega, by omega, by go_num, HN⟩
        case measure => simp [intOf]; omega
    · have hkm' : ¬ (k : Int) ≤ (m : Int) := by omega
      have HNO : Hid (∀ h, ¬ HoleG (adjE es) m h) := Lib.hid (search_none (adjE_symm es) (fun j h5 h6 => HC.out.1 j h5 (by omega)) fun h hh => holeG_len hh)
      go_wp2_with fail
      go_ret2
      exact ⟨fun _ => rfl, fun g' hg' => absurd hg'.hole (HNO.out g'), HC.out.2.1.below⟩
set_option maxRecDepth 100000 in
set_option maxHeartbeats 1000000 in
theorem ringTop_any (n : Int) (A : Option Addr) (len cap : Nat) (es : List E3) (w : World) (hE : EdgesAt w w.heap.size A len es) :
    Calls Try.prog 11 #[.agg #[.int .i64 n, .slice A len cap]] w (HoleFirst w n es) := by
  obtain ⟨x, hx⟩ : ∃ x, gcheck n es = x := ⟨_, rfl⟩
  by_cases h0 : x = 0
  · subst h0
    obtain ⟨hn0, hn1, hl, hg⟩ := good_of_gcheck hx
    obtain ⟨m, rfl⟩ := Int.eq_ofNat_of_zero_le hn0
    refine (ringTop_good m A len cap es w hE hx).mono ?_
    rintro e w' ⟨h1, h2, h3⟩
    exact ⟨fun h => absurd hx h, fun _ h => h1 h, fun _ g h => h2 g h, h3⟩
  · have HX := Lib.hid (BoxG.start (n := n) (cap := cap) hE)
    have k0 := HX.out.c0
    have k1 := HX.out.c1
    have hx1 : (x != 0) = true := by simpa using h0
    have HNB := Lib.hid (fun W hW => neighbours_bad n A len cap es x W hW hx h0)
    have HXX := Lib.hid (show gcheck n es ≠ 0 by rw [hx]; exact h0)
    have HXE := Lib.hid hx
    clear hE hx h0
    go_enter Try.func11, Try.ntmps11
    go_wp2_with fail
    refine (HNB.out _ HX.out.edges).mono ?_
    rintro e w1 ⟨rfl, hB⟩
    have HX1 := Lib.hid (HX.out.next hB)
    clear hB k0 k1 HNB
    go_wp2_with fail
    go_ret2
    exact ⟨fun _ => (by rw [HXE.out]; rfl), fun h => absurd h HXX.out, fun h => absurd h HXX.out, HX1.out.below⟩
end Go.Proofs.Yticickicfigpbaa

namespace Go.Proofs.Yticickicfigpbaa
open Go.ChangeShapes Go.WideShapes Go.ChangeAt Go.RowKit Go.Joins Go.Deep

set_option maxRecDepth 100000 in
theorem ownK : ownKnob Try.prog.godebug = none := by kernel_rfl
set_option maxRecDepth 100000 in
theorem laidOutO : laidOutB Try.prog = true := by kernel_rfl
set_option maxRecDepth 100000 in
theorem cellsInt : Try.prog.cellsOf 3 = 1 := by kernel_rfl
end Go.Proofs.Yticickicfigpbaa

namespace Go.Proofs.Yticickicfigpbaa
open Go.ChangeShapes Go.WideShapes Go.ChangeAt Go.RowKit Go.Joins Go.Deep

set_option maxRecDepth 100000 in
theorem recGraph : Try.prog.readableRec 24 = true := by kernel_rfl
set_option maxRecDepth 100000 in
theorem rowGraph : (24 : TypeId) < Try.prog.types.size := of_decide_eq_true (by kernel_rfl)
set_option maxRecDepth 100000 in
theorem cellsGraph : Try.prog.cellsOf 24 = 2 := by kernel_rfl
set_option maxRecDepth 100000 in
theorem cellsEdge : Try.prog.cellsOf 54 = 3 := by kernel_rfl
set_option maxRecDepth 100000 in
theorem cellsInt64 : Try.prog.cellsOf 2 = 1 := by kernel_rfl

/-- Every number of an edge is an int64. -/
def WfE (e : E3) : Prop := (Lit.int .i64 e.1).wf = true ∧ (Lit.int .i64 e.2.1).wf = true ∧ (Lit.int .i64 e.2.2).wf = true

section
variable {H : Type} {enc : TypeId × Value → H} {W : World} {base : Nat} {spare : Nat → Bool} {held : Bool}

set_option maxRecDepth 100000 in
theorem edge_of {n : Nat} {cs : List Value} {x : DataW H × List MemPlace} (h : DataW.trod enc Try.prog W base spare held n 54 cs = some x) :
    ∃ e : E3, cs = [.int .i64 e.1, .int .i64 e.2.1, .int .i64 e.2.2] ∧ WfE e := by
  obtain ⟨y0, y1, y2, m, _, hlen, h0, h1, h2⟩ := trod_struct3 Try.underlying54 h
  rw [cellsEdge] at hlen
  match cs, hlen with
  | [c0, c1, c2], _ =>
    simp only [cellsInt, cellsInt64, List.drop_zero, List.take_succ_cons, List.take_zero, List.drop_succ_cons] at h0 h1 h2
    obtain ⟨a, e0, _, wa⟩ := DataW.trod_int Try.underlying3 h0
    obtain ⟨b, e1, _, wb⟩ := DataW.trod_int Try.underlying3 h1
    obtain ⟨c, e2, _, wc⟩ := DataW.trod_int Try.underlying2 h2
    simp only [List.cons.injEq, and_true] at e0 e1 e2
    subst e0 e1 e2
    exact ⟨(a, b, c), rfl, wa, wb, wc⟩

set_option maxRecDepth 100000 in
theorem edges_of {n : Nat} {v : Value} {x : DataW H × List MemPlace} (h : DataW.trod enc Try.prog W base spare held n 22 [v] = some x) :
    ∃ (A : Option Addr) (len cap : Nat) (es : List E3), v = .slice A len cap ∧ EdgesAt W W.heap.size A len es ∧ len ≤ cap ∧ ∀ e ∈ es, WfE e := by
  rcases open_slice Try.underlying22 h with ⟨h0, _⟩ | ⟨a, len, cap, m, k, D, Pl, hcs, _, hl, _, hmm, _, hi⟩
  · simp only [List.cons.injEq, and_true] at h0
    subst h0
    exact ⟨none, 0, 0, [], rfl, ⟨rfl, fun h => absurd h (by omega)⟩, Nat.le_refl _, by simp⟩
  · simp only [List.cons.injEq, and_true] at hcs
    subst hcs
    have hlm : len ≤ m := by rw [hmm]; split <;> omega
    have hall : ∀ i, ∃ e : E3, i < len → (∀ j, j < 3 → W.cell? (a.add (i * 3 + j)) = [Value.int .i64 e.1, .int .i64 e.2.1, .int .i64 e.2.2][j]?) ∧ WfE e := fun i => by
      by_cases hlt : i < len
      · obtain ⟨cs', hc, ht⟩ := hi i (by omega)
        obtain ⟨e, rfl, he⟩ := edge_of ht
        rw [cellsEdge] at hc
        obtain ⟨_, _, hat⟩ := World.cells?_some hc
        exact ⟨e, fun _ => ⟨fun j hj => by rw [← Go.Deep.add_add]; exact hat j hj, he⟩⟩
      · exact ⟨default, fun h => absurd h hlt⟩
    obtain ⟨f, hf⟩ := Classical.axiomOfChoice hall
    refine ⟨some a, len, cap, (List.range len).map f, rfl, ⟨by simp, fun hn => ?_⟩, hl, fun e he => ?_⟩
    · have hz := (hf 0 hn).1 0 (by omega)
      simp only [Nat.zero_mul, Nat.add_zero, List.getElem?_cons_zero] at hz
      obtain ⟨b, off, spot⟩ := a
      have hspot : spot = none := by simpa [Addr.add] using World.cell?_spot hz
      subst hspot
      have hb : b < W.heap.size := by
        rcases Nat.lt_or_ge b W.heap.size with h | h
        · exact h
        · simp [World.cell?, Addr.add, Array.getElem?_eq_none h] at hz
      refine ⟨b, off, rfl, hb, fun i e hie => ?_⟩
      obtain ⟨hil, hie⟩ := List.getElem?_eq_some_iff.1 hie
      simp only [List.length_map, List.length_range] at hil
      simp only [List.getElem_map, List.getElem_range] at hie
      subst hie
      have hc := (hf i hil).1
      refine ⟨?_, ?_, ?_⟩
      · have := hc 0 (by omega); rw [Go.WideShapes.add_plain] at this; simpa using this
      · have := hc 1 (by omega); rw [Go.WideShapes.add_plain] at this; simpa [Nat.add_assoc] using this
      · have := hc 2 (by omega); rw [Go.WideShapes.add_plain] at this; simpa [Nat.add_assoc] using this
    · simp only [List.mem_map, List.mem_range] at he
      obtain ⟨i, hi', rfl⟩ := he
      exact (hf i hi').2

set_option maxRecDepth 100000 in
theorem open_graph {r : Reach} {b0 : Nat} {v : Value} {d : DataW H} {p : List MemPlace} (hv : Value.okWide Try.prog W r b0 24 v) (h : DataW.Trod enc Try.prog W base spare held 24 v d p) :
    ∃ (n : Int) (A : Option Addr) (len cap : Nat) (es : List E3), v = .agg #[.int .i64 n, .slice A len cap] ∧ EdgesAt W W.heap.size A len es ∧ len ≤ cap ∧ (∀ e ∈ es, WfE e) ∧ (Lit.int .i64 n).wf = true := by
  obtain ⟨c0, c1, y0, y1, m, rfl, _, _, hy0, hy1⟩ := open_agg2 Try.underlying24 (by kernel_rfl) cellsGraph hv h
  obtain ⟨n, e0, _, wn⟩ := DataW.trod_int Try.underlying3 hy0
  simp only [List.cons.injEq, and_true] at e0
  subst e0
  obtain ⟨A, len, cap, es, rfl, hE, hl, hw⟩ := edges_of hy1
  exact ⟨n, A, len, cap, es, rfl, hE, hl, hw, wn⟩
end
end Go.Proofs.Yticickicfigpbaa

namespace Go.Proofs.Yticickicfigpbaa
open Go.ChangeShapes Go.WideShapes Go.ChangeAt Go.RowKit

set_option maxRecDepth 100000 in
theorem chordRings_any (n : Int) (A : Option Addr) (len cap : Nat) (es : List E3) (w : World) (hE : EdgesAt w w.heap.size A len es) (hcap : len ≤ cap) (_ : ∀ e ∈ es, WfE e) (_ : (Lit.int .i64 n).wf = true) :
    Calls Try.prog 4 #[.agg #[.int .i64 n, .slice A len cap]] w fun e w' => e = .returned (.bool true) ∧ Below w.heap.size w w' :=
  chordRings_of n A len cap es w hE hcap (fun W _ h => ringTop_any n A len cap es W h)
set_option maxRecDepth 100000 in
theorem chordRings_lifted (os : Os) (started : os.Started) (H : Type) (enc : TypeId × Value → H) :
    ReturnsInHanded {} Try.checked os 4 .any (Rows.chordRingsSpec.pre6 enc Try.prog Try.f4 Rows.chordRingsRow.domain false) (Rows.chordRingsSpec.post enc Try.prog Try.f4 false true false false) := by
  refine returnsInHanded_of_change (C := Try.checked) ownK started (by kernel_rfl) Try.func4
    (ChangeSpec.witness6 (enc := enc) (C := Try.checked) false ⟨#[], #[.agg #[.int .i64 0, .slice none 0 0]], []⟩ 8 (by kernel_rfl) (by kernel_rfl) (by kernel_rfl) (by kernel_rfl)) ?_
  intro W base args ds gs before hval0 hW _ _
  have hval : ∀ (j : Nat) t v, Try.f4.params[j]? = some t → args[j]? = some v → Value.okWide Try.prog W .any base t v := hval0
  have hW' := hW
  obtain ⟨p, q, hA0, hV, rfl, _, _⟩ := hW
  have hA : DataW.TrodAll enc Try.prog W 0 (fun _ => true) true Try.f4.params.toList args.toList ds p := hA0
  rw [Try.params4] at hA hval
  obtain ⟨v0, d0, rfl, rfl, h0⟩ := trodAll_one hA
  obtain ⟨rfl, rfl⟩ := trodVars_none hV
  obtain ⟨n0, A0, len0, cap0, es0, rfl, hE0, hcap0, hwf0, hwn0⟩ := open_graph (hval 0 24 v0 rfl rfl) h0
  clear hA0 hval0
  simp only [List.append_nil] at hW'
  refine (chordRings_any n0 A0 len0 cap0 es0 W hE0 hcap0 hwf0 hwn0).mono fun e W' ⟨he, hb⟩ => ?_
  subst he
  exact ⟨_, rfl, _, _, _, [], (p), [], hW', trodAll_mk1 (shut_bool Try.underlying4 _), trodAll_mk1 (Below.trod laidOutO recGraph rowGraph h0 hb (fun x hx => hW'.lt x hx)), rfl, hb.frame _, fun h => by cases h⟩

theorem chordRings_holds : Rows.ChordRingsSaid :=
  OpenClaim.holds_of_wide 4 Try.f4 rfl rfl rfl rfl rfl rfl rfl ⟨rfl, rfl, rfl, rfl, rfl⟩ rfl rfl rfl rfl rfl (by kernel_rfl) Try.func4 (by kernel_rfl)
    (of_decide_eq_true (by kernel_rfl)) (by unfold Func.isWrapper; first | (rw [if_pos (by decide +kernel)]; kernel_rfl) | (rw [if_neg (by decide +kernel)]; exact ⟨rfl, rfl⟩))
    (fun os started H enc _ => chordRings_lifted os started H enc)
#print axioms chordRings_holds
end Go.Proofs.Yticickicfigpbaa
