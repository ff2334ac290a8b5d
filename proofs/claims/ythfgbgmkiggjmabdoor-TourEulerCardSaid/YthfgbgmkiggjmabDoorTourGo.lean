/- tour.Tour: what it tells of every graph. -/
import Derived.Test.YthfgbgmkiggjmabDoorPairs
import Derived.Test.YthfgbgmkiggjmabDoorTourWalk
import Derived.Test.YthfgbgmkiggjmabDoorTourFns
import Derived.Test.YthfgbgmkiggjmabDoorReverse
namespace Go.Proofs.YthfgbgmkiggjmabDoor
open Go.RowKit

theorem words_small {m : Nat} {ar : List Nat} {G : List Pr} (hm : m ≤ 10) (h : WordsOf m ar G) : ∀ x ∈ ar, x < 1024 := fun x hx => by
  obtain ⟨i, hi, rfl⟩ := List.getElem_of_mem hx
  have him : i < m := by rw [← h.len]; exact hi
  have := pow10 hm (h.lt i him)
  rwa [List.getD_eq_getElem?_getD, List.getElem?_eq_getElem hi, Option.getD_some] at this
/-- Where a tour begins: the least node that has an edge, or 0. -/
theorem firstL_props {m : Nat} {ar : List Nat} {G : List Pr} (h : WordsOf m ar G) (hs : Simp G) (hin : InG m G) (hm : 0 < m) :
    firstL ar < m ∧ (∀ i, i < firstL ar → degP G i = 0) ∧ (0 < degP G (firstL ar) ∨ (firstL ar = 0 ∧ ∀ i, degP G i = 0)) := by
  have hget : ∀ i, i < m → ar[i]? = some (ar.getD i 0) := fun i hi => by
    have hl : i < ar.length := by rw [h.len]; exact hi
    rw [List.getD_eq_getElem?_getD, List.getElem?_eq_getElem hl]; rfl
  have zero : ∀ i, i < m → ar.getD i 0 = 0 → degP G i = 0 := fun i hi h0 => degP_zero hs.lt (h.zero hi h0)
  unfold firstL idxL
  cases hf : ar.findIdx? someW with
  | none =>
    rw [List.findIdx?_eq_none_iff] at hf
    refine ⟨by simpa using hm, fun i hi => by simp at hi, .inr ⟨by simp, fun i => ?_⟩⟩
    rcases Nat.lt_or_ge i m with hi | hi
    · have := hf _ (List.mem_of_getElem? (hget i hi))
      simp only [someW, Bool.not_eq_false', beq_iff_eq] at this
      exact zero i hi this
    · exact degP_out hs hin hi
  | some k =>
    rw [List.findIdx?_eq_some_iff_getElem] at hf
    obtain ⟨hk, hp, hlt⟩ := hf
    have hkm : k < m := by rw [← h.len]; exact hk
    simp only [Int.toNat_natCast]
    refine ⟨hkm, fun i hi => ?_, .inl ?_⟩
    · have h1 := hlt i hi
      have him : i < m := by omega
      have e : ar.getD i 0 = ar[i] := by rw [List.getD_eq_getElem?_getD, List.getElem?_eq_getElem (by omega)]; rfl
      simp only [someW, Bool.not_eq_true', beq_iff_eq, Bool.not_eq_false] at h1
      exact zero i him (by rw [e]; simpa using h1)
    · have e : ar.getD k 0 = ar[k] := by rw [List.getD_eq_getElem?_getD, List.getElem?_eq_getElem hk]; rfl
      have hne : ar.getD k 0 ≠ 0 := by rw [e]; simpa [someW] using hp
      obtain ⟨j, hj⟩ := Nat.exists_testBit_of_ne_zero hne
      exact degP_pos ((h.bit k hkm j).1 hj)

def natsI (l : List Nat) : List Int := l.map fun n : Nat => (n : Int)
/-- Where the tours of a graph begin. -/
def tourS (m : Nat) (es : List E3) : Nat := firstL (nbL m es)
def TourOk (m : Nat) (es : List E3) (e : Ending) (w' : World) : Prop :=
  ∃ l A cap, Wk (prsE es) (tourS m es) [] l ∧ e = .returned (.tuple #[.slice A (l.length + 1) cap, .int .i64 0]) ∧ IntsAt w' w'.heap.size A (l.length + 1) (natsI (tourS m es :: l))
set_option maxRecDepth 100000 in
theorem own_rowC {w : World} {base n g cap : Nat} {xs : List Nat} (h : w.ownsRow base 3 1 (.slice (some ⟨g, 0, none⟩) n cap) n (xs.map natV)) : base ≤ g ∧ RowC w g n (fun j => (xs.getD j 0 : Nat)) := by
  have hl : xs.length = n := by have := h.1; simpa using this
  apply RowC.of_own (cap := cap)
  have e : (List.range n).map (fun j => Value.int .i64 ((xs.getD j 0 : Nat) : Int)) = xs.map natV := by
    apply List.ext_getElem
    · simp [hl]
    · intro i h1 h2
      have hi : i < xs.length := by simpa using h2
      simp [natV, List.getD_eq_getElem?_getD, List.getElem?_eq_getElem hi]
  rw [e]
  exact h

set_option maxRecDepth 100000 in
set_option maxHeartbeats 400000 in
theorem tour_bad (n : Int) (A : Option Addr) (len cap : Nat) (es : List E3) (v : Int) (w : World) (hE : EdgesAt w w.heap.size A len es) (hv : gcheck n es = v) (hv0 : v ≠ 0) :
    Calls Tryd.prog 26 #[.agg #[.int .i64 n, .slice A len cap]] w fun e w' => e = .returned (.tuple #[.slice none 0 0, .int .i64 v]) ∧ Below w.heap.size w w' := by
  have HE := Lib.hid (show EdgesAt (bx w n A len cap) (bx w n A len cap).heap.size A len es from (hE.alloc (Nat.le_refl _) _).more (by simp [bx]))
  have HV := Lib.hid hv
  have HV0 := Lib.hid hv0
  have hb0 : (v != 0) = true := by simpa using hv0
  clear hE hv hv0
  go_enter Tryd.func26, Tryd.ntmps26
  go_wp2_with (go_at_call 41; refine (neighbours_bad n A len cap es v _ (by exact HE.out) HV.out HV0.out).mono ?_; rintro e w1 ⟨rfl, hb1⟩)
  go_ret2
  exact ⟨rfl, ((Below.refl _ _).alloc (Nat.le_refl _) _).trans (hb1.mono (by simp))⟩

set_option maxRecDepth 100000 in
set_option maxHeartbeats 400000 in
theorem tour_zero (A : Option Addr) (len cap : Nat) (es : List E3) (w : World) (hE : EdgesAt w w.heap.size A len es) (hv : gcheck ((0 : Nat) : Int) es = 0) :
    Calls Tryd.prog 26 #[.agg #[.int .i64 ((0 : Nat) : Int), .slice A len cap]] w fun e w' => e = .returned (.tuple #[.slice none 0 0, .int .i64 5]) ∧ Below w.heap.size w w' := by
  have HE := Lib.hid (show EdgesAt (bx w ((0 : Nat) : Int) A len cap) (bx w ((0 : Nat) : Int) A len cap).heap.size A len es from (hE.alloc (Nat.le_refl _) _).more (by simp [bx]))
  have HV := Lib.hid hv
  clear hE hv
  go_enter Tryd.func26, Tryd.ntmps26
  go_wp2_with (go_at_call 41; refine (neighbours_any 0 A len cap es _ (by exact HE.out) HV.out).mono ?_; rintro e w1 ⟨gn, rfl, _, _, hb1⟩; have hc0 : w1.cell? ⟨w.heap.size, 0, none⟩ = some (.int .i64 ((0 : Nat) : Int)) := (by rw [hb1.cell (p := ⟨w.heap.size, 0, none⟩) (by simp)]; simp [go_sem]))
  go_ret2
  exact ⟨rfl, ((Below.refl _ _).alloc (Nat.le_refl _) _).trans (hb1.mono (by simp))⟩

set_option maxRecDepth 100000 in
set_option maxHeartbeats 1000000 in
theorem tour_odd (m : Nat) (A : Option Addr) (len cap : Nat) (es : List E3) (w : World) (hE : EdgesAt w w.heap.size A len es) (hv : gcheck m es = 0) (hm : 0 < m) (hodd : (nbL m es).any oddW = true) :
    Calls Tryd.prog 26 #[.agg #[.int .i64 m, .slice A len cap]] w fun e w' => e = .returned (.tuple #[.slice none 0 0, .int .i64 5]) ∧ Below w.heap.size w w' := by
  obtain ⟨_, hm10', hl45, hgood⟩ := good_of_gcheck hv
  have hm10 : m ≤ 10 := by omega
  have HE := Lib.hid (show EdgesAt (bx w m A len cap) (bx w m A len cap).heap.size A len es from (hE.alloc (Nat.le_refl _) _).more (by simp [bx]))
  have HV := Lib.hid hv
  have HS := Lib.hid (words_small hm10 (words_good hgood))
  have HO := Lib.hid hodd
  have hm0 : ((m : Int) == 0) = false := by simp; omega
  clear hE hv hodd hgood
  go_enter Tryd.func26, Tryd.ntmps26
  go_wp2_with (first
    | (go_at_call 41; refine (neighbours_any m A len cap es _ (by exact HE.out) HV.out).mono ?_; rintro e w1 ⟨gn, rfl, hrow, hgn, hb1⟩; have hc0 : w1.cell? ⟨w.heap.size, 0, none⟩ = some (.int .i64 (m : Int)) := (by rw [hb1.cell (p := ⟨w.heap.size, 0, none⟩) (by simp)]; simp [go_sem]); have HW1 : Hid (WordsAt w1 w1.heap.size (some ⟨gn, 0, none⟩) m (nbL m es)) := Lib.hid (by have h := WordsAt.of_row hrow hrow.lt; rw [nbL_length] at h; exact h); clear hrow)
    | (go_at_call 46; refine (containsOdd m m (some ⟨gn, 0, none⟩) (nbL m es) true _ (by exact HW1.out) hm10 HS.out HO.out).mono ?_; rintro e w2 ⟨rfl, q, rfl⟩))
  go_ret2
  exact ⟨rfl, below_drewN (((Below.refl _ _).alloc (Nat.le_refl _) _).trans (hb1.mono (by simp))) q⟩

def TourEnd (m : Nat) (es : List E3) (e : Ending) (w' : World) : Prop :=
  (Tg (prsE es) (tourS m es) (tourS m es) → TourOk m es e w') ∧ (¬ Tg (prsE es) (tourS m es) (tourS m es) → e = .returned (.tuple #[.slice none 0 0, .int .i64 5]))

set_option maxRecDepth 100000 in
set_option maxHeartbeats 2000000 in
theorem tour_even (m : Nat) (A : Option Addr) (len cap : Nat) (es : List E3) (w : World) (hE : EdgesAt w w.heap.size A len es) (hv : gcheck m es = 0) (hm : 0 < m) (hT : Tab w) (hodd : (nbL m es).any oddW = false) :
    Calls Tryd.prog 26 #[.agg #[.int .i64 m, .slice A len cap]] w fun e w' => TourEnd m es e w' ∧ Below w.heap.size w w' := by
  obtain ⟨_, hm10', hl45, hgood⟩ := good_of_gcheck hv
  have hm10 : m ≤ 10 := by omega
  have hlen : len ≤ 45 := by have := hE.1; omega
  have hsome := SomeE.of_good hgood
  have hwords := words_good hgood
  have HPar : Hid (Par (prsE es) (tourS m es) (tourS m es)) := Lib.hid ((even_par hm10 hwords hsome.simp hsome.inG _).1 hodd)
  have hsm : tourS m es < m := (firstL_props hwords hsome.simp hsome.inG hm).1
  have HE := Lib.hid (show EdgesAt (bx w m A len cap) (bx w m A len cap).heap.size A len es from (hE.alloc (Nat.le_refl _) _).more (by simp [bx]))
  have HV := Lib.hid hv
  have HS := Lib.hid (words_small hm10 hwords)
  have HWo := Lib.hid hwords
  have HSi := Lib.hid hsome.simp
  have HIn := Lib.hid hsome.inG
  have HO := Lib.hid hodd
  have HT := Lib.hid hT
  have HGL : Hid ((prsE es).length = len) := Lib.hid (by unfold prsE; rw [List.length_map]; exact hE.1)
  have hm0 : ((m : Int) == 0) = false := by simp; omega
  clear hE hv hodd hgood hsome hwords hT hl45
  go_enter Tryd.func26, Tryd.ntmps26
  go_wp2_with (first
    | (go_at_call 41; refine (neighbours_any m A len cap es _ (by exact HE.out) HV.out).mono ?_; rintro e w1 ⟨gn, rfl, hrow, hgn, hb1⟩; have hc0 : w1.cell? ⟨w.heap.size, 0, none⟩ = some (.int .i64 (m : Int)) := (by rw [hb1.cell (p := ⟨w.heap.size, 0, none⟩) (by simp)]; simp [go_sem]); have hc1 : w1.cell? ⟨w.heap.size, 1, none⟩ = some (.slice A len cap) := (by rw [hb1.cell (p := ⟨w.heap.size, 1, none⟩) (by simp)]; simp [go_sem]); have HW1 : Hid (WordsAt w1 w1.heap.size (some ⟨gn, 0, none⟩) m (nbL m es)) := Lib.hid (by have h := WordsAt.of_row hrow hrow.lt; rw [nbL_length] at h; exact h); have HR1 := Lib.hid hrow; have hgl := hrow.lt; have hwg : w.heap.size < gn := (by simp at hgn; omega); have HB1 : Hid (Below w.heap.size w w1) := Lib.hid (((Below.refl _ _).alloc (Nat.le_refl _) _).trans (hb1.mono (by simp))); clear hrow hb1 hgn)
    | (go_at_call 46; refine (containsOdd m m (some ⟨gn, 0, none⟩) (nbL m es) false _ (by exact HW1.out) hm10 HS.out HO.out).mono ?_; rintro e w2 ⟨rfl, q, rfl⟩)
    | (go_at_call 49; refine ((firstNode_any m m (some ⟨gn, 0, none⟩) (nbL m es) _ (by exact HW1.out) hm10).mono (R' := fun e w' => e = .returned (.int .i64 (tourS m es)) ∧ ∃ k, w' = (w1.drewN q).drewN k) (fun e w' h => h)).mono ?_; rintro e w3 ⟨rfl, q2, rfl⟩))
  have HWALK : Hid (Calls Tryd.prog 48 #[.slice (some ⟨gn, 0, none⟩) m m, .int .i64 (tourS m es), .slice none 0 0] (w1.drewN (q + q2)) (WalkPost m gn w1.heap.size (tourS m es) (prsE es) 0 [] (w1.drewN (q + q2)))) := Lib.hid
    (walk_any m gn w1.heap.size hm10 hgl (by have h1 := HT.out.1; omega) (prsE es).length (prsE es) (tourS m es) (nbL m es) (.slice none 0 0) 0 [] (w1.drewN (q + q2)) (Nat.le_refl _) (by have := HGL.out; omega) hsm HSi.out HIn.out HWo.out HR1.out (World.ownsRow_nil ..) (Nat.le_refl _) (HT.out.go_ (below_drewN HB1.out _)))
  refine HWALK.out.mono ?_
  rintro e w4 hp
  obtain ⟨G', l, gv, capv, HK, HOwn, HB4, rfl⟩ : ∃ G' l gv capv, Hid (Wk (prsE es) (tourS m es) G' l) ∧ Hid (w4.ownsRow w1.heap.size 3 1 (.slice (some ⟨gv, 0, none⟩) (l.length + 1) capv) (l.length + 1) ((tourS m es :: l).reverse.map natV)) ∧ Hid (Below gn w1 w4) ∧ e = .returned (.slice (some ⟨gv, 0, none⟩) (l.length + 1) capv) := by
    obtain ⟨G', l, ar, v, he, h1, _, _, h4, h5⟩ := hp
    rw [Nat.zero_add, List.nil_append] at h4
    rcases h4.2 with ⟨_, h0⟩ | ⟨gv, capv, cur, hv, _⟩
    · omega
    · subst hv
      exact ⟨G', l, gv, capv, Lib.hid h1, Lib.hid h4, Lib.hid ⟨h5.os, h5.tape, h5.output, h5.size, h5.block⟩, he⟩
  clear hp HWALK
  have hd1 : w4.cell? ⟨w.heap.size, 1, none⟩ = some (.slice A len cap) := (HB4.out.cell (p := ⟨w.heap.size, 1, none⟩) hwg).trans hc1
  have HTg : Hid (Tg (prsE es) (tourS m es) (tourS m es) ↔ l.length = len) := Lib.hid ⟨fun ht => by
      have h1 := HK.out.length
      rw [HK.out.whole HSi.out ht] at h1
      have := HGL.out
      simp at h1
      omega, fun hl => by
      have h1 := HK.out.length
      have h2 := HGL.out
      have h3 : G' = [] := List.length_eq_zero_iff.1 (by omega)
      have h4 := HK.out
      rw [h3] at h4
      exact h4.tells HSi.out HPar.out⟩
  have HBW : Hid (Below w.heap.size w w4) := Lib.hid (HB1.out.trans (HB4.out.mono (by omega)))
  have hll : l.length ≤ 45 := by have h1 := HK.out.length; have h2 := HGL.out; omega
  by_cases hl : l.length = len
  · have HKe : Hid (Wk (prsE es) (tourS m es) [] l) := Lib.hid (by
      have h1 := HK.out.length
      have h2 := HGL.out
      have h3 : G' = [] := List.length_eq_zero_iff.1 (by omega)
      have h4 := HK.out
      rwa [h3] at h4)
    have HRC := Lib.hid (own_rowC HOwn.out)
    have HTG := Lib.hid (HTg.out.2 hl)
    clear HTg
    subst hl
    go_wp2_with (go_at_call 50; refine (reverse_any gv l.length capv _ _ (by exact HRC.out.2) (by omega)).mono ?_; rintro e w5 ⟨rfl, hrc, hb5⟩)
    have HEND : Hid (TourEnd m es (.returned (.tuple #[.slice (some ⟨gv, 0, none⟩) (l.length + 1) capv, .int .i64 0])) w5) := Lib.hid ⟨fun _ => ⟨l, some ⟨gv, 0, none⟩, capv, HKe.out, rfl, by
        refine ⟨by simp [natsI], fun _ => ⟨gv, 0, rfl, hrc.lt, fun i x hx => ?_⟩⟩
        have hi : i < (tourS m es :: l).length := by
          have := (List.getElem?_eq_some_iff.1 hx).1
          simpa [natsI] using this
        have hi2 : i < l.length + 1 := by simp at hi; omega
        rw [Nat.zero_add, hrc.cell hi2]
        have hx2 : x = ((tourS m es :: l)[i] : Nat) := by
          have h1 : (natsI (tourS m es :: l))[i]? = some (((tourS m es :: l)[i] : Nat) : Int) := by
            unfold natsI
            rw [List.getElem?_map, List.getElem?_eq_getElem hi]; rfl
          rw [h1] at hx
          injection hx with hx
          exact hx.symm
        have hlt : l.length - i < (tourS m es :: l).reverse.length := by simp; omega
        have e1 : (tourS m es :: l).reverse.getD (l.length - i) 0 = (tourS m es :: l)[i] := by
          rw [List.getD_eq_getElem?_getD, List.getElem?_eq_getElem hlt, Option.getD_some, List.getElem_reverse]
          congr 1
          simp
          omega
        rw [e1, hx2]⟩, fun h => absurd HTG.out h⟩
    have HBE : Hid (Below w.heap.size w w5) := Lib.hid (HBW.out.trans (hb5.mono (by have := HRC.out.1; omega)))
    clear hrc hb5
    go_ret2
    exact ⟨HEND.out, HBE.out⟩
  · have HEND : Hid (TourEnd m es (.returned (.tuple #[.slice none 0 0, .int .i64 5])) w4) := Lib.hid ⟨fun h => absurd (HTg.out.1 h) hl, fun _ => rfl⟩
    generalize l.length = n at hl hll
    have hlt : ¬ (n : Int) = (len : Int) := by omega
    have hb1 : ((n : Int) != (len : Int)) = true := by simpa using hlt
    have hb2 : ((n : Int) + 1 != (len : Int) + 1) = true := by simp; omega
    go_wp2_with fail
    go_ret2
    exact ⟨HEND.out, HBW.out⟩

set_option maxRecDepth 100000 in
/-- What Tour tells of a graph with a node. -/
theorem tour_good (m : Nat) (A : Option Addr) (len cap : Nat) (es : List E3) (w : World) (hE : EdgesAt w w.heap.size A len es) (hv : gcheck m es = 0) (hm : 0 < m) (hT : Tab w) :
    Calls Tryd.prog 26 #[.agg #[.int .i64 m, .slice A len cap]] w fun e w' => TourEnd m es e w' ∧ Below w.heap.size w w' := by
  obtain ⟨_, hm10', _, hgood⟩ := good_of_gcheck hv
  have hsome := SomeE.of_good hgood
  cases hodd : (nbL m es).any oddW with
  | false => exact tour_even m A len cap es w hE hv hm hT hodd
  | true =>
    refine (tour_odd m A len cap es w hE hv hm hodd).mono fun e w' h => ⟨⟨fun ht => ?_, fun _ => h.1⟩, h.2⟩
    have := (even_par (by omega) (words_good hgood) hsome.simp hsome.inG (tourS m es)).2 ht.1
    have e1 : (nbL m es).any oddW = (nbL m es).any (fun x => ones x % 2 == 1) := rfl
    rw [e1, this] at hodd
    cases hodd
end Go.Proofs.YthfgbgmkiggjmabDoor
