/- The card BondsTutteCardSaid, out of the law's walk: the table of math/bits is tied to the program's text. No conditions. -/
import Derived.Test.YthfgbgmkiggjmacDoorMinR0
import Derived.Test.YthfgbgmkiggjmacDoorRefDist
import Derived.Test.YthfgbgmkiggjmacDoorOwn
import Derived.Test.YthfgbgmkiggjmacDoorRefWithout
import Derived.Test.YthfgbgmkiggjmacDoorSeekP
import Derived.Test.YthfgbgmkiggjmacDoorBoxG
import Derived.Test.YthfgbgmkiggjmacDoorMem
import Derived.Test.YthfgbgmkiggjmacDoorBondsMostGo
import Derived.Test.YthfgbgmkiggjmacDoorBondsWallGo
import Derived.Test.YthfgbgmkiggjmacDoorBondKeep
import Derived.Test.YthfgbgmkiggjmacDoorTz
import Derived.Test.YthfgbgmkiggjmacDoorRows
import Derived.ProofKit
import Derived.Deep.Slices
import Derived.Deep.Strs
import Derived.Lib.SmallJoins
import Derived.Deep.RegionHeld3
import Derived.Test.YthfgbgmkiggjmacDoorTie
import Derived.Test.YthfgbgmkiggjmacDoorCards
import Derived.LaidMore
import Derived.OpenShut
import Derived.Stop.Joined
import Derived.Lib.LaidTab
import Derived.SevenTiedAt
namespace Go.Proofs.YthfgbgmkiggjmacDoor

noncomputable def partsR (m : Nat) (F : List E3) : List Int := (List.range m).map fun i => (minR F i : Int)
theorem partsR_len (m : Nat) (F : List E3) : (partsR m F).length = m := by simp [partsR]
theorem partsR_get {m : Nat} {F : List E3} {k : Nat} (hk : k < m) : (partsR m F)[k]? = some (minR F k : Int) := by simp [partsR, hk]
theorem partsR_push {m k : Nat} {F : List E3} (hk : k < m) : ((partsR m F).take (k + 1)).map (Value.int .i64) = ((partsR m F).take k).map (Value.int .i64) ++ [.int .i64 (minR F k : Int)] := by
  have h := @partsR_get m F k hk
  obtain ⟨h1, h2⟩ := List.getElem?_eq_some_iff.1 h
  rw [List.take_succ_eq_append_getElem h1, h2, List.map_append]
  rfl
end Go.Proofs.YthfgbgmkiggjmacDoor

namespace Go.Proofs.YthfgbgmkiggjmacDoor
open Go.RowKit

set_option maxRecDepth 100000 in
set_option maxHeartbeats 1000000 in
theorem refPartsR_any (m : Nat) (A : Option Addr) (len cap : Nat) (es : List E3) (w : World) (hE : EdgesAt w w.heap.size A len es) (hm10 : m ≤ 10) (hlen : len ≤ 45) (hin : InE m es) :
    Calls Tryd.prog 28 #[.agg #[.int .i64 m, .slice A len cap]] w fun e w' => (∃ v, e = .returned v ∧ w'.ownsRow w.heap.size 3 1 v m ((partsR m es).map (Value.int .i64))) ∧ Below w.heap.size w w' := by
  have HE := Lib.hid (show EdgesAt (bx w m A len cap) (bx w m A len cap).heap.size A len es from (hE.alloc (Nat.le_refl _) _).more (by simp [bx]))
  have HIN := Lib.hid hin
  clear hE hin
  obtain ⟨i0, hi, hz0, hz1, hz2⟩ := info_parts infoInt
  have HI := Lib.hid hi
  have HI0 := Lib.hid hz0
  have HI1 := Lib.hid hz1
  have HI2 := Lib.hid hz2
  clear hi hz0 hz1 hz2
  go_enter Tryd.func28, Tryd.ntmps28
  go_wp2_with (go_at_call 41; refine (refDist_any m A len cap es _ (by exact HE.out) hm10 hlen HIN.out).mono ?_; rintro e w1 ⟨ho, hb1⟩; have HB1 := Lib.hid hb1; clear hb1; obtain ⟨vd, bs, cs, HR, rfl⟩ : ∃ v bs cs, Hid (Rows1 w1 (w.heap.size + 1) m m v bs cs (distI (adjE es))) ∧ e = .returned v := (by obtain ⟨v, bs, cs, he, hr⟩ := ho; exact ⟨v, bs, cs, Lib.hid (by simpa using hr), he⟩); clear ho)
  have HBx : Hid (Below (w.heap.size + 1) (bx w m A len cap) w1) := Lib.hid (HB1.out.mono (by simp))
  have hs1 : w.heap.size < w1.heap.size := by have := HBx.out.size; simp [bx] at this; omega
  clear HE HB1
  go_loopw [4, 5] (fun v j wr => ∃ k : Nat, k ≤ m ∧ j = .int .i64 k ∧ Hid (wr.ownsRow w1.heap.size 3 1 v k (((partsR m es).take k).map (Value.int .i64))) ∧ Below w1.heap.size w1 wr) (fun _ j _ => m - (intOf j).toNat)
  case atStart => exact ⟨0, Nat.zero_le _, rfl, Lib.hid (World.ownsRow_nil ..), Below.refl _ _⟩
  case round =>
    obtain ⟨k, hk, rfl, HO, hB⟩ := hrel
    have hbx0 : wr.cell? ⟨w.heap.size, 0, none⟩ = some (.int .i64 m) := by
      rw [hB.cell (p := ⟨w.heap.size, 0, none⟩) hs1, HBx.out.cell (p := ⟨w.heap.size, 0, none⟩) (Nat.lt_succ_self _)]; simp [bx, go_sem]
    by_cases hlt : k < m
    · have HRr := Lib.hid (HR.out.keep hB)
      obtain ⟨g, capg, HV, HC⟩ : ∃ g capg, Hid (vd = Value.slice (some ⟨g, 0, none⟩) m capg) ∧ Hid (∀ x, x < m → wr.cell? ⟨g, x, none⟩ = some (.slice (some ⟨bs x, 0, none⟩) m (cs x))) := by
        obtain ⟨g, capg, h1, _, _, h2⟩ := HRr.out.top (by omega)
        exact ⟨g, capg, Lib.hid h1, Lib.hid h2⟩
      obtain rfl := HV.out
      clear HV
      have hck := HC.out k hlt
      have hpm : minR es k < m := Nat.lt_of_le_of_lt minR_le hlt
      go_wp2
      go_loop [6] (fun j => ∃ a : Nat, a ≤ minR es k ∧ j = .int .i64 a) (fun j => minR es k - (intOf j).toNat)
      case atStart => exact ⟨0, Nat.zero_le _, rfl⟩
      case round =>
        obtain ⟨a, ha, rfl⟩ := hrel
        have hca := HRr.out.cell hlt (show a < m by omega)
        have ha0 : (0 : Int) ≤ (a : Int) := by omega
        have ham : (a : Int) < (m : Int) := by omega
        have hk0 : (0 : Int) ≤ (k : Int) := by omega
        have hkm : (k : Int) < (m : Int) := by omega
        by_cases hap : a < minR es k
        · have hd : distI (adjE es) k a < 0 := by
            apply Classical.byContradiction
            intro hn
            have hr : Rch es k a := distI_nonneg.1 (by omega)
            have := minR_least hr
            omega
          generalize distI (adjE es) k a = d at hca hd
          go_wp2
          go_round
          case rel => exact ⟨a + 1, by omega, by go_num⟩
          case measure => simp [intOf]; omega
        · obtain rfl : a = minR es k := by omega
          have hd : ¬ distI (adjE es) k (minR es k) < 0 := by
            have := distI_nonneg.2 ((minR_rch (F := es) (a := k)))
            omega
          have hdd : decide (distI (adjE es) k (minR es k) < 0) = false := by simpa using hd
          have HP := Lib.hid (partsR_push (F := es) hlt)
          generalize distI (adjE es) k (minR es k) = d at hca hd hdd
          generalize hpe : minR es k = p at hca hpm ha0 ham HP ha
          clear hpe
          go_wp2_with (at_builtin; refine wpList_append_own _ rfl _ _ 33 rfl w1.heap.size 3 i0 (.int .i64 0) 1 8 Tryd.underlying33 HI.out HI0.out HI1.out HI2.out rfl (by decide) _ _ _ rfl (HO.out.alloc _) ⟨wr.heap.size, 0, none⟩ 1 1 [.int .i64 (p : Int)] rfl rfl ?c1 ?c2 ?c3 ?c4 ?c5 ?_)
          case c2 => simp [Value.oneCell']
          case c3 => unfold maxLen; omega
          case c4 => omega
          case c5 => have := hB.size; simp; omega
          intro v' w3 hown' hgrow _
          have HO' : Hid (w3.ownsRow w1.heap.size 3 1 v' (k + 1) (((partsR m es).take (k + 1)).map (Value.int .i64))) := Lib.hid (by rw [HP.out, List.map_take]; exact hown')
          have HB3 : Hid (Below w1.heap.size w1 w3) := Lib.hid ((hB.alloc (by have := hB.size; omega) _).grown hgrow (by have := hB.size; simp; omega) (own_base HO.out))
          clear hown' hgrow
          go_wp2
          go_roundw
          case rel => exact ⟨k + 1, by omega, by go_num, HO', HB3.out⟩
          case measure => simp [intOf]; omega
    · obtain rfl : k = m := by omega
      have hall : (partsR k es).take k = partsR k es := List.take_of_length_le (by rw [partsR_len]; omega)
      have HO2 : Hid (wr.ownsRow w.heap.size 3 1 u4 k ((partsR k es).map (Value.int .i64))) := Lib.hid (by have h := HO.out; rw [hall] at h; exact own_low h (by omega))
      clear hall HO
      go_wp2
      go_ret
      exact ⟨⟨_, rfl, HO2.out⟩, ((Below.refl _ _).alloc (Nat.le_refl _) _).trans ((HBx.out.mono (Nat.le_succ _)).trans (hB.mono (by omega)))⟩
end Go.Proofs.YthfgbgmkiggjmacDoor

namespace Go.Proofs.YthfgbgmkiggjmacDoor
open Go.RowKit

set_option maxRecDepth 100000 in
theorem refWithout_v (m u : Nat) (A : Option Addr) (len cap : Nat) (es : List E3) (w : World) (hE : EdgesAt w w.heap.size A len es) (hm10 : m ≤ 10) (hlen : len ≤ 45) (hin : InE m es) (hu : u < 4294967296) :
    Calls Tryd.prog 38 #[.agg #[.int .i64 m, .slice A len cap], .int .u32 u] w fun e w' => (∃ A2 c2, e = .returned (.agg #[.int .i64 m, .slice A2 (offE u es).length c2]) ∧ EdgesAt w' w'.heap.size A2 (offE u es).length (offE u es)) ∧ Below w.heap.size w w' :=
  (refWithout_any m u A len cap es w hE hm10 hlen hin hu).mono fun _ _ ⟨⟨A2, c2, h1, h2, _⟩, h3⟩ => ⟨⟨A2, c2, h1, h2⟩, h3⟩
set_option maxRecDepth 100000 in
theorem partsR_own (m : Nat) (A : Option Addr) (len cap : Nat) (es : List E3) (w : World) (hE : EdgesAt w w.heap.size A len es) (hm10 : m ≤ 10) (hlen : len ≤ 45) (hin : InE m es) :
    Calls Tryd.prog 28 #[.agg #[.int .i64 m, .slice A len cap]] w fun e w' => (∃ A3 c3, e = .returned (.slice A3 m c3) ∧ IntsAt w' w'.heap.size A3 m (partsR m es)) ∧ Below w.heap.size w w' :=
  (refPartsR_any m A len cap es w hE hm10 hlen hin).mono fun e w' ⟨⟨v, h1, h2⟩, h3⟩ => by
    obtain ⟨A3, c3, rfl⟩ := own_form h2
    exact ⟨⟨A3, c3, h1, IntsAt.of_own h2 (Nat.le_refl _)⟩, h3⟩
theorem off_len (u : Nat) (es : List E3) : (offE u es).length ≤ es.length := List.length_filter_le _ _
theorem off_in {m u : Nat} {es : List E3} (h : InE m es) : InE m (offE u es) := fun e he => h e (List.mem_filter.1 he).1
/-- The nodes of a part behind the wall, among the first few. -/
noncomputable def oddAt (u : Nat) (lab : Nat → Nat) (i k : Nat) : Nat := sizeP (fun j => offW u j && decide (lab j = i)) k
noncomputable def oddTo (u m : Nat) (lab : Nat → Nat) (k : Nat) : Nat := sumTo (fun i => oddAt u lab i m % 2) k
theorem oddTo_all (m u : Nat) (es : List E3) : oddTo u m (minR (offE u es)) m = oddW m es u := rfl
theorem oddAt_in {u i k : Nat} {lab : Nat → Nat} (h1 : lab k = i) (h2 : u.testBit k = false) : oddAt u lab i (k + 1) = oddAt u lab i k + 1 := by
  unfold oddAt; rw [sizeP_succ, if_pos (by simp [offW, h1, h2])]
theorem oddAt_out {u i k : Nat} {lab : Nat → Nat} (h : lab k ≠ i ∨ u.testBit k = true) : oddAt u lab i (k + 1) = oddAt u lab i k := by
  unfold oddAt; rw [sizeP_succ, if_neg (by rcases h with h | h <;> simp [offW, h])]; rfl
theorem oddAt_le (u : Nat) (lab : Nat → Nat) (i k : Nat) : oddAt u lab i k ≤ k := sizeP_le _ _
theorem oddTo_le (u m : Nat) (lab : Nat → Nat) : ∀ k, oddTo u m lab k ≤ k
  | 0 => Nat.le_refl _
  | k + 1 => by
    have := oddTo_le u m lab k
    show oddTo u m lab k + oddAt u lab k m % 2 ≤ k + 1
    omega

set_option maxRecDepth 100000 in
set_option maxHeartbeats 1000000 in
theorem refOdd_any (m u : Nat) (A : Option Addr) (len cap : Nat) (es : List E3) (w : World) (hE : EdgesAt w w.heap.size A len es) (hm10 : m ≤ 10) (hlen : len ≤ 45) (hin : InE m es) (hu : u < 4294967296) :
    Calls Tryd.prog 20 #[.agg #[.int .i64 m, .slice A len cap], .int .u32 u] w fun e w' => e = .returned (.int .i64 (oddW m es u : Nat)) ∧ Below w.heap.size w w' := by
  have HX := Lib.hid (BoxG.start (n := (m : Int)) (cap := cap) hE)
  have HIN := Lib.hid hin
  have HIO := Lib.hid (off_in (u := u) hin)
  have hol : (offE u es).length ≤ 45 := by have := off_len u es; have := hE.1; omega
  have HA := Lib.hid (oddTo_all m u es)
  have HGP : Hid (∀ k, k < m → (partsR m (offE u es))[k]? = some (minR (offE u es) k : Int)) := Lib.hid fun k hk => partsR_get hk
  have hml : ∀ k, minR (offE u es) k ≤ k := fun k => minR_le
  have HML := Lib.hid hml
  clear hE hin hml
  go_enter Tryd.func20, Tryd.ntmps20
  go_wp2_with fail
  refine (refWithout_v m u A len cap es _ (by exact HX.out.edges) hm10 hlen HIN.out hu).mono ?_
  rintro e w1 ⟨⟨A2, c2, rfl, hE2⟩, hb1⟩
  have HX1 := Lib.hid (HX.out.next hb1)
  have HE2 := Lib.hid hE2
  clear hE2 hb1
  go_wp2_with fail
  refine (partsR_own m A2 _ c2 (offE u es) _ (by exact HE2.out) hm10 hol HIO.out).mono ?_
  rintro e w2 ⟨⟨A3, c3, rfl, hI3⟩, hb2⟩
  have HX2 := Lib.hid (HX1.out.next hb2)
  have HI3 := Lib.hid hI3
  have hbx := HX2.out.c0
  have hbl := HX2.out.lt
  generalize minR (offE u es) = lab at HGP HML HA
  clear hI3 hb2 HE2 hol
  go_wp2_with fail
  go_loop [6, 7] (fun n j => ∃ i : Nat, i ≤ m ∧ j = .int .i64 i ∧ n = .int .i64 (oddTo u m lab i : Nat)) (fun _ j => m - (intOf j).toNat)
  case atStart => exact ⟨0, Nat.zero_le _, rfl, rfl⟩
  case round =>
    obtain ⟨i, hi, rfl, rfl⟩ := hrel
    have ht := oddTo_le u m lab i
    by_cases hlt : i < m
    · have HTS : Hid (oddTo u m lab (i + 1) = oddTo u m lab i + oddAt u lab i m % 2) := Lib.hid rfl
      generalize oddTo u m lab i = t at ht HTS ⊢
      go_wp2_with fail
      go_loop [8, 9] (fun n j => ∃ k : Nat, k ≤ m ∧ j = .int .i64 k ∧ n = .int .i64 (oddAt u lab i k : Nat)) (fun _ j => m - (intOf j).toNat)
      case atStart => exact ⟨0, Nat.zero_le _, rfl, rfl⟩
      case round =>
        obtain ⟨k, hk, rfl, rfl⟩ := hrel
        have hol := oddAt_le u lab i k
        by_cases hkm : k < m
        · obtain ⟨b, off, y, rfl, _, hy, hc⟩ := HI3.out.at_ hkm
          have hyv : y = (lab k : Int) := by have := HGP.out k hkm; rw [hy] at this; injection this
          subst hyv
          have hlk := HML.out k
          have HBK := Lib.hid (fun (bb : Bool) (h : u.testBit k = bb) (W : World) => bit_nat u k bb hu (by omega) h W)
          by_cases h1 : lab k = i
          · have heq : ((lab k : Int) == (i : Int)) = true := by simp [h1]
            cases h2 : u.testBit k with
            | true =>
              have HB := Lib.hid (HBK.out true h2)
              have HN := Lib.hid (oddAt_out (lab := lab) (i := i) (Or.inr h2))
              clear h1 h2 HBK hy
              generalize lab k = z at *
              go_wp2_with fail
              refine (HB.out _).mono ?_
              rintro e w3 ⟨rfl, rfl⟩
              go_wp2_with fail
              go_round
              case rel => exact ⟨k + 1, by omega, by go_num, by rw [HN.out]⟩
              case measure => simp [intOf]; omega
            | false =>
              have HB := Lib.hid (HBK.out false h2)
              have HN := Lib.hid (oddAt_in (lab := lab) h1 h2)
              clear h1 h2 HBK hy
              generalize lab k = z at *
              go_wp2_with fail
              refine (HB.out _).mono ?_
              rintro e w3 ⟨rfl, rfl⟩
              go_wp2_with fail
              go_round
              case rel => exact ⟨k + 1, by omega, by go_num, by rw [HN.out]; go_num⟩
              case measure => simp [intOf]; omega
          · have heq : ((lab k : Int) == (i : Int)) = false := by
              have : ¬ (lab k : Int) = (i : Int) := by omega
              simpa using this
            have HN := Lib.hid (oddAt_out (u := u) (k := k) (lab := lab) (i := i) (Or.inl h1))
            clear h1 HBK hy
            generalize lab k = z at *
            go_wp2_with fail
            go_round
            case rel => exact ⟨k + 1, by omega, by go_num, by rw [HN.out]⟩
            case measure => simp [intOf]; omega
        · obtain rfl : k = m := by omega
          have hmod : (oddAt u lab i k : Int).tmod 2 = ((oddAt u lab i k % 2 : Nat) : Int) := by rw [Int.tmod_eq_emod_of_nonneg (by omega)]; omega
          generalize oddAt u lab i k = c at *
          go_wp2_with fail
          go_round
          case rel => exact ⟨i + 1, by omega, by go_num, by rw [HTS.out]; go_num⟩
          case measure => simp [intOf]; omega
    · obtain rfl : i = m := by omega
      go_wp2_with fail
      go_ret
      exact ⟨ret_int (by rw [HA.out]), HX2.out.below⟩
end Go.Proofs.YthfgbgmkiggjmacDoor
namespace Go.Proofs.YthfgbgmkiggjmacDoor
open Go.RowKit

theorem sizeTo_sizeP (s : Nat) : ∀ k, sizeTo s k = sizeP (fun i => s.testBit i) k
  | 0 => rfl
  | k + 1 => by rw [sizeTo_succ, sizeP_succ, sizeTo_sizeP s k]
theorem sizeTo_more {s n : Nat} (h : s < 2 ^ n) : ∀ d, sizeTo s (n + d) = sizeTo s n
  | 0 => rfl
  | d + 1 => by
    have hb : s.testBit (n + d) = false := Nat.testBit_lt_two_pow (Nat.lt_of_lt_of_le h (Nat.pow_le_pow_right (by decide) (by omega)))
    rw [show n + (d + 1) = (n + d) + 1 by omega, sizeTo_succ, sizeTo_more h d, hb]; rfl
theorem sizeW_szN {s n : Nat} (hn : n ≤ 10) (h : s < 2 ^ n) : sizeW s = szN n s := by
  have h1 : sizeW s = sizeTo s (n + (32 - n)) := by rw [show n + (32 - n) = 32 by omega]; rfl
  rw [h1, sizeTo_more h, sizeTo_sizeP]; rfl
theorem szN_le (n s : Nat) : szN n s ≤ n := sizeP_le _ _
theorem oddW_le (n : Nat) (es : List E3) (s : Nat) : oddW n es s ≤ n := by rw [← oddTo_all]; exact oddTo_le _ _ _ _
end Go.Proofs.YthfgbgmkiggjmacDoor

namespace Go.Proofs.YthfgbgmkiggjmacDoor
open Go.ChangeShapes Go.WideShapes Go.ChangeAt Go.RowKit Go.Joins Go.Deep

set_option maxRecDepth 100000 in
theorem ownK : ownKnob Tryd.prog.godebug = none := by kernel_rfl
set_option maxRecDepth 100000 in
theorem laidOutO : laidOutB Tryd.prog = true := by kernel_rfl
set_option maxRecDepth 100000 in
theorem cellsInt : Tryd.prog.cellsOf 3 = 1 := by kernel_rfl
end Go.Proofs.YthfgbgmkiggjmacDoor

namespace Go.Proofs.YthfgbgmkiggjmacDoor
open Go.ChangeShapes Go.WideShapes Go.ChangeAt Go.RowKit Go.Joins Go.Deep

set_option maxRecDepth 100000 in
theorem recGraph : Tryd.prog.readableRec 24 = true := by kernel_rfl
set_option maxRecDepth 100000 in
theorem rowGraph : (24 : TypeId) < Tryd.prog.types.size := of_decide_eq_true (by kernel_rfl)
set_option maxRecDepth 100000 in
theorem cellsGraph : Tryd.prog.cellsOf 24 = 2 := by kernel_rfl
set_option maxRecDepth 100000 in
theorem cellsEdge : Tryd.prog.cellsOf 53 = 3 := by kernel_rfl
set_option maxRecDepth 100000 in
theorem cellsInt64 : Tryd.prog.cellsOf 2 = 1 := by kernel_rfl

/-- Every number of an edge is an int64. -/
def WfE (e : E3) : Prop := (Lit.int .i64 e.1).wf = true ∧ (Lit.int .i64 e.2.1).wf = true ∧ (Lit.int .i64 e.2.2).wf = true

section
variable {H : Type} {enc : TypeId × Value → H} {W : World} {base : Nat} {spare : Nat → Bool} {held : Bool}

set_option maxRecDepth 100000 in
theorem edge_of {n : Nat} {cs : List Value} {x : DataW H × List MemPlace} (h : DataW.trod enc Tryd.prog W base spare held n 53 cs = some x) :
    ∃ e : E3, cs = [.int .i64 e.1, .int .i64 e.2.1, .int .i64 e.2.2] ∧ WfE e := by
  obtain ⟨y0, y1, y2, m, _, hlen, h0, h1, h2⟩ := trod_struct3 Tryd.underlying53 h
  rw [cellsEdge] at hlen
  match cs, hlen with
  | [c0, c1, c2], _ =>
    simp only [cellsInt, cellsInt64, List.drop_zero, List.take_succ_cons, List.take_zero, List.drop_succ_cons] at h0 h1 h2
    obtain ⟨a, e0, _, wa⟩ := DataW.trod_int Tryd.underlying3 h0
    obtain ⟨b, e1, _, wb⟩ := DataW.trod_int Tryd.underlying3 h1
    obtain ⟨c, e2, _, wc⟩ := DataW.trod_int Tryd.underlying2 h2
    simp only [List.cons.injEq, and_true] at e0 e1 e2
    subst e0 e1 e2
    exact ⟨(a, b, c), rfl, wa, wb, wc⟩

set_option maxRecDepth 100000 in
theorem edges_of {n : Nat} {v : Value} {x : DataW H × List MemPlace} (h : DataW.trod enc Tryd.prog W base spare held n 22 [v] = some x) :
    ∃ (A : Option Addr) (len cap : Nat) (es : List E3), v = .slice A len cap ∧ EdgesAt W W.heap.size A len es ∧ len ≤ cap ∧ ∀ e ∈ es, WfE e := by
  rcases open_slice Tryd.underlying22 h with ⟨h0, _⟩ | ⟨a, len, cap, m, k, D, Pl, hcs, _, hl, _, hmm, _, hi⟩
  · simp only [List.cons.injEq, and_true] at h0
    subst h0
    exact ⟨none, 0, 0, [], rfl, ⟨rfl, fun h => absurd h (by omega)⟩, Nat.le_refl _, by simp⟩
  · simp only [List.cons.injEq, and_true] at hcs
    subst hcs
    have hlm : len ≤ m := by rw [hmm]; split <;> omega
    have hall : ∀ i, ∃ e : E3, i < len → (∀ j, j < 3 → W.cell? (a.add (i * 3 + j)) = [Value.int .i64 e.1, .int .i64 e.2.1, .int .i64 e.2.2][j]?) ∧ WfE e := fun i => by
      by_cases hlt : i < len
      · obtain ⟨cs', hc, ht⟩ := hi i (by omega)
        obtain ⟨e, rfl, he⟩ := edge_of ht
        rw [cellsEdge] at hc
        obtain ⟨_, _, hat⟩ := World.cells?_some hc
        exact ⟨e, fun _ => ⟨fun j hj => by rw [← Go.Deep.add_add]; exact hat j hj, he⟩⟩
      · exact ⟨default, fun h => absurd h hlt⟩
    obtain ⟨f, hf⟩ := Classical.axiomOfChoice hall
    refine ⟨some a, len, cap, (List.range len).map f, rfl, ⟨by simp, fun hn => ?_⟩, hl, fun e he => ?_⟩
    · have hz := (hf 0 hn).1 0 (by omega)
      simp only [Nat.zero_mul, Nat.add_zero, List.getElem?_cons_zero] at hz
      obtain ⟨b, off, spot⟩ := a
      have hspot : spot = none := by simpa [Addr.add] using World.cell?_spot hz
      subst hspot
      have hb : b < W.heap.size := by
        rcases Nat.lt_or_ge b W.heap.size with h | h
        · exact h
        · simp [World.cell?, Addr.add, Array.getElem?_eq_none h] at hz
      refine ⟨b, off, rfl, hb, fun i e hie => ?_⟩
      obtain ⟨hil, hie⟩ := List.getElem?_eq_some_iff.1 hie
      simp only [List.length_map, List.length_range] at hil
      simp only [List.getElem_map, List.getElem_range] at hie
      subst hie
      have hc := (hf i hil).1
      refine ⟨?_, ?_, ?_⟩
      · have := hc 0 (by omega); rw [Go.WideShapes.add_plain] at this; simpa using this
      · have := hc 1 (by omega); rw [Go.WideShapes.add_plain] at this; simpa [Nat.add_assoc] using this
      · have := hc 2 (by omega); rw [Go.WideShapes.add_plain] at this; simpa [Nat.add_assoc] using this
    · simp only [List.mem_map, List.mem_range] at he
      obtain ⟨i, hi', rfl⟩ := he
      exact (hf i hi').2

set_option maxRecDepth 100000 in
theorem open_graph {r : Reach} {b0 : Nat} {v : Value} {d : DataW H} {p : List MemPlace} (hv : Value.okWide Tryd.prog W r b0 24 v) (h : DataW.Trod enc Tryd.prog W base spare held 24 v d p) :
    ∃ (n : Int) (A : Option Addr) (len cap : Nat) (es : List E3), v = .agg #[.int .i64 n, .slice A len cap] ∧ EdgesAt W W.heap.size A len es ∧ len ≤ cap ∧ (∀ e ∈ es, WfE e) ∧ (Lit.int .i64 n).wf = true := by
  obtain ⟨c0, c1, y0, y1, m, rfl, _, _, hy0, hy1⟩ := open_agg2 Tryd.underlying24 (by kernel_rfl) cellsGraph hv h
  obtain ⟨n, e0, _, wn⟩ := DataW.trod_int Tryd.underlying3 hy0
  simp only [List.cons.injEq, and_true] at e0
  subst e0
  obtain ⟨A, len, cap, es, rfl, hE, hl, hw⟩ := edges_of hy1
  exact ⟨n, A, len, cap, es, rfl, hE, hl, hw, wn⟩
end
end Go.Proofs.YthfgbgmkiggjmacDoor

namespace Go.Proofs.YthfgbgmkiggjmacDoor
open Go.RowKit

set_option maxRecDepth 100000 in
set_option maxHeartbeats 400000 in
theorem bondsTutte_bad (n : Int) (A : Option Addr) (len cap : Nat) (es : List E3) (v : Int) (w : World) (hE : EdgesAt w w.heap.size A len es) (hcap : len ≤ cap) (hv : gcheck n es = v) (hv0 : v ≠ 0) :
    Calls Tryd.prog 7 #[.agg #[.int .i64 n, .slice A len cap]] w fun e w' => e = .returned (.bool true) ∧ Below w.heap.size w w' := by
  have HX := Lib.hid (BoxG.start (n := n) (cap := cap) hE)
  have HV := Lib.hid hv
  have HV0 := Lib.hid hv0
  have hb0 : (v != 0) = true := by simpa using hv0
  have HGD : Hid ((gcheck n es == 0) = false) := Lib.hid (by rw [hv]; simpa using hv0)
  clear hE hv hv0
  go_enter Tryd.func7, Tryd.ntmps7
  go_wp2_with fail
  refine (mostB_bad n A len cap es v _ (by exact HX.out.edges) HV.out HV0.out).mono ?_
  rintro e w1 ⟨rfl, hb1⟩
  have HX1 := Lib.hid (HX.out.next hb1)
  have hc0 := HX1.out.c0
  have hc1 := HX1.out.c1
  clear hb1
  go_wp2_with fail
  refine (wallB_bad n A len cap es v _ (by exact HX1.out.edges) HV.out HV0.out).mono ?_
  rintro e w2 ⟨rfl, hb2⟩
  have HX2 := Lib.hid (HX1.out.next hb2)
  have hd0 := HX2.out.c0
  have hd1 := HX2.out.c1
  clear hb2
  go_wp2_with fail
  refine (good_v n A len cap es false _ (by exact HX2.out.edges) hcap HGD.out).mono ?_
  rintro e w3 ⟨rfl, hb3⟩
  have HX3 := Lib.hid (HX2.out.next hb3)
  clear hb3
  go_wp2_with fail
  go_ret
  exact ⟨rfl, HX3.out.below⟩

set_option maxRecDepth 100000 in
set_option maxHeartbeats 4000000 in
theorem bondsTutte_good (m : Nat) (A : Option Addr) (len cap : Nat) (es : List E3) (w : World) (hE : EdgesAt w w.heap.size A len es) (hcap : len ≤ cap) (hv : gcheck m es = 0) (hT : Tab w) :
    Calls Tryd.prog 7 #[.agg #[.int .i64 m, .slice A len cap]] w fun e w' => e = .returned (.bool true) ∧ Below w.heap.size w w' := by
  obtain ⟨_, hm10', hl45, hgood⟩ := good_of_gcheck hv
  have hm10 : m ≤ 10 := by omega
  have hlen : len ≤ 45 := by have := hE.1; omega
  have HX := Lib.hid (BoxG.start (n := (m : Int)) (cap := cap) hE)
  have HV := Lib.hid hv
  have HT := Lib.hid hT
  have HG := Lib.hid hgood
  have HIN := Lib.hid (InE.of_good hgood)
  have HGD : Hid ((gcheck m es == 0) = true) := Lib.hid (by rw [hv]; rfl)
  obtain ⟨hok, _, _, hbl⟩ := bndL_ok (es := es) es.length 0 0 (by omega)
  have HBI : Hid (BondI es (bI es)) := Lib.hid ((bondI_map hgood).2 hok)
  have HWB : Hid (∀ a, FirstMax (overW m es) (2 ^ m) a → (oddW m es a : Int) - (szN m a : Int) = (m : Int) - 2 * ((bndL es es.length 0 0).length : Int)) := Lib.hid fun a ha => by
    have h := wall_best hgood ha
    rw [← hbl] at h
    exact h
  have hK := bnd_len hgood
  have h1024 : 2 ^ m ≤ 1024 := by rw [show 1024 = 2 ^ 10 from rfl]; exact Nat.pow_le_pow_right (by decide) hm10
  obtain ⟨P, hP⟩ : ∃ P, 2 ^ m = P := ⟨_, rfl⟩
  have HP := Lib.hid hP
  have hp1 : (2 : Int) ^ m % 4294967296 = (P : Int) := by rw [← hP]; exact pow_mod m (by omega)
  have hp2 : IntKind.u32.wrap ((2 : Int) ^ m) = (P : Int) := by rw [wrap_u32n, hp1]
  have hP10 : P ≤ 1024 := by omega
  clear hE hv hl45 hT hgood hok hbl hP h1024
  go_enter Tryd.func7, Tryd.ntmps7
  go_wp2_with fail
  refine (mostB_v m A len cap es _ (by exact HX.out.edges) HV.out (by exact HX.out.tab HT.out)).mono ?_
  generalize hkk : (bndL es es.length 0 0).length = K at hK HWB
  clear hkk
  rintro e w1 ⟨⟨A1, c1, rfl, hKc, HI1⟩, HB1⟩
  have HX1 := Lib.hid (HX.out.next HB1.out)
  have hc0 := HX1.out.c0
  have hc1 := HX1.out.c1
  clear HB1
  go_wp2_with fail
  refine (wallB_good m A len cap es _ (by exact HX1.out.edges) HV.out (by exact HX1.out.tab HT.out)).mono ?_
  rintro e w2 ⟨⟨a, hfa, rfl⟩, hb2⟩
  have HX2 := Lib.hid (HX1.out.next hb2)
  have HI2 := Lib.hid (HI1.out.go_ hb2)
  have HEQ := Lib.hid (HWB.out a hfa)
  have HAL := Lib.hid hfa.1
  have haP : a < P := by have := hfa.1; rwa [HP.out] at this
  have hd0 := HX2.out.c0
  have hd1 := HX2.out.c1
  have hge : decide ((P : Int) ≤ (a : Int)) = false := decide_eq_false (by omega)
  have hge2 : decide (P ≤ a) = false := decide_eq_false (by omega)
  clear hb2 hfa
  go_wp2_with fail
  refine (good_v m A len cap es true _ (by exact HX2.out.edges) hcap HGD.out).mono ?_
  rintro e w3 ⟨rfl, hb3⟩
  have HX3 := Lib.hid (HX2.out.next hb3)
  have HI3 := Lib.hid (HI2.out.go_ hb3)
  have he0 := HX3.out.c0
  have he1 := HX3.out.c1
  clear hb3
  go_wp2_with fail
  refine (bondK_any m len cap K c1 A A1 es (bI es) true _ (by exact HX3.out.edges) (by exact HI3.out) (by omega) hKc hlen HG.out ⟨fun _ => HBI.out, fun _ => rfl⟩).mono ?_
  rintro e w4 ⟨rfl, hb4⟩
  have HX4 := Lib.hid (HX3.out.next hb4)
  have hf0 := HX4.out.c0
  have hf1 := HX4.out.c1
  have HO := Lib.hid (fun (W : World) (h : EdgesAt W W.heap.size A len es) => refOdd_any m a A len cap es W h hm10 hlen HIN.out (by omega))
  have HS := Lib.hid (fun (W : World) => size_v a (szN m a : Int) (by omega) (by rw [sizeW_szN hm10 HAL.out]) W)
  have l1 := Nat.le_trans (oddW_le m es a) hm10
  have l2 := Nat.le_trans (szN_le m a) hm10
  have heq := HEQ.out
  generalize oddW m es a = o1 at HO l1 heq
  generalize szN m a = o2 at HS l2 heq
  have hw1 : IntKind.i64.wrap (2 * (K : Int)) = 2 * (K : Int) := IntWalk.i64_in _ (by omega)
  have hw2 : IntKind.i64.wrap ((m : Int) - 2 * (K : Int)) = (m : Int) - 2 * (K : Int) := IntWalk.i64_in _ (by omega)
  have hw3 : IntKind.i64.wrap ((o1 : Int) - (o2 : Int)) = (m : Int) - 2 * (K : Int) := by rw [heq]; exact hw2
  clear hb4 heq HX HX1 HX2 HX3 HI1 HI2 HI3 hc0 hc1 hd0 hd1 he0 he1 HV HG HGD HIN HBI HWB HEQ HAL
  go_wp2
  go_region_held3 (fun W => W.cell? ⟨w.heap.size, 0, none⟩ = some (.int .i64 m) ∧ W.cell? ⟨w.heap.size, 1, none⟩ = some (.slice A len cap))
    (first | exact ⟨hf0, hf1⟩ | exact ⟨q0, q1⟩ | go_keep)
    (first
      | (go_at_call 20; refine (HO.out _ (by first | exact HX4.out.edges | exact (HX4.out.next (Below.refl _ _).drew).edges)).mono ?_; rintro e w5 ⟨rfl, hb5⟩; have HX5 := Lib.hid (HX4.out.next (by first | exact hb5 | exact (Below.refl _ _).drew.trans hb5)); clear hb5; have q0 := HX5.out.c0; have q1 := HX5.out.c1)
      | (go_at_call 21; refine (HS.out _).mono ?_; rintro e w6 ⟨rfl, rfl⟩))
  all_goals
    go_wp2
    go_ret
    exact ⟨rfl, HX5.out.below⟩

set_option maxRecDepth 100000 in
theorem bondsTutte_any (n : Int) (A : Option Addr) (len cap : Nat) (es : List E3) (w : World) (hE : EdgesAt w w.heap.size A len es) (hcap : len ≤ cap) (_ : ∀ e ∈ es, WfE e) (_ : (Lit.int .i64 n).wf = true) (hT : Tab w) :
    Calls Tryd.prog 7 #[.agg #[.int .i64 n, .slice A len cap]] w fun e w' => e = .returned (.bool true) ∧ Below w.heap.size w w' := by
  by_cases h : gcheck n es = 0
  · obtain ⟨m, rfl⟩ := Int.eq_ofNat_of_zero_le (good_of_gcheck h).1
    exact bondsTutte_good m A len cap es w hE hcap h hT
  · exact bondsTutte_bad n A len cap es _ w hE hcap rfl h
end Go.Proofs.YthfgbgmkiggjmacDoor

namespace Go.Proofs.YthfgbgmkiggjmacDoor
open Go.ChangeShapes Go.WideShapes Go.ChangeAt Go.RowKit

def tabZ : List Int := [0, 1, 28, 2, 29, 14, 24, 3, 30, 22, 20, 15, 25, 17, 4, 8, 31, 27, 13, 23, 21, 19, 16, 7, 26, 12, 18, 6, 11, 5, 10, 9]
def laidL : List (String × DataW Unit) := [("math/bits.deBruijn32tab", Rows.laid_math_bits_deBruijn32tab)]
set_option maxRecDepth 100000 in
theorem gTab : Tryd.prog.globalNamed "math/bits.deBruijn32tab" = some 0 := by kernel_rfl
set_option maxRecDepth 100000 in
theorem tTab : (Tryd.prog.globals[(0 : Nat)]?).map (·.type) = some 73 := by kernel_rfl
set_option maxRecDepth 100000 in
theorem cTab : Tryd.prog.cellsOf 73 = 32 := by kernel_rfl
set_option maxRecDepth 100000 in
theorem cByte : Tryd.prog.cellsOf 5 = 1 := by kernel_rfl
theorem tabZ_get : ∀ j, j < 32 → tabZ.getD j 0 = ((Lib.deBruijn32tab.getD j 0 : Nat) : Int) := by decide

set_option maxRecDepth 100000 in
theorem tab_of_laid {W : World} (h : laidMetH Tryd.prog laidL W) : Tab W := by
  rw [MakeChecks.laidMetH_plain _ _ _ (by kernel_rfl)] at h
  have ht := Lib.tabIs_of_head (k := .u8) (zs := tabZ) (rest := []) gTab tTab Tryd.underlying73 Tryd.underlying5 cByte cTab (show laidMet Tryd.prog [("math/bits.deBruijn32tab", Lib.tabData .u8 tabZ)] W from h)
  have hc : ∀ j, j < 32 → W.cell? ⟨0, j, none⟩ = some (.int .u8 (Lib.deBruijn32tab.getD j 0)) := fun j hj => by
    rw [ht.cell gTab j (by exact hj), tabZ_get j hj]
  refine ⟨?_, hc⟩
  rcases Nat.lt_or_ge 0 W.heap.size with hlt | hge
  · exact hlt
  · have h0 := hc 0 (by decide)
    simp only [World.cell?, Array.getElem?_eq_none hge] at h0
    cases h0

set_option maxRecDepth 100000 in
theorem door_met (os : Os) (args : Array Value) : laidMetH Tryd.prog laidL ((World.doorLaid Tryd.prog 400 os).forCall (fun _ _ => 0) ⟨#[], args, []⟩).memory :=
  laidMetH_of_parts3 (fuel := 8) (laidMet_of_run' 8 (by kernel_rfl) (by kernel_rfl)) (by kernel_rfl) (by kernel_rfl)
end Go.Proofs.YthfgbgmkiggjmacDoor

namespace Go.Proofs.YthfgbgmkiggjmacDoor
open Go.ChangeShapes Go.WideShapes Go.ChangeAt Go.RowKit

set_option maxRecDepth 100000 in
theorem bondsTutte_lifted (os : Os) (started : os.Started) (H : Type) (enc : TypeId × Value → H) :
    ReturnsInHanded {} Tryd.checked os 7 .any (fun w args => (Rows.bondsTutteSpec.pre enc Tryd.prog Tryd.f7 [] false w args ∧ laidMetH Tryd.prog laidL w) ∧ sizedMet enc Tryd.prog Tryd.f7 (OpenSpec.ofChange Rows.bondsTutteSpec) false w args)
      (Rows.bondsTutteSpec.post enc Tryd.prog Tryd.f7 false true false false) := by
  refine returnsInHanded_of_change_and (C := Tryd.checked) (X := fun w _ => laidMetH Tryd.prog laidL w) (fun _ _ _ hh h => h.of_heap hh) ownK started (by kernel_rfl) Tryd.func7
    (ChangeSpec.witness_shaped (enc := enc) (C := Tryd.checked) (os := os) (X := fun w _ => laidMetH Tryd.prog laidL w) false (World.doorLaid Tryd.prog 400 os) #[.agg #[.int .i64 0, .slice none 0 0]] 8 rfl (World.shaped_of_RefB (by kernel_rfl) (by kernel_rfl)) (by kernel_rfl) (by kernel_rfl) (by kernel_rfl) (door_met os _)) ?_
  intro W base args ds gs before hval0 hW _ _ hL _
  have hval : ∀ (j : Nat) t v, Tryd.f7.params[j]? = some t → args[j]? = some v → Value.okWide Tryd.prog W .any base t v := hval0
  have hW' := hW
  obtain ⟨p, q, hA0, hV, rfl, _, _⟩ := hW
  have hA : DataW.TrodAll enc Tryd.prog W 0 (fun _ => true) true Tryd.f7.params.toList args.toList ds p := hA0
  rw [Tryd.params7] at hA hval
  obtain ⟨v0, d0, rfl, rfl, h0⟩ := trodAll_one hA
  obtain ⟨rfl, rfl⟩ := trodVars_none hV
  obtain ⟨n, A, len, cap, es, rfl, hE, hcap, hwf, hwn⟩ := open_graph (hval 0 24 v0 rfl rfl) h0
  clear hA0 hval0
  simp only [List.append_nil] at hW'
  refine (bondsTutte_any n A len cap es W hE hcap hwf hwn (tab_of_laid hL)).mono fun e W' ⟨he, hb⟩ => ?_
  subst he
  exact ⟨_, rfl, _, _, _, [], p, [], hW', trodAll_mk1 (shut_bool Tryd.underlying4 _), trodAll_mk1 (Below.trod laidOutO recGraph rowGraph h0 hb (fun x hx => hW'.lt x hx)), rfl, hb.frame _, fun h => by cases h⟩

set_option maxRecDepth 100000 in
theorem bondsTutte_holds : Rows.BondsTutteSaid :=
  OpenClaim.holds_of_wide 7 Tryd.f7 rfl rfl rfl rfl rfl rfl rfl ⟨rfl, rfl, rfl, rfl, rfl⟩ rfl rfl rfl rfl rfl (by kernel_rfl) Tryd.func7 (by kernel_rfl)
    (of_decide_eq_true (by kernel_rfl)) (by unfold Func.isWrapper; first | (rw [if_pos (by decide +kernel)]; kernel_rfl) | (rw [if_neg (by decide +kernel)]; exact ⟨rfl, rfl⟩))
    (fun os started H enc _ => bondsTutte_lifted os started H enc)

set_option maxRecDepth 100000 in
theorem bondsTutte_card : Rows.BondsTutteCardSaid :=
  Claim7.holds_tied_plain_at .later [] [.data] true Rows.bondsTutteCard.stood.harness false
    bondsTutte_holds (fun _ h => by cases h) (by kernel_rfl) (fun _ h => by cases h) bondsTutte_row_tie rfl ⟨rfl, rfl⟩ (by kernel_rfl) rfl
    (fun f fn hf hfn => by
      obtain rfl : f = 7 := Option.some.inj ((show Tryd.prog.funcNamed "teamster/teamsterkeep.BondsTutte" = some 7 by kernel_rfl).symm.trans hf) |>.symm
      obtain rfl : fn = Tryd.f7 := (Option.some.inj (Tryd.func7.symm.trans hfn)).symm
      exact ⟨by kernel_rfl, fun j t ht => by
        rw [Tryd.params7] at ht
        have hm : t ∈ [24] := by simpa using Array.mem_of_getElem? ht
        have hall : ([24].all fun u => !Tryd.prog.wantsStandIn u) = true := by kernel_rfl
        exact (show Tryd.prog.wantsStandIn t = false by simpa using List.all_eq_true.1 hall t hm)⟩)
    (by kernel_rfl)
#print axioms bondsTutte_card
end Go.Proofs.YthfgbgmkiggjmacDoor
