/- The statement ChordDiracSaid, out of the law's walk. No conditions. -/
import Derived.Test.YticickicfigpbaaAdj
import Derived.Test.YticickicfigpbaaRefCheck
import Derived.Test.YticickicfigpbaaRows2
import Derived.Test.YticickicfigpbaaBoxB
import Derived.Test.YticickicfigpbaaNatG
import Derived.Test.YticickicfigpbaaElimP
import Derived.Test.YticickicfigpbaaOwn
import Derived.Test.YticickicfigpbaaCheckGo
import Derived.Test.YticickicfigpbaaSidesP
import Derived.Test.YticickicfigpbaaChordTop
import Derived.Test.YticickicfigpbaaMem
import Derived.Test.YticickicfigpbaaChordOrderTop
import Derived.Test.YticickicfigpbaaChordRingTop
import Derived.Deep.AppendLies
import Derived.Laws.OwnMore
import Derived.IntWalk
import Derived.Deep.QuietTactic
import Derived.BigQuiet
import Derived.Deep.RegionHeld3
import Derived.Test.YticickicfigpbaaRows
import Derived.ProofKit
import Derived.Deep.Slices
import Derived.Deep.Strs
import Derived.Lib.SmallJoins
namespace Go.Proofs.Yticickicfigpbaa
open Go.RowKit

def nearB (a b : Int) (e : E3) : Bool := (e.1 == a && e.2.1 == b) || (e.1 == b && e.2.1 == a)
def nearI (es : List E3) (a b : Int) : Bool := es.any (nearB a b)
theorem nearI_nat (es : List E3) (a b : Nat) : nearI es (a : Int) (b : Int) = adjE es a b := rfl

set_option maxRecDepth 100000 in
set_option maxHeartbeats 400000 in
theorem near_any (n a b : Int) (A : Option Addr) (len cap : Nat) (es : List E3) (w : World) (hE : EdgesAt w w.heap.size A len es) (hl : len ≤ 45) :
    Calls Try.prog 30 #[.agg #[.int .i64 n, .slice A len cap], .int .i64 a, .int .i64 b] w fun e w' => e = .returned (.bool (nearI es a b)) ∧ Below w.heap.size w w' := by
  go_enter Try.func30, Try.ntmps30
  go_wp2
  go_loopw [12] (fun j wr => ∃ k : Nat, k ≤ len ∧ j = .int .i64 k ∧ Hid (nearI (es.take k) a b = false) ∧ Below w.heap.size w wr) (fun j _ => len - (intOf j).toNat)
  case atStart => exact ⟨0, Nat.zero_le _, rfl, Lib.hid rfl, (Below.refl _ _).alloc (Nat.le_refl _) _⟩
  case round =>
    obtain ⟨k, hk, rfl, HN, hB⟩ := hrel
    by_cases hlt : k < len
    · obtain ⟨b', off, ⟨a0, a1, a2⟩, rfl, hb, hx, hc0, hc1, hc2⟩ := (hE.below hB).at_ hlt
      by_cases hs : nearB a b (a0, a1, a2) = true
      · have HR : Hid (nearI es a b = true) := Lib.hid (by unfold nearI; rw [List.any_eq_true]; exact ⟨_, List.mem_of_getElem? hx, hs⟩)
        have hw : ((a0 == a) = true ∧ (a1 == b) = true) ∨ ((a0 == a) = false ∧ (a0 == b) = true ∧ (a1 == a) = true) ∨ ((a0 == a) = true ∧ (a1 == b) = false ∧ (a0 == b) = true ∧ (a1 == a) = true) := by
          simp [nearB] at hs; simp; omega
        clear hs hx
        rcases hw with ⟨h1, h2⟩ | ⟨h1, h2, h3⟩ | ⟨h1, h2, h3, h4⟩
        all_goals
          go_wp2
          go_ret
          exact ⟨ret_bool HR.out.symm, hB.alloc hB.size _⟩
      · have HN2 : Hid (nearI (es.take (k + 1)) a b = false) := Lib.hid (by
          obtain ⟨hkl, hxe⟩ := List.getElem?_eq_some_iff.1 hx
          have := HN.out
          unfold nearI at this ⊢
          rw [List.take_succ_eq_append_getElem hkl, hxe, any_snoc, this]
          simpa using hs)
        have hw : ((a0 == a) = true ∧ (a1 == b) = false ∧ (a0 == b) = false) ∨ ((a0 == a) = true ∧ (a1 == b) = false ∧ (a0 == b) = true ∧ (a1 == a) = false) ∨ ((a0 == a) = false ∧ (a0 == b) = true ∧ (a1 == a) = false) ∨ ((a0 == a) = false ∧ (a0 == b) = false) := by
          simp [nearB] at hs; simp; omega
        clear hs hx
        rcases hw with ⟨h1, h2, h3⟩ | ⟨h1, h2, h3, h4⟩ | ⟨h1, h2, h3⟩ | ⟨h1, h2⟩
        all_goals
          go_wp2
          go_roundw
          case rel => exact ⟨k + 1, by omega, by go_num, HN2, hB.alloc hB.size _⟩
          case measure => simp [intOf]; omega
    · have HR : Hid (nearI es a b = false) := Lib.hid (by
        have := HN.out
        rwa [List.take_of_length_le (by have := hE.1; omega)] at this)
      go_wp2
      go_ret
      exact ⟨ret_bool HR.out.symm, hB⟩
set_option maxRecDepth 100000 in
theorem near_v (n a b : Int) (A : Option Addr) (len cap : Nat) (es : List E3) (v : Bool) (w : World) (hE : EdgesAt w w.heap.size A len es) (hl : len ≤ 45) (hv : nearI es a b = v) :
    Calls Try.prog 30 #[.agg #[.int .i64 n, .slice A len cap], .int .i64 a, .int .i64 b] w fun e w' => e = .returned (.bool v) ∧ Below w.heap.size w w' := by
  subst hv; exact near_any n a b A len cap es w hE hl
end Go.Proofs.Yticickicfigpbaa

namespace Go.Proofs.Yticickicfigpbaa
open Go.RowKit

def hasI (xs : List Int) (v : Int) : Bool := xs.contains v
theorem hasI_iff {xs : List Int} {v : Int} : hasI xs v = true ↔ v ∈ xs := by unfold hasI; rw [List.contains_iff_mem]
set_option maxRecDepth 100000 in
set_option maxHeartbeats 400000 in
theorem has_any (n cap : Nat) (v : Int) (A : Option Addr) (xs : List Int) (w : World) (hA : IntsAt w w.heap.size A n xs) (hn : n ≤ 9223372036854775807) :
    Calls Try.prog 27 #[.slice A n cap, .int .i64 v] w fun e w' => e = .returned (.bool (hasI xs v)) ∧ w = w' := by
  have HA := Lib.hid hA
  clear hA
  go_enter Try.func27, Try.ntmps27
  go_wp2
  go_loop [9] (fun j => ∃ i : Nat, i ≤ n ∧ j = .int .i64 i ∧ Hid (v ∉ xs.take i)) (fun j => n - (intOf j).toNat)
  case atStart => exact ⟨0, Nat.zero_le _, rfl, Lib.hid (by simp)⟩
  case round =>
    obtain ⟨i, hi, rfl, HT⟩ := hrel
    by_cases hin : i < n
    · obtain ⟨b, off, x, rfl, _, hx, hc⟩ := HA.out.at_ hin
      have ix0 : (0 : Int) ≤ (i : Int) := by omega
      have ix1 : (i : Int) < (n : Int) := by omega
      by_cases hvx : v = x
      · subst hvx
        have HR : Hid (hasI xs v = true) := Lib.hid (by rw [hasI_iff]; exact List.mem_of_getElem? hx)
        clear hx
        go_wp2
        go_ret
        exact ⟨ret_bool HR.out.symm, rfl⟩
      · have hne : (v == x) = false := by simpa using hvx
        have HN : Hid (v ∉ xs.take (i + 1)) := Lib.hid (by
          obtain ⟨h1, h2⟩ := List.getElem?_eq_some_iff.1 hx
          rw [List.take_succ_eq_append_getElem h1, h2, List.mem_append, List.mem_singleton]
          exact fun h => h.elim HT.out hvx)
        clear hx
        go_wp2
        go_round
        case rel => exact ⟨i + 1, by omega, by go_num, HN⟩
        case measure => simp [intOf]; omega
    · have HR : Hid (hasI xs v = false) := Lib.hid (by
        unfold hasI
        have := HT.out
        rw [List.take_of_length_le (by have := HA.out.1; omega)] at this
        simpa using this)
      go_wp2
      go_ret
      exact ⟨ret_bool HR.out.symm, rfl⟩
set_option maxRecDepth 100000 in
theorem has_v (n cap : Nat) (v : Int) (b : Bool) (A : Option Addr) (xs : List Int) (w : World) (hA : IntsAt w w.heap.size A n xs) (hn : n ≤ 9223372036854775807) (hb : hasI xs v = b) :
    Calls Try.prog 27 #[.slice A n cap, .int .i64 v] w fun e w' => e = .returned (.bool b) ∧ w = w' := by
  subst hb; exact has_any n cap v A xs w hA hn
end Go.Proofs.Yticickicfigpbaa

namespace Go.Proofs.Yticickicfigpbaa
open Go.RowKit

/-- Two neighbours that are left, without an edge. -/
def badB (adj : Nat → Nat → Bool) (l : List Nat) (i a b : Nat) : Bool := adj i a && adj i b && !decide (a ∈ l) && !decide (b ∈ l) && !adj a b
def BadTo (adj : Nat → Nat → Bool) (l : List Nat) (i a b : Nat) : Prop := ∀ b', b' < b → badB adj l i a b' = false
theorem hasI_natG {l : List Nat} {k : Nat} : hasI (natG l) (k : Int) = decide (k ∈ l) := by
  rw [Bool.eq_iff_iff, hasI_iff, decide_eq_true_iff]
  unfold natG
  rw [List.mem_map]
  constructor
  · rintro ⟨x, hx, e⟩
    have : x = k := by omega
    rw [← this]; exact hx
  · exact fun h => ⟨k, h, rfl⟩
theorem BadTo.next {adj : Nat → Nat → Bool} {l : List Nat} {i a b : Nat} (h : BadTo adj l i a b) (hb : badB adj l i a b = false) : BadTo adj l i a (b + 1) := fun b' hb' => by
  by_cases e : b' = b
  · subst e; exact hb
  · exact h b' (by omega)
set_option maxRecDepth 100000 in
set_option maxHeartbeats 8000000 in
theorem refSimple_any (n i : Nat) (A : Option Addr) (len cap : Nat) (es : List E3) (Ag : Option Addr) (lg cg : Nat) (gone : List Nat) (r : Bool) (w : World) (hE : EdgesAt w w.heap.size A len es) (hI : IntsAt w w.heap.size Ag lg (natG gone)) (hn : n ≤ 10) (hl : len ≤ 45) (hg : lg ≤ 1000)
    (hr : r = true ↔ ∀ a b, b < a → a < n → badB (adjE es) gone i a b = false) :
    Calls Try.prog 16 #[.agg #[.int .i64 (n : Int), .slice A len cap], .int .i64 (i : Int), .slice Ag lg cg] w fun e w' => e = .returned (.bool r) ∧ Below w.heap.size w w' := by
  have HX := Lib.hid (BoxG.start (n := (n : Int)) (cap := cap) hE)
  have HRR : Hid (r = true ↔ ∀ a b, b < a → a < n → badB (adjE es) gone i a b = false) := Lib.hid hr
  have HII := Lib.hid hI
  have HNR := Lib.hid (fun (x y : Nat) (b : Bool) (h : adjE es x y = b) W (hW : EdgesAt W W.heap.size A len es) => near_v (n : Int) (x : Int) (y : Int) A len cap es b W hW hl h)
  have HHS := Lib.hid (fun (x : Nat) (b : Bool) (h : decide (x ∈ gone) = b) W (hW : Below w.heap.size w W) => has_v lg cg (x : Int) b Ag (natG gone) W ((hI.below hW).more hW.size) (by omega) (by rw [hasI_natG]; exact h))
  clear hE hr hI
  go_enter Try.func16, Try.ntmps16
  go_wp2_with fail
  go_loopw [7] (fun y wr => ∃ a : Nat, a ≤ n ∧ y = .int .i64 a ∧ Hid (∀ a' b', b' < a' → a' < a → badB (adjE es) gone i a' b' = false) ∧ Hid (BoxG w (n : Int) A len cap es wr)) (fun y _ => n - (intOf y).toNat)
  case atStart => exact ⟨0, Nat.zero_le _, rfl, Lib.hid (fun a' _ _ h => absurd h (Nat.not_lt_zero a')), HX⟩
  case round =>
    clear HX
    obtain ⟨a, ha, rfl, HC, HXr⟩ := hrel
    have k0 := HXr.out.c0
    by_cases han : a < n
    · have han' : (a : Int) < (n : Int) := by omega
      obtain ⟨wo, hwo⟩ : ∃ wo : World, wo = wr := ⟨_, rfl⟩
      rw [← hwo] at HXr k0 ⊢
      clear hwo
      go_wp2_with fail
      go_loopw [8] (fun y wr => ∃ b : Nat, b ≤ a ∧ y = .int .i64 b ∧ Hid (BadTo (adjE es) gone i a b) ∧ Hid (BoxG w (n : Int) A len cap es wr)) (fun y _ => a - (intOf y).toNat)
      case atStart => exact ⟨0, Nat.zero_le _, rfl, Lib.hid (fun b' h => absurd h (Nat.not_lt_zero b')), HXr⟩
      case round =>
        clear HXr k0
        obtain ⟨b, hb, rfl, HJ, HXq⟩ := hrel
        have q0 := HXq.out.c0
        have q1 := HXq.out.c1
        by_cases hba : b < a
        · have hba' : (b : Int) < (a : Int) := by omega
          have HSK := Lib.hid (fun (h : badB (adjE es) gone i a b = false) => HJ.out.next h)
          have HBD : Hid (badB (adjE es) gone i a b = (adjE es i a && adjE es i b && !decide (a ∈ gone) && !decide (b ∈ gone) && !adjE es a b)) := Lib.hid rfl
          have HFL : Hid (badB (adjE es) gone i a b = true → r = false) := Lib.hid fun h => by
            cases hrv : r with
            | false => rfl
            | true => rw [HRR.out.1 hrv a b hba han] at h; cases h
          obtain ⟨v1, hv1⟩ : ∃ v, adjE es i a = v := ⟨_, rfl⟩
          obtain ⟨v2, hv2⟩ : ∃ v, adjE es i b = v := ⟨_, rfl⟩
          obtain ⟨v3, hv3⟩ : ∃ v, decide (a ∈ gone) = v := ⟨_, rfl⟩
          obtain ⟨v4, hv4⟩ : ∃ v, decide (b ∈ gone) = v := ⟨_, rfl⟩
          obtain ⟨v5, hv5⟩ : ∃ v, adjE es a b = v := ⟨_, rfl⟩
          have H1 := Lib.hid (HNR.out i a v1 hv1)
          have H2 := Lib.hid (HNR.out i b v2 hv2)
          have H3 := Lib.hid (HHS.out a v3 hv3)
          have H4 := Lib.hid (HHS.out b v4 hv4)
          have H5 := Lib.hid (HNR.out a b v5 hv5)
          rw [hv1, hv2, hv3, hv4, hv5] at HBD
          clear hv1 hv2 hv3 hv4 hv5 HJ
          go_wp2_with fail
          refine (H1.out _ HXq.out.edges).mono ?_
          rintro e w1 ⟨rfl, hB⟩
          have HX1 := Lib.hid (HXq.out.next hB)
          clear hB q0 q1
          have q0 := HX1.out.c0
          have q1 := HX1.out.c1
          cases v1 with
          | false =>
            have HN := Lib.hid (HSK.out (by rw [HBD.out]; rfl))
            go_wp2_with fail
            go_roundw
            case rel => exact ⟨b + 1, by omega, by go_num, HN, HX1⟩
            case measure => simp [intOf]; omega
          | true =>
            go_wp2_with fail
            refine (H2.out _ HX1.out.edges).mono ?_
            rintro e w2 ⟨rfl, hB⟩
            have HX2 := Lib.hid (HX1.out.next hB)
            clear hB q0 q1
            have q0 := HX2.out.c0
            have q1 := HX2.out.c1
            cases v2 with
            | false =>
              have HN := Lib.hid (HSK.out (by rw [HBD.out]; rfl))
              go_wp2_with fail
              go_roundw
              case rel => exact ⟨b + 1, by omega, by go_num, HN, HX2⟩
              case measure => simp [intOf]; omega
            | true =>
              go_wp2_with fail
              refine (H3.out _ HX2.out.below).mono ?_
              rintro e w3 ⟨rfl, rfl⟩
              cases v3 with
              | true =>
                have HN := Lib.hid (HSK.out (by rw [HBD.out]; rfl))
                go_wp2_with fail
                go_roundw
                case rel => exact ⟨b + 1, by omega, by go_num, HN, HX2⟩
                case measure => simp [intOf]; omega
              | false =>
                go_wp2_with fail
                refine (H4.out _ HX2.out.below).mono ?_
                rintro e w4 ⟨rfl, rfl⟩
                cases v4 with
                | true =>
                  have HN := Lib.hid (HSK.out (by rw [HBD.out]; rfl))
                  go_wp2_with fail
                  go_roundw
                  case rel => exact ⟨b + 1, by omega, by go_num, HN, HX2⟩
                  case measure => simp [intOf]; omega
                | false =>
                  go_wp2_with fail
                  refine (H5.out _ HX2.out.edges).mono ?_
                  rintro e w5 ⟨rfl, hB⟩
                  have HX5 := Lib.hid (HX2.out.next hB)
                  clear hB q0 q1
                  cases v5 with
                  | true =>
                    have HN := Lib.hid (HSK.out (by rw [HBD.out]; rfl))
                    go_wp2_with fail
                    go_roundw
                    case rel => exact ⟨b + 1, by omega, by go_num, HN, HX5⟩
                    case measure => simp [intOf]; omega
                  | false =>
                    have HF := Lib.hid (HFL.out (by rw [HBD.out]; rfl))
                    go_wp2_with fail
                    go_ret
                    exact ⟨ret_bool HF.out.symm, HX5.out.below⟩
        · obtain rfl : b = a := by omega
          have HN : Hid (∀ a' b', b' < a' → a' < b + 1 → badB (adjE es) gone i a' b' = false) := Lib.hid (fun a' b' h1 h2 => by
            by_cases e : a' = b
            · subst e; exact HJ.out b' h1
            · exact HC.out a' b' h1 (by omega))
          clear HJ HC q0 q1
          go_wp2_with fail
          go_roundw
          case rel => exact ⟨b + 1, by omega, by go_num, HN, HXq⟩
          case measure => simp [intOf]; omega
    · obtain rfl : a = n := by omega
      have HT : Hid (r = true) := Lib.hid (HRR.out.2 fun x y h1 h2 => HC.out x y h1 h2)
      go_wp2_with fail
      go_ret
      exact ⟨ret_bool HT.out.symm, HXr.out.below⟩
end Go.Proofs.Yticickicfigpbaa

namespace Go.Proofs.Yticickicfigpbaa
open Go.RowKit

def prevZ : Nat → Int
  | 0 => -1
  | i + 1 => (i : Int)
def lenZ : Value → Nat
  | .slice _ k _ => k
  | _ => 0
def nxZ : Option Nat → Int
  | none => -1
  | some k => (k : Int)
theorem prevZ_sub (i : Nat) : (i : Int) - 1 = prevZ i := by
  cases i with
  | zero => rfl
  | succ i => show ((i + 1 : Nat) : Int) - 1 = (i : Int); omega
theorem own_roomC {w : World} {base n c : Nat} {t : TypeId} {A : Option Addr} {xs : List Value} (h : w.ownsRow base t 1 (.slice A n c) n xs) : n ≤ c := by
  rcases h.2 with ⟨hv, h0⟩ | ⟨g, cap, cur, hv, _, _, hle, _⟩
  · omega
  · injection hv with _ _ hc; omega
theorem own_keepC {w w' : World} {base n : Nat} {t : TypeId} {v : Value} {xs : List Value} (h : w.ownsRow base t 1 v n xs) (hb : Below w.heap.size w w') : w'.ownsRow base t 1 v n xs := by
  refine ⟨h.1, ?_⟩
  rcases h.2 with h0 | ⟨g, cap, cur, hv, hg, hr, hrest⟩
  · exact .inl h0
  · exact .inr ⟨g, cap, cur, hv, hg, (hb.block g (Array.getElem?_eq_some_iff.1 hr).1).trans hr, hrest⟩
/-- What Chords tells. -/
def ChoOut (w : World) (n : Nat) (v : Option (List Nat)) (e : Ending) (w' : World) : Prop :=
  (v = none → e = .returned (.tuple #[.slice none 0 0, .bool false])) ∧ (∀ l, v = some l → ∃ A' c', e = .returned (.tuple #[.slice A' n c', .bool true]) ∧ IntsAt w' w'.heap.size A' n (natG l) ∧ n ≤ c') ∧ Below w.heap.size w w'
theorem natG_add (l : List Nat) (i : Nat) : (natG (l ++ [i])).map (Value.int .i64) = (natG l).map (Value.int .i64) ++ [.int .i64 (i : Int)] := by simp [natG]
theorem simpB_bad {adj : Nat → Nat → Bool} {n i : Nat} {l : List Nat} (r : Bool) (hr : r = true ↔ ∀ a b, b < a → a < n → badB adj l i a b = false) : simpB adj n l i = (!decide (i ∈ l) && r) := by
  unfold simpB
  congr 1
  rw [Bool.eq_iff_iff, hr, List.all_eq_true]
  constructor
  · intro h a b hba han
    have h1 := h a (List.mem_range.2 han)
    rw [List.all_eq_true] at h1
    have h2 := h1 b (List.mem_range.2 hba)
    rw [Bool.not_eq_true'] at h2
    exact h2
  · intro h a ha
    rw [List.all_eq_true]
    intro b hb
    have h1 := h a b (List.mem_range.1 hb) (List.mem_range.1 ha)
    unfold badB at h1
    rw [h1]; rfl
set_option maxRecDepth 100000 in
set_option maxHeartbeats 8000000 in
theorem refChords_any (n : Nat) (A : Option Addr) (len cap : Nat) (es : List E3) (v : Option (List Nat)) (w : World) (hE : EdgesAt w w.heap.size A len es) (hn10 : n ≤ 10) (hl : len ≤ 45) (hv : elimF (adjE es) n n [] = v) :
    Calls Try.prog 9 #[.agg #[.int .i64 (n : Int), .slice A len cap]] w (ChoOut w n v) := by
  have HST := Lib.hid (BoxG.start (n := (n : Int)) (cap := cap) hE)
  have HV := Lib.hid hv
  obtain ⟨i0, hi, hz0, hz1, hz2⟩ := info_parts infoInt
  have HI := Lib.hid hi
  have HI0 := Lib.hid hz0
  have HI1 := Lib.hid hz1
  have HI2 := Lib.hid hz2
  have HSI := Lib.hid (fun (i : Nat) (A1 : Option Addr) (k c1 : Nat) (l : List Nat) (r : Bool) (hk : k ≤ 1000) (hr : r = true ↔ ∀ a b, b < a → a < n → badB (adjE es) l i a b = false) W (hW : EdgesAt W W.heap.size A len es) (hI : IntsAt W W.heap.size A1 k (natG l)) => refSimple_any n i A len cap es A1 k c1 l r W hW hI hn10 hl hk hr)
  have HBS : Hid ((bx w (n : Int) A len cap).heap.size = w.heap.size + 1) := Lib.hid (by simp [bx])
  clear hi hz0 hz1 hz2 hv hE
  have hw0 : IntKind.i64.wrap ((n : Int) - 1) = (n : Int) - 1 := IntWalk.i64_in _ (by omega)
  go_enter Try.func9, Try.ntmps9
  go_wp2_with fail
  go_loopw [4, 5, 6] (fun a _ _ wr => ∃ (k c1 : Nat) (A1 : Option Addr) (l : List Nat), a = .slice A1 k c1 ∧ k ≤ n ∧ Hid (wr.ownsRow (w.heap.size + 1) 3 1 (.slice A1 k c1) k ((natG l).map (Value.int .i64))) ∧ Hid (elimF (adjE es) n (n - k) l = v) ∧ Hid (Below (w.heap.size + 1) (bx w (n : Int) A len cap) wr)) (fun a _ _ _ => n - lenZ a)
  case atStart => exact ⟨0, 0, none, [], rfl, Nat.zero_le _, Lib.hid (World.ownsRow_nil ..), HV, Lib.hid (Below.refl _ _)⟩
  case round =>
    obtain ⟨k, c1, A1, l, rfl, hk, HO, HD, HB⟩ := hrel
    have HXr := Lib.hid (HST.out.next (by rw [HBS.out]; exact HB.out))
    have k0 := HXr.out.c0
    by_cases hkn : k < n
    · have HLI : Hid (IntsAt wr wr.heap.size A1 k (natG l)) := Lib.hid (IntsAt.of_own HO.out (Nat.le_refl _))
      have hki : (k : Int) < (n : Int) := by omega
      obtain ⟨wo, hwo⟩ : ∃ wo : World, wo = wr := ⟨_, rfl⟩
      rw [← hwo] at HO HB HXr k0 HLI ⊢
      clear hwo
      go_wp2_with fail
      go_loopw [5, 6] (fun y z wr => ∃ i : Nat, i ≤ n ∧ y = .int .i64 (nxZ (nextF (simpB (adjE es) n l) n i)) ∧ z = .int .i64 (prevZ i) ∧ Hid (Below wo.heap.size wo wr)) (fun _ z _ => (intOf z + 1).toNat)
      case atStart => exact ⟨n, Nat.le_refl _, by rw [nextF_end]; rfl, by rw [← prevZ_sub], Lib.hid (Below.refl _ _)⟩
      case round =>
        obtain ⟨i, hi, rfl, rfl, HBq⟩ := hrel
        have HBQ : Hid (Below (w.heap.size + 1) (bx w (n : Int) A len cap) wr) := Lib.hid (HB.out.trans (HBq.out.mono (by have := HB.out.size; have := HBS.out; omega)))
        have HXq := Lib.hid (HST.out.next (by rw [HBS.out]; exact HBQ.out))
        have HOq := Lib.hid (own_keepC HO.out HBq.out)
        have HLq := Lib.hid (HLI.out.go_ HBq.out)
        cases i with
        | zero =>
          rw [show prevZ 0 = -1 from rfl]
          cases hq : nextF (simpB (adjE es) n l) n 0 with
          | none =>
            rw [show nxZ none = -1 from rfl]
            have HVN : Hid (v = none) := Lib.hid (by
              rw [← HD.out, show n - k = (n - k - 1) + 1 by omega]
              exact elim_stuck hq)
            have HR : Hid (∀ e, e = Ending.returned (.tuple #[.slice none 0 0, .bool false]) → ChoOut w n v e wr) := Lib.hid fun e he => by
              rw [HVN.out]
              exact ⟨fun _ => he, (fun l h => by cases h), HXq.out.below⟩
            clear hq
            go_wp2_with fail
            go_ret2
            exact HR.out _ rfl
          | some x =>
            rw [show nxZ (some x) = (x : Int) from rfl]
            obtain ⟨_, hxn, _⟩ := nextF_some hq
            have HD2 : Hid (elimF (adjE es) n (n - (k + 1)) (l ++ [x]) = v) := Lib.hid (by
              rw [← HD.out, show n - k = (n - (k + 1)) + 1 by omega]
              exact (elim_step hq).symm)
            have HSN := Lib.hid (natG_add l x)
            have hx0 : (0 : Int) ≤ (x : Int) := by omega
            clear hq
            go_wp2_with (at_builtin; refine wpList_append_own _ rfl _ _ 25 rfl (w.heap.size + 1) 3 i0 (.int .i64 0) 1 8 Try.underlying25 HI.out HI0.out HI1.out HI2.out rfl (by decide) _ _ _ rfl (HOq.out.alloc _) ⟨wr.heap.size, 0, none⟩ 1 1 [.int .i64 (x : Int)] rfl rfl ?c1 ?c2 ?c3 ?c4 ?c5 ?_)
            try (case c1 => exact cell_one_new _ _ _)
            case c2 => simp [Value.oneCell']
            case c3 => unfold maxLen; omega
            case c4 => omega
            case c5 => have := HBQ.out.size; have := HBS.out; simp; omega
            intro v' w3 hown' hgrow _
            obtain ⟨A3, c3, rfl⟩ := own_form hown'
            have HO' : Hid (w3.ownsRow (w.heap.size + 1) 3 1 (.slice A3 (k + 1) c3) (k + 1) ((natG (l ++ [x])).map (Value.int .i64))) := Lib.hid (by rw [HSN.out]; exact hown')
            have HB3 : Hid (Below (w.heap.size + 1) (bx w (n : Int) A len cap) w3) := Lib.hid ((HBQ.out.alloc (by have := HBQ.out.size; have := HBS.out; omega) _).grown hgrow (by have := HBQ.out.size; have := HBS.out; simp; omega) (own_base HOq.out))
            clear hown' hgrow
            go_wp2
            go_roundw
            case rel => exact ⟨k + 1, c3, A3, l ++ [x], rfl, by omega, HO', HD2, HB3⟩
            case measure => show n - (k + 1) < n - k; omega
        | succ i =>
          rw [show prevZ (i + 1) = (i : Int) from rfl]
          have hiw : IntKind.i64.wrap ((i : Int) - 1) = (i : Int) - 1 := IntWalk.i64_in _ (by omega)
          have ii0 : (0 : Int) ≤ (i : Int) := by omega
          have ii1 : (i : Int) < (n : Int) := by omega
          have HNS := Lib.hid (nextF_step (f := simpB (adjE es) n l) (n := n) (i := i) (by omega))
          obtain ⟨r, hr⟩ : ∃ r : Bool, r = true ↔ ∀ a b, b < a → a < n → badB (adjE es) l i a b = false := by
            by_cases h : ∀ a b, b < a → a < n → badB (adjE es) l i a b = false
            · exact ⟨true, fun _ => h, fun _ => rfl⟩
            · exact ⟨false, fun h2 => (by cases h2), fun h2 => absurd h2 h⟩
          have HSB := Lib.hid (simpB_bad r hr)
          have HSM := Lib.hid (HSI.out i A1 k c1 l r (by omega) hr)
          have q0 := HXq.out.c0
          have q1 := HXq.out.c1
          clear hr
          cases hq : decide (i ∈ l) with
          | true =>
            have HH := Lib.hid (has_v k c1 (i : Int) true A1 (natG l) wr HLq.out (by omega) (by rw [hasI_natG]; exact hq))
            have HN : Hid (nextF (simpB (adjE es) n l) n i = nextF (simpB (adjE es) n l) n (i + 1)) := Lib.hid (by rw [HNS.out, HSB.out, hq]; rfl)
            clear hq
            go_wp2_with fail
            refine HH.out.mono ?_
            rintro e w2 ⟨rfl, rfl⟩
            go_wp2_with fail
            go_roundw
            case rel => exact ⟨i, by omega, by rw [HN.out], by rw [← prevZ_sub], HBq⟩
            case measure => simp [intOf]
          | false =>
            have HH := Lib.hid (has_v k c1 (i : Int) false A1 (natG l) wr HLq.out (by omega) (by rw [hasI_natG]; exact hq))
            have HSR : Hid (simpB (adjE es) n l i = r) := Lib.hid (by rw [HSB.out, hq]; rfl)
            clear hq
            go_wp2_with fail
            refine HH.out.mono ?_
            rintro e w2 ⟨rfl, rfl⟩
            go_wp2_with fail
            refine (HSM.out _ HXq.out.edges HLq.out).mono ?_
            rintro e w4 ⟨rfl, hB4⟩
            have HB4 : Hid (Below wo.heap.size wo w4) := Lib.hid (HBq.out.trans (hB4.mono HBq.out.size))
            clear hB4 q0 q1
            cases r with
            | true =>
              have HN : Hid (nextF (simpB (adjE es) n l) n i = some i) := Lib.hid (by rw [HNS.out, HSR.out]; rfl)
              go_wp2_with fail
              go_roundw
              case rel => exact ⟨i, by omega, by rw [HN.out]; rfl, by rw [← prevZ_sub], HB4⟩
              case measure => simp [intOf]
            | false =>
              have HN : Hid (nextF (simpB (adjE es) n l) n i = nextF (simpB (adjE es) n l) n (i + 1)) := Lib.hid (by rw [HNS.out, HSR.out]; rfl)
              go_wp2_with fail
              go_roundw
              case rel => exact ⟨i, by omega, by rw [HN.out], by rw [← prevZ_sub], HB4⟩
              case measure => simp [intOf]
    · obtain rfl : k = n := by omega
      have HR : Hid (∀ e, e = Ending.returned (.tuple #[.slice A1 k c1, .bool true]) → ChoOut w k v e wr) := Lib.hid fun e he => by
        have h := HD.out
        rw [Nat.sub_self] at h
        rw [← h]
        refine ⟨(fun h => by cases h), fun l' h => ⟨A1, c1, he, ?_⟩, HXr.out.below⟩
        injection h with h
        subst h
        exact ⟨IntsAt.of_own HO.out (Nat.le_refl _), own_roomC HO.out⟩
      go_wp2_with fail
      go_ret2
      exact HR.out _ rfl
end Go.Proofs.Yticickicfigpbaa

namespace Go.Proofs.Yticickicfigpbaa
open Go.RowKit

set_option maxRecDepth 100000 in
set_option maxHeartbeats 400000 in
theorem good_any (n : Int) (A : Option Addr) (len cap : Nat) (es : List E3) (w : World) (hE : EdgesAt w w.heap.size A len es) (hcap : len ≤ cap) :
    Calls Try.prog 13 #[.agg #[.int .i64 n, .slice A len cap]] w fun e w' => e = .returned (.bool (gcheck n es == 0)) ∧ Below w.heap.size w w' := by
  have HE := Lib.hid (show EdgesAt (bx w n A len cap) (bx w n A len cap).heap.size A len es from (hE.alloc (Nat.le_refl _) _).more (by simp [bx]))
  clear hE
  go_enter Try.func13, Try.ntmps13
  go_wp2_with (go_at_call 8; refine (graphCheck_any n A len cap es _ (by exact HE.out) hcap).mono ?_; rintro e w2 ⟨rfl, hb2⟩)
  go_ret
  exact ⟨rfl, ((Below.refl _ _).alloc (Nat.le_refl _) _).trans (hb2.mono (by simp))⟩
set_option maxRecDepth 100000 in
theorem good_v (n : Int) (A : Option Addr) (len cap : Nat) (es : List E3) (v : Bool) (w : World) (hE : EdgesAt w w.heap.size A len es) (hcap : len ≤ cap) (hv : (gcheck n es == 0) = v) :
    Calls Try.prog 13 #[.agg #[.int .i64 n, .slice A len cap]] w fun e w' => e = .returned (.bool v) ∧ Below w.heap.size w w' := by
  subst hv; exact good_any n A len cap es w hE hcap

end Go.Proofs.Yticickicfigpbaa

namespace Go.Proofs.Yticickicfigpbaa
open Go.RowKit

theorem IntsAt.takeE {w : World} {B n k : Nat} {A : Option Addr} {xs : List Int} (h : IntsAt w B A n xs) (hk : k ≤ n) : IntsAt w B A k (xs.take k) :=
  ⟨by rw [List.length_take, h.1]; omega, fun hk0 => by
    obtain ⟨b, off, e, hb, hc⟩ := h.2 (by omega)
    exact ⟨b, off, e, hb, fun i x hx => hc i x (by rw [List.getElem?_take] at hx; split at hx <;> simp_all)⟩⟩
set_option maxRecDepth 100000 in
set_option maxHeartbeats 1000000 in
theorem each_true (A : Option Addr) (n c : Nat) (xs : List Int) (w : World) (h1 : IntsAt w w.heap.size A n xs) (hn : n ≤ 1000000) (hnc : n ≤ c) (hd : xs.Nodup) (hr : ∀ x ∈ xs, 0 ≤ x ∧ x < (n : Int)) :
    Calls Try.prog 15 #[.int .i64 (n : Int), .slice A n c] w fun e w' => e = .returned (.bool true) ∧ w = w' := by
  have H1 := Lib.hid h1
  have HD := Lib.hid hd
  have HR := Lib.hid hr
  clear h1 hd hr
  go_enter Try.func15, Try.ntmps15
  go_wp2
  go_loop [9] (fun j => ∃ k : Nat, k ≤ n ∧ j = .int .i64 k) (fun j => n - (intOf j).toNat)
  case atStart => exact ⟨0, Nat.zero_le _, rfl⟩
  case round =>
    obtain ⟨k, hk, rfl⟩ := hrel
    by_cases hlt : k < n
    · obtain ⟨b, off, y, rfl, _, hy, hc⟩ := H1.out.at_ hlt
      have HT := Lib.hid (H1.out.takeE hk)
      obtain ⟨y0, y1⟩ := HR.out y (List.mem_of_getElem? hy)
      have HV := Lib.hid (show hasI (xs.take k) y = false by
        rw [Bool.eq_false_iff, Ne, hasI_iff]
        intro hm
        obtain ⟨h2, h3⟩ := List.getElem?_eq_some_iff.1 hy
        have h4 : (xs.take (k + 1)).Nodup := HD.out.sublist (List.take_sublist _ _)
        rw [List.take_succ_eq_append_getElem h2, h3, List.nodup_append] at h4
        exact h4.2.2 y hm y (List.mem_singleton.2 rfl) rfl)
      have ik0 : (0 : Int) ≤ (k : Int) := by omega
      have ik1 : (k : Int) < (n : Int) := by omega
      clear hy
      go_wp2_with fail
      refine (has_v k c y false _ (xs.take k) _ (by exact HT.out) (by omega) HV.out).mono ?_
      rintro e w' ⟨rfl, rfl⟩
      go_wp2_with fail
      go_round
      case rel => exact ⟨k + 1, by omega, by go_num⟩
      case measure => simp [intOf]; omega
    · obtain rfl : k = n := by omega
      go_wp2
      go_ret
      exact ⟨rfl, rfl⟩
end Go.Proofs.Yticickicfigpbaa

namespace Go.Proofs.Yticickicfigpbaa
open Go.RowKit

/-- An order has each node just once. -/
def EachP (n : Nat) (xs : List Int) : Prop := xs.length = n ∧ xs.Nodup ∧ ∀ x ∈ xs, 0 ≤ x ∧ x < (n : Int)
set_option maxRecDepth 100000 in
set_option maxHeartbeats 1000000 in
theorem each_v (A : Option Addr) (len c n : Nat) (xs : List Int) (v : Bool) (w : World) (h1 : IntsAt w w.heap.size A len xs) (hn : len ≤ 9223372036854775807) (hn2 : n ≤ 1000000) (hnc : len ≤ c) (hv : v = true ↔ EachP n xs) :
    Calls Try.prog 15 #[.int .i64 (n : Int), .slice A len c] w fun e w' => e = .returned (.bool v) ∧ w = w' := by
  have H1 := Lib.hid h1
  have HV := Lib.hid hv
  have HL : Hid (xs.length = len) := Lib.hid h1.1
  have HF : Hid (¬ EachP n xs → v = false) := Lib.hid fun h => by
    cases v with
    | false => rfl
    | true => exact absurd (hv.1 rfl) h
  clear h1 hv
  go_enter Try.func15, Try.ntmps15
  go_wp2
  go_loop [9] (fun j => ∃ k : Nat, k ≤ len ∧ j = .int .i64 k ∧ Hid ((xs.take k).Nodup ∧ ∀ x ∈ xs.take k, 0 ≤ x ∧ x < (n : Int))) (fun j => len - (intOf j).toNat)
  case atStart => exact ⟨0, Nat.zero_le _, rfl, Lib.hid ⟨by simp, fun x hx => by simp at hx⟩⟩
  case round =>
    obtain ⟨k, hk, rfl, HP⟩ := hrel
    by_cases hlt : k < len
    · obtain ⟨b, off, y, rfl, _, hy, hc⟩ := H1.out.at_ hlt
      have HT := Lib.hid (H1.out.takeE hk)
      have HY := Lib.hid hy
      have HS : Hid (xs.take (k + 1) = xs.take k ++ [y]) := Lib.hid (by
        obtain ⟨h2, h3⟩ := List.getElem?_eq_some_iff.1 hy
        rw [List.take_succ_eq_append_getElem h2, h3])
      have ik0 : (0 : Int) ≤ (k : Int) := by omega
      have ik1 : (k : Int) < (len : Int) := by omega
      have hkc : k ≤ c := by omega
      clear hy
      by_cases hy0 : y < 0
      · have HN : Hid (v = false) := Lib.hid (HF.out fun h => by have := h.2.2 y (List.mem_of_getElem? HY.out); omega)
        clear HP
        go_wp2_with fail
        go_ret
        exact ⟨by rw [HN.out]; first | done | rfl, rfl⟩
      · by_cases hy1 : (n : Int) ≤ y
        · have HN : Hid (v = false) := Lib.hid (HF.out fun h => by have := h.2.2 y (List.mem_of_getElem? HY.out); omega)
          clear HP
          go_wp2_with fail
          go_ret
          exact ⟨by rw [HN.out]; first | done | rfl, rfl⟩
        · cases hh : hasI (xs.take k) y with
          | true =>
            have HN : Hid (v = false) := Lib.hid (HF.out fun h => by
              have h4 : (xs.take (k + 1)).Nodup := h.2.1.sublist (List.take_sublist _ _)
              rw [HS.out, List.nodup_append] at h4
              exact h4.2.2 y (hasI_iff.1 hh) y (List.mem_singleton.2 rfl) rfl)
            have HH := Lib.hid hh
            clear HP hh
            go_wp2_with fail
            refine (has_v k c y true _ (xs.take k) _ (by exact HT.out) (by omega) HH.out).mono ?_
            rintro e w' ⟨rfl, rfl⟩
            go_wp2_with fail
            go_ret
            exact ⟨by rw [HN.out]; first | done | rfl, rfl⟩
          | false =>
            have HP2 : Hid ((xs.take (k + 1)).Nodup ∧ ∀ x ∈ xs.take (k + 1), 0 ≤ x ∧ x < (n : Int)) := Lib.hid (by
              rw [HS.out]
              refine ⟨?_, fun x hx => ?_⟩
              · rw [List.nodup_append]
                refine ⟨HP.out.1, by simp, fun a ha b hb => ?_⟩
                rw [List.mem_singleton.1 hb]
                rintro rfl
                rw [hasI_iff.2 ha] at hh
                cases hh
              · rcases List.mem_append.1 hx with hx | hx
                · exact HP.out.2 x hx
                · rw [List.mem_singleton.1 hx]; omega)
            have HH := Lib.hid hh
            clear HP hh
            go_wp2_with fail
            refine (has_v k c y false _ (xs.take k) _ (by exact HT.out) (by omega) HH.out).mono ?_
            rintro e w' ⟨rfl, rfl⟩
            go_wp2_with fail
            go_round
            case rel => exact ⟨k + 1, by omega, by go_num, HP2⟩
            case measure => simp [intOf]; omega
    · obtain rfl : k = len := by omega
      by_cases hkn : k = n
      · subst hkn
        have HN : Hid (v = true) := Lib.hid (HV.out.2 ⟨HL.out, by
          have h := HP.out
          rw [List.take_of_length_le (by have := HL.out; omega)] at h
          exact h⟩)
        clear HP
        go_wp2_with fail
        go_ret
        exact ⟨by rw [HN.out]; first | done | rfl, rfl⟩
      · have HN : Hid (v = false) := Lib.hid (HF.out fun h => hkn (HL.out.symm.trans h.1))
        have hb : ((k : Int) == (n : Int)) = false := by simp; omega
        clear HP
        go_wp2_with fail
        go_ret
        exact ⟨by rw [HN.out]; first | done | rfl, rfl⟩
end Go.Proofs.Yticickicfigpbaa

namespace Go.Proofs.Yticickicfigpbaa
open Go.RowKit


set_option maxRecDepth 100000 in
set_option maxHeartbeats 400000 in
theorem ints_same (A1 A2 : Option Addr) (n c1 c2 : Nat) (xs : List Int) (w : World) (h1 : IntsAt w w.heap.size A1 n xs) (h2 : IntsAt w w.heap.size A2 n xs) (hn : n ≤ 4000000000) :
    Calls Try.prog 10 #[.slice A1 n c1, .slice A2 n c2] w fun e w' => e = .returned (.bool true) ∧ ∃ k, w' = w.drewN k := by
  have H1 := Lib.hid h1
  have H2 := Lib.hid h2
  clear h1 h2
  go_enter Try.func10, Try.ntmps10
  go_wp2
  go_loopw [5] (fun j wr => ∃ k q : Nat, k ≤ n ∧ j = .int .i64 k ∧ wr = w.drewN q) (fun j _ => n - (intOf j).toNat)
  case atStart => exact ⟨0, 0, Nat.zero_le _, rfl, rfl⟩
  case round =>
    obtain ⟨k, q, hk, rfl, rfl⟩ := hrel
    by_cases hlt : k < n
    · obtain ⟨b, off, x, rfl, _, hx, hc⟩ := H1.out.at_ hlt
      obtain ⟨b', off', x', rfl, _, hx', hc'⟩ := H2.out.at_ hlt
      obtain rfl : x = x' := by rw [hx] at hx'; injection hx'
      have hki : (k : Int) < (n : Int) := by omega
      have hk0 : (0 : Int) ≤ (k : Int) := by omega
      clear hx hx'
      go_wp2
      go_quiet (fail)
      go_wp2
      go_roundw
      case rel => exact ⟨k + 1, _, by omega, by go_num, rfl⟩
      case measure => simp [intOf]; omega
    · go_wp2
      go_ret
      exact ⟨rfl, q, rfl⟩
end Go.Proofs.Yticickicfigpbaa

namespace Go.Proofs.Yticickicfigpbaa
open Go.RowKit

def natsL (l : List Nat) : List Int := l.map fun x : Nat => (x : Int)
theorem natsL_length (l : List Nat) : (natsL l).length = l.length := by simp [natsL]
theorem natsL_get {l : List Nat} {i : Nat} {x : Int} (h : (natsL l)[i]? = some x) : x = ((l.getD i 0 : Nat) : Int) ∧ i < l.length := by
  unfold natsL at h
  obtain ⟨h1, h2⟩ := List.getElem?_eq_some_iff.1 h
  simp at h1 h2
  refine ⟨?_, h1⟩
  rw [← h2, List.getD_eq_getElem?_getD, List.getElem?_eq_getElem h1]; rfl
theorem IntsAt.take {w : World} {B n : Nat} {A : Option Addr} {xs : List Int} (h : IntsAt w B A n xs) {k : Nat} (hk : k ≤ n) : IntsAt w B A k (xs.take k) := by
  refine ⟨by rw [List.length_take, h.1]; omega, fun h0 => ?_⟩
  obtain ⟨b, off, h1, h2, h3⟩ := h.2 (by omega)
  refine ⟨b, off, h1, h2, fun i x hx => h3 i x ?_⟩
  rw [List.getElem?_take] at hx
  split at hx
  · exact hx
  · cases hx
theorem natsL_not {l : List Nat} {k : Nat} (hn : ∀ i j, i < j → j < l.length → l.getD i 0 ≠ l.getD j 0) (hk : k < l.length) : hasI ((natsL l).take k) ((l.getD k 0 : Nat) : Int) = false := by
  cases h : hasI ((natsL l).take k) ((l.getD k 0 : Nat) : Int) with
  | false => rfl
  | true =>
    rw [hasI_iff] at h
    obtain ⟨i, hi⟩ := List.getElem?_of_mem h
    rw [List.getElem?_take] at hi
    split at hi
    · rename_i hik
      obtain ⟨h1, h2⟩ := natsL_get hi
      exact absurd (Int.ofNat_inj.1 h1).symm (hn i k hik hk)
    · cases hi

set_option maxRecDepth 100000 in
set_option maxHeartbeats 2000000 in
theorem isRing_v (m : Nat) (A Al : Option Addr) (len cap n capl : Nat) (es : List E3) (l : List Nat) (v : Bool) (w : World) (hE : EdgesAt w w.heap.size A len es) (hl : len ≤ 45) (hI : IntsAt w w.heap.size Al n (natsL l)) (hc : n ≤ capl) (hn3 : 3 ≤ n) (hn : n ≤ 1000)
    (hlt : ∀ i, i < n → l.getD i 0 < m) (hnd : ∀ i j, i < j → j < n → l.getD i 0 ≠ l.getD j 0) (hv : v = true ↔ ∀ i, i < n → adjE es (l.getD i 0) (l.getD ((i + 1) % n) 0) = true) :
    Calls Try.prog 14 #[.agg #[.int .i64 m, .slice A len cap], .slice Al n capl] w fun e w' => e = .returned (.bool v) ∧ Below w.heap.size w w' := by
  have HX := Lib.hid (BoxG.start (n := m) (cap := cap) hE)
  have HI := Lib.hid hI
  have HLL : Hid (l.length = n) := Lib.hid (by have := hI.1; rwa [natsL_length] at this)
  have HLT := Lib.hid hlt
  have HND := Lib.hid hnd
  have HV := Lib.hid hv
  clear hE hI hlt hnd hv
  go_enter Try.func14, Try.ntmps14
  go_wp2
  go_loopw [5] (fun j wr => ∃ k : Nat, k ≤ n ∧ j = .int .i64 k ∧ Hid (∀ i, i < k → adjE es (l.getD i 0) (l.getD ((i + 1) % n) 0) = true) ∧ Hid (BoxG w m A len cap es wr)) (fun j _ => n - (intOf j).toNat)
  case atStart => exact ⟨0, Nat.zero_le _, rfl, Lib.hid (fun i hi => by omega), HX⟩
  case round =>
    obtain ⟨k, hk, rfl, HA, HB⟩ := hrel
    by_cases hkn : k < n
    · have hIr := HI.out.below HB.out.below
      obtain ⟨b, off, x, rfl, hbl, hx, hcx⟩ := hIr.at_ hkn
      have hyn : (k + 1) % n < n := Nat.mod_lt _ (by omega)
      obtain ⟨b', off', y, hA2, _, hy, hcy⟩ := hIr.at_ hyn
      injection hA2 with hA2
      injection hA2 with hA2 hA3
      subst hA2
      subst hA3
      obtain ⟨rfl, _⟩ := natsL_get hx
      obtain ⟨rfl, _⟩ := natsL_get hy
      have hxm := HLT.out k hkn
      have HHAS : Hid (hasI ((natsL l).take k) ((l.getD k 0 : Nat) : Int) = false) := Lib.hid (natsL_not (by rw [HLL.out]; exact HND.out) (by rw [HLL.out]; exact hkn))
      have HTK : Hid (IntsAt wr wr.heap.size (some ⟨b, off, none⟩) k ((natsL l).take k)) := Lib.hid ((hIr.take hk).more HB.out.below.size)
      have hc0 := HB.out.c0
      have hc1 := HB.out.c1
      have HEr := Lib.hid HB.out.edges
      have hwl := HB.out.lt
      have hm1 : ((k : Int) + 1).tmod (n : Int) = (((k + 1) % n : Nat) : Int) := by
        rw [Int.tmod_eq_emod_of_nonneg (by omega)]; simp
      have hm2 : ((k : Int) + 1) % (n : Int) = (((k + 1) % n : Nat) : Int) := by simp
      have HNX : Hid (adjE es (l.getD k 0) (l.getD ((k + 1) % n) 0) = true → ∀ i, i < k + 1 → adjE es (l.getD i 0) (l.getD ((i + 1) % n) 0) = true) := Lib.hid fun h i hi => by
        rcases Nat.lt_or_ge i k with h1 | h1
        · exact HA.out i h1
        · obtain rfl : i = k := by omega
          exact h
      have HFL : Hid (adjE es (l.getD k 0) (l.getD ((k + 1) % n) 0) = false → v = false) := Lib.hid fun h => by
        cases hvv : v with
        | false => rfl
        | true => have := HV.out.1 hvv k hkn; rw [h] at this; cases this
      clear hx hy hIr
      generalize (k + 1) % n = q at *
      generalize l.getD k 0 = x at *
      generalize l.getD q 0 = y at *
      have ik0 : (0 : Int) ≤ (k : Int) := by omega
      have ik1 : (k : Int) < (n : Int) := by omega
      have ik2 : (k : Int) ≤ (capl : Int) := by omega
      have iq0 : (0 : Int) ≤ (q : Int) := by omega
      have iq1 : (q : Int) < (n : Int) := by omega
      have in0 : ¬ (n : Int) = 0 := by omega
      have in1 : ¬ n = 0 := by omega
      have ix1 : decide ((m : Int) ≤ (x : Int)) = false := by simp; omega
      have ix2 : decide (m ≤ x) = false := by simp; omega
      have ix3 : ¬ m ≤ x := by omega
      have ix4 : decide ((x : Int) < 0) = false := by simp
      have ikc : k ≤ capl := by omega
      have hw1 : IntKind.i64.wrap ((k : Int) + 1) = (k : Int) + 1 := IntWalk.i64_in _ (by omega)
      have hw2 : IntKind.i64.wrap (q : Int) = (q : Int) := IntWalk.i64_in _ (by omega)
      obtain ⟨a, ha⟩ : ∃ a : Bool, adjE es x y = a := ⟨_, rfl⟩
      have HAD : Hid (nearI es (x : Int) (y : Int) = a) := Lib.hid (by rw [nearI_nat]; exact ha)
      rw [ha] at HNX HFL
      clear ha
      go_wp2
      go_region_held3 (fun W => W.cell? ⟨w.heap.size, 0, none⟩ = some (.int .i64 m) ∧ W.cell? ⟨w.heap.size, 1, none⟩ = some (.slice A len cap) ∧ W.cell? ⟨b, off + k, none⟩ = some (.int .i64 x) ∧ W.cell? ⟨b, off + q, none⟩ = some (.int .i64 y))
        (first | exact ⟨hc0, hc1, hcx, hcy⟩ | exact ⟨q0, q1, q2, q3⟩ | go_keep)
        (first
          | (go_at_call 27; refine (has_v k capl (x : Int) false (some ⟨b, off, none⟩) ((natsL l).take k) _ (by exact HTK.out) (by omega) HHAS.out).mono ?_; rintro e W3 ⟨rfl, rfl⟩)
          | (go_at_call 30; refine (near_v m x y A len cap es a _ (by exact HEr.out) hl HAD.out).mono ?_; rintro e W4 ⟨rfl, hb4⟩; have q0 := (hb4.cell (p := ⟨w.heap.size, 0, none⟩) (by exact hwl)).trans hc0; have q1 := (hb4.cell (p := ⟨w.heap.size, 1, none⟩) (by exact hwl)).trans hc1; have q2 := (hb4.cell (p := ⟨b, off + k, none⟩) (by show b < _; simp; omega)).trans hcx; have q3 := (hb4.cell (p := ⟨b, off + q, none⟩) (by show b < _; simp; omega)).trans hcy; have HB4 := Lib.hid hb4; clear hb4))
      have HB5 : Hid (BoxG w m A len cap es W4) := Lib.hid (HB.out.next ((Below.refl _ _).drew.trans HB4.out))
      clear HB4 HAD HHAS HTK hc0 hc1 q0 q1 q2 q3 hcx hcy HEr
      cases a with
      | true =>
        have HN := Lib.hid (HNX.out rfl)
        go_wp2
        go_roundw
        case rel => exact ⟨k + 1, by omega, by go_num, HN, HB5⟩
        case measure => simp [intOf]; omega
      | false =>
        have HF := Lib.hid (HFL.out rfl)
        go_wp2
        go_ret
        exact ⟨ret_bool HF.out.symm, HB5.out.below⟩
    · obtain rfl : k = n := by omega
      have HT : Hid (v = true) := Lib.hid (HV.out.2 HA.out)
      have hk3 : (3 : Int) ≤ (k : Int) := by omega
      go_wp2
      go_ret
      exact ⟨ret_bool HT.out.symm, HB.out.below⟩
end Go.Proofs.Yticickicfigpbaa

namespace Go.Proofs.Yticickicfigpbaa
open Go.RowKit

theorem nodup_le : ∀ (n : Nat) (l : List Nat), l.Nodup → (∀ x ∈ l, x < n) → l.length ≤ n := fun n => by
  induction n with
  | zero =>
    intro l _ h
    cases l with
    | nil => exact Nat.le_refl _
    | cons x l => exact absurd (h x (List.mem_cons_self ..)) (by omega)
  | succ n ih =>
    intro l hn h
    by_cases hm : n ∈ l
    · have h1 := ih (l.erase n) (hn.erase _) fun x hx => by
        have hx1 := h x (List.mem_of_mem_erase hx)
        have hx2 : x ≠ n := fun e => by
          subst e
          exact (List.Nodup.not_mem_erase hn) hx
        omega
      have h2 := List.length_erase_of_mem hm
      have h3 := List.length_pos_of_mem hm
      omega
    · have h1 := ih l hn fun x hx => by
        have hx1 := h x hx
        have hx2 : x ≠ n := fun e => by subst e; exact hm hx
        omega
      omega
theorem bad_of_simp {adj : Nat → Nat → Bool} {n i : Nat} {l : List Nat} (h : SimpP adj (restB n l) i) : ∀ a b, b < a → a < n → badB adj l i a b = false := fun a b hba han => by
  unfold badB
  rw [Bool.eq_false_iff]
  intro hc
  simp only [Bool.and_eq_true, Bool.not_eq_true', decide_eq_false_iff_not] at hc
  obtain ⟨⟨⟨⟨g1, g2⟩, g3⟩, g4⟩, g5⟩ := hc
  rw [h a b (restB_iff.2 ⟨han, g3⟩) (restB_iff.2 ⟨by omega, g4⟩) g1 g2 (by omega)] at g5
  cases g5
theorem hole_facts {adj : Nat → Nat → Bool} {n : Nat} {r : List Nat} (hs : ∀ i j, adj i j = adj j i) (h : HoleL adj n r) : 4 ≤ r.length ∧ r.length ≤ n ∧ (∀ i, i < r.length → r.getD i 0 < n) ∧ (∀ i j, i < j → j < r.length → r.getD i 0 ≠ r.getD j 0) ∧ ∀ i, i < r.length → adj (r.getD i 0) (r.getD ((i + 1) % r.length) 0) = true := by
  have hlt : ∀ i, i < r.length → r.getD i 0 < n := fun i hi => (restB_iff.1 (h.mem i hi)).1
  have hne : ∀ i j, i < j → j < r.length → r.getD i 0 ≠ r.getD j 0 := fun i j hij hj e => by have := h.inj i j (by omega) hj e; omega
  have h4 := h.four
  refine ⟨h4, nodup_le n r ?_ ?_, hlt, hne, fun i hi => ?_⟩
  · rw [List.Nodup, List.pairwise_iff_getElem]
    intro i j hi hj hij
    have := hne i j hij hj
    rwa [List.getD_eq_getElem?_getD, List.getD_eq_getElem?_getD, List.getElem?_eq_getElem hi, List.getElem?_eq_getElem hj] at this
  · intro x hx
    obtain ⟨i, hi⟩ := List.getElem?_of_mem hx
    have h5 := hlt i (List.getElem?_eq_some_iff.1 hi).1
    rwa [List.getD_eq_getElem?_getD, hi] at h5
  · by_cases e : i + 1 < r.length
    · rw [Nat.mod_eq_of_lt e]
      exact (h.edge i (i + 1) (by omega) e).2 (.inl rfl)
    · have e2 : i + 1 = r.length := by omega
      rw [e2, Nat.mod_self, hs]
      exact (h.edge 0 i (by omega) hi).2 (.inr ⟨rfl, by omega⟩)
set_option maxRecDepth 100000 in
set_option maxHeartbeats 4000000 in
theorem chordDirac_of (n : Int) (A : Option Addr) (len cap : Nat) (es : List E3) (w : World) (hE : EdgesAt w w.heap.size A len es) (hcap : len ≤ cap)
    (HO : ∀ W, Below w.heap.size w W → EdgesAt W W.heap.size A len es → Calls Try.prog 7 #[.agg #[.int .i64 n, .slice A len cap]] W (ChordTop W n es))
    (HP : ∀ W, Below w.heap.size w W → EdgesAt W W.heap.size A len es → Calls Try.prog 11 #[.agg #[.int .i64 n, .slice A len cap]] W (HoleTop W n es)) :
    Calls Try.prog 5 #[.agg #[.int .i64 n, .slice A len cap]] w fun e w' => e = .returned (.bool true) ∧ Below w.heap.size w w' := by
  have HX0 := Lib.hid (BoxG.start (n := n) (cap := cap) hE)
  have HHO := Lib.hid HO
  have HHP := Lib.hid HP
  obtain ⟨x, hx⟩ : ∃ x, gcheck n es = x := ⟨_, rfl⟩
  have HCX := Lib.hid hx
  have k0 := HX0.out.c0
  have k1 := HX0.out.c1
  have HLE : Hid (es.length = len) := Lib.hid hE.1
  clear hE HO HP
  by_cases h0 : x = 0
  · subst h0
    obtain ⟨hn0, hn1, hl, hg⟩ := good_of_gcheck hx
    obtain ⟨m, rfl⟩ := Int.eq_ofNat_of_zero_le hn0
    have hm10 : m ≤ 10 := by omega
    have hlen : len ≤ 45 := by have := HLE.out; omega
    have HCK := Lib.hid (fun W hW => good_v (m : Int) A len cap es true W hW hcap (by rw [hx]; rfl))
    have hirr : ∀ i, adjE es i i = false := fun i => by
      cases ha : adjE es i i with
      | false => rfl
      | true => exact absurd rfl (adjE_lt hg ha).2.2
    obtain ⟨v, hv⟩ : ∃ v, elimF (adjE es) m m [] = v := ⟨_, rfl⟩
    have HV : Hid (elimF (adjE es) ((m : Int)).toNat ((m : Int)).toNat [] = v) := Lib.hid hv
    cases v with
    | none =>
      have HEX : Hid (∃ L q, HoleP (adjE es) (restB ((m : Int)).toNat []) L q) := Lib.hid (by
        apply Classical.byContradiction
        intro hc
        obtain ⟨l', h⟩ := elim_some (adj := adjE es) (n := m) (adjE_symm es) hirr (fun L q hq => hc ⟨L, q, hq⟩) m [] (by simp)
        rw [hv] at h
        cases h)
      clear hx hg hl hv hirr
      go_enter Try.func5, Try.ntmps5
      go_wp2_with fail
      refine (HHO.out _ HX0.out.below HX0.out.edges).mono ?_
      rintro e w1 ⟨_, h2, _, hB⟩
      obtain rfl := h2 HCX.out HV.out
      have HX1 := Lib.hid (HX0.out.next hB)
      clear h2 hB k0 k1
      have k0 := HX1.out.c0
      have k1 := HX1.out.c1
      go_wp2_with fail
      refine (HHP.out _ HX1.out.below HX1.out.edges).mono ?_
      rintro e w2 ⟨_, _, h3, hB⟩
      obtain ⟨r, A2, c2, hr, rfl, hi, hc2⟩ := h3 HCX.out HEX.out
      obtain ⟨f1, f2, f3, f4, f5⟩ := hole_facts (adj := adjE es) (n := m) (adjE_symm es) hr
      have HX2 := Lib.hid (HX1.out.next hB)
      have HI2 := Lib.hid hi
      have HRF := Lib.hid (And.intro f3 (And.intro f4 f5))
      obtain ⟨q, hq⟩ : ∃ q, r.length = q := ⟨_, rfl⟩
      have HQ := Lib.hid hq
      rw [hq] at f1 f2 hc2 HI2 HRF ⊢
      clear h3 hB hi hr f3 f4 f5 hq k0 k1
      have k0 := HX2.out.c0
      have k1 := HX2.out.c1
      have f1' : (4 : Int) ≤ (q : Int) := by omega
      go_wp2_with fail
      refine (HCK.out _ HX2.out.edges).mono ?_
      rintro e w3 ⟨rfl, hB⟩
      have HXg := Lib.hid (HX2.out.next hB)
      have HI3 := Lib.hid (HI2.out.go_ hB)
      clear hB k0 k1
      have k0 := HXg.out.c0
      have k1 := HXg.out.c1
      go_wp2_with fail
      refine (isRing_v m A A2 len cap q c2 es r true _ HXg.out.edges hlen (by exact HI3.out) hc2 (by omega) (by omega) HRF.out.1 HRF.out.2.1 ⟨fun _ => HRF.out.2.2, fun _ => rfl⟩).mono ?_
      rintro e w4 ⟨rfl, hB⟩
      have HX4 := Lib.hid (HXg.out.next hB)
      clear hB k0 k1
      go_wp2_with fail
      go_ret
      exact ⟨rfl, HX4.out.below⟩
    | some l =>
      obtain ⟨hE1, hE2⟩ := elim_ok (adj := adjE es) (n := m) (adjE_symm es) m [] l ElimP.nil hv
      have HEL := Lib.hid hE1
      have HLL : Hid (l.length = m) := Lib.hid (by simpa using hE2)
      have HNO : Hid (∀ L q, ¬ HoleP (adjE es) (restB ((m : Int)).toNat []) L q) := Lib.hid fun L q hq => by
        have h := elim_none (adj := adjE es) (n := m) (adjE_symm es) hq
        rw [hv] at h
        cases h
      have HEP : Hid (EachP m (natG l)) := Lib.hid ⟨by rw [← HLL.out]; simp [natG], by
        unfold natG
        rw [List.Nodup, List.pairwise_map]
        exact hE1.nd.imp fun h e => h (by omega), fun y hy => by
        unfold natG at hy
        obtain ⟨i, hi, rfl⟩ := List.mem_map.1 hy
        have := hE1.lt i hi
        omega⟩
      clear hx hg hl hv hirr hE1 hE2
      go_enter Try.func5, Try.ntmps5
      go_wp2_with fail
      refine (HHO.out _ HX0.out.below HX0.out.edges).mono ?_
      rintro e w1 ⟨_, _, h3, hB⟩
      obtain ⟨A1, c1, rfl, hi, hc1⟩ := h3 HCX.out l HV.out
      have e0 : ((m : Int)).toNat = m := rfl
      rw [e0] at hi hc1
      rw [e0]
      have HX1 := Lib.hid (HX0.out.next hB)
      have HI1 := Lib.hid hi
      clear h3 hB hi k0 k1 e0
      have k0 := HX1.out.c0
      have k1 := HX1.out.c1
      go_wp2_with fail
      refine (HHP.out _ HX1.out.below HX1.out.edges).mono ?_
      rintro e w2 ⟨_, h2, _, hB⟩
      obtain rfl := h2 HCX.out HNO.out
      have HX2 := Lib.hid (HX1.out.next hB)
      have HI2 := Lib.hid (HI1.out.go_ hB)
      clear h2 hB k0 k1
      have k0 := HX2.out.c0
      have k1 := HX2.out.c1
      go_wp2_with fail
      refine (HCK.out _ HX2.out.edges).mono ?_
      rintro e w3 ⟨rfl, hB⟩
      have HXg := Lib.hid (HX2.out.next hB)
      have HI3 := Lib.hid (HI2.out.go_ hB)
      clear hB k0 k1
      have k0 := HXg.out.c0
      have k1 := HXg.out.c1
      go_wp2_with fail
      refine (each_v A1 m c1 m (natG l) true _ HI3.out (by omega) (by omega) hc1 ⟨fun _ => HEP.out, fun _ => rfl⟩).mono ?_
      rintro e w4 ⟨rfl, rfl⟩
      go_wp2_with fail
      clear k0 k1
      go_loopw [50] (fun y wr => ∃ k : Nat, k ≤ m ∧ y = .int .i64 k ∧ Hid (BoxG w (m : Int) A len cap es wr) ∧ Hid (IntsAt wr wr.heap.size A1 m (natG l))) (fun y _ => m - (intOf y).toNat)
      case atStart => exact ⟨0, Nat.zero_le _, rfl, HXg, HI3⟩
      case round =>
        obtain ⟨k, hk, rfl, HXr, HIr⟩ := hrel
        have k0 := HXr.out.c0
        have k1 := HXr.out.c1
        by_cases hkm : k < m
        · have hkm' : (k : Int) < (m : Int) := by omega
          have hk0 : (0 : Int) ≤ (k : Int) := by omega
          have hkc : (k : Int) ≤ (c1 : Int) := by omega
          obtain ⟨b2, o2, x, rfl, hb2, hx, hcx⟩ := HIr.out.at_ hkm
          obtain ⟨i, hi, rfl⟩ := natG_get hx
          have HTK : Hid (IntsAt wr wr.heap.size (some ⟨b2, o2, none⟩) k (natG (l.take k))) := Lib.hid (by
            have h := HIr.out.takeE hk
            have e : natG (l.take k) = (natG l).take k := by unfold natG; exact List.map_take
            rw [e]
            exact h)
          have HBD : Hid (∀ a b, b < a → a < m → badB (adjE es) (l.take k) i a b = false) := Lib.hid (bad_of_simp (HEL.out.simp k i hi))
          have HSM := Lib.hid (fun W (hW : EdgesAt W W.heap.size A len es) (hI : IntsAt W W.heap.size (some ⟨b2, o2, none⟩) k (natG (l.take k))) => refSimple_any m i A len cap es (some ⟨b2, o2, none⟩) k c1 (l.take k) true W hW hI hm10 hlen (by omega) ⟨fun _ => HBD.out, fun _ => rfl⟩)
          clear hx hi
          go_wp2_with fail
          go_region_held3 (fun W => W.cell? ⟨w.heap.size, 0, none⟩ = some (.int .i64 m) ∧ W.cell? ⟨w.heap.size, 1, none⟩ = some (.slice A len cap))
            (first | exact ⟨k0, k1⟩ | exact ⟨q0, q1⟩ | go_keep)
            (first
              | (go_at_call 16; refine (HSM.out _ (by first | exact HXr.out.edges | exact (HXr.out.next (Below.refl _ _).drew).edges) (by first | exact HTK.out | exact HTK.out.drew)).mono ?_; rintro e w5 ⟨rfl, hb5⟩; have HB5 : Hid (Below wr.heap.size wr w5) := Lib.hid (by first | exact hb5 | exact (Below.refl _ _).drew.trans hb5); clear hb5; have q0 := (HXr.out.next HB5.out).c0; have q1 := (HXr.out.next HB5.out).c1))
          all_goals
            have HXn : Hid (BoxG w (m : Int) A len cap es w5) := Lib.hid (HXr.out.next HB5.out)
            have HIn : Hid (IntsAt w5 w5.heap.size (some ⟨b2, o2, none⟩) m (natG l)) := Lib.hid (HIr.out.go_ HB5.out)
            clear k0 k1 q0 q1 hcx
            go_wp2_with fail
            go_roundw
            case rel => exact ⟨k + 1, by omega, by go_num, by first | exact HXn | exact Lib.hid (HXn.out.next (Below.refl _ _).drew), by first | exact HIn | exact Lib.hid HIn.out.drew⟩
            case measure => simp [intOf]; omega
        · obtain rfl : k = m := by omega
          go_wp2_with fail
          go_ret
          exact ⟨rfl, HXr.out.below⟩
  · have HH0 := Lib.hid h0
    have hx0 : (x != 0) = true := by simpa using h0
    have HCK := Lib.hid (fun W hW => good_v n A len cap es false W hW hcap (by rw [hx]; simpa using h0))
    clear hx h0
    go_enter Try.func5, Try.ntmps5
    go_wp2_with fail
    refine (HHO.out _ HX0.out.below HX0.out.edges).mono ?_
    rintro e w1 ⟨h1, _, _, hB⟩
    obtain rfl := h1 (by rw [HCX.out]; exact HH0.out)
    rw [HCX.out]
    have HX1 := Lib.hid (HX0.out.next hB)
    clear h1 hB k0 k1
    have k0 := HX1.out.c0
    have k1 := HX1.out.c1
    go_wp2_with fail
    refine (HHP.out _ HX1.out.below HX1.out.edges).mono ?_
    rintro e w2 ⟨h1, _, _, hB⟩
    obtain rfl := h1 (by rw [HCX.out]; exact HH0.out)
    rw [HCX.out]
    have HX2 := Lib.hid (HX1.out.next hB)
    clear h1 hB k0 k1
    have k0 := HX2.out.c0
    have k1 := HX2.out.c1
    go_wp2_with fail
    refine (HCK.out _ HX2.out.edges).mono ?_
    rintro e w3 ⟨rfl, hB⟩
    have HXg := Lib.hid (HX2.out.next hB)
    clear hB k0 k1
    go_wp2_with fail
    go_ret
    exact ⟨rfl, HXg.out.below⟩
end Go.Proofs.Yticickicfigpbaa

namespace Go.Proofs.Yticickicfigpbaa
open Go.ChangeShapes Go.WideShapes Go.ChangeAt Go.RowKit Go.Joins Go.Deep

set_option maxRecDepth 100000 in
theorem ownK : ownKnob Try.prog.godebug = none := by kernel_rfl
set_option maxRecDepth 100000 in
theorem laidOutO : laidOutB Try.prog = true := by kernel_rfl
set_option maxRecDepth 100000 in
theorem cellsInt : Try.prog.cellsOf 3 = 1 := by kernel_rfl
end Go.Proofs.Yticickicfigpbaa

namespace Go.Proofs.Yticickicfigpbaa
open Go.ChangeShapes Go.WideShapes Go.ChangeAt Go.RowKit Go.Joins Go.Deep

set_option maxRecDepth 100000 in
theorem recGraph : Try.prog.readableRec 24 = true := by kernel_rfl
set_option maxRecDepth 100000 in
theorem rowGraph : (24 : TypeId) < Try.prog.types.size := of_decide_eq_true (by kernel_rfl)
set_option maxRecDepth 100000 in
theorem cellsGraph : Try.prog.cellsOf 24 = 2 := by kernel_rfl
set_option maxRecDepth 100000 in
theorem cellsEdge : Try.prog.cellsOf 54 = 3 := by kernel_rfl
set_option maxRecDepth 100000 in
theorem cellsInt64 : Try.prog.cellsOf 2 = 1 := by kernel_rfl

/-- Every number of an edge is an int64. -/
def WfE (e : E3) : Prop := (Lit.int .i64 e.1).wf = true ∧ (Lit.int .i64 e.2.1).wf = true ∧ (Lit.int .i64 e.2.2).wf = true

section
variable {H : Type} {enc : TypeId × Value → H} {W : World} {base : Nat} {spare : Nat → Bool} {held : Bool}

set_option maxRecDepth 100000 in
theorem edge_of {n : Nat} {cs : List Value} {x : DataW H × List MemPlace} (h : DataW.trod enc Try.prog W base spare held n 54 cs = some x) :
    ∃ e : E3, cs = [.int .i64 e.1, .int .i64 e.2.1, .int .i64 e.2.2] ∧ WfE e := by
  obtain ⟨y0, y1, y2, m, _, hlen, h0, h1, h2⟩ := trod_struct3 Try.underlying54 h
  rw [cellsEdge] at hlen
  match cs, hlen with
  | [c0, c1, c2], _ =>
    simp only [cellsInt, cellsInt64, List.drop_zero, List.take_succ_cons, List.take_zero, List.drop_succ_cons] at h0 h1 h2
    obtain ⟨a, e0, _, wa⟩ := DataW.trod_int Try.underlying3 h0
    obtain ⟨b, e1, _, wb⟩ := DataW.trod_int Try.underlying3 h1
    obtain ⟨c, e2, _, wc⟩ := DataW.trod_int Try.underlying2 h2
    simp only [List.cons.injEq, and_true] at e0 e1 e2
    subst e0 e1 e2
    exact ⟨(a, b, c), rfl, wa, wb, wc⟩

set_option maxRecDepth 100000 in
theorem edges_of {n : Nat} {v : Value} {x : DataW H × List MemPlace} (h : DataW.trod enc Try.prog W base spare held n 22 [v] = some x) :
    ∃ (A : Option Addr) (len cap : Nat) (es : List E3), v = .slice A len cap ∧ EdgesAt W W.heap.size A len es ∧ len ≤ cap ∧ ∀ e ∈ es, WfE e := by
  rcases open_slice Try.underlying22 h with ⟨h0, _⟩ | ⟨a, len, cap, m, k, D, Pl, hcs, _, hl, _, hmm, _, hi⟩
  · simp only [List.cons.injEq, and_true] at h0
    subst h0
    exact ⟨none, 0, 0, [], rfl, ⟨rfl, fun h => absurd h (by omega)⟩, Nat.le_refl _, by simp⟩
  · simp only [List.cons.injEq, and_true] at hcs
    subst hcs
    have hlm : len ≤ m := by rw [hmm]; split <;> omega
    have hall : ∀ i, ∃ e : E3, i < len → (∀ j, j < 3 → W.cell? (a.add (i * 3 + j)) = [Value.int .i64 e.1, .int .i64 e.2.1, .int .i64 e.2.2][j]?) ∧ WfE e := fun i => by
      by_cases hlt : i < len
      · obtain ⟨cs', hc, ht⟩ := hi i (by omega)
        obtain ⟨e, rfl, he⟩ := edge_of ht
        rw [cellsEdge] at hc
        obtain ⟨_, _, hat⟩ := World.cells?_some hc
        exact ⟨e, fun _ => ⟨fun j hj => by rw [← Go.Deep.add_add]; exact hat j hj, he⟩⟩
      · exact ⟨default, fun h => absurd h hlt⟩
    obtain ⟨f, hf⟩ := Classical.axiomOfChoice hall
    refine ⟨some a, len, cap, (List.range len).map f, rfl, ⟨by simp, fun hn => ?_⟩, hl, fun e he => ?_⟩
    · have hz := (hf 0 hn).1 0 (by omega)
      simp only [Nat.zero_mul, Nat.add_zero, List.getElem?_cons_zero] at hz
      obtain ⟨b, off, spot⟩ := a
      have hspot : spot = none := by simpa [Addr.add] using World.cell?_spot hz
      subst hspot
      have hb : b < W.heap.size := by
        rcases Nat.lt_or_ge b W.heap.size with h | h
        · exact h
        · simp [World.cell?, Addr.add, Array.getElem?_eq_none h] at hz
      refine ⟨b, off, rfl, hb, fun i e hie => ?_⟩
      obtain ⟨hil, hie⟩ := List.getElem?_eq_some_iff.1 hie
      simp only [List.length_map, List.length_range] at hil
      simp only [List.getElem_map, List.getElem_range] at hie
      subst hie
      have hc := (hf i hil).1
      refine ⟨?_, ?_, ?_⟩
      · have := hc 0 (by omega); rw [Go.WideShapes.add_plain] at this; simpa using this
      · have := hc 1 (by omega); rw [Go.WideShapes.add_plain] at this; simpa [Nat.add_assoc] using this
      · have := hc 2 (by omega); rw [Go.WideShapes.add_plain] at this; simpa [Nat.add_assoc] using this
    · simp only [List.mem_map, List.mem_range] at he
      obtain ⟨i, hi', rfl⟩ := he
      exact (hf i hi').2

set_option maxRecDepth 100000 in
theorem open_graph {r : Reach} {b0 : Nat} {v : Value} {d : DataW H} {p : List MemPlace} (hv : Value.okWide Try.prog W r b0 24 v) (h : DataW.Trod enc Try.prog W base spare held 24 v d p) :
    ∃ (n : Int) (A : Option Addr) (len cap : Nat) (es : List E3), v = .agg #[.int .i64 n, .slice A len cap] ∧ EdgesAt W W.heap.size A len es ∧ len ≤ cap ∧ (∀ e ∈ es, WfE e) ∧ (Lit.int .i64 n).wf = true := by
  obtain ⟨c0, c1, y0, y1, m, rfl, _, _, hy0, hy1⟩ := open_agg2 Try.underlying24 (by kernel_rfl) cellsGraph hv h
  obtain ⟨n, e0, _, wn⟩ := DataW.trod_int Try.underlying3 hy0
  simp only [List.cons.injEq, and_true] at e0
  subst e0
  obtain ⟨A, len, cap, es, rfl, hE, hl, hw⟩ := edges_of hy1
  exact ⟨n, A, len, cap, es, rfl, hE, hl, hw, wn⟩
end
end Go.Proofs.Yticickicfigpbaa

namespace Go.Proofs.Yticickicfigpbaa
open Go.ChangeShapes Go.WideShapes Go.ChangeAt Go.RowKit

set_option maxRecDepth 100000 in
theorem chordDirac_any (n : Int) (A : Option Addr) (len cap : Nat) (es : List E3) (w : World) (hE : EdgesAt w w.heap.size A len es) (hcap : len ≤ cap) (_ : ∀ e ∈ es, WfE e) (_ : (Lit.int .i64 n).wf = true) :
    Calls Try.prog 5 #[.agg #[.int .i64 n, .slice A len cap]] w fun e w' => e = .returned (.bool true) ∧ Below w.heap.size w w' :=
  chordDirac_of n A len cap es w hE hcap (fun W _ h => orderTop_any n A len cap es W h) (fun W _ h => (ringTop_any n A len cap es W h).mono fun _ _ q => hole_top q)
set_option maxRecDepth 100000 in
theorem chordDirac_lifted (os : Os) (started : os.Started) (H : Type) (enc : TypeId × Value → H) :
    ReturnsInHanded {} Try.checked os 5 .any (Rows.chordDiracSpec.pre6 enc Try.prog Try.f5 Rows.chordDiracRow.domain false) (Rows.chordDiracSpec.post enc Try.prog Try.f5 false true false false) := by
  refine returnsInHanded_of_change (C := Try.checked) ownK started (by kernel_rfl) Try.func5
    (ChangeSpec.witness6 (enc := enc) (C := Try.checked) false ⟨#[], #[.agg #[.int .i64 0, .slice none 0 0]], []⟩ 8 (by kernel_rfl) (by kernel_rfl) (by kernel_rfl) (by kernel_rfl)) ?_
  intro W base args ds gs before hval0 hW _ _
  have hval : ∀ (j : Nat) t v, Try.f5.params[j]? = some t → args[j]? = some v → Value.okWide Try.prog W .any base t v := hval0
  have hW' := hW
  obtain ⟨p, q, hA0, hV, rfl, _, _⟩ := hW
  have hA : DataW.TrodAll enc Try.prog W 0 (fun _ => true) true Try.f5.params.toList args.toList ds p := hA0
  rw [Try.params5] at hA hval
  obtain ⟨v0, d0, rfl, rfl, h0⟩ := trodAll_one hA
  obtain ⟨rfl, rfl⟩ := trodVars_none hV
  obtain ⟨n0, A0, len0, cap0, es0, rfl, hE0, hcap0, hwf0, hwn0⟩ := open_graph (hval 0 24 v0 rfl rfl) h0
  clear hA0 hval0
  simp only [List.append_nil] at hW'
  refine (chordDirac_any n0 A0 len0 cap0 es0 W hE0 hcap0 hwf0 hwn0).mono fun e W' ⟨he, hb⟩ => ?_
  subst he
  exact ⟨_, rfl, _, _, _, [], (p), [], hW', trodAll_mk1 (shut_bool Try.underlying4 _), trodAll_mk1 (Below.trod laidOutO recGraph rowGraph h0 hb (fun x hx => hW'.lt x hx)), rfl, hb.frame _, fun h => by cases h⟩

theorem chordDirac_holds : Rows.ChordDiracSaid :=
  OpenClaim.holds_of_wide 5 Try.f5 rfl rfl rfl rfl rfl rfl rfl ⟨rfl, rfl, rfl, rfl, rfl⟩ rfl rfl rfl rfl rfl (by kernel_rfl) Try.func5 (by kernel_rfl)
    (of_decide_eq_true (by kernel_rfl)) (by unfold Func.isWrapper; first | (rw [if_pos (by decide +kernel)]; kernel_rfl) | (rw [if_neg (by decide +kernel)]; exact ⟨rfl, rfl⟩))
    (fun os started H enc _ => chordDirac_lifted os started H enc)
#print axioms chordDirac_holds
end Go.Proofs.Yticickicfigpbaa
