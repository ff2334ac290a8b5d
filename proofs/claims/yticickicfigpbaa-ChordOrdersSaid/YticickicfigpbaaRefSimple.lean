/- The reference's Simple: have each two neighbours of a node that are left an edge? Conditions: at most ten nodes, 45 edges. -/
import Derived.Test.YticickicfigpbaaBoxB
import Derived.Test.YticickicfigpbaaNear
import Derived.Test.YticickicfigpbaaHas
import Derived.Test.YticickicfigpbaaNatG
namespace Go.Proofs.Yticickicfigpbaa
open Go.RowKit

/-- Two neighbours that are left, without an edge. -/
def badB (adj : Nat → Nat → Bool) (l : List Nat) (i a b : Nat) : Bool := adj i a && adj i b && !decide (a ∈ l) && !decide (b ∈ l) && !adj a b
def BadTo (adj : Nat → Nat → Bool) (l : List Nat) (i a b : Nat) : Prop := ∀ b', b' < b → badB adj l i a b' = false
theorem hasI_natG {l : List Nat} {k : Nat} : hasI (natG l) (k : Int) = decide (k ∈ l) := by
  rw [Bool.eq_iff_iff, hasI_iff, decide_eq_true_iff]
  unfold natG
  rw [List.mem_map]
  constructor
  · rintro ⟨x, hx, e⟩
    have : x = k := by omega
    rw [← this]; exact hx
  · exact fun h => ⟨k, h, rfl⟩
theorem BadTo.next {adj : Nat → Nat → Bool} {l : List Nat} {i a b : Nat} (h : BadTo adj l i a b) (hb : badB adj l i a b = false) : BadTo adj l i a (b + 1) := fun b' hb' => by
  by_cases e : b' = b
  · subst e; exact hb
  · exact h b' (by omega)
set_option maxRecDepth 100000 in
set_option maxHeartbeats 8000000 in
theorem refSimple_any (n i : Nat) (A : Option Addr) (len cap : Nat) (es : List E3) (Ag : Option Addr) (lg cg : Nat) (gone : List Nat) (r : Bool) (w : World) (hE : EdgesAt w w.heap.size A len es) (hI : IntsAt w w.heap.size Ag lg (natG gone)) (hn : n ≤ 10) (hl : len ≤ 45) (hg : lg ≤ 1000)
    (hr : r = true ↔ ∀ a b, b < a → a < n → badB (adjE es) gone i a b = false) :
    Calls Try.prog 16 #[.agg #[.int .i64 (n : Int), .slice A len cap], .int .i64 (i : Int), .slice Ag lg cg] w fun e w' => e = .returned (.bool r) ∧ Below w.heap.size w w' := by
  have HX := Lib.hid (BoxG.start (n := (n : Int)) (cap := cap) hE)
  have HRR : Hid (r = true ↔ ∀ a b, b < a → a < n → badB (adjE es) gone i a b = false) := Lib.hid hr
  have HII := Lib.hid hI
  have HNR := Lib.hid (fun (x y : Nat) (b : Bool) (h : adjE es x y = b) W (hW : EdgesAt W W.heap.size A len es) => near_v (n : Int) (x : Int) (y : Int) A len cap es b W hW hl h)
  have HHS := Lib.hid (fun (x : Nat) (b : Bool) (h : decide (x ∈ gone) = b) W (hW : Below w.heap.size w W) => has_v lg cg (x : Int) b Ag (natG gone) W ((hI.below hW).more hW.size) (by omega) (by rw [hasI_natG]; exact h))
  clear hE hr hI
  go_enter Try.func16, Try.ntmps16
  go_wp2_with fail
  go_loopw [7] (fun y wr => ∃ a : Nat, a ≤ n ∧ y = .int .i64 a ∧ Hid (∀ a' b', b' < a' → a' < a → badB (adjE es) gone i a' b' = false) ∧ Hid (BoxG w (n : Int) A len cap es wr)) (fun y _ => n - (intOf y).toNat)
  case atStart => exact ⟨0, Nat.zero_le _, rfl, Lib.hid (fun a' _ _ h => absurd h (Nat.not_lt_zero a')), HX⟩
  case round =>
    clear HX
    obtain ⟨a, ha, rfl, HC, HXr⟩ := hrel
    have k0 := HXr.out.c0
    by_cases han : a < n
    · have han' : (a : Int) < (n : Int) := by omega
      obtain ⟨wo, hwo⟩ : ∃ wo : World, wo = wr := ⟨_, rfl⟩
      rw [← hwo] at HXr k0 ⊢
      clear hwo
      go_wp2_with fail
      go_loopw [8] (fun y wr => ∃ b : Nat, b ≤ a ∧ y = .int .i64 b ∧ Hid (BadTo (adjE es) gone i a b) ∧ Hid (BoxG w (n : Int) A len cap es wr)) (fun y _ => a - (intOf y).toNat)
      case atStart => exact ⟨0, Nat.zero_le _, rfl, Lib.hid (fun b' h => absurd h (Nat.not_lt_zero b')), HXr⟩
      case round =>
        clear HXr k0
        obtain ⟨b, hb, rfl, HJ, HXq⟩ := hrel
        have q0 := HXq.out.c0
        have q1 := HXq.out.c1
        by_cases hba : b < a
        · have hba' : (b : Int) < (a : Int) := by omega
          have HSK := Lib.hid (fun (h : badB (adjE es) gone i a b = false) => HJ.out.next h)
          have HBD : Hid (badB (adjE es) gone i a b = (adjE es i a && adjE es i b && !decide (a ∈ gone) && !decide (b ∈ gone) && !adjE es a b)) := Lib.hid rfl
          have HFL : Hid (badB (adjE es) gone i a b = true → r = false) := Lib.hid fun h => by
            cases hrv : r with
            | false => rfl
            | true => rw [HRR.out.1 hrv a b hba han] at h; cases h
          obtain ⟨v1, hv1⟩ : ∃ v, adjE es i a = v := ⟨_, rfl⟩
          obtain ⟨v2, hv2⟩ : ∃ v, adjE es i b = v := ⟨_, rfl⟩
          obtain ⟨v3, hv3⟩ : ∃ v, decide (a ∈ gone) = v := ⟨_, rfl⟩
          obtain ⟨v4, hv4⟩ : ∃ v, decide (b ∈ gone) = v := ⟨_, rfl⟩
          obtain ⟨v5, hv5⟩ : ∃ v, adjE es a b = v := ⟨_, rfl⟩
          have H1 := Lib.hid (HNR.out i a v1 hv1)
          have H2 := Lib.hid (HNR.out i b v2 hv2)
          have H3 := Lib.hid (HHS.out a v3 hv3)
          have H4 := Lib.hid (HHS.out b v4 hv4)
          have H5 := Lib.hid (HNR.out a b v5 hv5)
          rw [hv1, hv2, hv3, hv4, hv5] at HBD
          clear hv1 hv2 hv3 hv4 hv5 HJ
          go_wp2_with fail
          refine (H1.out _ HXq.out.edges).mono ?_
          rintro e w1 ⟨rfl, hB⟩
          have HX1 := Lib.hid (HXq.out.next hB)
          clear hB q0 q1
          have q0 := HX1.out.c0
          have q1 := HX1.out.c1
          cases v1 with
          | false =>
            have HN := Lib.hid (HSK.out (by rw [HBD.out]; rfl))
            go_wp2_with fail
            go_roundw
            case rel => exact ⟨b + 1, by omega, by go_num, HN, HX1⟩
            case measure => simp [intOf]; omega
          | true =>
            go_wp2_with fail
            refine (H2.out _ HX1.out.edges).mono ?_
            rintro e w2 ⟨rfl, hB⟩
            have HX2 := Lib.hid (HX1.out.next hB)
            clear hB q0 q1
            have q0 := HX2.out.c0
            have q1 := HX2.out.c1
            cases v2 with
            | false =>
              have HN := Lib.hid (HSK.out (by rw [HBD.out]; rfl))
              go_wp2_with fail
              go_roundw
              case rel => exact ⟨b + 1, by omega, by go_num, HN, HX2⟩
              case measure => simp [intOf]; omega
            | true =>
              go_wp2_with fail
              refine (H3.out _ HX2.out.below).mono ?_
              rintro e w3 ⟨rfl, rfl⟩
              cases v3 with
              | true =>
                have HN := Lib.hid (HSK.out (by rw [HBD.out]; rfl))
                go_wp2_with fail
                go_roundw
                case rel => exact ⟨b + 1, by omega, by go_num, HN, HX2⟩
                case measure => simp [intOf]; omega
              | false =>
                go_wp2_with fail
                refine (H4.out _ HX2.out.below).mono ?_
                rintro e w4 ⟨rfl, rfl⟩
                cases v4 with
                | true =>
                  have HN := Lib.hid (HSK.out (by rw [HBD.out]; rfl))
                  go_wp2_with fail
                  go_roundw
                  case rel => exact ⟨b + 1, by omega, by go_num, HN, HX2⟩
                  case measure => simp [intOf]; omega
                | false =>
                  go_wp2_with fail
                  refine (H5.out _ HX2.out.edges).mono ?_
                  rintro e w5 ⟨rfl, hB⟩
                  have HX5 := Lib.hid (HX2.out.next hB)
                  clear hB q0 q1
                  cases v5 with
                  | true =>
                    have HN := Lib.hid (HSK.out (by rw [HBD.out]; rfl))
                    go_wp2_with fail
                    go_roundw
                    case rel => exact ⟨b + 1, by omega, by go_num, HN, HX5⟩
                    case measure => simp [intOf]; omega
                  | false =>
                    have HF := Lib.hid (HFL.out (by rw [HBD.out]; rfl))
                    go_wp2_with fail
                    go_ret
                    exact ⟨ret_bool HF.out.symm, HX5.out.below⟩
        · obtain rfl : b = a := by omega
          have HN : Hid (∀ a' b', b' < a' → a' < b + 1 → badB (adjE es) gone i a' b' = false) := Lib.hid (fun a' b' h1 h2 => by
            by_cases e : a' = b
            · subst e; exact HJ.out b' h1
            · exact HC.out a' b' h1 (by omega))
          clear HJ HC q0 q1
          go_wp2_with fail
          go_roundw
          case rel => exact ⟨b + 1, by omega, by go_num, HN, HXq⟩
          case measure => simp [intOf]; omega
    · obtain rfl : a = n := by omega
      have HT : Hid (r = true) := Lib.hid (HRR.out.2 fun x y h1 h2 => HC.out x y h1 h2)
      go_wp2_with fail
      go_ret
      exact ⟨ret_bool HT.out.symm, HXr.out.below⟩
end Go.Proofs.Yticickicfigpbaa
