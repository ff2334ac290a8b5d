/- The reference's row: have none of some an edge but neighbours? Conditions: at most ten of them, 45 edges. -/
import Derived.Test.YticickicfigpbaaBoxB
import Derived.Test.YticickicfigpbaaNear
import Derived.Test.YticickicfigpbaaNatG
import Derived.Deep.RegionHeld3
import Derived.IntWalk
namespace Go.Proofs.Yticickicfigpbaa
open Go.RowKit

/-- So far none of those before the j-th has an edge with the i-th, but its neighbour. -/
def RowTo (adj : Nat → Nat → Bool) (l : List Nat) (i j : Nat) : Prop := ∀ j', j' < j → j' + 1 < i → adj (l.getD i 0) (l.getD j' 0) = false
set_option maxRecDepth 100000 in
set_option maxHeartbeats 4000000 in
theorem refRow_any (n : Int) (A : Option Addr) (len cap : Nat) (es : List E3) (Al : Option Addr) (k cl : Nat) (l : List Nat) (r : Bool) (w : World) (hE : EdgesAt w w.heap.size A len es) (hI : IntsAt w w.heap.size Al k (natG l)) (hl : len ≤ 45) (hk : k ≤ 10)
    (hr : r = true ↔ ∀ i j, i < k → j + 1 < i → adjE es (l.getD i 0) (l.getD j 0) = false) :
    Calls Try.prog 44 #[.agg #[.int .i64 n, .slice A len cap], .slice Al k cl] w fun e w' => e = .returned (.bool r) ∧ Below w.heap.size w w' := by
  have HX := Lib.hid (BoxG.start (n := n) (cap := cap) hE)
  have HRR : Hid (r = true ↔ ∀ i j, i < k → j + 1 < i → adjE es (l.getD i 0) (l.getD j 0) = false) := Lib.hid hr
  have HII := Lib.hid hI
  have HNR := Lib.hid (fun (x y : Nat) (b : Bool) (h : adjE es x y = b) W (hW : EdgesAt W W.heap.size A len es) => near_v n (x : Int) (y : Int) A len cap es b W hW hl h)
  clear hE hr hI
  go_enter Try.func44, Try.ntmps44
  go_wp2_with fail
  go_loopw [5] (fun y wr => ∃ i : Nat, i ≤ k ∧ y = .int .i64 i ∧ Hid (∀ i' j, i' < i → j + 1 < i' → adjE es (l.getD i' 0) (l.getD j 0) = false) ∧ Hid (BoxG w n A len cap es wr)) (fun y _ => k - (intOf y).toNat)
  case atStart => exact ⟨0, Nat.zero_le _, rfl, Lib.hid (fun _ _ h => absurd h (Nat.not_lt_zero _)), HX⟩
  case round =>
    clear HX
    obtain ⟨i, hi, rfl, HC, HXr⟩ := hrel
    by_cases hik : i < k
    · have hik' : (i : Int) < (k : Int) := by omega
      obtain ⟨wo, hwo⟩ : ∃ wo : World, wo = wr := ⟨_, rfl⟩
      rw [← hwo] at HXr ⊢
      clear hwo
      go_wp2_with fail
      go_loopw [6] (fun y wr => ∃ j : Nat, j ≤ i ∧ y = .int .i64 j ∧ Hid (RowTo (adjE es) l i j) ∧ Hid (BoxG w n A len cap es wr)) (fun y _ => i - (intOf y).toNat)
      case atStart => exact ⟨0, Nat.zero_le _, rfl, Lib.hid (fun j' h => absurd h (Nat.not_lt_zero j')), HXr⟩
      case round =>
        clear HXr
        obtain ⟨j, hj, rfl, HJ, HXq⟩ := hrel
        have hjw : IntKind.i64.wrap ((j : Int) + 1) = (j : Int) + 1 := IntWalk.i64_in _ (by omega)
        by_cases hji : j + 1 < i
        · have hji' : (j : Int) + 1 < (i : Int) := by omega
          have hji2 : (j : Int) < (k : Int) := by omega
          have q0 := HXq.out.c0
          have q1 := HXq.out.c1
          obtain ⟨b, o, x, rfl, hb, hx, hcx⟩ := (HII.out.go_ HXq.out.below).at_ hik
          obtain ⟨b', o', y, e', _, hy, hcy⟩ := (HII.out.go_ HXq.out.below).at_ (show j < k by omega)
          injection e' with e'
          injection e' with e1 e2
          subst e1 e2
          have hxe := natG_at hx
          have hye := natG_at hy
          have HFL : Hid (adjE es (l.getD i 0) (l.getD j 0) = true → r = false) := Lib.hid fun h => by
            cases hrv : r with
            | false => rfl
            | true => rw [HRR.out.1 hrv i j hik hji] at h; cases h
          have HST : Hid (adjE es (l.getD i 0) (l.getD j 0) = false → RowTo (adjE es) l i (j + 1)) := Lib.hid fun h j' h1 h2 => by
            by_cases e : j' = j
            · subst e; exact h
            · exact HJ.out j' (by omega) h2
          obtain ⟨a, ha⟩ : ∃ a, adjE es (l.getD i 0) (l.getD j 0) = a := ⟨_, rfl⟩
          rw [ha] at HFL HST
          have H1 := Lib.hid (HNR.out (l.getD i 0) (l.getD j 0) a ha)
          rw [← hxe, ← hye] at H1
          clear hx hy hxe hye ha HJ
          cases a with
          | false =>
            have HN := Lib.hid (HST.out rfl)
            go_wp2_with fail
            go_region_held3 (fun W => W.cell? ⟨w.heap.size, 0, none⟩ = some (.int .i64 n) ∧ W.cell? ⟨w.heap.size, 1, none⟩ = some (.slice A len cap) ∧ W.cell? ⟨b, o + i, none⟩ = some (.int .i64 x) ∧ W.cell? ⟨b, o + j, none⟩ = some (.int .i64 y))
              (first | exact ⟨q0, q1, hcx, hcy⟩ | exact ⟨p0, p1, p2, p3⟩ | go_keep)
              (first
                | (go_at_call 30; refine (H1.out _ (by first | exact HXq.out.edges | exact (HXq.out.next (Below.refl _ _).drew).edges)).mono ?_; rintro e w5 ⟨rfl, hb5⟩; have HB5 : Hid (Below wr.heap.size wr w5) := Lib.hid (by first | exact hb5 | exact (Below.refl _ _).drew.trans hb5); clear hb5; have p0 := (HXq.out.next HB5.out).c0; have p1 := (HXq.out.next HB5.out).c1; have p2 := (HB5.out.cell (p := ⟨b, o + i, none⟩) hb).trans hcx; have p3 := (HB5.out.cell (p := ⟨b, o + j, none⟩) hb).trans hcy))
            all_goals
              have HX5 := Lib.hid (HXq.out.next HB5.out)
              clear p0 p1 p2 p3 q0 q1 hcx hcy
              go_wp2_with fail
              go_roundw
              case rel => exact ⟨j + 1, by omega, by go_num, HN, by first | exact HX5 | exact Lib.hid (HX5.out.next (Below.refl _ _).drew)⟩
              case measure => simp [intOf]; omega
          | true =>
            have HF := Lib.hid (HFL.out rfl)
            go_wp2_with fail
            go_region_held3 (fun W => W.cell? ⟨w.heap.size, 0, none⟩ = some (.int .i64 n) ∧ W.cell? ⟨w.heap.size, 1, none⟩ = some (.slice A len cap) ∧ W.cell? ⟨b, o + i, none⟩ = some (.int .i64 x) ∧ W.cell? ⟨b, o + j, none⟩ = some (.int .i64 y))
              (first | exact ⟨q0, q1, hcx, hcy⟩ | exact ⟨p0, p1, p2, p3⟩ | go_keep)
              (first
                | (go_at_call 30; refine (H1.out _ (by first | exact HXq.out.edges | exact (HXq.out.next (Below.refl _ _).drew).edges)).mono ?_; rintro e w5 ⟨rfl, hb5⟩; have HB5 : Hid (Below wr.heap.size wr w5) := Lib.hid (by first | exact hb5 | exact (Below.refl _ _).drew.trans hb5); clear hb5; have p0 := (HXq.out.next HB5.out).c0; have p1 := (HXq.out.next HB5.out).c1; have p2 := (HB5.out.cell (p := ⟨b, o + i, none⟩) hb).trans hcx; have p3 := (HB5.out.cell (p := ⟨b, o + j, none⟩) hb).trans hcy))
            all_goals
              have HX5 := Lib.hid (HXq.out.next HB5.out)
              clear p0 p1 p2 p3 q0 q1 hcx hcy
              go_wp2_with fail
              go_ret
              exact ⟨ret_bool HF.out.symm, by first | exact HX5.out.below | exact HX5.out.below.drew⟩
        · have hji' : ¬ (j : Int) + 1 < (i : Int) := by omega
          have HN : Hid (∀ i' j', i' < i + 1 → j' + 1 < i' → adjE es (l.getD i' 0) (l.getD j' 0) = false) := Lib.hid (fun i' j' h1 h2 => by
            by_cases e : i' = i
            · subst e; exact HJ.out j' (by omega) h2
            · exact HC.out i' j' (by omega) h2)
          clear HJ HC
          go_wp2_with fail
          go_roundw
          case rel => exact ⟨i + 1, by omega, by go_num, HN, HXq⟩
          case measure => simp [intOf]; omega
    · obtain rfl : i = k := by omega
      have HT : Hid (r = true) := Lib.hid (HRR.out.2 fun x y h1 h2 => HC.out x y h1 h2)
      go_wp2_with fail
      go_ret
      exact ⟨ret_bool HT.out.symm, HXr.out.below⟩
end Go.Proofs.Yticickicfigpbaa
