/- The reference's bare: have no two of a ring an edge that are not neighbours in it? Conditions: at most ten of them, 45 edges. -/
import Derived.Test.YticickicfigpbaaBoxB
import Derived.Test.YticickicfigpbaaNear
import Derived.Test.YticickicfigpbaaRefRow
import Derived.Test.YticickicfigpbaaTakeUn
import Derived.Deep.RegionHeld3
import Derived.IntWalk
namespace Go.Proofs.Yticickicfigpbaa
open Go.RowKit

/-- So far none of those before the j-th has an edge with the i-th, but its neighbours in the ring. -/
def BareTo (adj : Nat → Nat → Bool) (l : List Nat) (k i j : Nat) : Prop := ∀ j', j' < j → adj (l.getD i 0) (l.getD j' 0) = true → i - j' = 1 ∨ i - j' = k - 1
set_option maxRecDepth 100000 in
set_option maxHeartbeats 4000000 in
theorem refBare_any (n : Int) (A : Option Addr) (len cap : Nat) (es : List E3) (Al : Option Addr) (k cl : Nat) (l : List Nat) (r : Bool) (w : World) (hE : EdgesAt w w.heap.size A len es) (hI : IntsAt w w.heap.size Al k (natG l)) (hl : len ≤ 45) (hk : k ≤ 10)
    (hr : r = true ↔ ∀ i j, i < k → j < i → adjE es (l.getD i 0) (l.getD j 0) = true → i - j = 1 ∨ i - j = k - 1) :
    Calls Try.prog 43 #[.agg #[.int .i64 n, .slice A len cap], .slice Al k cl] w fun e w' => e = .returned (.bool r) ∧ Below w.heap.size w w' := by
  have HX := Lib.hid (BoxG.start (n := n) (cap := cap) hE)
  have HRR : Hid (r = true ↔ ∀ i j, i < k → j < i → adjE es (l.getD i 0) (l.getD j 0) = true → i - j = 1 ∨ i - j = k - 1) := Lib.hid hr
  have HII := Lib.hid hI
  have HNR := Lib.hid (fun (x y : Nat) (b : Bool) (h : adjE es x y = b) W (hW : EdgesAt W W.heap.size A len es) => near_v n (x : Int) (y : Int) A len cap es b W hW hl h)
  clear hE hr hI
  go_enter Try.func43, Try.ntmps43
  go_wp2_with fail
  go_loopw [5] (fun y wr => ∃ i : Nat, i ≤ k ∧ y = .int .i64 i ∧ Hid (∀ i' j, i' < i → j < i' → adjE es (l.getD i' 0) (l.getD j 0) = true → i' - j = 1 ∨ i' - j = k - 1) ∧ Hid (BoxG w n A len cap es wr)) (fun y _ => k - (intOf y).toNat)
  case atStart => exact ⟨0, Nat.zero_le _, rfl, Lib.hid (fun _ _ h => absurd h (Nat.not_lt_zero _)), HX⟩
  case round =>
    clear HX
    obtain ⟨i, hi, rfl, HC, HXr⟩ := hrel
    by_cases hik : i < k
    · have hik' : (i : Int) < (k : Int) := by omega
      obtain ⟨wo, hwo⟩ : ∃ wo : World, wo = wr := ⟨_, rfl⟩
      rw [← hwo] at HXr ⊢
      clear hwo
      go_wp2_with fail
      go_loopw [6] (fun y wr => ∃ j : Nat, j ≤ i ∧ y = .int .i64 j ∧ Hid (BareTo (adjE es) l k i j) ∧ Hid (BoxG w n A len cap es wr)) (fun y _ => i - (intOf y).toNat)
      case atStart => exact ⟨0, Nat.zero_le _, rfl, Lib.hid (fun j' h => absurd h (Nat.not_lt_zero j')), HXr⟩
      case round =>
        clear HXr
        obtain ⟨j, hj, rfl, HJ, HXq⟩ := hrel
        by_cases hji : j < i
        · have hji' : (j : Int) < (i : Int) := by omega
          have hji2 : (j : Int) < (k : Int) := by omega
          have q0 := HXq.out.c0
          have q1 := HXq.out.c1
          obtain ⟨b, o, x, rfl, hb, hx, hcx⟩ := (HII.out.go_ HXq.out.below).at_ hik
          obtain ⟨b', o', y, e', _, hy, hcy⟩ := (HII.out.go_ HXq.out.below).at_ (show j < k by omega)
          injection e' with e'
          injection e' with e1 e2
          subst e1 e2
          have hxe := natG_at hx
          have hye := natG_at hy
          have HFL : Hid (adjE es (l.getD i 0) (l.getD j 0) = true → i - j ≠ 1 → i - j ≠ k - 1 → r = false) := Lib.hid fun h h1 h2 => by
            cases hrv : r with
            | false => rfl
            | true => rcases HRR.out.1 hrv i j hik hji h with h3 | h3 <;> omega
          have HST : Hid ((adjE es (l.getD i 0) (l.getD j 0) = true → i - j = 1 ∨ i - j = k - 1) → BareTo (adjE es) l k i (j + 1)) := Lib.hid fun h j' h1 h2 => by
            by_cases e : j' = j
            · subst e; exact h h2
            · exact HJ.out j' (by omega) h2
          obtain ⟨a, ha⟩ : ∃ a, adjE es (l.getD i 0) (l.getD j 0) = a := ⟨_, rfl⟩
          rw [ha] at HFL HST
          have H1 := Lib.hid (HNR.out (l.getD i 0) (l.getD j 0) a ha)
          rw [← hxe, ← hye] at H1
          obtain ⟨d, hd⟩ : ∃ d : Int, (i : Int) - (j : Int) = d := ⟨_, rfl⟩
          obtain ⟨d2, hd2⟩ : ∃ d2 : Int, (k : Int) - 1 = d2 := ⟨_, rfl⟩
          have hdw : IntKind.i64.wrap ((i : Int) - (j : Int)) = d := by rw [← hd]; exact IntWalk.i64_in _ (by omega)
          have hdk : IntKind.i64.wrap ((k : Int) - 1) = d2 := by rw [← hd2]; exact IntWalk.i64_in _ (by omega)
          have HDD : Hid ((d = 1 ↔ i - j = 1) ∧ (d = d2 ↔ i - j = k - 1)) := Lib.hid (by constructor <;> omega)
          clear hx hy hxe hye ha HJ hd hd2
          cases a with
          | false =>
            have HN := Lib.hid (HST.out fun h => by cases h)
            go_wp2_with fail
            refine wp_region_held_drew (S := (fun W => W.cell? ⟨w.heap.size, 0, none⟩ = some (.int .i64 n) ∧ W.cell? ⟨w.heap.size, 1, none⟩ = some (.slice A len cap) ∧ W.cell? ⟨b, o + i, none⟩ = some (.int .i64 x) ∧ W.cell? ⟨b, o + j, none⟩ = some (.int .i64 y))) (by kernel_rfl) ⟨q0, q1, hcx, hcy⟩ (fun hS0 => ?_)
            refine takeH (i := 0) (d := 18) (v := .agg #[.int .i64 n, .slice A len cap]) rfl rfl (by kernel_rfl) (by kernel_rfl) (by kernel_rfl) (fun _ _ _ h => h) (Or.inl ⟨by kernel_rfl, fun W hSW => by obtain ⟨s0, s1, s2, s3⟩ := hSW; go_simp⟩) hS0 ?_
            try simp only [Act.put, List.setIfInBounds_toArray, List.set_cons_zero, List.set_cons_succ]
            refine takeH (i := 1) (d := 19) (v := .slice (some ⟨b, o, none⟩) k cl) rfl rfl (by kernel_rfl) (by kernel_rfl) (by kernel_rfl) (fun _ _ _ h => h) (Or.inl ⟨by kernel_rfl, fun W _ => by go_simp⟩) hS0 ?_
            try simp only [Act.put, List.setIfInBounds_toArray, List.set_cons_zero, List.set_cons_succ]
            refine takeH (i := 2) (d := 20) (v := .int .i64 (i : Int)) rfl rfl (by kernel_rfl) (by kernel_rfl) (by kernel_rfl) (fun _ _ _ h => h) (Or.inl ⟨by kernel_rfl, fun W _ => by go_simp⟩) hS0 ?_
            try simp only [Act.put, List.setIfInBounds_toArray, List.set_cons_zero, List.set_cons_succ]
            refine takeH (i := 3) (d := 21) (v := .pointer (some ⟨b, o + i, none⟩)) rfl rfl (by kernel_rfl) (by kernel_rfl) (by kernel_rfl) (fun _ _ _ h => h) (Or.inl ⟨by kernel_rfl, fun W _ => by go_simp⟩) hS0 ?_
            try simp only [Act.put, List.setIfInBounds_toArray, List.set_cons_zero, List.set_cons_succ]
            refine takeH (i := 4) (d := 22) (v := .int .i64 x) rfl rfl (by kernel_rfl) (by kernel_rfl) (by kernel_rfl) (fun _ _ _ h => h) (Or.inl ⟨by kernel_rfl, fun W hSW => by obtain ⟨s0, s1, s2, s3⟩ := hSW; go_simp⟩) hS0 ?_
            try simp only [Act.put, List.setIfInBounds_toArray, List.set_cons_zero, List.set_cons_succ]
            refine takeH (i := 5) (d := 23) (v := .slice (some ⟨b, o, none⟩) k cl) rfl rfl (by kernel_rfl) (by kernel_rfl) (by kernel_rfl) (fun _ _ _ h => h) (Or.inl ⟨by kernel_rfl, fun W _ => by go_simp⟩) hS0 ?_
            try simp only [Act.put, List.setIfInBounds_toArray, List.set_cons_zero, List.set_cons_succ]
            refine takeH (i := 6) (d := 24) (v := .int .i64 (j : Int)) rfl rfl (by kernel_rfl) (by kernel_rfl) (by kernel_rfl) (fun _ _ _ h => h) (Or.inl ⟨by kernel_rfl, fun W _ => by go_simp⟩) hS0 ?_
            try simp only [Act.put, List.setIfInBounds_toArray, List.set_cons_zero, List.set_cons_succ]
            refine takeH (i := 7) (d := 25) (v := .pointer (some ⟨b, o + j, none⟩)) rfl rfl (by kernel_rfl) (by kernel_rfl) (by kernel_rfl) (fun _ _ _ h => h) (Or.inl ⟨by kernel_rfl, fun W _ => by go_simp⟩) hS0 ?_
            try simp only [Act.put, List.setIfInBounds_toArray, List.set_cons_zero, List.set_cons_succ]
            refine takeH (i := 8) (d := 26) (v := .int .i64 y) rfl rfl (by kernel_rfl) (by kernel_rfl) (by kernel_rfl) (fun _ _ _ h => h) (Or.inl ⟨by kernel_rfl, fun W hSW => by obtain ⟨s0, s1, s2, s3⟩ := hSW; go_simp⟩) hS0 ?_
            try simp only [Act.put, List.setIfInBounds_toArray, List.set_cons_zero, List.set_cons_succ]
            refine wpAnyH_ready (rs := [9]) (by kernel_rfl) (by simp) ?_
            refine AllReadyH.cons rfl (fun K hK => ?_) AllReadyH.nil
            go_simp
            go_at_call 30
            refine (H1.out _ (by exact (HXq.out.next (Below.refl _ _).drew).edges)).mono ?_
            rintro e w5 ⟨rfl, hb5⟩
            have HB5 : Hid (Below wr.heap.size wr w5) := Lib.hid ((Below.refl _ _).drew.trans hb5)
            clear hb5
            have p0 := (HXq.out.next HB5.out).c0
            have p1 := (HXq.out.next HB5.out).c1
            have p2 := (HB5.out.cell (p := ⟨b, o + i, none⟩) hb).trans hcx
            have p3 := (HB5.out.cell (p := ⟨b, o + j, none⟩) hb).trans hcy
            refine hK.out _ _ ⟨p0, p1, p2, p3⟩ (fun hS5 => ?_)
            clear hK
            try simp only [Act.put, List.setIfInBounds_toArray, List.set_cons_zero, List.set_cons_succ]
            refine takeH (i := 10) (d := 28) (v := .bool false) rfl rfl (by kernel_rfl) (by kernel_rfl) (by kernel_rfl) (fun _ _ _ h => h) (Or.inl ⟨by kernel_rfl, fun W _ => by go_simp⟩) hS5 ?_
            try simp only [Act.put, List.setIfInBounds_toArray, List.set_cons_zero, List.set_cons_succ]
            refine takeH (i := 11) (d := 29) (v := undef) rfl rfl (by kernel_rfl) (by kernel_rfl) (by kernel_rfl) (fun _ _ _ h => h) (Or.inr ⟨by kernel_rfl, rfl⟩) hS5 ?_
            try simp only [Act.put, List.setIfInBounds_toArray, List.set_cons_zero, List.set_cons_succ]
            refine takeH (i := 12) (d := 30) (v := undef) rfl rfl (by kernel_rfl) (by kernel_rfl) (by kernel_rfl) (fun _ _ _ h => h) (Or.inr ⟨by kernel_rfl, rfl⟩) hS5 ?_
            try simp only [Act.put, List.setIfInBounds_toArray, List.set_cons_zero, List.set_cons_succ]
            refine takeH (i := 13) (d := 31) (v := undef) rfl rfl (by kernel_rfl) (by kernel_rfl) (by kernel_rfl) (fun _ _ _ h => h) (Or.inr ⟨by kernel_rfl, rfl⟩) hS5 ?_
            try simp only [Act.put, List.setIfInBounds_toArray, List.set_cons_zero, List.set_cons_succ]
            refine takeH (i := 14) (d := 32) (v := undef) rfl rfl (by kernel_rfl) (by kernel_rfl) (by kernel_rfl) (fun _ _ _ h => h) (Or.inr ⟨by kernel_rfl, rfl⟩) hS5 ?_
            try simp only [Act.put, List.setIfInBounds_toArray, List.set_cons_zero, List.set_cons_succ]
            refine takeH (i := 15) (d := 33) (v := .bool false) rfl rfl (by kernel_rfl) (by kernel_rfl) (by kernel_rfl) (fun _ _ _ h => h) (Or.inl ⟨by kernel_rfl, fun W _ => by go_simp⟩) hS5 ?_
            try simp only [Act.put, List.setIfInBounds_toArray, List.set_cons_zero, List.set_cons_succ]
            refine takeH (i := 16) (d := 34) (v := .bool false) rfl rfl (by kernel_rfl) (by kernel_rfl) (by kernel_rfl) (fun _ _ _ h => h) (Or.inl ⟨by kernel_rfl, fun W _ => by go_simp⟩) hS5 ?_
            try simp only [Act.put, List.setIfInBounds_toArray, List.set_cons_zero, List.set_cons_succ]
            refine takeH (i := 17) (d := 35) (v := undef) rfl rfl (by kernel_rfl) (by kernel_rfl) (by kernel_rfl) (fun _ _ _ h => h) (Or.inr ⟨by kernel_rfl, rfl⟩) hS5 ?_
            try simp only [Act.put, List.setIfInBounds_toArray, List.set_cons_zero, List.set_cons_succ]
            refine takeH (i := 18) (d := 36) (v := undef) rfl rfl (by kernel_rfl) (by kernel_rfl) (by kernel_rfl) (fun _ _ _ h => h) (Or.inr ⟨by kernel_rfl, rfl⟩) hS5 ?_
            try simp only [Act.put, List.setIfInBounds_toArray, List.set_cons_zero, List.set_cons_succ]
            refine takeH (i := 19) (d := 37) (v := undef) rfl rfl (by kernel_rfl) (by kernel_rfl) (by kernel_rfl) (fun _ _ _ h => h) (Or.inr ⟨by kernel_rfl, rfl⟩) hS5 ?_
            try simp only [Act.put, List.setIfInBounds_toArray, List.set_cons_zero, List.set_cons_succ]
            refine takeH (i := 20) (d := 38) (v := undef) rfl rfl (by kernel_rfl) (by kernel_rfl) (by kernel_rfl) (fun _ _ _ h => h) (Or.inr ⟨by kernel_rfl, rfl⟩) hS5 ?_
            try simp only [Act.put, List.setIfInBounds_toArray, List.set_cons_zero, List.set_cons_succ]
            refine takeH (i := 21) (d := 39) (v := undef) rfl rfl (by kernel_rfl) (by kernel_rfl) (by kernel_rfl) (fun _ _ _ h => h) (Or.inr ⟨by kernel_rfl, rfl⟩) hS5 ?_
            try simp only [Act.put, List.setIfInBounds_toArray, List.set_cons_zero, List.set_cons_succ]
            refine takeH (i := 22) (d := 40) (v := undef) rfl rfl (by kernel_rfl) (by kernel_rfl) (by kernel_rfl) (fun _ _ _ h => h) (Or.inr ⟨by kernel_rfl, rfl⟩) hS5 ?_
            try simp only [Act.put, List.setIfInBounds_toArray, List.set_cons_zero, List.set_cons_succ]
            refine takeH (i := 23) (d := 41) (v := undef) rfl rfl (by kernel_rfl) (by kernel_rfl) (by kernel_rfl) (fun _ _ _ h => h) (Or.inr ⟨by kernel_rfl, rfl⟩) hS5 ?_
            try simp only [Act.put, List.setIfInBounds_toArray, List.set_cons_zero, List.set_cons_succ]
            refine takeH (i := 24) (d := 42) (v := .bool false) rfl rfl (by kernel_rfl) (by kernel_rfl) (by kernel_rfl) (fun _ _ _ h => h) (Or.inl ⟨by kernel_rfl, fun W _ => by go_simp⟩) hS5 ?_
            try simp only [Act.put, List.setIfInBounds_toArray, List.set_cons_zero, List.set_cons_succ]
            refine wpAnyH_done (by kernel_rfl) ?_ _
            all_goals
              have HX5 := Lib.hid (HXq.out.next HB5.out)
              clear p0 p1 p2 p3 q0 q1 hcx hcy
              go_wp2_with fail
              go_roundw
              case rel => exact ⟨j + 1, by omega, by go_num, HN, by first | exact HX5 | exact Lib.hid (HX5.out.next (Below.refl _ _).drew)⟩
              case measure => simp [intOf]; omega
          | true =>
            by_cases g1 : d = 1
            · have c1 : (d != 1) = false := by simp [g1]
              have HN := Lib.hid (HST.out fun _ => .inl (HDD.out.1.1 g1))
              clear g1
              go_wp2_with fail
              refine wp_region_held_drew (S := (fun W => W.cell? ⟨w.heap.size, 0, none⟩ = some (.int .i64 n) ∧ W.cell? ⟨w.heap.size, 1, none⟩ = some (.slice A len cap) ∧ W.cell? ⟨b, o + i, none⟩ = some (.int .i64 x) ∧ W.cell? ⟨b, o + j, none⟩ = some (.int .i64 y))) (by kernel_rfl) ⟨q0, q1, hcx, hcy⟩ (fun hS0 => ?_)
              refine takeH (i := 0) (d := 18) (v := .agg #[.int .i64 n, .slice A len cap]) rfl rfl (by kernel_rfl) (by kernel_rfl) (by kernel_rfl) (fun _ _ _ h => h) (Or.inl ⟨by kernel_rfl, fun W hSW => by obtain ⟨s0, s1, s2, s3⟩ := hSW; go_simp⟩) hS0 ?_
              try simp only [Act.put, List.setIfInBounds_toArray, List.set_cons_zero, List.set_cons_succ]
              refine takeH (i := 1) (d := 19) (v := .slice (some ⟨b, o, none⟩) k cl) rfl rfl (by kernel_rfl) (by kernel_rfl) (by kernel_rfl) (fun _ _ _ h => h) (Or.inl ⟨by kernel_rfl, fun W _ => by go_simp⟩) hS0 ?_
              try simp only [Act.put, List.setIfInBounds_toArray, List.set_cons_zero, List.set_cons_succ]
              refine takeH (i := 2) (d := 20) (v := .int .i64 (i : Int)) rfl rfl (by kernel_rfl) (by kernel_rfl) (by kernel_rfl) (fun _ _ _ h => h) (Or.inl ⟨by kernel_rfl, fun W _ => by go_simp⟩) hS0 ?_
              try simp only [Act.put, List.setIfInBounds_toArray, List.set_cons_zero, List.set_cons_succ]
              refine takeH (i := 3) (d := 21) (v := .pointer (some ⟨b, o + i, none⟩)) rfl rfl (by kernel_rfl) (by kernel_rfl) (by kernel_rfl) (fun _ _ _ h => h) (Or.inl ⟨by kernel_rfl, fun W _ => by go_simp⟩) hS0 ?_
              try simp only [Act.put, List.setIfInBounds_toArray, List.set_cons_zero, List.set_cons_succ]
              refine takeH (i := 4) (d := 22) (v := .int .i64 x) rfl rfl (by kernel_rfl) (by kernel_rfl) (by kernel_rfl) (fun _ _ _ h => h) (Or.inl ⟨by kernel_rfl, fun W hSW => by obtain ⟨s0, s1, s2, s3⟩ := hSW; go_simp⟩) hS0 ?_
              try simp only [Act.put, List.setIfInBounds_toArray, List.set_cons_zero, List.set_cons_succ]
              refine takeH (i := 5) (d := 23) (v := .slice (some ⟨b, o, none⟩) k cl) rfl rfl (by kernel_rfl) (by kernel_rfl) (by kernel_rfl) (fun _ _ _ h => h) (Or.inl ⟨by kernel_rfl, fun W _ => by go_simp⟩) hS0 ?_
              try simp only [Act.put, List.setIfInBounds_toArray, List.set_cons_zero, List.set_cons_succ]
              refine takeH (i := 6) (d := 24) (v := .int .i64 (j : Int)) rfl rfl (by kernel_rfl) (by kernel_rfl) (by kernel_rfl) (fun _ _ _ h => h) (Or.inl ⟨by kernel_rfl, fun W _ => by go_simp⟩) hS0 ?_
              try simp only [Act.put, List.setIfInBounds_toArray, List.set_cons_zero, List.set_cons_succ]
              refine takeH (i := 7) (d := 25) (v := .pointer (some ⟨b, o + j, none⟩)) rfl rfl (by kernel_rfl) (by kernel_rfl) (by kernel_rfl) (fun _ _ _ h => h) (Or.inl ⟨by kernel_rfl, fun W _ => by go_simp⟩) hS0 ?_
              try simp only [Act.put, List.setIfInBounds_toArray, List.set_cons_zero, List.set_cons_succ]
              refine takeH (i := 8) (d := 26) (v := .int .i64 y) rfl rfl (by kernel_rfl) (by kernel_rfl) (by kernel_rfl) (fun _ _ _ h => h) (Or.inl ⟨by kernel_rfl, fun W hSW => by obtain ⟨s0, s1, s2, s3⟩ := hSW; go_simp⟩) hS0 ?_
              try simp only [Act.put, List.setIfInBounds_toArray, List.set_cons_zero, List.set_cons_succ]
              refine wpAnyH_ready (rs := [9]) (by kernel_rfl) (by simp) ?_
              refine AllReadyH.cons rfl (fun K hK => ?_) AllReadyH.nil
              go_simp
              go_at_call 30
              refine (H1.out _ (by exact (HXq.out.next (Below.refl _ _).drew).edges)).mono ?_
              rintro e w5 ⟨rfl, hb5⟩
              have HB5 : Hid (Below wr.heap.size wr w5) := Lib.hid ((Below.refl _ _).drew.trans hb5)
              clear hb5
              have p0 := (HXq.out.next HB5.out).c0
              have p1 := (HXq.out.next HB5.out).c1
              have p2 := (HB5.out.cell (p := ⟨b, o + i, none⟩) hb).trans hcx
              have p3 := (HB5.out.cell (p := ⟨b, o + j, none⟩) hb).trans hcy
              refine hK.out _ _ ⟨p0, p1, p2, p3⟩ (fun hS5 => ?_)
              clear hK
              try simp only [Act.put, List.setIfInBounds_toArray, List.set_cons_zero, List.set_cons_succ]
              refine takeH (i := 10) (d := 28) (v := .bool true) rfl rfl (by kernel_rfl) (by kernel_rfl) (by kernel_rfl) (fun _ _ _ h => h) (Or.inl ⟨by kernel_rfl, fun W _ => by go_simp⟩) hS5 ?_
              try simp only [Act.put, List.setIfInBounds_toArray, List.set_cons_zero, List.set_cons_succ]
              refine takeH (i := 11) (d := 29) (v := .int .i64 (i : Int)) rfl rfl (by kernel_rfl) (by kernel_rfl) (by kernel_rfl) (fun _ _ _ h => h) (Or.inl ⟨by kernel_rfl, fun W _ => by go_simp⟩) hS5 ?_
              try simp only [Act.put, List.setIfInBounds_toArray, List.set_cons_zero, List.set_cons_succ]
              refine takeH (i := 12) (d := 30) (v := .int .i64 (j : Int)) rfl rfl (by kernel_rfl) (by kernel_rfl) (by kernel_rfl) (fun _ _ _ h => h) (Or.inl ⟨by kernel_rfl, fun W _ => by go_simp⟩) hS5 ?_
              try simp only [Act.put, List.setIfInBounds_toArray, List.set_cons_zero, List.set_cons_succ]
              refine takeH (i := 13) (d := 31) (v := .int .i64 d) rfl rfl (by kernel_rfl) (by kernel_rfl) (by kernel_rfl) (fun _ _ _ h => h) (Or.inl ⟨by kernel_rfl, fun W _ => by go_simp⟩) hS5 ?_
              try simp only [Act.put, List.setIfInBounds_toArray, List.set_cons_zero, List.set_cons_succ]
              refine takeH (i := 14) (d := 32) (v := .bool false) rfl rfl (by kernel_rfl) (by kernel_rfl) (by kernel_rfl) (fun _ _ _ h => h) (Or.inl ⟨by kernel_rfl, fun W _ => by go_simp⟩) hS5 ?_
              try simp only [Act.put, List.setIfInBounds_toArray, List.set_cons_zero, List.set_cons_succ]
              refine takeH (i := 15) (d := 33) (v := .bool false) rfl rfl (by kernel_rfl) (by kernel_rfl) (by kernel_rfl) (fun _ _ _ h => h) (Or.inl ⟨by kernel_rfl, fun W _ => by go_simp⟩) hS5 ?_
              try simp only [Act.put, List.setIfInBounds_toArray, List.set_cons_zero, List.set_cons_succ]
              refine takeH (i := 16) (d := 34) (v := .bool false) rfl rfl (by kernel_rfl) (by kernel_rfl) (by kernel_rfl) (fun _ _ _ h => h) (Or.inl ⟨by kernel_rfl, fun W _ => by go_simp⟩) hS5 ?_
              try simp only [Act.put, List.setIfInBounds_toArray, List.set_cons_zero, List.set_cons_succ]
              refine takeH (i := 17) (d := 35) (v := undef) rfl rfl (by kernel_rfl) (by kernel_rfl) (by kernel_rfl) (fun _ _ _ h => h) (Or.inr ⟨by kernel_rfl, rfl⟩) hS5 ?_
              try simp only [Act.put, List.setIfInBounds_toArray, List.set_cons_zero, List.set_cons_succ]
              refine takeH (i := 18) (d := 36) (v := undef) rfl rfl (by kernel_rfl) (by kernel_rfl) (by kernel_rfl) (fun _ _ _ h => h) (Or.inr ⟨by kernel_rfl, rfl⟩) hS5 ?_
              try simp only [Act.put, List.setIfInBounds_toArray, List.set_cons_zero, List.set_cons_succ]
              refine takeH (i := 19) (d := 37) (v := undef) rfl rfl (by kernel_rfl) (by kernel_rfl) (by kernel_rfl) (fun _ _ _ h => h) (Or.inr ⟨by kernel_rfl, rfl⟩) hS5 ?_
              try simp only [Act.put, List.setIfInBounds_toArray, List.set_cons_zero, List.set_cons_succ]
              refine takeH (i := 20) (d := 38) (v := undef) rfl rfl (by kernel_rfl) (by kernel_rfl) (by kernel_rfl) (fun _ _ _ h => h) (Or.inr ⟨by kernel_rfl, rfl⟩) hS5 ?_
              try simp only [Act.put, List.setIfInBounds_toArray, List.set_cons_zero, List.set_cons_succ]
              refine takeH (i := 21) (d := 39) (v := undef) rfl rfl (by kernel_rfl) (by kernel_rfl) (by kernel_rfl) (fun _ _ _ h => h) (Or.inr ⟨by kernel_rfl, rfl⟩) hS5 ?_
              try simp only [Act.put, List.setIfInBounds_toArray, List.set_cons_zero, List.set_cons_succ]
              refine takeH (i := 22) (d := 40) (v := undef) rfl rfl (by kernel_rfl) (by kernel_rfl) (by kernel_rfl) (fun _ _ _ h => h) (Or.inr ⟨by kernel_rfl, rfl⟩) hS5 ?_
              try simp only [Act.put, List.setIfInBounds_toArray, List.set_cons_zero, List.set_cons_succ]
              refine takeH (i := 23) (d := 41) (v := undef) rfl rfl (by kernel_rfl) (by kernel_rfl) (by kernel_rfl) (fun _ _ _ h => h) (Or.inr ⟨by kernel_rfl, rfl⟩) hS5 ?_
              try simp only [Act.put, List.setIfInBounds_toArray, List.set_cons_zero, List.set_cons_succ]
              refine takeH (i := 24) (d := 42) (v := .bool false) rfl rfl (by kernel_rfl) (by kernel_rfl) (by kernel_rfl) (fun _ _ _ h => h) (Or.inl ⟨by kernel_rfl, fun W _ => by go_simp⟩) hS5 ?_
              try simp only [Act.put, List.setIfInBounds_toArray, List.set_cons_zero, List.set_cons_succ]
              refine wpAnyH_done (by kernel_rfl) ?_ _
              all_goals
                have HX5 := Lib.hid (HXq.out.next HB5.out)
                clear p0 p1 p2 p3 q0 q1 hcx hcy
                go_wp2_with fail
                go_roundw
                case rel => exact ⟨j + 1, by omega, by go_num, HN, by first | exact HX5 | exact Lib.hid (HX5.out.next (Below.refl _ _).drew)⟩
                case measure => simp [intOf]; omega
            · have c1 : (d != 1) = true := by simpa using g1
              by_cases g2 : d = d2
              · have c2 : (d != d2) = false := by simp [g2]
                have HN := Lib.hid (HST.out fun _ => .inr (HDD.out.2.1 g2))
                clear g1 g2
                go_wp2_with fail
                go_region_held3 (fun W => W.cell? ⟨w.heap.size, 0, none⟩ = some (.int .i64 n) ∧ W.cell? ⟨w.heap.size, 1, none⟩ = some (.slice A len cap) ∧ W.cell? ⟨b, o + i, none⟩ = some (.int .i64 x) ∧ W.cell? ⟨b, o + j, none⟩ = some (.int .i64 y))
                  (first | exact ⟨q0, q1, hcx, hcy⟩ | exact ⟨p0, p1, p2, p3⟩ | go_keep)
                  (first
                    | (go_at_call 30; refine (H1.out _ (by first | exact HXq.out.edges | exact (HXq.out.next (Below.refl _ _).drew).edges)).mono ?_; rintro e w5 ⟨rfl, hb5⟩; have HB5 : Hid (Below wr.heap.size wr w5) := Lib.hid (by first | exact hb5 | exact (Below.refl _ _).drew.trans hb5); clear hb5; have p0 := (HXq.out.next HB5.out).c0; have p1 := (HXq.out.next HB5.out).c1; have p2 := (HB5.out.cell (p := ⟨b, o + i, none⟩) hb).trans hcx; have p3 := (HB5.out.cell (p := ⟨b, o + j, none⟩) hb).trans hcy))
                all_goals
                  have HX5 := Lib.hid (HXq.out.next HB5.out)
                  clear p0 p1 p2 p3 q0 q1 hcx hcy
                  go_wp2_with fail
                  go_roundw
                  case rel => exact ⟨j + 1, by omega, by go_num, HN, by first | exact HX5 | exact Lib.hid (HX5.out.next (Below.refl _ _).drew)⟩
                  case measure => simp [intOf]; omega
              · have c2 : (d != d2) = true := by simpa using g2
                have HF := Lib.hid (HFL.out rfl (fun h => g1 (HDD.out.1.2 h)) fun h => g2 (HDD.out.2.2 h))
                clear g1 g2
                go_wp2_with fail
                go_region_held3 (fun W => W.cell? ⟨w.heap.size, 0, none⟩ = some (.int .i64 n) ∧ W.cell? ⟨w.heap.size, 1, none⟩ = some (.slice A len cap) ∧ W.cell? ⟨b, o + i, none⟩ = some (.int .i64 x) ∧ W.cell? ⟨b, o + j, none⟩ = some (.int .i64 y))
                  (first | exact ⟨q0, q1, hcx, hcy⟩ | exact ⟨p0, p1, p2, p3⟩ | go_keep)
                  (first
                    | (go_at_call 30; refine (H1.out _ (by first | exact HXq.out.edges | exact (HXq.out.next (Below.refl _ _).drew).edges)).mono ?_; rintro e w5 ⟨rfl, hb5⟩; have HB5 : Hid (Below wr.heap.size wr w5) := Lib.hid (by first | exact hb5 | exact (Below.refl _ _).drew.trans hb5); clear hb5; have p0 := (HXq.out.next HB5.out).c0; have p1 := (HXq.out.next HB5.out).c1; have p2 := (HB5.out.cell (p := ⟨b, o + i, none⟩) hb).trans hcx; have p3 := (HB5.out.cell (p := ⟨b, o + j, none⟩) hb).trans hcy))
                all_goals
                  have HX5 := Lib.hid (HXq.out.next HB5.out)
                  clear p0 p1 p2 p3 q0 q1 hcx hcy
                  go_wp2_with fail
                  go_ret
                  exact ⟨ret_bool HF.out.symm, by first | exact HX5.out.below | exact HX5.out.below.drew⟩
        · have hji' : ¬ (j : Int) < (i : Int) := by omega
          have hij : j = i := by omega
          have HN : Hid (∀ i' j', i' < i + 1 → j' < i' → adjE es (l.getD i' 0) (l.getD j' 0) = true → i' - j' = 1 ∨ i' - j' = k - 1) := Lib.hid (fun i' j' h1 h2 => by
            by_cases e : i' = i
            · subst e; exact HJ.out j' (by omega)
            · exact HC.out i' j' (by omega) h2)
          clear HJ HC hij
          go_wp2_with fail
          go_roundw
          case rel => exact ⟨i + 1, by omega, by go_num, HN, HXq⟩
          case measure => simp [intOf]; omega
    · obtain rfl : i = k := by omega
      have HT : Hid (r = true) := Lib.hid (HRR.out.2 fun x y h1 h2 => HC.out x y h1 h2)
      go_wp2_with fail
      go_ret
      exact ⟨ret_bool HT.out.symm, HXr.out.below⟩
end Go.Proofs.Yticickicfigpbaa
