/- slices.Clone of a slice of integers. -/
import Derived.Test.YticickicfigpbaaMat
import Derived.OwnWalk
import Derived.Lib.Walk
namespace Go.Proofs.Yticickicfigpbaa
open Go.RowKit

set_option maxRecDepth 100000 in
set_option maxHeartbeats 2000000 in
theorem clone_up (n c : Nat) (A : Addr) (xs : List Int) (w : World) (hI : IntsAt w w.heap.size (some A) n xs) (hn : n ≤ 1000) :
    Calls Try.prog 34 #[.slice (some A) n c] w fun e w' => ∃ g cap, e = .returned (.slice (some ⟨g, 0, none⟩) n cap) ∧ w.heap.size ≤ g ∧ RowC w' g n (fun j => xs.getD j 0) ∧ n ≤ cap ∧ cap ≤ maxLen ∧ Below w.heap.size w w' := by
  have hu : Try.prog.underlying 25 = some (.slice 3) := Try.underlying25
  have q := fun (w : World) (a : Option Addr) (n c n' c' : Nat) => Lib.run_eql_slice_nil w 25 3 a n c n' c' hu
  have hx : Hid (∀ j u, (xs.map (Value.int .i64))[j]? = some u → w.cell? (A.add j) = some u) := Lib.hid (by
    intro j u hj
    have hl := (List.getElem?_eq_some_iff.1 hj).1
    rw [List.length_map, hI.1] at hl
    obtain ⟨b, off, e, _, hc⟩ := hI.2 (by omega)
    injection e with e
    subst e
    rw [List.getElem?_map] at hj
    cases hq : xs[j]? with
    | none => rw [hq] at hj; cases hj
    | some x =>
      rw [hq] at hj
      simp only [Option.map_some, Option.some.injEq] at hj
      subst hj
      rw [Addr.add_lit]
      exact hc j x hq)
  have hl : Hid ((xs.map (Value.int .i64)).length = n) := Lib.hid (by rw [List.length_map, hI.1])
  have hA0 : ((some A : Option Addr).isNone) = false := rfl
  clear hI
  obtain ⟨i0, hi, hz0, hz1, hz2⟩ := info_parts infoInt
  go_enter Try.func34, Try.ntmps34
  go_wp2_with (at_builtin; refine wpList_append_own _ rfl _ _ 25 rfl w.heap.size 3 i0 (.int .i64 0) 1 8 hu hi hz0 hz1 hz2 rfl (by decide) _ _ _ rfl (World.ownsRow_made w #[] 0 (Nat.le_refl _) (Nat.zero_le _) rfl) A n c (xs.map (Value.int .i64)) rfl ?qc1 ?qc2 ?qc3 ?qc4 ?qc5 ?qc6 ?_)
  case qc1 => rw [Nat.mul_one]; exact hl.out
  case qc2 => intro j u hj; exact Lib.cell?_alloc_some _ (hx.out j u hj)
  case qc3 => intro u hu; obtain ⟨x, _, rfl⟩ := List.mem_map.1 hu; rfl
  case qc4 => unfold maxLen; omega
  case qc5 => omega
  case qc6 => simp
  intro v' w1 hown hgrow hnil
  go_wp2
  go_ret
  rcases hown.2 with ⟨rfl, _⟩ | ⟨g, cap, cur, rfl, hcap, hcur, hg, hgb, hsz, htk⟩
  · exact absurd rfl hnil
  · refine ⟨g, cap, rfl, hcap, ⟨cur, hcur, fun j hj => ?_⟩, hg, hgb, ((Below.refl _ w).alloc (Nat.le_refl _) _).grown hgrow (by simp) (by intro k hk; simp [Value.ownBlock] at hk; omega)⟩
    have hlen := hl.out
    rw [List.length_map] at hlen
    have h1 : (cur.toList.take (n * 1))[j]? = some (.int .i64 (xs.getD j 0)) := by rw [htk, List.getElem?_map, List.getElem?_eq_getElem (by omega), List.getD_eq_getElem?_getD, List.getElem?_eq_getElem (by omega)]; rfl
    rw [List.getElem?_take, if_pos (by omega)] at h1
    simpa using h1
set_option maxRecDepth 100000 in
theorem clone_any (n c : Nat) (A : Addr) (xs : List Int) (w : World) (hI : IntsAt w w.heap.size (some A) n xs) (hn : n ≤ 8) :
    Calls Try.prog 34 #[.slice (some A) n c] w fun e w' => ∃ g cap, e = .returned (.slice (some ⟨g, 0, none⟩) n cap) ∧ w.heap.size ≤ g ∧ RowC w' g n (fun j => xs.getD j 0) ∧ n ≤ cap ∧ cap ≤ maxLen ∧ Below w.heap.size w w' :=
  clone_up n c A xs w hI (by omega)
set_option maxRecDepth 100000 in
set_option maxHeartbeats 1000000 in
/-- nil comes back. -/
theorem clone_nil (n c : Nat) (w : World) :
    Calls Try.prog 34 #[.slice none n c] w fun e w' => e = .returned (.slice none 0 0) ∧ w' = w := by
  have q := fun (w : World) (a : Option Addr) (n c n' c' : Nat) => Lib.run_eql_slice_nil w 25 3 a n c n' c' (show Try.prog.underlying 25 = some (.slice 3) from Try.underlying25)
  go_enter Try.func34, Try.ntmps34
  go_wp2
  go_ret
  exact ⟨rfl, rfl⟩
end Go.Proofs.Yticickicfigpbaa
