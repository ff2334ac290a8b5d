/- colour.count. Conditions: at most ten nodes, colours from -1 to 12. -/
import Derived.Test.YtpcealcghglopaaTallyGo
import Derived.Test.YtpcealcghglopaaMakesU
import Derived.Laws.EntriesVeiled
namespace Go.Proofs.Ytpcealcghglopaa
open Go.RowKit

set_option maxRecDepth 100000 in
set_option maxHeartbeats 2000000 in
theorem count_any (n cA : Nat) (Aa : Option Addr) (ar : List Nat) (k : Int) (w : World) (hn : n ≤ 10) (hk0 : -1 ≤ k) (hk1 : k ≤ 12) (hW : WordsAt w w.heap.size Aa n ar) (hWl : ∀ i, ar.getD i 0 < 1024) :
    Calls Try.prog 44 #[.slice Aa n cA, .int .i64 k] w fun e w' => e = .returned (.int .i64 (waysN (fun i => ar.getD i 0) k n 0 [])) ∧ Below w.heap.size w w' := by
  have HW := Lib.hid (And.intro hW hWl)
  clear hW hWl
  obtain ⟨W3, hW3⟩ : ∃ W3, mkU n ((w.alloc (.cells #[.slice Aa n cA] 55)).alloc (.cells #[.int .i64 k] 2)) = W3 := ⟨_, rfl⟩
  have hmk := mkU_run n (by omega) ((w.alloc (.cells #[.slice Aa n cA] 55)).alloc (.cells #[.int .i64 k] 2))
  rw [hW3, show ((w.alloc (.cells #[.slice Aa n cA] 55)).alloc (.cells #[.int .i64 k] 2)).heap.size = w.heap.size + 1 + 1 by simp] at hmk
  have HW3 := Lib.hid hW3
  have hR3 := box_next W3 (.cells #[.slice (some ⟨w.heap.size + 1 + 1, 0, none⟩) n n] 55) .nilFunc 78
  have hc3 := hR3.cell (i := 0) rfl
  have hf3 := hR3.frozen 0
  clear hR3
  clear hW3
  go_enter Try.func44, Try.ntmps44
  go_wp2_with fail
  obtain ⟨V, hV⟩ : ∃ V : Value, V = .func (.func 50) #[] #[.pointer (some ⟨w.heap.size, 0, none⟩), .pointer (some ⟨W3.heap.size, 0, none⟩), .pointer (some ⟨W3.heap.size + 1, 0, none⟩), .pointer (some ⟨w.heap.size + 1, 0, none⟩)] := ⟨_, rfl⟩
  rw [← hV]
  have hs2 : ((w.alloc (.cells #[.slice Aa n cA] 55)).alloc (.cells #[.int .i64 k] 2)).heap.size = w.heap.size + 1 + 1 := by simp
  have hs3 : W3.heap.size = w.heap.size + 1 + 1 + 1 := by rw [← HW3.out, mkU_size, hs2]
  have hb2 : Below w.heap.size w ((w.alloc (.cells #[.slice Aa n cA] 55)).alloc (.cells #[.int .i64 k] 2)) := ((Below.refl _ _).alloc (Nat.le_refl _) _).alloc (by simp) _
  have hb3 : Below (w.heap.size + 1 + 1) ((w.alloc (.cells #[.slice Aa n cA] 55)).alloc (.cells #[.int .i64 k] 2)) W3 := by
    have h := mkU_below n ((w.alloc (.cells #[.slice Aa n cA] 55)).alloc (.cells #[.int .i64 k] 2))
    rw [HW3.out, hs2] at h
    exact h
  have rA : RowOf W3 w.heap.size 55 [.slice Aa n cA] := RowOf.below (RowOf.alloc (box_new w _ _) _) hb3 (by omega)
  have rK : RowOf W3 (w.heap.size + 1) 2 [.int .i64 k] := RowOf.below (box_next w _ _ _) hb3 (by omega)
  have rS : RowOf W3 (w.heap.size + 1 + 1) 52 (List.replicate n (.int .u32 0)) := by
    have h := mkU_row n ((w.alloc (.cells #[.slice Aa n cA] 55)).alloc (.cells #[.int .i64 k] 2))
    rw [HW3.out, hs2] at h
    exact h
  obtain ⟨W5, hW5⟩ : ∃ W5, (W3.alloc (.cells #[.slice (some ⟨w.heap.size + 1 + 1, 0, none⟩) n n] 55)).alloc (.cells #[V] 78) = W5 := ⟨_, rfl⟩
  have hb5 : Below W3.heap.size W3 W5 := by rw [← hW5]; exact ((Below.refl _ _).alloc (Nat.le_refl _) _).alloc (by simp) _
  have rB : RowOf W5 W3.heap.size 55 [.slice (some ⟨w.heap.size + 1 + 1, 0, none⟩) n n] := by rw [← hW5]; exact RowOf.alloc (box_new W3 _ _) _
  have rF : RowOf W5 (W3.heap.size + 1) 78 [V] := by rw [← hW5]; exact box_next W3 _ _ _
  have hb05 : Below w.heap.size w W5 := (hb2.trans (hb3.mono (by omega))).trans (hb5.mono (by omega))
  have rS5 := rS.keep hb5
  rw [hW5]
  have HT : Hid (TallyW W5 (w.heap.size + 1 + 1) n [] W5) := Lib.hid ⟨Below.refl _ _, fun _ _ _ => rfl, List.replicate n 0, by simp, by rw [List.nil_append, List.map_replicate]; exact rS5⟩
  have HC := Lib.hid (tally_any W5 n (w.heap.size + 1 + 1) w.heap.size W3.heap.size (W3.heap.size + 1) (w.heap.size + 1) w.heap.size cA Aa ar k hn hk0 hk1 (HW.out.1.below hb05) HW.out.2 (by omega) (by have := rS5.lt; exact this) ((rA.keep hb5).cell (i := 0) rfl) (rB.cell (i := 0) rfl) (by rw [← hV]; exact rF.cell (i := 0) rfl) ((rK.keep hb5).cell (i := 0) rfl) ⟨by omega, by omega, by omega, by omega⟩ n 0 [] W5 (by omega) (Nat.le_refl _) (fun s hs => by simp at hs) HT.out)
  have HB := Lib.hid (And.intro hb05 (And.intro hs3 hb5.size))
  clear hV hs2 hs3 hb2 hb3 rA rK rS hW5 hb5 rB rF hb05 rS5 hc3 hf3 HW HW3 hmk
  refine HC.out.mono ?_
  rintro e W6 ⟨rfl, hT⟩
  have HT6 := Lib.hid hT
  clear hT
  go_wp2_with fail
  go_ret
  exact ⟨rfl, HB.out.1.trans ⟨HT6.out.low.os, HT6.out.low.tape, HT6.out.low.output, HT6.out.low.size, fun b hb => HT6.out.blk b (by have := HB.out.1.size; omega) (by omega)⟩⟩
end Go.Proofs.Ytpcealcghglopaa
