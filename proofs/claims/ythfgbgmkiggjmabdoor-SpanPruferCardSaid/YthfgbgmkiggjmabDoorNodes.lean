/- graph.nodesOf: it goes through the nodes of a word, rising. -/
import Derived.Test.YthfgbgmkiggjmabDoorTz
import Derived.RangeFuncNested
import Derived.RangeFuncBound
import Derived.RangeFuncCalls
import Derived.RangeFuncLeaves
import Derived.Shelf.Abstract
import Derived.Shelf.RegionOpen
import Derived.OwnWalkIn
import Derived.TacticsInMore
import Derived.LoopNIn
import Derived.LoopIn
namespace Go.Proofs.YthfgbgmkiggjmabDoor
open Go.RowKit Go.Shelf
attribute [local go_sem] Oper.semAt_some

theorem wide_fn (f : FuncId) : Fence.wide.fn f := trivial
theorem wide_round : Fence.wide.round = none := rfl

set_option maxRecDepth 100000 in
set_option maxHeartbeats 400000 in
theorem nodesOf_in (n r : Nat) (w : World) :
    CallsIn Fence.wide n Tryd.prog 71 #[.int .u32 r] w fun e w' => e = .returned (.func (.func 83) #[] #[.pointer (some ⟨w.heap.size, 0, none⟩)]) ∧ w' = w.alloc (.cells #[.int .u32 r] 59) := by
  refine callsIn_of_wp Tryd.func71 rfl (wide_fn _) ?_ wide_round
  simp only [Tryd.ntmps71, List.size_toArray, List.length_cons, List.length_nil, Nat.reduceAdd, Nat.reduceSub, Array.replicate_succ, Array.replicate_zero, List.push_toArray, List.append_toArray, List.nil_append, List.cons_append]
  gi_wp2
  go_ret
  exact ⟨rfl, rfl⟩

def encN (m : Nat) (x : Fin m) : Array Value := #[.int .i64 (x.val : Int)]

set_option maxRecDepth 100000 in
set_option maxHeartbeats 1000000 in
theorem nodes1_in (n m r : Nat) (hn : 1 ≤ n) (hm : m ≤ 10) (hr : r < 2 ^ m) (l Bn n₀ : Nat) (hn₀ : 0 < n₀) (J Jx : List (Fin m) → World → Prop)
    (hY : ∀ pre x W, J pre W → pre.length < (nodesL m r).length → YieldAt Fence.wide (n - 1) Tryd.prog l (encN m x) W fun e W' =>
      (e = .returned (.bool true) ∧ J (pre ++ [x]) W' ∧ Below n₀ W W') ∨ (e = .returned (.bool false) ∧ Jx (pre ++ [x]) W'))
    (W : World) (hBn : W.cell? ⟨Bn, 0, none⟩ = some (.int .u32 r)) (hT : Tab W) (h0 : J [] W) :
    CallsIn Fence.wide n Tryd.prog 83 #[.func (.yield l) #[] #[], .pointer (some ⟨Bn, 0, none⟩)] W fun e W' => (∃ v, e = .returned v) ∧
      ((∃ ys, ys = nodesL m r ∧ J ys W') ∨ (∃ pre, pre <+: nodesL m r ∧ Jx pre W')) := by
  refine callsIn_of_wp Tryd.func83 rfl (wide_fn _) ?_ wide_round
  simp only [Tryd.ntmps83, List.size_toArray, List.length_cons, List.length_nil, Nat.reduceAdd, Nat.reduceSub, Array.replicate_succ, Array.replicate_zero, List.push_toArray, List.append_toArray, List.nil_append, List.cons_append]
  gi_wp2
  gi_loopw [3] (fun v wr => ∃ (q : Nat) (pre : List (Fin m)), v = .int .u32 q ∧ q < 2 ^ m ∧ Hid (nodesL m r = pre ++ nodesL m q) ∧ Hid (Tab wr) ∧ Hid (J pre wr)) (fun v _ => (intOf v).toNat)
  case atStart => exact ⟨r, [], rfl, hr, Lib.hid rfl, Lib.hid hT, Lib.hid h0⟩
  case round =>
    obtain ⟨q, pre, rfl, hq, HX, HT, HJ⟩ := hrel
    have hq10 := pow10 hm hq
    by_cases hz : q = 0
    · subst hz
      gi_wp2
      go_end0
      exact ⟨⟨_, rfl⟩, .inl ⟨pre, by rw [HX.out, nodes_zero]; simp, HJ.out⟩⟩
    · obtain ⟨hc, hs⟩ := nodes_step hm hq hz
      have hzb : ((q : Int) != 0) = true := by simp; omega
      have hlen : pre.length < (nodesL m r).length := by rw [HX.out, hs]; simp
      obtain ⟨fn, tmps, assign, body, hy, hR⟩ := hY pre ⟨Lib.ctz 32 q, hc⟩ wr HJ.out hlen
      dsimp only [encN] at hy
      have HS := Lib.hid hs
      have HZ := Lib.hid hz
      clear hs hlen hz
      have f1 := wide_fn 42
      gi_wp2_with (gi_at_call 42; refine (callsIn_wide.2 (tz_any q _ (by omega) HZ.out (by exact HT.out))).mono ?_; rintro e w' ⟨rfl, rfl⟩)
      refine hR.mono ?_
      rintro e W3 (⟨rfl, hJ3, hk3⟩ | ⟨rfl, hJx3⟩)
      · have hq1 : 1 ≤ (q : Int) := by have := HZ.out; omega
        have hand : bits .and .u32 (q : Int) ((q : Int) - 1) = ((q &&& (q - 1) : Nat) : Int) := by
          rw [show (q : Int) - 1 = ((q - 1 : Nat) : Int) by omega]
          exact and_u32 q (q - 1) (by omega) (by omega)
        have hle : q &&& (q - 1) ≤ q - 1 := Nat.and_le_right
        have HJ3 := Lib.hid hJ3
        have HK3 := Lib.hid hk3
        clear hJ3 hk3 hR hy
        gi_wp2
        go_roundw
        case rel => exact ⟨q &&& (q - 1), pre ++ [⟨Lib.ctz 32 q, hc⟩], rfl, by omega, Lib.hid (by rw [HX.out, HS.out]; simp), Lib.hid (HT.out.below HK3.out hn₀), HJ3⟩
        case measure => simp [intOf]; omega
      · gi_wp2
        refine bodyPost_ret (results_none rfl _ _ _) rfl ?_
        exact ⟨⟨_, rfl⟩, .inr ⟨pre ++ [⟨Lib.ctz 32 q, hc⟩], ⟨nodesL m (q &&& (q - 1)), by rw [HX.out, HS.out]; simp⟩, hJx3⟩⟩

set_option maxRecDepth 100000 in
/-- nodesOf's value goes through the nodes of the word. -/
theorem nodes_stops (n m r : Nat) (hn : 1 ≤ n) (hm : m ≤ 10) (hr : r < 2 ^ m) (Bn n₀ : Nat) (hn₀ : 0 < n₀) (w : World) (hBn : Bn < w.heap.size) (hc : w.cell? ⟨Bn, 0, none⟩ = some (.int .u32 r)) (hT : Tab w) :
    SeqStopsK Fence.wide n Tryd.prog 83 #[.pointer (some ⟨Bn, 0, none⟩)] (encN m) (Below n₀) (fun ys => ys = nodesL m r) (fun pre => pre <+: nodesL m r) (nodesL m r).length w := fun l J Jx W hW _ _ hY h0 =>
  nodes1_in n m r hn hm hr l Bn n₀ hn₀ J Jx hY W ((hW.cell (p := ⟨Bn, 0, none⟩) hBn).trans hc) (hT.go_ hW) h0
end Go.Proofs.YthfgbgmkiggjmabDoor
