/- span.numbers, span.lightestFirst: the places of the edges by their weights. -/
import Derived.Test.YthfgbgmkiggjmaaSortStable
namespace Go.Proofs.Ythfgbgmkiggjmaa
open Go.RowKit

def numF (k : Nat) : Nat → Int := fun i => if i < k then (i : Int) else 0
set_option maxRecDepth 100000 in
set_option maxHeartbeats 1000000 in
theorem numbers_any (n : Nat) (w : World) (hn : n ≤ 100) :
    Calls Try.prog 40 #[.int .i64 n] w fun e w' => e = .returned (.slice (some ⟨w.heap.size, 0, none⟩) n n) ∧ RowC w' w.heap.size n (fun i => (i : Int)) ∧ Below w.heap.size w w' := by
  have hmk := fun W => run_make_row' (P := Try.prog) 28 3 (.int .i64 0) 8 Try.underlying28 (by kernel_rfl) rfl .i64 .i64 n (by omega) (by omega) W
  go_enter Try.func40, Try.ntmps40
  go_wp2
  clear hmk
  go_loopw [4, 9] (fun _ j wr => ∃ k : Nat, k ≤ n ∧ j = .int .i64 k ∧ Hid (RowC wr w.heap.size n (numF k)) ∧ Below w.heap.size w wr) (fun _ j _ => n - (intOf j).toNat)
  case atStart =>
    refine ⟨0, Nat.zero_le _, rfl, Lib.hid ?_, (Below.refl _ _).alloc (Nat.le_refl _) _⟩
    refine ⟨_, (MapKept.heap_alloc w _).1, fun j hj => ?_⟩
    simp [madeCells, Nat.mod_one, hj, numF]
  case round =>
    obtain ⟨k, hk, rfl, HR, hB⟩ := hrel
    by_cases hlt : k < n
    · have ck := HR.out.cell hlt
      have fk := HR.out.frozen k
      have HN : Hid (∀ t, t < n → updF (numF k) k (k : Int) t = numF (k + 1) t) := Lib.hid fun t _ => by
        unfold updF numF
        by_cases h1 : t = k
        · subst h1; simp
        · rw [if_neg h1]
          by_cases h2 : t < k
          · rw [if_pos h2, if_pos (by omega)]
          · rw [if_neg h2, if_neg (by omega)]
      generalize numF k k = x at ck
      have ik0 : (0 : Int) ≤ (k : Int) := by omega
      have ik1 : (k : Int) < (n : Int) := by omega
      go_wp2
      go_roundw
      case rel => exact ⟨k + 1, by omega, by go_num, Lib.hid ((HR.out.set_ k (k : Int)).congr HN.out), hB.setCell (p := ⟨w.heap.size, k, none⟩) (Nat.le_refl _) _⟩
      case measure => simp [intOf]; omega
    · obtain rfl : k = n := by omega
      have HF : Hid (RowC wr w.heap.size k (fun i => (i : Int))) := Lib.hid (HR.out.congr fun t ht => by unfold numF; rw [if_pos ht])
      go_wp2
      go_ret
      exact ⟨rfl, HF.out, hB⟩

set_option maxRecDepth 100000 in
set_option maxHeartbeats 400000 in
theorem stableFunc_any (g n cap B capE : Nat) (A : Option Addr) (es : List E3) (w : World) (h : RowC w g n (fun i => (i : Int))) (hn : n ≤ 45) (hC : CmpAt w B A n capE es) (hBg : B < g) :
    Calls Try.prog 59 #[.slice (some ⟨g, 0, none⟩) n cap, cmpV B] w fun e w' => e = .returned (.tuple #[]) ∧ (∃ f', RowC w' g n f' ∧ J3 (wOf es) n f') ∧ Below g w w' := by
  have HS := Lib.hid (stable_any g n cap B capE A es w h hn hC hBg)
  clear h hC
  unfold cmpV at *
  go_enter Try.func59, Try.ntmps59
  go_wp2_with fail
  refine HS.out.mono ?_
  rintro e1 w1 ⟨rfl, h1, h2⟩
  go_wp2_with fail
  go_end0
  exact ⟨rfl, h1, h2⟩
set_option maxRecDepth 100000 in
set_option maxHeartbeats 1000000 in
theorem lightestFirst_any (n capE : Nat) (A : Option Addr) (es : List E3) (w : World) (hE : EdgesAt w w.heap.size A n es) (hn : n ≤ 45) :
    Calls Try.prog 41 #[.slice A n capE] w fun e w' => (∃ g f', e = .returned (.slice (some ⟨g, 0, none⟩) n n) ∧ w.heap.size < g ∧ RowC w' g n f' ∧ J3 (wOf es) n f') ∧ Below w.heap.size w w' := by
  have HE := Lib.hid hE
  clear hE
  go_enter Try.func41, Try.ntmps41
  go_wp2_with fail
  refine (numbers_any n _ (by omega)).mono ?_
  rintro e1 w1 ⟨rfl, hr, hb1⟩
  have hc : w1.cell? ⟨w.heap.size, 0, none⟩ = some (.slice A n capE) := by
    rw [hb1.cell (p := ⟨w.heap.size, 0, none⟩) (by simp)]; simp [go_sem]
  have hbw : Below w.heap.size w w1 := ((Below.refl _ _).alloc (Nat.le_refl _) _).trans (hb1.mono (by simp))
  have HC : Hid (CmpAt w1 w.heap.size A n capE es) := Lib.hid ⟨hc, HE.out.below hbw⟩
  have hsz : (w.alloc (.cells #[.slice A n capE] 22)).heap.size = w.heap.size + 1 := by simp
  rw [hsz] at hr
  have HS := Lib.hid (stableFunc_any (w.heap.size + 1) n n w.heap.size capE A es w1 hr hn HC.out (by omega))
  have HB1 := Lib.hid hbw
  clear hr hb1 hbw
  unfold cmpV at HS
  go_wp2_with fail
  refine HS.out.mono ?_
  rintro e2 w2 ⟨rfl, ⟨f', hf, hj⟩, hb2⟩
  have HF := Lib.hid hf
  have HJ := Lib.hid hj
  have HB2 : Hid (Below w.heap.size w w2) := Lib.hid (HB1.out.trans (hb2.mono (by omega)))
  clear hf hj hb2 HS
  go_wp2_with fail
  go_ret
  exact ⟨⟨_, f', rfl, Nat.lt_succ_self _, HF.out, HJ.out⟩, HB2.out⟩
end Go.Proofs.Ythfgbgmkiggjmaa
