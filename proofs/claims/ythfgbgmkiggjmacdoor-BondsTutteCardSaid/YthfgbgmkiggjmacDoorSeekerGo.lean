/- bonds.seeker: it lays the table and the function. bonds.all. -/
import Derived.Test.YthfgbgmkiggjmacDoorSeekGo
namespace Go.Proofs.YthfgbgmkiggjmacDoor
open Go.RowKit Go.Maps

theorem run_store_func (P : Program) (w : World) (a : Addr) (m : Mode) (f : Fn) (x y : Array Value) : (store a (.func f x y) m).run P w = stored P w a (.func f x y) m := run_store P w a _ m rfl
attribute [local go_sem] run_store_func
set_option maxRecDepth 100000 in
theorem insert_zero (w : World) (n : Nat) (es : List E3) (hg : goodE n es) : ∃ w3, (Instr.mapUpdate 61 (.map (some w.heap.size)) (.int .u32 0) (.int .i64 0)).run Tryd.prog (w.alloc (.map #[] 0)) = .ok () w3 ∧ SeekMap n es w.heap.size 1 w3 ∧ (w.alloc (.map #[] 0)).grownBy w3 (some w.heap.size) ∧ w3.heap.size = w.heap.size + 1 := by
  have hkey : keyOf Tryd.prog 38 (.int .u32 0) = some (.int .u32 0) := keyOf_int_mk Tryd.underlying38 (by decide)
  have hval : plainElem (H := Unit) Tryd.prog 3 (.int .i64 0) = some (.lit (.int .i64 0), []) := plainElem_int Tryd.underlying3 (WalkArith.wf_i64 (by omega))
  obtain ⟨w3, h1, h2, h3⟩ := World.ownsMap.store (t := 61) (e := 3) (World.ownsMap_made (H := Unit) w Tryd.prog 38 (plainElem Tryd.prog 3)) keyedU Tryd.underlying61 (by unfold maxLen; omega) hkey hval
  refine ⟨w3, h1, ⟨_, h2, ⟨fun x hx => ?_, fun x hx => ?_⟩⟩, h3.grown, ?_⟩
  · by_cases he : x = 0
    · subst he
      rw [atKey_put_same ⟨_, rfl⟩ (key_lit _)]
      unfold seekV
      rw [show (0 : Int).toNat = 0 from rfl, mF_zero hg]; rfl
    · have hne : Lit.int .u32 x ≠ Lit.int .u32 0 := fun e => he (by injection e)
      rw [has_put_other hne] at hx
      cases hx
  · subst hx
    exact has_put_same ⟨_, rfl⟩ (key_lit _) _
  · obtain ⟨es0, c0, es1, c1, _, rfl⟩ := h3
    simp [ChangeMaps.setBlock]

set_option maxRecDepth 100000 in
set_option maxHeartbeats 1000000 in
theorem seeker_any (n cap : Nat) (A : Option Addr) (es : List E3) (w : World) (hA : WordsAt w w.heap.size A n (nbL n es)) (hT : Tab w) (hg : goodE n es) :
    Calls Tryd.prog 30 #[.slice A n cap] w fun e w' => e = .returned (.func (.func 43) #[] #[.pointer (some ⟨w.heap.size + 2, 0, none⟩), .pointer (some ⟨w.heap.size + 3, 0, none⟩), .pointer (some ⟨w.heap.size, 0, none⟩)]) ∧
      SeekEnv n (nbL n es) cap A w.heap.size (w.heap.size + 2) (w.heap.size + 3) (w.heap.size + 1) w' ∧ SeekMap n es (w.heap.size + 1) 1 w' ∧ Below w.heap.size w w' ∧ w'.heap.size = w.heap.size + 4 := by
  obtain ⟨w3, h1, h2, h3, h4⟩ := insert_zero (w.alloc (.cells #[.slice A n cap] 56)) n es hg
  rw [show (w.alloc (.cells #[.slice A n cap] 56)).heap.size = w.heap.size + 1 by simp] at h1 h2 h3 h4
  have HM := Lib.hid h2
  have HG3 := Lib.hid h3
  have HS3 := Lib.hid h4
  have HA := Lib.hid hA
  have HT := Lib.hid hT
  have hmm := @run_makeMap Tryd.prog
  clear h2 h3 hA hT hg
  go_enter Tryd.func30, Tryd.ntmps30
  go_wp2_with fail
  go_ret
  clear h1 hmm
  have hs3 : w3.heap.size = w.heap.size + 2 := HS3.out
  have hb0 : Below w.heap.size w ((w.alloc (.cells #[.slice A n cap] 56)).alloc (.map #[] 0)) := ((Below.refl _ _).alloc (Nat.le_refl _) _).alloc (by simp) _
  have hb3 : Below w.heap.size w w3 := hb0.grown HG3.out (by simp; omega) (fun g hg => by cases hg; omega)
  have hbf : ∀ o1 o2, Below w3.heap.size w3 ((w3.alloc o1).alloc o2) := fun o1 o2 => ((Below.refl _ _).alloc (Nat.le_refl _) o1).alloc (by simp) o2
  have hbw : ∀ o1 o2, Below w.heap.size w ((w3.alloc o1).alloc o2) := fun o1 o2 => hb3.trans ((hbf o1 o2).mono (by omega))
  refine ⟨rfl, ⟨?_, ?_, ?_, ?_, ?_, ?_, ?_⟩, ?_, hbw _ _, by simp; omega⟩
  · rw [(hbf _ _).cell (p := ⟨w.heap.size, 0, none⟩) (by show w.heap.size < w3.heap.size; omega), World.cell?_of_block (w := ((w.alloc (.cells #[.slice A n cap] 56)).alloc (.map #[] 0))) (HG3.out.block w.heap.size (by simp; omega) (fun e => by injection e; omega))]
    simp [go_sem]
  · rw [show w.heap.size + 2 = w3.heap.size from hs3.symm]
    simp [go_sem]
  · rw [show w.heap.size + 3 = (w3.alloc (.cells #[.map (some (w.heap.size + 1))] 61)).heap.size by simp; omega]
    simp [go_sem, hs3]
  · exact (HA.out.below (hbw _ _)).more (by omega)
  · exact HT.out.go_ (hbw _ _)
  · simp; omega
  · have := HT.out.1; exact ⟨by omega, by omega, by omega, by omega⟩
  · exact (HM.out.kept (World.grownBy_alloc w3 _ none) (by simp)).kept (World.grownBy_alloc _ _ none) (by simp)
set_option maxRecDepth 100000 in
theorem all_any (n : Nat) (w : World) (hn : n ≤ 10) : Calls Tryd.prog 31 #[.int .i64 n] w fun e w' => e = .returned (.int .u32 (2 ^ n - 1 : Nat)) ∧ w = w' := by
  have h1 := Nat.two_pow_pos n
  have h2 : 2 ^ n < 1025 := by have : 2 ^ n ≤ 1024 := by rw [show 1024 = 2 ^ 10 from rfl]; exact Nat.pow_le_pow_right (by decide) hn
                               omega
  have hq1 : (2 : Int) ^ n % 4294967296 = ((2 ^ n : Nat) : Int) := pow_mod n (by omega)
  have hq2 : IntKind.u32.wrap ((2 : Int) ^ n) = ((2 ^ n : Nat) : Int) := by rw [wrap_u32n, hq1]
  have hn32 : (n : Int) ≤ 32 := by omega
  have hn0 : (0 : Int) ≤ (n : Int) := by omega
  obtain ⟨Q, hQ⟩ : ∃ Q, 2 ^ n = Q + 1 := ⟨2 ^ n - 1, by omega⟩
  rw [hQ] at hq1 hq2 ⊢
  have hQ8 : Q < 1024 := by omega
  clear h1 h2 hQ
  go_enter Tryd.func31, Tryd.ntmps31
  go_wp2_with fail
  go_ret
  exact ⟨ret_int (by omega), rfl⟩
end Go.Proofs.YthfgbgmkiggjmacDoor
