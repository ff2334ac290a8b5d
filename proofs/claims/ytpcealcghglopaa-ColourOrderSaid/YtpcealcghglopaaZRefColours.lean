/- The reference's Colours: the least number of colours, and the first colouring by so many. Conditions: a graph without fault. -/
import Derived.Test.YtpcealcghglopaaZRefPaint
namespace Go.Proofs.Ytpcealcghglopaa
open Go.RowKit

theorem okTo_new {adj : Nat → Nat → Bool} {l : List Nat} {c : Nat} (hc : c ∉ l) : ∀ j, j ≤ l.length → okTo adj l c j = true
  | 0, _ => rfl
  | j + 1, hj => by
    have h1 := okTo_new (adj := adj) hc j (by omega)
    have h2 : l.getD j 0 ≠ c := by
      rw [List.getD_eq_getElem?_getD, List.getElem?_eq_getElem (by omega)]
      intro e
      have e' : l[j] = c := e
      exact hc (e' ▸ List.getElem_mem _)
    have h3 : ((l.getD j 0 : Nat) != c) = true := bne_iff_ne.2 h2
    show (okTo adj l c j && (((l.getD j 0 : Nat) != c) || !adj j l.length)) = true
    rw [h1, h3]; rfl
theorem new_colour : ∀ (k : Nat) (l : List Nat), l.length < k → ∃ c, c < k ∧ c ∉ l := fun k l hl => by
  apply Classical.byContradiction
  intro hc
  have hall : ∀ i, i < k → i ∈ l := fun i hi => Classical.byContradiction fun h => hc ⟨i, hi, h⟩
  have key : ∀ (n : Nat) (l : List Nat), (∀ i, i < n → i ∈ l) → n ≤ l.length := fun n => by
    induction n with
    | zero => exact fun _ _ => Nat.zero_le _
    | succ n ih =>
      intro l h
      have h1 := ih (l.filter fun x => x != n) fun i hi => by
        rw [List.mem_filter]
        exact ⟨h i (by omega), by simp; omega⟩
      have h2 : (l.filter fun x => x != n).length < l.length := by
        rw [List.length_filter_lt_length_iff_exists]
        exact ⟨n, h n (by omega), by simp⟩
      omega
  have := key k l hall
  omega
/-- With as many colours as nodes there is a colouring. -/
theorem paintF_some {adj : Nat → Nat → Bool} {k : Nat} : ∀ (r : Nat) (l : List Nat), l.length + r ≤ k → ∃ m, paintF adj k r l = some m
  | 0, l, _ => ⟨l, rfl⟩
  | r + 1, l, h => by
    obtain ⟨c, hc, hcl⟩ := new_colour k l (by omega)
    obtain ⟨m, hm⟩ := paintF_some (adj := adj) (k := k) r (l ++ [c]) (by simp; omega)
    have key : ∃ m, paintTo (fun c => paintF adj k r (l ++ [c])) (fun c => okTo adj l c l.length) (c + 1) = some m := by
      cases hq : paintTo (fun c => paintF adj k r (l ++ [c])) (fun c => okTo adj l c l.length) c with
      | some m' => exact ⟨m', paintTo_some (Nat.le_succ c) hq⟩
      | none =>
        refine ⟨m, ?_⟩
        rw [paintTo_step hq, if_pos (okTo_new hcl _ (Nat.le_refl _))]
        exact hm
    obtain ⟨m', hm'⟩ := key
    exact ⟨m', paintTo_some (show c + 1 ≤ k by omega) hm'⟩
/-- So many colours are the least, and this is the first colouring. -/
def LeastC (adj : Nat → Nat → Bool) (n k : Nat) (l : List Nat) : Prop := paintF adj k n [] = some l ∧ ∀ k', k' < k → paintF adj k' n [] = none
set_option maxRecDepth 100000 in
set_option maxHeartbeats 2000000 in
theorem refColours_any (n k : Nat) (l : List Nat) (A : Option Addr) (len cap : Nat) (es : List E3) (w : World) (hE : EdgesAt w w.heap.size A len es) (hn : n ≤ 10) (hl : len ≤ 45) (hk : k ≤ n) (hL : LeastC (adjE es) n k l) :
    Calls Try.prog 17 #[.agg #[.int .i64 (n : Int), .slice A len cap]] w fun e w' => ∃ A' c', e = .returned (.tuple #[.int .i64 (k : Int), .slice A' n c']) ∧ ArgAt w' A' n c' (natG l) ∧ Below w.heap.size w w' := by
  have HX := Lib.hid (BoxG.start (n := (n : Int)) (cap := cap) hE)
  have HL := Lib.hid hL
  have HP := Lib.hid (fun q (hq : q ≤ 100) v W hW hv => refPaint_rec n q A len cap es hn hq hl n 0 none 0 [] v W (Nat.zero_add n) (ArgAt.nil W) hW hv)
  clear hE hL
  go_enter Try.func17, Try.ntmps17
  go_wp2_with fail
  go_loopw [4] (fun y wr => ∃ q : Nat, q ≤ k ∧ y = .int .i64 q ∧ Hid (BoxG w (n : Int) A len cap es wr)) (fun y _ => k - (intOf y).toNat)
  case atStart => exact ⟨0, Nat.zero_le _, rfl, HX⟩
  case round =>
    clear HX
    obtain ⟨q, hq, rfl, HX⟩ := hrel
    have k0 := HX.out.c0
    have k1 := HX.out.c1
    by_cases hqk : q < k
    · have HC := Lib.hid (HP.out q (by omega) none wr HX.out.edges (HL.out.2 q hqk))
      go_wp2_with fail
      refine HC.out.mono ?_
      rintro e w2 ⟨h1, _, hB⟩
      obtain rfl := h1 rfl
      have HX2 := Lib.hid (HX.out.next hB)
      clear h1 hB k0 k1 HC
      go_wp2_with fail
      go_roundw
      case rel => exact ⟨q + 1, by omega, by go_num, HX2⟩
      case measure => simp [intOf]; omega
    · obtain rfl : q = k := by omega
      have HC := Lib.hid (HP.out q (by omega) (some l) wr HX.out.edges HL.out.1)
      go_wp2_with fail
      refine HC.out.mono ?_
      rintro e w2 ⟨_, h1, hB⟩
      obtain ⟨A6, c6, rfl, ha⟩ := h1 l rfl
      have HA := Lib.hid ha
      have HX2 := Lib.hid (HX.out.next hB)
      clear h1 hB k0 k1 HC ha
      go_wp2_with fail
      go_ret2
      exact ⟨A6, c6, rfl, HA.out, HX2.out.below⟩
end Go.Proofs.Ytpcealcghglopaa
