/- Clone and DeleteFunc of a list that came in, nil or not; what is read behind a write of two blocks. -/
import Derived.Test.YtlndghclkcfedaaCloneI
import Derived.Test.YtlndghclkcfedaaDeleteF
import Derived.Test.YtlndghclkcfedaaBoxS
import Derived.Test.YtlndghclkcfedaaCouples
import Derived.Test.YtlndghclkcfedaaLiking
import Derived.Test.YtlndghclkcfedaaHoldsGo
import Derived.Test.YtlndghclkcfedaaRefPairing
namespace Go.Proofs.Ytlndghclkcfedaa
open Go.RowKit

set_option maxHeartbeats 1000000 in
theorem indexF_nil (w : World) :
    Calls Try.prog 43 #[.slice none 0 0, isNone_] w fun e w' => e = .returned (.int .i64 (-1)) ∧ w' = w := by
  unfold isNone_
  go_enter Try.func43, Try.ntmps43
  go_wp2
  go_loop [8] (fun j => j = .int .i64 0) (fun _ => 0)
  case atStart => rfl
  case round =>
    obtain rfl := hrel
    go_wp2
    go_ret
    exact ⟨rfl, rfl⟩
set_option maxHeartbeats 1000000 in
theorem deleteF_nil (w : World) :
    Calls Try.prog 28 #[.slice none 0 0, isNone_] w fun e w' => e = .returned (.slice none 0 0) ∧ w' = w := by
  have H := indexF_nil w
  unfold isNone_ at *
  go_enter Try.func28, Try.ntmps28
  go_wp2_with fail
  refine H.mono ?_
  rintro e w1 ⟨rfl, rfl⟩
  go_wp2
  go_ret
  exact ⟨rfl, rfl⟩
/-- What Clone gave. -/
def Cloned (w : World) (B n : Nat) (xs : List Int) (v : Value) : Prop := (v = .slice none 0 0 ∧ n = 0) ∨ ∃ g cap, v = .slice (some ⟨g, 0, none⟩) n cap ∧ B ≤ g ∧ RowC w g n (fun j => xs.getD j 0) ∧ n ≤ cap
theorem cloned_any (n c : Nat) (A : Option Addr) (xs : List Int) (w : World) (hI : IntsAt w w.heap.size A n xs) (hA : A = none → n = 0) (hn : n ≤ 8) :
    Calls Try.prog 29 #[.slice A n c] w fun e w' => ∃ v, e = .returned v ∧ Cloned w' w.heap.size n xs v ∧ Below w.heap.size w w' := by
  cases A with
  | none => exact (clone_nil n c w).mono fun e w' h => ⟨_, h.1, .inl ⟨rfl, hA rfl⟩, h.2 ▸ Below.refl _ _⟩
  | some a => exact (clone_any n c a xs w hI hn).mono fun e w' ⟨g, cap, h1, h2, h3, h4, _, h6⟩ => ⟨_, h1, .inr ⟨g, cap, rfl, h2, h3, h4⟩, h6⟩
/-- What is not -1. -/
def haveL (xs : List Int) : List Int := xs.filter fun x => !decide (x = -1)
theorem deleted_any (B n : Nat) (xs : List Int) (v : Value) (w : World) (hV : Cloned w B n xs v) (hl : xs.length = n) (hn : n ≤ 8) :
    Calls Try.prog 28 #[v, isNone_] w fun e w' => ∃ A c, e = .returned (.slice A (haveL xs).length c) ∧ IntsAt w' w'.heap.size A (haveL xs).length (haveL xs) ∧ Below B w w' := by
  rcases hV with ⟨rfl, rfl⟩ | ⟨g, cap, rfl, hg, hr, hc⟩
  · have e : xs = [] := List.length_eq_zero_iff.1 hl
    subst e
    exact (deleteF_nil w).mono fun e w' h => ⟨none, 0, h.1, IntsAt.nil_ _ _ _, h.2 ▸ Below.refl _ _⟩
  · have ek : keptJ (fun j => xs.getD j 0) n = haveL xs := by
      rw [keptJ_filter]
      unfold haveL
      congr 1
      apply List.ext_getElem (by simp [hl])
      intro i h1 h2
      rw [List.getElem_map, List.getElem_range, List.getD_eq_getElem?_getD, List.getElem?_eq_getElem h2]; rfl
    refine (deleteF_any n cap g _ w hr hn hc).mono fun e w' h => ?_
    rw [ek] at h
    obtain ⟨c', h1, h2, h3⟩ := h
    refine ⟨some ⟨g, 0, none⟩, c', h1, ⟨rfl, fun _ => ⟨g, 0, rfl, h2.lt, fun i x hx => ?_⟩⟩, h3.mono hg⟩
    have hlt := (List.getElem?_eq_some_iff.1 hx).1
    rw [Nat.zero_add, h2.cell hlt, List.getD_eq_getElem?_getD, hx]; rfl
section
variable {w w1 w2 : World} {A1 A2 : Option Addr} {n1 c1 n2 c2 a b : Nat} {Ls Rs : List (List Int)}
theorem BoxS.only (S1 : SideAt w w.heap.size A1 n1 c1 Ls) (S2 : SideAt w w.heap.size A2 n2 c2 Rs) (h : BoxS w A1 n1 c1 A2 n2 c2 Ls Rs w1) (ho : Only a b w1 w2) (ha : w.heap.size < a) (hb : w.heap.size < b) : BoxS w A1 n1 c1 A2 n2 c2 Ls Rs w2 := by
  have hs : (bxS w A1 n1 c1 A2 n2 c2).heap.size = w.heap.size + 1 := by simp [bxS]
  have h1 := h.box.size
  have h2 : Below w.heap.size w w2 := h.below.trans (ho.below (by omega) (by omega) (by omega))
  exact ⟨S1.go_ h2, S2.go_ h2, h2, h.box.trans (ho.below (by omega) (by omega) (by omega))⟩
end
theorem degs_of_row {w : World} {g : Nat} {t : TypeId} {F G : Nat → Int} (h : RowT w g t 128 (bothF F G)) : DegAt w g 0 F ∧ DegAt w g 64 G := by
  refine ⟨fun k hk => ?_, fun k hk => ?_⟩
  · rw [Nat.zero_add, h.cell (by omega)]; unfold bothF; rw [if_pos hk]
  · rw [h.cell (by omega)]; unfold bothF; rw [if_neg (by omega), Nat.add_sub_cancel_left]
end Go.Proofs.Ytlndghclkcfedaa
