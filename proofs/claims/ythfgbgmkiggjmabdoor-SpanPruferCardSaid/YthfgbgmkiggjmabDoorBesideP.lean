/- Which nodes lie beside those of a word. Plain facts. -/
import Derived.Test.YthfgbgmkiggjmabDoorBeside
import Derived.Test.YthfgbgmkiggjmabDoorAdj
namespace Go.Proofs.YthfgbgmkiggjmabDoor

theorem foldl_or_bit {α : Type} (f : α → Nat) (j : Nat) : ∀ (l : List α) (a : Nat), (l.foldl (fun acc x => acc ||| f x) a).testBit j = (a.testBit j || l.any fun x => (f x).testBit j)
  | [], a => by simp
  | x :: l, a => by
    simp only [List.foldl_cons, List.any_cons]
    rw [foldl_or_bit f j l, Nat.testBit_or, Bool.or_assoc]
theorem besideN_bit {m : Nat} {es : List E3} (hg : goodE m es) (r j : Nat) : (besideN m (nbL m es) r).testBit j = true ↔ ∃ x, x < m ∧ r.testBit x = true ∧ adjE es x j = true := by
  unfold besideN orTo
  rw [foldl_or_bit (fun i : Fin m => (nbL m es).getD i.val 0)]
  simp only [Nat.zero_testBit, Bool.false_or, List.any_eq_true, mem_nodes]
  constructor
  · rintro ⟨x, hx, hj⟩
    exact ⟨x.val, x.isLt, hx, by rw [← nbL_bit hg x.isLt]; exact hj⟩
  · rintro ⟨x, hxm, hx, hj⟩
    exact ⟨⟨x, hxm⟩, hx, by rw [nbL_bit hg hxm]; exact hj⟩
end Go.Proofs.YthfgbgmkiggjmabDoor
