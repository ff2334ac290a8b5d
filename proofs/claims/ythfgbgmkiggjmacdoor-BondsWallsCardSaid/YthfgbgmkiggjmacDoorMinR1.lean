/- The list of the least nodes that each node is linked with. -/
import Derived.Test.YthfgbgmkiggjmacDoorMinR0
namespace Go.Proofs.YthfgbgmkiggjmacDoor

noncomputable def partsR (m : Nat) (F : List E3) : List Int := (List.range m).map fun i => (minR F i : Int)
theorem partsR_len (m : Nat) (F : List E3) : (partsR m F).length = m := by simp [partsR]
theorem partsR_get {m : Nat} {F : List E3} {k : Nat} (hk : k < m) : (partsR m F)[k]? = some (minR F k : Int) := by simp [partsR, hk]
theorem partsR_push {m k : Nat} {F : List E3} (hk : k < m) : ((partsR m F).take (k + 1)).map (Value.int .i64) = ((partsR m F).take k).map (Value.int .i64) ++ [.int .i64 (minR F k : Int)] := by
  have h := @partsR_get m F k hk
  obtain ⟨h1, h2⟩ := List.getElem?_eq_some_iff.1 h
  rw [List.take_succ_eq_append_getElem h1, h2, List.map_append]
  rfl
end Go.Proofs.YthfgbgmkiggjmacDoor
