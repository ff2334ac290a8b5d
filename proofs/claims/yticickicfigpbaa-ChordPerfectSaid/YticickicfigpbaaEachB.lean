/- A list of numbers of some of n, none twice; the word of those that there were. Plain facts, of no program. -/
import Derived.Test.YticickicfigpbaaPlain
namespace Go.Proofs.Yticickicfigpbaa

def eachB (n : Nat) (xs : List Int) : Bool := decide (xs.Nodup ∧ ∀ x ∈ xs, 0 ≤ x ∧ x < (n : Int))
theorem eachB_iff {n : Nat} {xs : List Int} : eachB n xs = true ↔ xs.Nodup ∧ ∀ x ∈ xs, 0 ≤ x ∧ x < (n : Int) := by unfold eachB; rw [decide_eq_true_iff]
/-- A word says which ones there were. -/
structure EachTo (n : Nat) (ys : List Int) (s : Nat) : Prop where
  nd : ys.Nodup
  rng : ∀ x ∈ ys, 0 ≤ x ∧ x < (n : Int)
  bit : ∀ v : Nat, s.testBit v = true ↔ (v : Int) ∈ ys
theorem EachTo.next {n s v : Nat} {ys : List Int} (h : EachTo n ys s) (hv : v < n) (hb : s.testBit v = false) : EachTo n (ys ++ [(v : Int)]) (s ||| 2 ^ v) := by
  refine ⟨?_, fun x hx => ?_, fun u => ?_⟩
  · rw [List.nodup_append]
    refine ⟨h.nd, by simp, fun a ha b hb' => ?_⟩
    rw [List.mem_singleton.1 hb']
    rintro rfl
    rw [(h.bit v).2 ha] at hb; cases hb
  · rcases List.mem_append.1 hx with hx | hx
    · exact h.rng x hx
    · rw [List.mem_singleton.1 hx]; omega
  · rw [Nat.testBit_or, Nat.testBit_two_pow, Bool.or_eq_true, h.bit u, List.mem_append, List.mem_singleton, decide_eq_true_iff]
    exact or_congr Iff.rfl ⟨fun e => by omega, fun e => by omega⟩
theorem eachB_false {n k s : Nat} {xs : List Int} {x : Int} (h : EachTo n (xs.take k) s) (hx : xs[k]? = some x) (hb : x < 0 ∨ (n : Int) ≤ x ∨ ∃ v : Nat, x = (v : Int) ∧ s.testBit v = true) : eachB n xs = false := by
  rw [Bool.eq_false_iff, Ne, eachB_iff]
  rintro ⟨h1, h2⟩
  have hr := h2 x (List.mem_of_getElem? hx)
  rcases hb with hb | hb | ⟨v, rfl, hb⟩
  · omega
  · omega
  · have hm := (h.bit v).1 hb
    obtain ⟨h3, h4⟩ := List.getElem?_eq_some_iff.1 hx
    have h5 : (xs.take (k + 1)).Nodup := h1.sublist (List.take_sublist _ _)
    rw [List.take_succ_eq_append_getElem h3, h4, List.nodup_append] at h5
    exact h5.2.2 _ hm _ (List.mem_singleton.2 rfl) rfl
end Go.Proofs.Yticickicfigpbaa
