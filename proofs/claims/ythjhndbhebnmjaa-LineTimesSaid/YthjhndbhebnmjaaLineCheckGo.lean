/- line.check: what is wrong with jobs, but for such as come round. No conditions. -/
import Derived.Test.YthjhndbhebnmjaaLineTop
namespace Go.Proofs.Ythjhndbhebnmjaa
open Go.RowKit

def LongA (js : List JobV) : Prop := ∃ j ∈ js, 10 < j.aft.length
set_option maxRecDepth 100000 in
theorem hangs_v (x0 : Int) (A' : Option Addr) (l c' : Nat) (x2 x3 : Int) (b : Bool) (w : World) (hb : b = true ↔ 10 < l) :
    Calls Try.prog 26 #[.agg #[.int .i64 x0, .slice A' l c', .int .i64 x2, .int .i64 x3]] w fun e w' => e = .returned (.bool b) ∧ Below w.heap.size w w' := by
  by_cases h : 10 < l
  · obtain rfl : b = true := hb.2 h
    have hi : (10 : Int) < (l : Int) := by omega
    clear hb h
    go_enter Try.func26, Try.ntmps26
    go_wp2
    go_ret
    exact ⟨rfl, (Below.refl _ _).alloc (Nat.le_refl _) _⟩
  · obtain rfl : b = false := by
      cases b with
      | false => rfl
      | true => exact absurd (hb.1 rfl) h
    have hi : ¬ (10 : Int) < (l : Int) := by omega
    clear hb h
    go_enter Try.func26, Try.ntmps26
    go_wp2
    go_ret
    exact ⟨rfl, (Below.refl _ _).alloc (Nat.le_refl _) _⟩
set_option maxRecDepth 100000 in
set_option maxHeartbeats 1000000 in
theorem indexLong_any (n cap : Nat) (A : Option Addr) (js : List JobV) (w : World) (hA : JobsAt w w.heap.size A n js) (hn : n ≤ 1000000) :
    Calls Try.prog 32 #[.slice A n cap, .func (.func 26) #[] #[]] w fun e w' => ∃ z, e = .returned (.int .i64 z) ∧ (0 ≤ z ↔ LongA js) ∧ Below w.heap.size w w' := by
  have HA := Lib.hid hA
  clear hA
  go_enter Try.func32, Try.ntmps32
  go_wp2
  go_loopw [8] (fun j wr => ∃ k : Nat, k ≤ n ∧ j = .int .i64 k ∧ Hid (∀ i r, i < k → js[i]? = some r → r.aft.length ≤ 10) ∧ Hid (Below w.heap.size w wr)) (fun j _ => n - (intOf j).toNat)
  case atStart => exact ⟨0, Nat.zero_le _, rfl, Lib.hid (fun i r hi => by omega), Lib.hid (Below.refl _ _)⟩
  case round =>
    obtain ⟨k, hk, rfl, HP, HB⟩ := hrel
    by_cases hlt : k < n
    · obtain ⟨b, off, j, A', c', rfl, hbb, hx, hc0, hc1, hc2, hc3, _, _, _⟩ := (HA.out.go_ HB.out).get hlt
      have ik0 : (0 : Int) ≤ (k : Int) := by omega
      have ik1 : (k : Int) < (n : Int) := by omega
      have HX := Lib.hid hx
      clear hx
      by_cases h3 : 10 < j.aft.length
      · have HR : Hid (LongA js) := Lib.hid ⟨j, List.mem_of_getElem? HX.out, h3⟩
        have HS := Lib.hid (fun W => hangs_v j.time A' j.aft.length c' j.due j.worth true W ⟨fun _ => h3, fun _ => rfl⟩)
        clear h3
        go_wp2_with (go_at_call 26; refine (HS.out _).mono ?_; rintro e w1 ⟨rfl, hb1⟩)
        go_ret
        exact ⟨_, rfl, ⟨fun _ => HR.out, fun _ => by omega⟩, HB.out.trans (hb1.mono HB.out.size)⟩
      · have HP2 : Hid (∀ i r, i < k + 1 → js[i]? = some r → r.aft.length ≤ 10) := Lib.hid fun i r hi hr => by
          by_cases e : i = k
          · subst e; rw [HX.out] at hr; injection hr with hr; rw [← hr]; omega
          · exact HP.out i r (by omega) hr
        have HS := Lib.hid (fun W => hangs_v j.time A' j.aft.length c' j.due j.worth false W ⟨fun h => (by cases h), fun h => absurd h h3⟩)
        clear h3
        go_wp2_with (go_at_call 26; refine (HS.out _).mono ?_; rintro e w1 ⟨rfl, hb1⟩)
        go_roundw
        case rel => exact ⟨k + 1, by omega, by go_num, HP2, Lib.hid (HB.out.trans (hb1.mono HB.out.size))⟩
        case measure => simp [intOf]; omega
    · have HR : Hid (¬ LongA js) := Lib.hid (by
        rintro ⟨j, hj, h1⟩
        obtain ⟨i, hi⟩ := List.getElem?_of_mem hj
        have := HP.out i j (by have := (List.getElem?_eq_some_iff.1 hi).1; have := HA.out.len; omega) hi
        omega)
      go_wp2
      go_ret
      exact ⟨-1, rfl, ⟨fun h => by omega, fun h => absurd h HR.out⟩, HB.out⟩
set_option maxRecDepth 100000 in
theorem containsLong_v (n cap : Nat) (A : Option Addr) (js : List JobV) (v : Bool) (w : World) (hA : JobsAt w w.heap.size A n js) (hn : n ≤ 1000000) (hv : v = true ↔ LongA js) :
    Calls Try.prog 27 #[.slice A n cap, .func (.func 26) #[] #[]] w fun e w' => e = .returned (.bool v) ∧ Below w.heap.size w w' := by
  have HA := Lib.hid hA
  have HV := Lib.hid hv
  clear hA hv
  go_enter Try.func27, Try.ntmps27
  go_wp2_with fail
  refine (indexLong_any n cap A js _ (by exact HA.out) hn).mono ?_
  rintro e w1 ⟨z, rfl, hz, hb⟩
  have HZ := Lib.hid hz
  have HB := Lib.hid hb
  clear hz hb
  cases v with
  | true =>
    have hz0 : decide (0 ≤ z) = true := decide_eq_true (HZ.out.2 (HV.out.1 rfl))
    go_wp2
    go_ret
    exact ⟨rfl, HB.out⟩
  | false =>
    have hz0 : decide (0 ≤ z) = false := decide_eq_false fun h => by have := HV.out.2 (HZ.out.1 h); cases this
    go_wp2
    go_ret
    exact ⟨rfl, HB.out⟩
/-- Is a number none of m jobs? -/
def NoJob (m : Nat) (x : Int) : Prop := x < 0 ∨ (m : Int) ≤ x
def noJobV (b : Nat) : Value := .func (.func 28) #[] #[.pointer (some ⟨b, 0, none⟩)]
set_option maxRecDepth 100000 in
theorem noJob_v (b m c : Nat) (A : Option Addr) (x : Int) (v : Bool) (w : World) (hc : w.cell? ⟨b, 0, none⟩ = some (.slice A m c)) (hv : v = true ↔ NoJob m x) :
    Calls Try.prog 28 #[.int .i64 x, .pointer (some ⟨b, 0, none⟩)] w fun e w' => e = .returned (.bool v) ∧ w' = w := by
  by_cases h1 : x < 0
  · obtain rfl : v = true := hv.2 (.inl h1)
    clear hv
    go_enter Try.func28, Try.ntmps28
    go_wp2
    go_ret
    exact ⟨rfl, rfl⟩
  · by_cases h2 : (m : Int) ≤ x
    · obtain rfl : v = true := hv.2 (.inr h2)
      clear hv
      go_enter Try.func28, Try.ntmps28
      go_wp2
      go_ret
      exact ⟨rfl, rfl⟩
    · obtain rfl : v = false := by
        cases v with
        | false => rfl
        | true => rcases hv.1 rfl with h | h <;> omega
      clear hv
      go_enter Try.func28, Try.ntmps28
      go_wp2
      go_ret
      exact ⟨rfl, rfl⟩
set_option maxRecDepth 100000 in
set_option maxHeartbeats 1000000 in
theorem indexNo_any (n cap b m c : Nat) (A A0 : Option Addr) (xs : List Int) (w : World) (hA : IntsAt w w.heap.size A n xs) (hn : n ≤ 1000000) (hc : w.cell? ⟨b, 0, none⟩ = some (.slice A0 m c)) :
    Calls Try.prog 33 #[.slice A n cap, .func (.func 28) #[] #[.pointer (some ⟨b, 0, none⟩)]] w fun e w' => ∃ z, e = .returned (.int .i64 z) ∧ (0 ≤ z ↔ ∃ x ∈ xs, NoJob m x) ∧ w' = w := by
  have HA := Lib.hid hA
  have HC := Lib.hid (fun x v hv => noJob_v b m c A0 x v w hc hv)
  clear hA hc
  go_enter Try.func33, Try.ntmps33
  go_wp2
  go_loop [8] (fun j => ∃ k : Nat, k ≤ n ∧ j = .int .i64 k ∧ Hid (∀ x ∈ xs.take k, ¬ NoJob m x)) (fun j => n - (intOf j).toNat)
  case atStart => exact ⟨0, Nat.zero_le _, rfl, Lib.hid (fun x hx => by simp at hx)⟩
  case round =>
    obtain ⟨k, hk, rfl, HP⟩ := hrel
    by_cases hlt : k < n
    · obtain ⟨bb, off, x, rfl, _, hx, hcx⟩ := HA.out.at_ hlt
      have ik0 : (0 : Int) ≤ (k : Int) := by omega
      have ik1 : (k : Int) < (n : Int) := by omega
      have HX := Lib.hid hx
      clear hx
      by_cases h : NoJob m x
      · have HR : Hid (∃ x ∈ xs, NoJob m x) := Lib.hid ⟨x, List.mem_of_getElem? HX.out, h⟩
        have HO := Lib.hid (HC.out x true ⟨fun _ => h, fun _ => rfl⟩)
        clear h
        go_wp2_with (go_at_call 28; refine HO.out.mono ?_; rintro e w1 ⟨rfl, rfl⟩)
        go_ret
        exact ⟨_, rfl, ⟨fun _ => HR.out, fun _ => by omega⟩, rfl⟩
      · have HP2 : Hid (∀ x ∈ xs.take (k + 1), ¬ NoJob m x) := Lib.hid (by
          obtain ⟨h1, h2⟩ := List.getElem?_eq_some_iff.1 HX.out
          intro y hy
          rw [List.take_succ_eq_append_getElem h1, h2, List.mem_append, List.mem_singleton] at hy
          rcases hy with hy | rfl
          · exact HP.out y hy
          · exact h)
        have HO := Lib.hid (HC.out x false ⟨fun h => (by cases h), fun h' => absurd h' h⟩)
        clear h
        go_wp2_with (go_at_call 28; refine HO.out.mono ?_; rintro e w1 ⟨rfl, rfl⟩)
        go_round
        case rel => exact ⟨k + 1, by omega, by go_num, HP2⟩
        case measure => simp [intOf]; omega
    · have HR : Hid (¬ ∃ x ∈ xs, NoJob m x) := Lib.hid (by
        rintro ⟨x, hx, h⟩
        have := HP.out
        rw [List.take_of_length_le (by have := HA.out.1; omega)] at this
        exact this x hx h)
      go_wp2
      go_ret
      exact ⟨-1, rfl, ⟨fun h => by omega, fun h => absurd h HR.out⟩, rfl⟩
set_option maxRecDepth 100000 in
theorem containsNo_v (n cap b m c : Nat) (A A0 : Option Addr) (xs : List Int) (v : Bool) (w : World) (hA : IntsAt w w.heap.size A n xs) (hn : n ≤ 1000000) (hc : w.cell? ⟨b, 0, none⟩ = some (.slice A0 m c)) (hv : v = true ↔ ∃ x ∈ xs, NoJob m x) :
    Calls Try.prog 29 #[.slice A n cap, .func (.func 28) #[] #[.pointer (some ⟨b, 0, none⟩)]] w fun e w' => e = .returned (.bool v) ∧ w' = w := by
  have HI := Lib.hid (indexNo_any n cap b m c A A0 xs w hA hn hc)
  have HV := Lib.hid hv
  clear hA hv hc
  go_enter Try.func29, Try.ntmps29
  go_wp2_with fail
  refine HI.out.mono ?_
  rintro e w1 ⟨z, rfl, hz, rfl⟩
  have HZ := Lib.hid hz
  clear hz
  cases v with
  | true =>
    have hz0 : decide (0 ≤ z) = true := decide_eq_true (HZ.out.2 (HV.out.1 rfl))
    go_wp2
    go_ret
    exact ⟨rfl, rfl⟩
  | false =>
    have hz0 : decide (0 ≤ z) = false := decide_eq_false fun h => by have := HV.out.2 (HZ.out.1 h); cases this
    go_wp2
    go_ret
    exact ⟨rfl, rfl⟩
theorem rightA_iff {n : Nat} {j : JobV} : (∃ x ∈ j.aft, NoJob n x) ↔ ¬ RightA n j := by
  constructor
  · rintro ⟨x, hx, h⟩ hr
    have := hr x hx
    rcases h with h | h <;> omega
  · intro h
    apply Classical.byContradiction
    intro hc
    refine h fun k hk => ?_
    constructor
    · exact Classical.byContradiction fun h1 => hc ⟨k, hk, .inl (by omega)⟩
    · exact Classical.byContradiction fun h1 => hc ⟨k, hk, .inr (by omega)⟩
end Go.Proofs.Ythjhndbhebnmjaa
