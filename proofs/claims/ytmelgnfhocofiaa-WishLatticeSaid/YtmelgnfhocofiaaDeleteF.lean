/- slices.IndexFunc and slices.DeleteFunc of a row of integers, by wish.Holds' function: what is -1. -/
import Derived.Test.YtmelgnfhocofiaaMat
import Derived.Lib.SliceRun
import Derived.Laws.Cells
import Derived.Laws.IdiomCopy
namespace Go.Proofs.Ytmelgnfhocofiaa
open Go.RowKit

/-- What is kept of the first j. -/
def keptJ (f : Nat → Int) : Nat → List Int
  | 0 => []
  | j + 1 => if f j = -1 then keptJ f j else keptJ f j ++ [f j]
theorem keptJ_le (f : Nat → Int) : ∀ j, (keptJ f j).length ≤ j
  | 0 => Nat.le_refl _
  | j + 1 => by
    have ih := keptJ_le f j
    unfold keptJ
    split
    · omega
    · simp; omega
theorem keptJ_filter (f : Nat → Int) : ∀ j, keptJ f j = ((List.range j).map f).filter fun x => !decide (x = -1)
  | 0 => rfl
  | j + 1 => by
    rw [List.range_succ, List.map_append, List.filter_append, ← keptJ_filter f j, show keptJ f (j + 1) = if f j = -1 then keptJ f j else keptJ f j ++ [f j] from rfl]
    split <;> rename_i h <;> simp [h]
theorem keptJ_all {f : Nat → Int} {j : Nat} (h : ∀ t, t < j → f t ≠ -1) : keptJ f j = (List.range j).map f := by
  rw [keptJ_filter, List.filter_eq_self]
  intro x hx
  obtain ⟨t, ht, rfl⟩ := List.mem_map.1 hx
  simpa using h t (List.mem_range.1 ht)
/-- The value of the function. -/
def isNone_ : Value := .func (.func 30) #[] #[]
set_option maxRecDepth 100000 in
set_option maxHeartbeats 400000 in
theorem isNone_any (x : Int) (b : Bool) (w : World) (hb : (x == -1) = b) :
    Calls Try.prog 30 #[.int .i64 x] w fun e w' => e = .returned (.bool b) ∧ w' = w := by
  go_enter Try.func30, Try.ntmps30
  go_wp2
  go_ret
  exact ⟨rfl, rfl⟩

set_option maxRecDepth 100000 in
set_option maxHeartbeats 1000000 in
/-- The first that is -1. -/
theorem indexF_any (n cap k : Nat) (g : Nat) (f : Nat → Int) (w : World) (hR : RowC w g n f) (hn : n ≤ 8) (hk : k ≤ n) (h1 : k < n → f k = -1) (h2 : ∀ j, j < k → f j ≠ -1) (r : Int) (hr : r = if k < n then (k : Int) else -1) :
    Calls Try.prog 44 #[.slice (some ⟨g, 0, none⟩) n cap, isNone_] w fun e w' => e = .returned (.int .i64 r) ∧ w' = w := by
  have HA := Lib.hid hR
  have HK := Lib.hid h1
  have HL := Lib.hid h2
  have HR := Lib.hid hr
  clear hR h1 h2 hr
  unfold isNone_
  go_enter Try.func44, Try.ntmps44
  go_wp2
  go_loop [8] (fun j => ∃ i : Nat, i ≤ k ∧ j = .int .i64 i) (fun j => n - (intOf j).toNat)
  case atStart => exact ⟨0, Nat.zero_le _, rfl⟩
  case round =>
    obtain ⟨i, hi, rfl⟩ := hrel
    by_cases hin : i < n
    · have hc := HA.out.cell hin
      have ix0 : (0 : Int) ≤ (i : Int) := by omega
      have ix1 : (i : Int) < (n : Int) := by omega
      obtain ⟨x, hx⟩ : ∃ x, x = f i := ⟨_, rfl⟩
      rw [← hx] at hc
      by_cases hik : i = k
      · have hb : (x == -1) = true := by have := HK.out (by omega); rw [← hik, ← hx] at this; simpa using this
        have HQ := Lib.hid (isNone_any x true · hb)
        have HE : Hid (r = (i : Int)) := Lib.hid (by rw [HR.out, if_pos (by omega), hik])
        clear HK HL HA hx hik HR hb
        go_wp2_with fail
        refine (HQ.out _).mono ?_
        rintro e w1 ⟨rfl, rfl⟩
        go_wp2
        go_ret
        exact ⟨by rw [HE.out]; rfl, rfl⟩
      · have hb : (x == -1) = false := by have := HL.out i (by omega); rw [← hx] at this; simpa using this
        have HQ := Lib.hid (isNone_any x false · hb)
        have HI := Lib.hid (show i + 1 ≤ k by omega)
        clear hx hik hb
        go_wp2_with fail
        refine (HQ.out _).mono ?_
        rintro e w1 ⟨rfl, rfl⟩
        go_wp2
        go_round
        case rel => exact ⟨i + 1, HI.out, by go_num⟩
        case measure => simp [intOf]; omega
    · have HE : Hid (r = -1) := Lib.hid (by rw [HR.out, if_neg (by omega)])
      obtain rfl : i = n := by omega
      clear HR HK HL HA
      go_wp2
      go_ret
      exact ⟨by rw [HE.out]; rfl, rfl⟩

set_option maxRecDepth 100000 in
theorem int_zero : ∀ w, (zeroValue 3).run Try.prog w = .ok (.int .i64 0) w := by
  obtain ⟨i0, hi, hz0, -, -⟩ := info_parts (show (Try.prog.info? 3).map (fun i => (i.zero, i.size, i.bytes)) = some (some (.int .i64 0), 1, 8) by kernel_rfl)
  intro w
  simp [zeroValue, typeInfo, hi, hz0]
theorem RowC.to {w : World} {g n k : Nat} {h : Nat → Int} (H : RowC w g n h) (hk : k ≤ n) : RowC w g k h := by
  obtain ⟨cur, h1, h2⟩ := H
  exact ⟨cur, h1, fun j hj => h2 j (by omega)⟩
theorem RowC.zeros {g k : Nat} {h : Nat → Int} : ∀ {w : World}, RowC w g k h → ∀ (m o : Nat), k ≤ o → RowC (w.setCells g o (List.replicate m (.int .i64 0))) g k h
  | _, H, 0, _, _ => H
  | _, H, m + 1, o, ho => ((H.set_ o 0).congr fun j hj => by unfold updF; rw [if_neg (by omega)]).zeros m (o + 1) (by omega)
theorem below_zeros {w : World} (g : Nat) : ∀ (m o : Nat) {wr : World}, Below g w wr → Below g w (wr.setCells g o (List.replicate m (.int .i64 0)))
  | 0, _, _, H => H
  | m + 1, o, _, H => below_zeros g m (o + 1) (H.setCell (p := ⟨g, o, none⟩) (Nat.le_refl _) _)
/-- In the middle of it. -/
structure DelRel (w wr : World) (g n : Nat) (f : Nat → Int) (i j : Nat) : Prop where
  lt : i < j
  le : j ≤ n
  cnt : i = (keptJ f j).length
  row : ∃ h : Nat → Int, RowC wr g n h ∧ (∀ t, t < i → h t = (keptJ f j).getD t 0) ∧ ∀ t, j ≤ t → t < n → h t = f t
  below : Below g w wr

set_option maxRecDepth 100000 in
set_option maxHeartbeats 2000000 in
theorem deleteF_any (n cap g : Nat) (f : Nat → Int) (w : World) (hR : RowC w g n f) (hn : n ≤ 8) (hcap : n ≤ cap) :
    Calls Try.prog 28 #[.slice (some ⟨g, 0, none⟩) n cap, isNone_] w fun e w' => ∃ c', e = .returned (.slice (some ⟨g, 0, none⟩) (keptJ f n).length c') ∧ RowC w' g (keptJ f n).length (fun t => (keptJ f n).getD t 0) ∧ Below g w w' := by
  obtain ⟨k, hk, h1, h2⟩ : ∃ k : Nat, k ≤ n ∧ (k < n → f k = -1) ∧ ∀ j, j < k → f j ≠ -1 := by
    clear hR hcap
    induction n with
    | zero => exact ⟨0, Nat.le_refl _, fun h => absurd h (by omega), fun j h => absurd h (by omega)⟩
    | succ n ih =>
      obtain ⟨k, q1, q2, q3⟩ := ih (by omega)
      rcases Nat.lt_or_ge k n with h | h
      · exact ⟨k, by omega, fun _ => q2 h, q3⟩
      · obtain rfl : k = n := by omega
        by_cases hf : f k = -1
        · exact ⟨k, by omega, fun _ => hf, q3⟩
        · exact ⟨k + 1, by omega, fun h => absurd h (by omega), fun j hj => by
            rcases Nat.lt_or_ge j k with h | h
            · exact q3 j h
            · obtain rfl : j = k := by omega
              exact hf⟩
  have HC := Lib.hid (fun r hr => indexF_any n cap k g f w hR hn hk h1 h2 r hr)
  have HR := Lib.hid hR
  have HL := Lib.hid h2
  have HK := Lib.hid h1
  clear hR h1 h2
  unfold isNone_ at *
  rcases Nat.lt_or_ge k n with hlt | hge
  · have HC2 := Lib.hid (HC.out (k : Int) (by rw [if_pos hlt]))
    have hk1 : ((k : Int) == -1) = false := by simp
    have hk2 : ¬ ((k : Int) = -1) := by omega
    clear HC
    go_enter Try.func28, Try.ntmps28
    go_wp2_with fail
    refine HC2.out.mono ?_
    rintro e w1 ⟨rfl, rfl⟩
    have HS : Hid (DelRel w1 w1 g n f k (k + 1)) := Lib.hid ⟨Nat.lt_succ_self _, hlt, by
      unfold keptJ
      rw [if_pos (HK.out hlt), keptJ_all HL.out]; simp, ⟨f, HR.out, fun t ht => by
      unfold keptJ
      rw [if_pos (HK.out hlt), keptJ_all HL.out, List.getD_eq_getElem?_getD, List.getElem?_map, List.getElem?_range ht]; rfl, fun _ _ _ => rfl⟩, Below.refl _ _⟩
    clear HC2 HK HL hk1 hk2
    go_wp2
    clear ‹((k : Int) == -1) = false›
    go_loopw [5, 6, 7] (fun x5 x6 _ wr => ∃ i j : Nat, x5 = .int .i64 i ∧ x6 = .int .i64 j ∧ Hid (DelRel w1 wr g n f i j)) (fun _ x6 _ _ => n - (intOf x6).toNat)
    case atStart => exact ⟨k, k + 1, rfl, by go_num, HS⟩
    case round =>
      clear HS
      obtain ⟨i, j, rfl, rfl, HR⟩ := hrel
      have hij := HR.out.lt
      have hjn := HR.out.le
      obtain ⟨h, q1, q2, q3⟩ := HR.out.row
      rcases Nat.lt_or_ge j n with hj | hj
      · obtain ⟨x, hx⟩ : ∃ x, x = f j := ⟨_, rfl⟩
        have cj : wr.cell? ⟨g, j, none⟩ = some (.int .i64 x) := by rw [hx, ← q3 j (Nat.le_refl _) hj]; exact q1.cell hj
        have ci := q1.cell (j := i) (by omega)
        have fi := q1.frozen i
        have ix0 : (0 : Int) ≤ (i : Int) := by omega
        have ix1 : (i : Int) < (n : Int) := by omega
        have jx0 : (0 : Int) ≤ (j : Int) := by omega
        have jx1 : (j : Int) < (n : Int) := by omega
        by_cases hf : f j = -1
        · have hb : (x == -1) = true := by rw [hx]; simpa using hf
          have HQ := Lib.hid (isNone_any x true · hb)
          have HN : Hid (DelRel w1 wr g n f i (j + 1)) := Lib.hid ⟨by omega, by omega, by have := HR.out.cnt; unfold keptJ; rwa [if_pos hf], ⟨h, q1, fun t ht => by unfold keptJ; rw [if_pos hf]; exact q2 t ht, fun t h3 h4 => q3 t (by omega) h4⟩, HR.out.below⟩
          clear HR hx hf hb q1 q2 q3 hij hjn
          go_wp2_with fail
          refine (HQ.out _).mono ?_
          rintro e w2 ⟨rfl, rfl⟩
          go_wp2
          go_roundw
          case rel => exact ⟨i, j + 1, rfl, by go_num, HN⟩
          case measure => simp [intOf]; omega
        · have hb : (x == -1) = false := by rw [hx]; simpa using hf
          have HQ := Lib.hid (isNone_any x false · hb)
          have HN : Hid (DelRel w1 (wr.setCell ⟨g, i, none⟩ (.int .i64 x)) g n f (i + 1) (j + 1)) := Lib.hid ⟨by omega, by omega, by have := HR.out.cnt; unfold keptJ; rw [if_neg hf, List.length_append]; simp only [List.length_singleton]; omega, ⟨updF h i x, q1.set_ i x, fun t ht => by
              have hc := HR.out.cnt
              unfold keptJ updF
              rw [if_neg hf]
              rcases Nat.lt_or_ge t i with h5 | h5
              · rw [if_neg (by omega), List.getD_eq_getElem?_getD, List.getElem?_append_left (by omega), ← List.getD_eq_getElem?_getD]; exact q2 t h5
              · obtain rfl : t = i := by omega
                rw [if_pos rfl, List.getD_eq_getElem?_getD, List.getElem?_append_right (by omega), ← hc, Nat.sub_self, hx]; rfl, fun t h3 h4 => by
              unfold updF; rw [if_neg (by omega)]; exact q3 t (by omega) h4⟩, HR.out.below.setCell (p := ⟨g, i, none⟩) (Nat.le_refl _) _⟩
          clear HR hx hf hb q1 q2 q3 hjn
          go_wp2_with fail
          refine (HQ.out _).mono ?_
          rintro e w2 ⟨rfl, rfl⟩
          go_wp2
          go_roundw
          case rel => exact ⟨i + 1, j + 1, by go_num, by go_num, HN⟩
          case measure => simp [intOf]; omega
      · obtain rfl : j = n := by omega
        have hcl : ∀ ty, (Builtin.clear_ #[28] ty #[.slice (some ⟨g, i, none⟩) (j - i) (cap - i)]).run Try.prog wr = .ok (.tuple #[]) (wr.setCells g i (List.replicate (j - i) (.int .i64 0))) :=
          fun ty => Lib.run_clear_slice wr 28 3 ty _ Try.underlying28 int_zero rfl rfl g i (j - i) (cap - i) (by omega) (fun t ht => by rw [q1.cell (j := i + t) (by omega)]; rfl) (fun t _ => q1.frozen (i + t))
        obtain ⟨W, hW⟩ : ∃ W, W = wr.setCells g i (List.replicate (j - i) (.int .i64 0)) := ⟨_, rfl⟩
        rw [← hW] at hcl
        have HN : Hid (i = (keptJ f j).length ∧ RowC W g i (fun t => (keptJ f j).getD t 0) ∧ Below g w1 W) := Lib.hid ⟨HR.out.cnt, by rw [hW]; exact (RowC.zeros (RowC.to q1 (by omega)) (j - i) i (Nat.le_refl _)).congr fun t ht => q2 t ht, by rw [hW]; exact below_zeros g (j - i) i HR.out.below⟩
        have ix0 : (0 : Int) ≤ (i : Int) := by omega
        have ix1 : (i : Int) ≤ (j : Int) := by omega
        have ix2 : (i : Int) ≤ (cap : Int) := by omega
        clear HR q1 q2 q3 hjn hW hj
        go_wp2
        go_ret
        exact ⟨cap, by rw [← HN.out.1]; rfl, by rw [← HN.out.1]; exact HN.out.2.1, HN.out.2.2⟩
  · obtain rfl : k = n := by omega
    have HC2 := Lib.hid (HC.out (-1) (by rw [if_neg (by omega)]))
    have HN : Hid (k = (keptJ f k).length ∧ RowC w g k (fun t => (keptJ f k).getD t 0)) := Lib.hid (by
      rw [keptJ_all HL.out]
      refine ⟨by simp, HR.out.congr fun t ht => ?_⟩
      rw [List.getD_eq_getElem?_getD, List.getElem?_map, List.getElem?_range ht]; rfl)
    clear HC HR HL HK
    go_enter Try.func28, Try.ntmps28
    go_wp2_with fail
    refine HC2.out.mono ?_
    rintro e w1 ⟨rfl, rfl⟩
    clear HC2
    go_wp2
    go_ret
    exact ⟨cap, by rw [← HN.out.1]; rfl, by rw [← HN.out.1]; exact HN.out.2, Below.refl _ _⟩
end Go.Proofs.Ytmelgnfhocofiaa
