/- The law SpanDecodes: of any code the program tells the tree, or what is wrong. -/
import Derived.Test.YtepmpijkdlfohaaRefDecode
import Derived.Test.YtepmpijkdlfohaaEdgesSame
namespace Go.Proofs.Ytepmpijkdlfohaa
open Go.RowKit

set_option maxRecDepth 100000 in
set_option maxHeartbeats 1000000 in
theorem spanDecodes_large (A : Option Addr) (len cap : Nat) (xs : List Int) (w : World) (hI : IntsAt w w.heap.size A len xs) (hm : len ≤ maxLen) (hl : 8 < len) :
    Calls Try.prog 4 #[.slice A len cap] w fun e w' => e = .returned (.bool true) ∧ Below w.heap.size w w' := by
  have HI := Lib.hid hI
  have HM := Lib.hid hm
  have hm2 : len ≤ 9223372036854775807 := by unfold maxLen at hm; omega
  clear hI hm
  go_enter Try.func4, Try.ntmps4
  go_wp2_with (go_at_call 11; refine (decode_large A len cap _ hl HM.out).mono ?_; rintro e w1 ⟨rfl, hb1⟩)
  have HB1 := Lib.hid hb1
  have hs1 := hb1.size
  clear hb1
  go_loop [5, 19] (fun x j => ∃ i : Nat, i ≤ len ∧ j = .int .i64 i ∧ x = .int .i64 1) (fun _ j => len - (intOf j).toNat)
  case atStart => exact ⟨0, Nat.zero_le _, rfl, rfl⟩
  case round =>
    obtain ⟨i, hi, rfl, rfl⟩ := hrel
    by_cases hin : i < len
    · obtain ⟨b, off, y, rfl, hb, hy, hc⟩ := (HI.out.below HB1.out).at_ hin
      have hbr : b < w1.heap.size := by omega
      have hbr2 : ¬ b = w1.heap.size := by omega
      have ix0 : (0 : Int) ≤ (i : Int) := by omega
      have ix1 : (i : Int) < (len : Int) := by omega
      clear hy
      go_wp2
      go_round
      case rel => exact ⟨i + 1, by omega, by go_num, rfl⟩
      case measure => simp [intOf]; omega
    · obtain rfl : i = len := by omega
      go_wp2
      go_ret
      exact ⟨rfl, HB1.out.alloc (by omega) _⟩

set_option maxRecDepth 100000 in
set_option maxHeartbeats 1000000 in
theorem spanDecodes_bad (A : Option Addr) (len cap k : Nat) (xs : List Int) (z : Int) (w : World) (hI : IntsAt w w.heap.size A len xs) (hl : len ≤ 8) (hk : xs[k]? = some z) (hx : z < 0 ∨ (len : Int) + 2 ≤ z) (hok : ∀ j y, j < k → xs[j]? = some y → 0 ≤ y ∧ y < (len : Int) + 2) :
    Calls Try.prog 4 #[.slice A len cap] w fun e w' => e = .returned (.bool true) ∧ Below w.heap.size w w' := by
  have HI := Lib.hid hI
  have HK := Lib.hid hk
  have HX := Lib.hid hx
  have HO := Lib.hid hok
  have hkl : k < len := by have := (List.getElem?_eq_some_iff.1 hk).1; have := hI.1; omega
  clear hI hk hx hok
  go_enter Try.func4, Try.ntmps4
  go_wp2_with (go_at_call 11; refine (decode_bad A len cap k xs z _ HI.out hl HK.out HX.out HO.out).mono ?_; rintro e w1 ⟨rfl, hb1⟩)
  have HB1 := Lib.hid hb1
  have hs1 := hb1.size
  clear hb1
  go_loop [5, 19] (fun x j => ∃ i : Nat, i ≤ len ∧ j = .int .i64 i ∧ ((Hid (i ≤ k) ∧ x = .int .i64 0) ∨ (Hid (k < i) ∧ x = .int .i64 2))) (fun _ j => len - (intOf j).toNat)
  case atStart => exact ⟨0, Nat.zero_le _, rfl, .inl ⟨Lib.hid (Nat.zero_le _), rfl⟩⟩
  case round =>
    obtain ⟨i, hi, rfl, hcase⟩ := hrel
    by_cases hin : i < len
    · obtain ⟨b, off, y, rfl, hb, hy, hc⟩ := (HI.out.below HB1.out).at_ hin
      have hbr : b < w1.heap.size := by omega
      have hbr2 : ¬ b = w1.heap.size := by omega
      have ix0 : (0 : Int) ≤ (i : Int) := by omega
      have ix1 : (i : Int) < (len : Int) := by omega
      rcases hcase with ⟨HIK, rfl⟩ | ⟨HIK, rfl⟩
      · by_cases hik : i = k
        · subst hik
          obtain rfl : y = z := by have := HK.out; rw [hy] at this; injection this
          have hxx : (y < 0) ∨ (¬ y < 0 ∧ (len : Int) + 2 ≤ y) := by have := HX.out; omega
          clear hy
          rcases hxx with hx1 | ⟨hx0, hx1⟩
          all_goals
            go_wp2
            go_round
            case rel => exact ⟨i + 1, by omega, by go_num, .inr ⟨Lib.hid (by omega), rfl⟩⟩
            case measure => simp [intOf]; omega
        · have HN : Hid (i + 1 ≤ k) := Lib.hid (by have := HIK.out; omega)
          obtain ⟨hy0, hy1⟩ := HO.out i y (by have := HN.out; omega) hy
          have hy2 : ¬ y < 0 := by omega
          have hy3 : ¬ (len : Int) + 2 ≤ y := by omega
          clear hy
          go_wp2
          go_round
          case rel => exact ⟨i + 1, by omega, by go_num, .inl ⟨HN, rfl⟩⟩
          case measure => simp [intOf]; omega
      · have HN : Hid (k < i + 1) := Lib.hid (by have := HIK.out; omega)
        clear hy
        go_wp2
        go_round
        case rel => exact ⟨i + 1, by omega, by go_num, .inr ⟨HN, rfl⟩⟩
        case measure => simp [intOf]; omega
    · obtain rfl : i = len := by omega
      rcases hcase with ⟨HIK, rfl⟩ | ⟨HIK, rfl⟩
      · have := HIK.out; omega
      · go_wp2
        go_ret
        exact ⟨rfl, HB1.out.alloc (by omega) _⟩

set_option maxRecDepth 100000 in
set_option maxHeartbeats 1000000 in
theorem spanDecodes_good (A : Option Addr) (cap : Nat) (cs : List Nat) (w : World) (hI : IntsAt w w.heap.size A cs.length (intsN cs)) (hcap : cs.length ≤ cap) (hm : cap ≤ maxLen) (hl : cs.length ≤ 8) (hok : ∀ c ∈ cs, c < cs.length + 2) :
    Calls Try.prog 4 #[.slice A cs.length cap] w fun e w' => e = .returned (.bool true) ∧ Below w.heap.size w w' := by
  have hm2 : cap ≤ 9223372036854775807 := by unfold maxLen at hm; omega
  have HD := Lib.hid (decode_good A cap cs w hI hl hok)
  have HR : Hid (∀ w1, Below w.heap.size w w1 → Calls Try.prog 12 #[.slice A cs.length cap] w1 (RefDec w1 cs)) := Lib.hid fun w1 hb => refDecode_any A cap cs w1 (hI.go_ hb) hl hcap hm2
  have HO : Hid (∀ c ∈ cs, c < cs.length + 2) := Lib.hid hok
  obtain ⟨len, hlen⟩ : ∃ n, n = cs.length := ⟨_, rfl⟩
  have HLn := Lib.hid hlen
  have HI : Hid (IntsAt w w.heap.size A len (intsN cs)) := Lib.hid (by rw [hlen]; exact hI)
  have hN : cs.length + 2 = len + 2 := by omega
  have hN1 : cs.length + 1 = len + 1 := by omega
  have HD' : Hid (Calls Try.prog 11 #[.slice A len cap] w (DecGood w cs)) := Lib.hid (by rw [hlen]; exact HD.out)
  have HR' : Hid (∀ w1, Below w.heap.size w w1 → Calls Try.prog 12 #[.slice A len cap] w1 (RefDec w1 cs)) := Lib.hid (by rw [hlen]; exact HR.out)
  rw [← hlen] at hl hcap ⊢
  clear HD HR hI hok hlen
  have HDG : Hid (∀ (e : Ending) w1, DecGood w cs e w1 → ∃ A cap, e = .returned (.tuple #[.agg #[.int .i64 ((len : Int) + 2), .slice A (len + 1) cap], .int .i64 0]) ∧ Hid (EdgesAt w1 w1.heap.size A (len + 1) (decAll cs)) ∧ Hid (Below w.heap.size w w1)) := Lib.hid fun e w1 ⟨A, c, h1, h2, _, h4⟩ => ⟨A, c, by rw [h1, hN, hN1]; rfl, Lib.hid (by rw [← hN1]; exact h2), Lib.hid h4⟩
  have HRG : Hid (∀ (e : Ending) w1 w2, RefDec w1 cs e w2 → ∃ A cap, e = .returned (.agg #[.int .i64 ((len : Int) + 2), .slice A (len + 1) cap]) ∧ Hid (EdgesAt w2 w2.heap.size A (len + 1) (decAll cs)) ∧ Hid (Below w1.heap.size w1 w2)) := Lib.hid fun e w1 w2 ⟨A, c, h1, h2, h4⟩ => ⟨A, c, by rw [h1, hN, hN1]; rfl, Lib.hid (by rw [← hN1]; exact h2), Lib.hid h4⟩
  clear hN hN1
  go_enter Try.func4, Try.ntmps4
  go_wp2_with (go_at_call 11; refine HD'.out.mono ?_; rintro e w1 hd; obtain ⟨A1, c1, rfl, HE1, HB1⟩ := HDG.out e w1 hd; clear hd)
  have hs1 := HB1.out.size
  go_loop [5, 19] (fun x j => ∃ i : Nat, i ≤ len ∧ j = .int .i64 i ∧ x = .int .i64 0) (fun _ j => len - (intOf j).toNat)
  case atStart => exact ⟨0, Nat.zero_le _, rfl, rfl⟩
  case round =>
    obtain ⟨i, hi, rfl, rfl⟩ := hrel
    by_cases hin : i < len
    · obtain ⟨b, off, y, rfl, hb, hy, hc⟩ := (HI.out.below HB1.out).at_ hin
      have hbr : b < w1.heap.size := by omega
      have hbr2 : ¬ b = w1.heap.size := by omega
      obtain ⟨c, hcs, rfl⟩ := intsN_get hy
      have hcn : c < len + 2 := by have := HO.out c (List.mem_of_getElem? hcs); have := HLn.out; omega
      have ix0 : (0 : Int) ≤ (i : Int) := by omega
      have ix1 : (i : Int) < (len : Int) := by omega
      have hy2 : ¬ (c : Int) < 0 := by omega
      have hy3 : ¬ (len : Int) + 2 ≤ (c : Int) := by omega
      clear hy hcs
      go_wp2
      go_round
      case rel => exact ⟨i + 1, by omega, by go_num, rfl⟩
      case measure => simp [intOf]; omega
    · obtain rfl : i = len := by omega
      have HB2 : Hid (Below w.heap.size w (w1.alloc (.cells #[.int .i64 ((i : Int) + 2), .slice A1 (i + 1) c1] 24))) := Lib.hid (HB1.out.alloc (by omega) _)
      obtain ⟨W, hW⟩ : ∃ W, W = w1.alloc (.cells #[.int .i64 ((i : Int) + 2), .slice A1 (i + 1) c1] 24) := ⟨_, rfl⟩
      have HW := Lib.hid hW
      have HEW : Hid (EdgesAt W W.heap.size A1 (i + 1) (decAll cs)) := Lib.hid (by rw [hW]; exact (HE1.out.alloc (Nat.le_refl _) _).more (by simp))
      have hs2 : w1.heap.size < W.heap.size := by rw [hW]; simp
      have q0 : W.cell? ⟨w1.heap.size, 0, none⟩ = some (.int .i64 ((i : Int) + 2)) := by rw [hW]; simp [go_sem]
      have q1 : W.cell? ⟨w1.heap.size, 1, none⟩ = some (.slice A1 (i + 1) c1) := by rw [hW]; simp [go_sem]
      have HC := Lib.hid (HR'.out W (by rw [hW]; exact HB2.out))
      have HBW : Hid (Below w.heap.size w W) := Lib.hid (by rw [hW]; exact HB2.out)
      rw [hW] at HC
      go_wp2_with (first
        | (go_at_call 12; refine HC.out.mono ?_; rintro e w2 hd; obtain ⟨A2, c2, rfl, HE2, HB3⟩ := HRG.out e _ w2 hd; clear hd; have p0 : w2.cell? ⟨w1.heap.size, 0, none⟩ = some (.int .i64 ((i : Int) + 2)) := (by rw [HB3.out.cell (p := ⟨w1.heap.size, 0, none⟩) (by simp)]; simp [go_sem]); have p1 : w2.cell? ⟨w1.heap.size, 1, none⟩ = some (.slice A1 (i + 1) c1) := (by rw [HB3.out.cell (p := ⟨w1.heap.size, 1, none⟩) (by simp)]; simp [go_sem]); have hs3 : w1.heap.size < w2.heap.size := (by have := HB3.out.size; simp at this; omega); have HEB : Hid (EdgesAt w2 w2.heap.size A1 (i + 1) (decAll cs)) := Lib.hid (by have h := HEW.out.go_ (w' := w2) (by rw [HW.out]; exact HB3.out); exact h))
        | (go_at_call 13; refine (edges_same A1 A2 (i + 1) c1 c2 (decAll cs) _ (by exact ((HEB.out.alloc (Nat.le_refl _) _).more (by simp))) (by exact ((HE2.out.alloc (Nat.le_refl _) _).more (by simp))) (by omega)).mono ?_; rintro e w3 ⟨rfl, q, rfl⟩))
      go_ret
      exact ⟨rfl, below_drewN ((HBW.out.trans (by rw [HW.out]; exact HB3.out.mono (by simp; have := HB1.out.size; omega))).alloc (by omega) _) q⟩

theorem spanDecodes_any (A : Option Addr) (len cap : Nat) (xs : List Int) (w : World) (hI : IntsAt w w.heap.size A len xs) (hcap : len ≤ cap) (hm : cap ≤ maxLen) :
    Calls Try.prog 4 #[.slice A len cap] w fun e w' => e = .returned (.bool true) ∧ Below w.heap.size w w' := by
  by_cases hl : 8 < len
  · exact spanDecodes_large A len cap xs w hI (Nat.le_trans hcap hm) hl
  · cases hf : xs.findIdx? fun x => decide (x < 0) || decide ((len : Int) + 2 ≤ x) with
    | some k =>
      rw [List.findIdx?_eq_some_iff_getElem] at hf
      obtain ⟨hk, hp, hlt⟩ := hf
      refine spanDecodes_bad A len cap k xs xs[k] w hI (by omega) (List.getElem?_eq_getElem hk) (by simpa using hp) (fun j y hj hy => ?_)
      obtain ⟨h1, h2⟩ := List.getElem?_eq_some_iff.1 hy
      have := hlt j hj
      rw [h2] at this
      simp at this
      omega
    | none =>
      rw [List.findIdx?_eq_none_iff] at hf
      have hall : ∀ x ∈ xs, 0 ≤ x ∧ x < (len : Int) + 2 := fun x hx => by
        have := hf x hx
        simp at this
        omega
      obtain ⟨cs, rfl⟩ : ∃ cs : List Nat, xs = intsN cs := ⟨xs.map Int.toNat, by
        unfold intsN
        rw [List.map_map]
        conv => lhs; rw [← List.map_id xs]
        exact List.map_congr_left fun x hx => by have := hall x hx; simp; omega⟩
      have hlen : len = cs.length := by have := hI.1; rw [intsN_length] at this; omega
      subst hlen
      exact spanDecodes_good A cap cs w hI hcap hm (by omega) (fun c hc => by have := hall c (intsN_mem.2 hc); omega)
end Go.Proofs.Ytepmpijkdlfohaa
