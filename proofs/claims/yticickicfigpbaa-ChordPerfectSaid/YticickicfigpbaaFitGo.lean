/- colour.Greedy's closure; slices.IndexFunc by it: the first set that has no neighbour. No conditions but that there is one. -/
import Derived.Test.YticickicfigpbaaWordsAt
import Derived.Test.YticickicfigpbaaNeigh
namespace Go.Proofs.Yticickicfigpbaa
open Go.RowKit

set_option maxRecDepth 100000 in
set_option maxHeartbeats 400000 in
theorem fit_any (s nbx gA gN ba oa m cA i : Nat) (q : Bool) (w : World) (hs : s < 1024) (hn : nbx < 1024) (hi : i < m)
    (kA : w.cell? ⟨gA, 0, none⟩ = some (.slice (some ⟨ba, oa, none⟩) m cA)) (kN : w.cell? ⟨gN, 0, none⟩ = some (.int .i64 (i : Int))) (kb : w.cell? ⟨ba, oa + i, none⟩ = some (.int .u32 (nbx : Int))) (hq : (s &&& nbx == 0) = q) :
    Calls Try.prog 37 #[.int .u32 (s : Int), .pointer (some ⟨gA, 0, none⟩), .pointer (some ⟨gN, 0, none⟩)] w fun e w' => e = .returned (.bool q) ∧ w' = w := by
  have hand := and_u32 s nbx (by omega) (by omega)
  have hi0 : (0 : Int) ≤ (i : Int) := by omega
  have hi1 : (i : Int) < (m : Int) := by omega
  have hb : (((s &&& nbx : Nat) : Int) == 0) = q := by
    rw [← hq, Bool.eq_iff_iff, beq_iff_eq, beq_iff_eq]; omega
  clear hq
  generalize s &&& nbx = z at hand hb
  go_enter Try.func37, Try.ntmps37
  go_wp2
  go_ret
  exact ⟨rfl, rfl⟩
set_option maxRecDepth 100000 in
set_option maxHeartbeats 1000000 in
theorem idxFit_any (n cap gS gA gN ba oa m cA i nbx c : Nat) (L : List Nat) (w : World) (hn : n ≤ 10) (hL : L.length = n) (hR : RowOf w gS 38 (L.map u32V)) (hLl : ∀ x ∈ L, x < 1024) (hnx : nbx < 1024) (hi : i < m)
    (kA : w.cell? ⟨gA, 0, none⟩ = some (.slice (some ⟨ba, oa, none⟩) m cA)) (kN : w.cell? ⟨gN, 0, none⟩ = some (.int .i64 (i : Int))) (kb : w.cell? ⟨ba, oa + i, none⟩ = some (.int .u32 (nbx : Int)))
    (hc : c < n) (h1 : ∀ j, j < c → L.getD j 0 &&& nbx ≠ 0) (h2 : L.getD c 0 &&& nbx = 0) :
    Calls Try.prog 36 #[.slice (some ⟨gS, 0, none⟩) n cap, .func (.func 37) #[] #[.pointer (some ⟨gA, 0, none⟩), .pointer (some ⟨gN, 0, none⟩)]] w fun e w' => e = .returned (.int .i64 (c : Int)) ∧ w' = w := by
  have HK := Lib.hid (And.intro kA (And.intro kN kb))
  have HR := Lib.hid hR
  have HL := Lib.hid hLl
  have H1 := Lib.hid h1
  have H2 := Lib.hid h2
  have HLN := Lib.hid hL
  clear kA kN kb hR hLl h1 h2 hL
  go_enter Try.func36, Try.ntmps36
  go_wp2
  go_loop [8, 5] (fun j _ => ∃ k : Nat, k ≤ c ∧ j = .int .i64 k) (fun j _ => n - (intOf j).toNat)
  case atStart => exact ⟨0, Nat.zero_le _, rfl⟩
  case round =>
    obtain ⟨k, hk, rfl⟩ := hrel
    have hkn : (k : Int) < (n : Int) := by omega
    have hkl : k < L.length := by rw [HLN.out]; omega
    have cS : w.cell? ⟨gS, k, none⟩ = some (.int .u32 ((L.getD k 0 : Nat) : Int)) := HR.out.cell (by rw [List.getElem?_map, List.getD_eq_getElem?_getD, List.getElem?_eq_getElem hkl]; rfl)
    have hsl : L.getD k 0 < 1024 := by rw [List.getD_eq_getElem?_getD, List.getElem?_eq_getElem hkl]; exact HL.out _ (List.getElem_mem hkl)
    by_cases hkc : k < c
    · have h5 := H1.out k hkc
      generalize L.getD k 0 = s at cS hsl h5
      have HF := Lib.hid (fit_any s nbx gA gN ba oa m cA i false w hsl hnx hi HK.out.1 HK.out.2.1 HK.out.2.2 (by simpa using h5))
      clear h5
      go_wp2_with fail
      refine HF.out.mono ?_
      rintro e w1 ⟨rfl, rfl⟩
      go_wp2_with fail
      go_round
      case rel => exact ⟨k + 1, by omega, by go_num⟩
      case measure => simp [intOf]; omega
    · obtain rfl : k = c := by omega
      have h5 := H2.out
      generalize L.getD k 0 = s at cS hsl h5
      have HF := Lib.hid (fit_any s nbx gA gN ba oa m cA i true w hsl hnx hi HK.out.1 HK.out.2.1 HK.out.2.2 (by simpa using h5))
      clear h5
      go_wp2_with fail
      refine HF.out.mono ?_
      rintro e w1 ⟨rfl, rfl⟩
      go_wp2_with fail
      go_ret
      exact ⟨rfl, rfl⟩
end Go.Proofs.Yticickicfigpbaa
