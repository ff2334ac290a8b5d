/- chord.isCrowd; chord.Order's closure; slices.IndexFunc by it: the least that may go. Conditions: at most ten nodes. -/
import Derived.Test.YticickicfigpbaaElimGoP
import Derived.Test.YticickicfigpbaaNextF
import Derived.Test.YticickicfigpbaaNatG
import Derived.Test.YticickicfigpbaaWordsAt
import Derived.IntWalk
import Derived.RegionTactic
import Derived.BigRegion
import Derived.Deep.RegionWith
import Derived.Deep.QuietTactic
import Derived.BigQuiet
namespace Go.Proofs.Yticickicfigpbaa
open Go.RowKit

set_option maxRecDepth 100000 in
set_option maxHeartbeats 1000000 in
theorem isCrowd_any (n cap s : Nat) (A : Option Addr) (xs : List Nat) (r : Bool) (w : World) (hA : WordsAt w w.heap.size A n xs) (hn : n ≤ 10) (hs : s < 1024) (hxs : ∀ i, xs.getD i 0 < 1024) (hr : r = true ↔ CrowdL xs n s) :
    Calls Try.prog 24 #[.slice A n cap, .int .u32 (s : Int)] w fun e w' => e = .returned (.bool r) ∧ w' = w := by
  have HW := Lib.hid hA
  have HR := Lib.hid hr
  have HS := Lib.hid hxs
  clear hA hr hxs
  go_enter Try.func24, Try.ntmps24
  go_wp2
  go_loop [5, 6, 9] (fun _ _ j => ∃ k : Nat, k ≤ n ∧ j = .int .i64 k ∧ Hid (∀ i, i < k → s.testBit i = true → diffW s (xs.getD i 0) = 2 ^ i)) (fun _ _ j => n - (intOf j).toNat)
  case atStart => exact ⟨0, Nat.zero_le _, rfl, Lib.hid fun i hi => absurd hi (Nat.not_lt_zero i)⟩
  case round =>
    obtain ⟨k, hk, rfl, HK⟩ := hrel
    by_cases hkn : k < n
    · have hkn' : (k : Int) < (n : Int) := by omega
      have hk0 : (0 : Int) ≤ (k : Int) := by omega
      have hk32 : (k : Int) ≤ 32 := by omega
      obtain ⟨b, off, rfl, hb, hc⟩ := HW.out.at_ hkn
      have hx := HS.out k
      obtain ⟨x, hxe⟩ : ∃ x, xs.getD k 0 = x := ⟨_, rfl⟩
      have HX := Lib.hid hxe
      rw [hxe] at hc hx
      have hbit := shr_bit s k (by omega)
      have hand := andNot_u32 s x (by omega) (by omega)
      clear hxe
      cases hbk : s.testBit k with
      | false =>
        rw [hbk] at hbit
        have HN : Hid (∀ i, i < k + 1 → s.testBit i = true → diffW s (xs.getD i 0) = 2 ^ i) := Lib.hid (fun i hi h => by
          by_cases e : i = k
          · subst e; rw [hbk] at h; cases h
          · exact HK.out i (by omega) h)
        clear hbk HK hand
        go_wp2
        go_round
        case rel => exact ⟨k + 1, by omega, by go_num, HN⟩
        case measure => simp [intOf]; omega
      | true =>
        rw [hbk] at hbit
        have hpl : 2 ^ k < 1024 := pow10 hn (Nat.pow_lt_pow_right (by decide) hkn)
        have hsm : (2 : Int) ^ k % 4294967296 = ((2 ^ k : Nat) : Int) := pow_mod k (by omega)
        have htm : IntKind.u32.wrap ((2 : Int) ^ k) = ((2 ^ k : Nat) : Int) := by rw [wrap_u32n]; exact hsm
        by_cases hz : diffW s x = 2 ^ k
        · have HN : Hid (∀ i, i < k + 1 → s.testBit i = true → diffW s (xs.getD i 0) = 2 ^ i) := Lib.hid (fun i hi h => by
            by_cases e : i = k
            · subst e; rw [HX.out]; exact hz
            · exact HK.out i (by omega) h)
          rw [hz] at hand
          clear hbk HK hz hpl
          generalize 2 ^ k = pk at hsm htm hand
          have hne : ((pk : Int) != (pk : Int)) = false := by simp
          go_wp2
          go_round
          case rel => exact ⟨k + 1, by omega, by go_num, HN⟩
          case measure => simp [intOf]; omega
        · have HF : Hid (r = false) := Lib.hid (by
            cases hrv : r with
            | false => rfl
            | true => exact absurd (by have := HR.out.1 hrv k hkn hbk; rw [HX.out] at this; exact this) hz)
          have hne : (((diffW s x : Nat) : Int) != ((2 ^ k : Nat) : Int)) = true := by
            rw [bne_iff_ne]; intro h; exact hz (Int.ofNat_inj.1 h)
          clear hbk HK hz hpl
          generalize diffW s x = z at hand hne
          generalize 2 ^ k = pk at hsm htm hne
          go_wp2
          go_ret
          exact ⟨ret_bool HF.out.symm, rfl⟩
    · obtain rfl : k = n := by omega
      have HT : Hid (r = true) := Lib.hid (HR.out.2 HK.out)
      clear HK
      go_wp2
      go_ret
      exact ⟨ret_bool HT.out.symm, rfl⟩
set_option maxRecDepth 100000 in
set_option maxHeartbeats 2000000 in
/-- May this one go? -/
theorem canGo_any (m i G gG gA g cA : Nat) (xs : List Nat) (v : Bool) (w : World) (hm : m ≤ 10) (hi : i < m) (hG : G < 1024) (hxs : ∀ i, xs.getD i 0 < 1024)
    (kG : w.cell? ⟨gG, 0, none⟩ = some (.int .u32 (G : Int))) (kA : w.cell? ⟨gA, 0, none⟩ = some (.slice (some ⟨g, 0, none⟩) m cA)) (hW : WordsAt w w.heap.size (some ⟨g, 0, none⟩) m xs)
    (hv : v = true ↔ G.testBit i = false ∧ CrowdL xs m (diffW (xs.getD i 0) G)) :
    Calls Try.prog 23 #[.int .i64 (i : Int), .pointer (some ⟨gG, 0, none⟩), .pointer (some ⟨gA, 0, none⟩)] w fun e w' => e = .returned (.bool v) ∧ ∃ q, w' = w.drewN q := by
  have HW := Lib.hid hW
  have hi0 : (0 : Int) ≤ (i : Int) := by omega
  have hi1 : (i : Int) < (m : Int) := by omega
  have hi32 : (i : Int) ≤ 32 := by omega
  obtain ⟨b, off, e0, _, hc⟩ := hW.at_ hi
  injection e0 with e0
  injection e0 with e1 e2
  subst e1 e2
  rw [Nat.zero_add] at hc
  have hxl := hxs i
  obtain ⟨x, hxe⟩ : ∃ x, xs.getD i 0 = x := ⟨_, rfl⟩
  rw [hxe] at hc hxl hv
  have hbit := shr_and_one G i (by omega)
  have hdi : ((G : Int) / 2 ^ i) = ((G / 2 ^ i : Nat) : Int) := by simp
  rw [← hdi] at hbit
  have hdn := andNot_u32 x G (by omega) (by omega)
  have hdl : diffW x G < 1024 := diffW_ten hxl (by omega)
  have HXS := Lib.hid hxs
  clear hxs hxe hW hdi
  cases hb : G.testBit i with
  | true =>
    rw [hb, if_pos rfl] at hbit
    obtain rfl : v = false := by
      cases v with
      | false => rfl
      | true => have := (hv.1 rfl).1; rw [hb] at this; cases this
    have hz : ((1 : Int) == 0) = false := rfl
    clear hv hb hdn hdl
    go_enter Try.func23, Try.ntmps23
    go_wp2
    go_quiet (fail)
    go_wp2_with fail
    go_ret
    exact ⟨rfl, _, rfl⟩
  | false =>
    rw [hb] at hbit
    have hbit' : bits .and .u32 ((G : Int) / 2 ^ i) 1 = 0 := hbit
    have hz : ((0 : Int) == 0) = true := rfl
    have hv2 : v = true ↔ CrowdL xs m (diffW x G) := by rw [hv, hb]; simp
    have HC := Lib.hid (fun W (h : WordsAt W W.heap.size (some ⟨g, 0, none⟩) m xs) => isCrowd_any m cA (diffW x G) (some ⟨g, 0, none⟩) xs v W h hm hdl HXS.out hv2)
    clear hv hb hv2 hbit hdl
    generalize diffW x G = z at hdn HC
    go_enter Try.func23, Try.ntmps23
    go_wp2
    go_quiet ((go_at_call 24; exact Calls.quiet_of_same (HC.out _ (HW.out.drewN _))))
    go_wp2_with fail
    go_ret
    exact ⟨rfl, _, rfl⟩
set_option maxRecDepth 100000 in
set_option maxHeartbeats 2000000 in
/-- Who goes next. -/
theorem idxCan_any (m G gG gA g gN cA cN : Nat) (xs : List Nat) (f : Nat → Bool) (w : World) (hm : m ≤ 10) (hG : G < 1024) (hxs : ∀ i, xs.getD i 0 < 1024)
    (kG : w.cell? ⟨gG, 0, none⟩ = some (.int .u32 (G : Int))) (kA : w.cell? ⟨gA, 0, none⟩ = some (.slice (some ⟨g, 0, none⟩) m cA)) (hW : WordsAt w w.heap.size (some ⟨g, 0, none⟩) m xs) (hR : RowOf w gN 3 ((natG (List.range m)).map (Value.int .i64)))
    (hf : ∀ i, i < m → (f i = true ↔ G.testBit i = false ∧ CrowdL xs m (diffW (xs.getD i 0) G))) :
    Calls Try.prog 26 #[.slice (some ⟨gN, 0, none⟩) m cN, .func (.func 23) #[] #[.pointer (some ⟨gG, 0, none⟩), .pointer (some ⟨gA, 0, none⟩)]] w fun e w' =>
      (∀ i, nextF f m 0 = some i → e = .returned (.int .i64 (i : Int))) ∧ (nextF f m 0 = none → e = .returned (.int .i64 (-1))) ∧ ∃ q, w' = w.drewN q := by
  have HK := Lib.hid (And.intro kG (And.intro kA hW))
  have HR := Lib.hid hR
  have HF := Lib.hid hf
  have HXS := Lib.hid hxs
  clear kG kA hW hR hf hxs
  go_enter Try.func26, Try.ntmps26
  go_wp2
  go_loopw [5, 8] (fun _ j wr => ∃ k : Nat, k ≤ m ∧ j = .int .i64 k ∧ Hid (nextF f m 0 = nextF f m k ∧ ∃ q, wr = w.drewN q)) (fun _ j _ => m - (intOf j).toNat)
  case atStart => exact ⟨0, Nat.zero_le _, rfl, Lib.hid ⟨rfl, 0, rfl⟩⟩
  case round =>
    obtain ⟨k, hk, rfl, HC⟩ := hrel
    obtain ⟨q, HQ⟩ : ∃ q, Hid (nextF f m 0 = nextF f m k ∧ wr = w.drewN q) := by
      obtain ⟨h1, q, h2⟩ := HC.out
      exact ⟨q, Lib.hid ⟨h1, h2⟩⟩
    clear HC
    have hcw : ∀ p, wr.cell? p = w.cell? p := fun p => by rw [HQ.out.2]; rfl
    by_cases hkm : k < m
    · have ik0 : (0 : Int) ≤ (k : Int) := by omega
      have ik1 : (k : Int) < (m : Int) := by omega
      have cN' : wr.cell? ⟨gN, k, none⟩ = some (.int .i64 (k : Int)) := by
        rw [hcw]; exact HR.out.cell (by simp [natG, hkm])
      have HFN := Lib.hid (canGo_any m k G gG gA g cA xs (f k) wr hm hkm hG HXS.out ((hcw _).trans HK.out.1) ((hcw _).trans HK.out.2.1) (by rw [HQ.out.2]; exact HK.out.2.2.drewN q) (HF.out k hkm))
      clear hcw
      have HST := Lib.hid (nextF_step (f := f) hkm)
      cases hfk : f k with
      | true =>
        rw [hfk] at HFN HST
        have HE : Hid (nextF f m 0 = some k) := Lib.hid (by rw [HQ.out.1, HST.out, if_pos rfl])
        clear hfk
        go_wp2_with fail
        refine HFN.out.mono ?_
        rintro e w1 ⟨rfl, q2, hq2⟩
        have HW1 : Hid (∃ q, w1 = w.drewN q) := Lib.hid ⟨q + q2, by rw [hq2, HQ.out.2]; exact World.drewN_drewN _ _ _⟩
        clear hq2
        go_wp2_with fail
        go_ret
        exact ⟨fun i h => (by rw [HE.out] at h; injection h with h; subst h; rfl), fun h => (by rw [HE.out] at h; cases h), HW1.out⟩
      | false =>
        rw [hfk] at HFN HST
        have HE : Hid (nextF f m 0 = nextF f m (k + 1)) := Lib.hid (by rw [HQ.out.1, HST.out, if_neg (by simp)])
        clear hfk
        go_wp2_with fail
        refine HFN.out.mono ?_
        rintro e w1 ⟨rfl, q2, hq2⟩
        have HW1 : Hid (∃ q, w1 = w.drewN q) := Lib.hid ⟨q + q2, by rw [hq2, HQ.out.2]; exact World.drewN_drewN _ _ _⟩
        clear hq2
        go_wp2_with fail
        go_roundw
        case rel => exact ⟨k + 1, by omega, by go_num, Lib.hid ⟨HE.out, HW1.out⟩⟩
        case measure => simp [intOf]; omega
    · obtain rfl : k = m := by omega
      have HE : Hid (nextF f k 0 = none) := Lib.hid (by rw [HQ.out.1]; exact nextF_end)
      clear hcw
      go_wp2_with fail
      go_ret
      exact ⟨fun i h => (by rw [HE.out] at h; cases h), fun _ => rfl, q, HQ.out.2⟩
end Go.Proofs.Yticickicfigpbaa
