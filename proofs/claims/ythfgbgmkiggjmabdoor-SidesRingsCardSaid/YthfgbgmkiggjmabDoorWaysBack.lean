/- sides.waysBack: of each number of steps the word of the nodes from which just so many lead to a node. -/
import Derived.Test.YthfgbgmkiggjmabDoorSidesP
import Derived.Test.YthfgbgmkiggjmabDoorBfs0
import Derived.Test.YthfgbgmkiggjmabDoorParts
namespace Go.Proofs.YthfgbgmkiggjmabDoor
open Go.RowKit

/-- As far as s steps the words are as they are to be; behind them is nothing yet. -/
structure BackTo (adj : Nat → Nat → Bool) (m dest n : Nat) (bl : List Nat) (s : Nat) : Prop where
  len : bl.length = n + 1
  lt : ∀ i, i ≤ s → bl.getD i 0 < 2 ^ m
  bit : ∀ i, i ≤ s → ∀ v, (bl.getD i 0).testBit v = true ↔ wk adj i v dest
  rest : ∀ i, s < i → bl.getD i 0 = 0
theorem getD_set (l : List Nat) (i j x : Nat) (hi : i < l.length) : (l.set i x).getD j 0 = if i = j then x else l.getD j 0 := by
  rw [List.getD_eq_getElem?_getD, List.getD_eq_getElem?_getD, List.getElem?_set]
  by_cases h : i = j
  · subst h; simp [hi]
  · simp [h]
theorem BackTo.start {adj : Nat → Nat → Bool} {m dest n : Nat} (hd : dest < m) : BackTo adj m dest n ((List.replicate (n + 1) 0).set 0 (2 ^ dest)) 0 where
  len := by simp
  lt i hi := by
    obtain rfl : i = 0 := by omega
    rw [getD_set _ _ _ _ (by simp), if_pos rfl]
    exact Nat.pow_lt_pow_right (by decide) hd
  bit i hi v := by
    obtain rfl : i = 0 := by omega
    rw [getD_set _ _ _ _ (by simp), if_pos rfl, Nat.testBit_two_pow]
    simp only [decide_eq_true_eq]
    exact ⟨fun h => h.symm, fun h => Eq.symm h⟩
  rest i hi := by
    rw [getD_set _ _ _ _ (by simp), if_neg (by omega), List.getD_eq_getElem?_getD, List.getElem?_replicate]
    split <;> rfl
/-- In the middle of a step: the nodes below k. -/
def BackIn (adj : Nat → Nat → Bool) (dest s k W : Nat) : Prop := W < 2 ^ k ∧ ∀ v, W.testBit v = true ↔ v < k ∧ wk adj (s + 1) v dest
theorem BackIn.zero (adj : Nat → Nat → Bool) (dest s : Nat) : BackIn adj dest s 0 0 := ⟨by simp, fun v => by simp⟩
theorem BackIn.yes {adj : Nat → Nat → Bool} {dest s k W : Nat} (h : BackIn adj dest s k W) (hw : wk adj (s + 1) k dest) : BackIn adj dest s (k + 1) (W ||| 2 ^ k) := by
  refine ⟨Nat.or_lt_two_pow (Nat.lt_of_lt_of_le h.1 (Nat.pow_le_pow_right (by decide) (Nat.le_succ _))) (Nat.pow_lt_pow_right (by decide) (Nat.lt_succ_self _)), fun v => ?_⟩
  rw [Nat.testBit_or, Nat.testBit_two_pow, Bool.or_eq_true, h.2]
  simp only [decide_eq_true_eq]
  constructor
  · rintro (⟨h1, h2⟩ | rfl)
    · exact ⟨by omega, h2⟩
    · exact ⟨Nat.lt_succ_self _, hw⟩
  · rintro ⟨h1, h2⟩
    by_cases hv : k = v
    · exact .inr hv
    · exact .inl ⟨by omega, h2⟩
theorem BackIn.no {adj : Nat → Nat → Bool} {dest s k W : Nat} (h : BackIn adj dest s k W) (hw : ¬ wk adj (s + 1) k dest) : BackIn adj dest s (k + 1) W := by
  refine ⟨Nat.lt_of_lt_of_le h.1 (Nat.pow_le_pow_right (by decide) (Nat.le_succ _)), fun v => ?_⟩
  rw [h.2]
  constructor
  · rintro ⟨h1, h2⟩; exact ⟨by omega, h2⟩
  · rintro ⟨h1, h2⟩
    refine ⟨?_, h2⟩
    have : v ≠ k := fun e => by subst e; exact hw h2
    omega
theorem BackTo.next {adj : Nat → Nat → Bool} {m dest n s W : Nat} {bl : List Nat} (hin : ∀ a b, adj a b = true → a < m) (h : BackTo adj m dest n bl s) (hs : s < n) (hW : BackIn adj dest s m W) : BackTo adj m dest n (bl.set (s + 1) W) (s + 1) := by
  have hl : s + 1 < bl.length := by have := h.len; omega
  refine ⟨by simp [h.len], fun i hi => ?_, fun i hi v => ?_, fun i hi => ?_⟩
  · rw [getD_set _ _ _ _ hl]
    split
    · exact hW.1
    · exact h.lt i (by omega)
  · rw [getD_set _ _ _ _ hl]
    split
    · rename_i e
      subst e
      rw [hW.2]
      refine ⟨fun h => h.2, fun h2 => ⟨?_, h2⟩⟩
      obtain ⟨b, hb, _⟩ := wk_uncons h2
      exact hin _ _ hb
    · exact h.bit i (by omega) v
  · rw [getD_set _ _ _ _ hl, if_neg (by omega)]
    exact h.rest i (by omega)
/-- A node's word and the word of one step less have something in common, just if it comes back. -/
theorem BackTo.meet {adj : Nat → Nat → Bool} {m dest n s k X : Nat} {bl : List Nat} (h : BackTo adj m dest n bl s) (hX : ∀ j, X.testBit j = adj k j) : X &&& bl.getD s 0 ≠ 0 ↔ wk adj (s + 1) k dest := by
  constructor
  · intro hne
    obtain ⟨j, hj⟩ := Nat.exists_testBit_of_ne_zero hne
    rw [Nat.testBit_and, Bool.and_eq_true, hX] at hj
    exact wk_cons hj.1 ((h.bit s (Nat.le_refl _) j).1 hj.2)
  · intro hw h0
    obtain ⟨b, h1, h2⟩ := wk_uncons hw
    have : (X &&& bl.getD s 0).testBit b = true := by
      rw [Nat.testBit_and, Bool.and_eq_true, hX]
      exact ⟨h1, (h.bit s (Nat.le_refl _) b).2 h2⟩
    rw [h0] at this
    simp at this

theorem madeCells_one (z : Value) (n : Nat) : madeCells #[z] n = (List.replicate n z).toArray := by
  apply Array.ext
  · simp [size_madeCells]
  · intro i h1 h2
    simp [madeCells, Nat.mod_one]
set_option maxRecDepth 100000 in
set_option maxHeartbeats 1000000 in
theorem waysBack_any (m dest n : Nat) (hm10 : m ≤ 10) (hd : dest < m) (hn : n ≤ 10) (A : Option Addr) (cap : Nat) (es : List E3) (hg : goodE m es) (w : World) (hA : WordsAt w w.heap.size A m (nbL m es)) :
    Calls Tryd.prog 77 #[.slice A m cap, .int .i64 dest, .int .i64 n] w fun e w' => (∃ bl, e = .returned (.slice (some ⟨w.heap.size, 0, none⟩) (n + 1) (n + 1)) ∧ BackTo (adjE es) m dest n bl n ∧ RowOf w' w.heap.size 59 (bl.map u32V)) ∧ Below w.heap.size w w' := by
  have HA := Lib.hid hA
  have HG := Lib.hid hg
  have HWD := Lib.hid (nbL_words hg)
  clear hA hg
  have hmk := fun W => run_make_row' (P := Tryd.prog) 55 59 (.int .u32 0) 4 Tryd.underlying55 (by kernel_rfl) rfl .i64 .i64 (n + 1) (by omega) (by omega) W
  simp only [Int.natCast_add, Int.cast_ofNat_Int] at hmk
  have HST := Lib.hid (BackTo.start (adj := adjE es) (n := n) hd)
  have hpd : 2 ^ dest < 1024 := pow10 hm10 (Nat.pow_lt_pow_right (by decide) hd)
  have hsd : (2 : Int) ^ dest % 4294967296 = ((2 ^ dest : Nat) : Int) := pow_mod dest (by omega)
  have htd : IntKind.u32.wrap ((2 : Int) ^ dest) = ((2 ^ dest : Nat) : Int) := by rw [wrap_u32n]; exact hsd
  have hd32 : (dest : Int) ≤ 32 := by omega
  have HPD := Lib.hid (rfl : (2 : Nat) ^ dest = 2 ^ dest)
  have HROW0 : Hid (RowOf (w.alloc (.cells ((madeCells #[.int .u32 0] (n + 1)).setIfInBounds 0 (.int .u32 (2 ^ dest : Nat))) 59)) w.heap.size 59 (((List.replicate (n + 1) 0).set 0 (2 ^ dest)).map u32V)) := Lib.hid (by
    have h := (MapKept.heap_alloc w (.cells ((madeCells #[.int .u32 0] (n + 1)).setIfInBounds 0 (.int .u32 (2 ^ dest : Nat))) 59)).1
    unfold RowOf
    rw [h, madeCells_one, List.setIfInBounds_toArray, List.map_set, List.map_replicate]
    rfl)
  have hrow0 : RowOf (w.alloc (.cells (madeCells #[.int .u32 0] (n + 1)) 59)) w.heap.size 59 (List.replicate (n + 1) (.int .u32 0)) := RowOf.made w (.int .u32 0) (n + 1) 59
  have hc00 : (w.alloc (.cells (madeCells #[.int .u32 0] (n + 1)) 59)).cell? ⟨w.heap.size, 0, none⟩ = some (.int .u32 0) := hrow0.cell (by simp)
  have hf00 := hrow0.frozen 0
  clear hrow0
  generalize 2 ^ dest = pd at hpd hsd htd HST HROW0
  go_enter Tryd.func77, Tryd.ntmps77
  go_wp2
  clear hmk
  go_loopw [19] (fun j wr => ∃ (s : Nat) (bl : List Nat), s ≤ n ∧ j = .int .i64 s ∧ Hid (BackTo (adjE es) m dest n bl s) ∧ Hid (RowOf wr w.heap.size 59 (bl.map u32V)) ∧ Below w.heap.size w wr) (fun j _ => n - (intOf j).toNat)
  case atStart => exact ⟨0, _, Nat.zero_le _, rfl, HST, HROW0, (Below.refl _ _).alloc (Nat.le_refl _) _⟩
  case round =>
    clear HST HROW0
    obtain ⟨s, bl, hs, rfl, HB, HR, hB⟩ := hrel
    by_cases hlt : s < n
    · have hl1 : s < bl.length := by have := HB.out.len; omega
      have hl2 : s + 1 < bl.length := by have := HB.out.len; omega
      go_wp2
      obtain ⟨wo, rfl⟩ : ∃ wo : World, wo = wr := ⟨_, rfl⟩
      go_loopw [24] (fun j wi => ∃ (k W : Nat), k ≤ m ∧ j = .int .i64 k ∧ Hid (BackIn (adjE es) dest s k W) ∧ Hid (RowOf wi w.heap.size 59 ((bl.set (s + 1) W).map u32V)) ∧ Below w.heap.size w wi) (fun j _ => m - (intOf j).toNat)
      case atStart =>
        refine ⟨0, 0, Nat.zero_le _, rfl, Lib.hid (BackIn.zero _ _ _), Lib.hid ?_, hB⟩
        have e : bl.set (s + 1) 0 = bl := by
          apply List.ext_getElem
          · simp
          · intro i h1 h2
            rw [List.getElem_set]
            split
            · rename_i e
              subst e
              have := HB.out.rest (s + 1) (Nat.lt_succ_self _)
              rw [List.getD_eq_getElem?_getD, List.getElem?_eq_getElem hl2] at this
              exact this.symm
            · rfl
        rw [e]
        exact HR.out
      case round =>
        obtain ⟨k, W, hk, rfl, HIN, HRi, hBi⟩ := hrel
        by_cases hkm : k < m
        · obtain ⟨b, off, rfl, _, hck⟩ := (HA.out.below hBi).at_ hkm
          have HXb : Hid (∀ j, ((nbL m es).getD k 0).testBit j = adjE es k j) := Lib.hid fun j => nbL_bit HG.out hkm j
          have hXs := pow10 hm10 (HWD.out k)
          have hcs : wr.cell? ⟨w.heap.size, s, none⟩ = some (.int .u32 (bl.getD s 0 : Nat)) := HRi.out.cell (by
            rw [List.getElem?_map, List.getElem?_set, if_neg (by omega), List.getD_eq_getElem?_getD, List.getElem?_eq_getElem hl1]; rfl)
          have hcs1 : wr.cell? ⟨w.heap.size, s + 1, none⟩ = some (.int .u32 (W : Nat)) := HRi.out.cell (by
            rw [List.getElem?_map, List.getElem?_set, if_pos rfl, if_pos hl2]; rfl)
          have hfs1 := HRi.out.frozen (s + 1)
          have hYs := pow10 hm10 (HB.out.lt s (Nat.le_refl _))
          have HMEET : Hid ((nbL m es).getD k 0 &&& bl.getD s 0 ≠ 0 ↔ wk (adjE es) (s + 1) k dest) := Lib.hid (HB.out.meet HXb.out)
          have hWs : W < 1024 := Nat.lt_of_lt_of_le HIN.out.1 (by rw [show 1024 = 2 ^ 10 from rfl]; exact Nat.pow_le_pow_right (by decide) (by omega))
          have hpk : 2 ^ k < 1024 := pow10 hm10 (Nat.pow_lt_pow_right (by decide) hkm)
          have hand := and_u32 ((nbL m es).getD k 0) (bl.getD s 0) (by omega) (by omega)
          have hor := or_u32 W (2 ^ k) (by omega) (by omega)
          have hsk : (2 : Int) ^ k % 4294967296 = ((2 ^ k : Nat) : Int) := pow_mod k (by omega)
          have htk : IntKind.u32.wrap ((2 : Int) ^ k) = ((2 ^ k : Nat) : Int) := by rw [wrap_u32n]; exact hsk
          have HYES : Hid (wk (adjE es) (s + 1) k dest → BackIn (adjE es) dest s (k + 1) (W ||| 2 ^ k)) := Lib.hid HIN.out.yes
          have HNO : Hid (¬ wk (adjE es) (s + 1) k dest → BackIn (adjE es) dest s (k + 1) W) := Lib.hid HIN.out.no
          generalize (nbL m es).getD k 0 &&& bl.getD s 0 = Z at hand HMEET
          generalize (nbL m es).getD k 0 = X at hck hXs hand HXb
          generalize bl.getD s 0 = Y at hcs hYs hand
          have ik0 : (0 : Int) ≤ (k : Int) := by omega
          have ik1 : (k : Int) < (m : Int) := by omega
          have ik32 : (k : Int) ≤ 32 := by omega
          have is0 : (0 : Int) ≤ (s : Int) := by omega
          have is1 : (s : Int) < (n : Int) + 1 := by omega
          have is2 : (s : Int) + 1 < (n : Int) + 1 := by omega
          by_cases hZ : Z = 0
          · have HN := Lib.hid (HNO.out fun h => HMEET.out.2 h hZ)
            have hZb : ((Z : Int) != 0) = false := by simp [hZ]
            subst hZ
            clear HYES HNO HMEET HXb
            go_wp2
            go_roundw
            case rel => exact ⟨k + 1, W, by omega, by go_num, HN, HRi, hBi⟩
            case measure => simp [intOf]; omega
          · have HN := Lib.hid (HYES.out (HMEET.out.1 hZ))
            have hZb : ((Z : Int) != 0) = true := by simp; omega
            have hZ0 : ¬ (Z : Int) = 0 := by omega
            have HR2 : Hid (RowOf (wr.setCell ⟨w.heap.size, s + 1, none⟩ (.int .u32 (W ||| 2 ^ k : Nat))) w.heap.size 59 ((bl.set (s + 1) (W ||| 2 ^ k)).map u32V)) := Lib.hid (by
              have h := HRi.out.set_ (s + 1) (.int .u32 (W ||| 2 ^ k : Nat))
              rw [List.map_set, List.set_set] at h
              rw [List.map_set]
              exact h)
            clear HYES HNO HMEET HXb
            generalize W ||| 2 ^ k = W2 at hor HN HR2
            generalize 2 ^ k = pk at hpk hsk htk hor
            go_wp2
            go_region
            go_wp2
            go_roundw
            case rel => exact ⟨k + 1, W2, by omega, by go_num, HN, Lib.hid HR2.out.drew, (hBi.setCell (p := ⟨w.heap.size, s + 1, none⟩) (Nat.le_refl _) _).drew⟩
            case measure => simp [intOf]; omega
        · obtain rfl : k = m := by omega
          have HN := Lib.hid (HB.out.next (fun a b hab => (adjE_lt HG.out hab).1) hlt HIN.out)
          clear HIN
          go_wp2
          go_roundw
          case rel => exact ⟨s + 1, _, by omega, by go_num, HN, HRi, hBi⟩
          case measure => simp [intOf]; omega
    · obtain rfl : s = n := by omega
      go_wp2
      go_ret
      exact ⟨⟨bl, rfl, HB.out, HR.out⟩, hB⟩
end Go.Proofs.YthfgbgmkiggjmabDoor
