/- sides.Ring: what it tells of every graph. -/
import Derived.Test.YthfgbgmkiggjmabDoorFirstRound
namespace Go.Proofs.YthfgbgmkiggjmabDoor
open Go.RowKit

set_option maxRecDepth 100000 in
set_option maxHeartbeats 400000 in
theorem ring_bad (n : Int) (A : Option Addr) (len cap : Nat) (es : List E3) (v : Int) (w : World) (hE : EdgesAt w w.heap.size A len es) (hv : gcheck n es = v) (hv0 : v ≠ 0) :
    Calls Tryd.prog 32 #[.agg #[.int .i64 n, .slice A len cap]] w fun e w' => e = .returned (.tuple #[.slice none 0 0, .int .i64 v]) ∧ Below w.heap.size w w' := by
  have HE := Lib.hid (show EdgesAt (bx w n A len cap) (bx w n A len cap).heap.size A len es from (hE.alloc (Nat.le_refl _) _).more (by simp [bx]))
  have HV := Lib.hid hv
  have HV0 := Lib.hid hv0
  have hb0 : (v != 0) = true := by simpa using hv0
  clear hE hv hv0
  go_enter Tryd.func32, Tryd.ntmps32
  go_wp2_with (go_at_call 41; refine (neighbours_bad n A len cap es v _ (by exact HE.out) HV.out HV0.out).mono ?_; rintro e w1 ⟨rfl, hb1⟩)
  go_ret2
  exact ⟨rfl, ((Below.refl _ _).alloc (Nat.le_refl _) _).trans (hb1.mono (by simp))⟩

theorem own_some {w : World} {base : Nat} {t : TypeId} {v : Value} {n : Nat} {xs : List Value} (h : w.ownsRow base t 1 v n xs) (hn : 0 < n) : ∃ g cap, v = .slice (some ⟨g, 0, none⟩) n cap := by
  rcases h.2 with ⟨_, h0⟩ | ⟨g, c, cur, h1, _⟩
  · omega
  · exact ⟨g, c, h1⟩
/-- What Ring tells of a graph without fault. -/
def RingEnd (m : Nat) (es : List E3) (B : Nat) (e : Ending) (w' : World) : Prop :=
  (∃ n v l A cap, 3 ≤ n ∧ n ≤ m ∧ OddLeast (adjE es) n ∧ v < m ∧ RoundL (adjE es) v n l n ∧ (∀ y, y < v → ¬ wk (adjE es) n y y) ∧ e = .returned (.tuple #[.slice A n cap, .int .i64 0]) ∧ w'.ownsRow B 3 1 (.slice A n cap) n (l.map nV)) ∨
  ((∀ n v, n % 2 = 1 → ¬ wk (adjE es) n v v) ∧ e = .returned (.tuple #[.slice none 0 0, .int .i64 5]))
theorem odd_none {m : Nat} {es : List E3} (hg : goodE m es) {L : Nat} (hL : L % 2 = 1) (hm : m < L) (h : OddLeast (adjE es) L) : ∀ n v, n % 2 = 1 → ¬ wk (adjE es) n v v := fun n v hn hw => by
  obtain ⟨k, u, _, h2, h3, _⟩ := odd_exists hn hw
  have hk := odd_le (fun a b hab => (adjE_lt hg hab).1) h2 h3
  exact h.2 k u (by omega) h2.1 h3
theorem odd_start {m : Nat} {es : List E3} (hg : goodE m es) : OddLeast (adjE es) 3 := ⟨rfl, fun k v hk ho hw => by
  have := odd_ge (fun i => by
    cases hi : adjE es i i with
    | false => rfl
    | true => exact absurd rfl (adjE_lt hg hi).2.2) ho hw
  omega⟩
theorem odd_more {m : Nat} {es : List E3} (hg : goodE m es) {L : Nat} (h : OddLeast (adjE es) L) (hno : ∀ y, y < m → ¬ wk (adjE es) L y y) : OddLeast (adjE es) (L + 2) := by
  have h1 := h.1
  refine ⟨by omega, fun k v hk ho hw => ?_⟩
  rcases Nat.lt_or_ge k L with hlt | hge
  · exact h.2 k v hlt ho hw
  · obtain rfl : k = L := by omega
    refine hno v ?_ hw
    obtain ⟨q, rfl⟩ : ∃ q, k = q + 1 := ⟨k - 1, by omega⟩
    obtain ⟨b, hb, _⟩ := wk_uncons hw
    exact (adjE_lt hg hb).1

set_option maxRecDepth 100000 in
set_option maxHeartbeats 1000000 in
theorem ring_good (m : Nat) (A : Option Addr) (len cap : Nat) (es : List E3) (w : World) (hE : EdgesAt w w.heap.size A len es) (hv : gcheck m es = 0) (hT : Tab w) :
    Calls Tryd.prog 32 #[.agg #[.int .i64 m, .slice A len cap]] w fun e w' => RingEnd m es w.heap.size e w' ∧ Below w.heap.size w w' := by
  obtain ⟨_, hm10', hl45, hgood⟩ := good_of_gcheck hv
  have hm10 : m ≤ 10 := by omega
  have HE := Lib.hid (show EdgesAt (bx w m A len cap) (bx w m A len cap).heap.size A len es from (hE.alloc (Nat.le_refl _) _).more (by simp [bx]))
  have HV := Lib.hid hv
  have HG := Lib.hid hgood
  have HT := Lib.hid hT
  clear hE hv hl45 hT hgood
  go_enter Tryd.func32, Tryd.ntmps32
  go_wp2_with (go_at_call 41; refine (neighbours_any m A len cap es _ (by exact HE.out) HV.out).mono ?_; rintro e w1 ⟨gn, rfl, hrow, hgn, hb1⟩; have HW1 : Hid (WordsAt w1 w1.heap.size (some ⟨gn, 0, none⟩) m (nbL m es)) := Lib.hid (by have h := WordsAt.of_row hrow hrow.lt; rw [nbL_length] at h; exact h); have HBX : Hid (w1.cell? ⟨w.heap.size, 0, none⟩ = some (.int .i64 (m : Int))) := Lib.hid (by rw [hb1.cell (p := ⟨w.heap.size, 0, none⟩) (by simp)]; simp [go_sem]); have hs1 : w.heap.size < w1.heap.size := (by have := hb1.size; simp at this; omega); have HB1 : Hid (Below w.heap.size w w1) := Lib.hid (((Below.refl _ _).alloc (Nat.le_refl _) _).trans (hb1.mono (by simp))); clear hrow hb1 hgn)
  go_loopw [6, 7, 8] (fun j _ _ wr => ∃ L : Nat, 3 ≤ L ∧ L ≤ m + 4 ∧ j = .int .i64 L ∧ Hid (OddLeast (adjE es) L) ∧ Below w1.heap.size w1 wr) (fun j _ _ _ => m + 4 - (intOf j).toNat)
  case atStart => exact ⟨3, by omega, by omega, rfl, Lib.hid (odd_start HG.out), Below.refl _ _⟩
  case round =>
    obtain ⟨L, hL3, hLm, rfl, HO, hB⟩ := hrel
    have hbx0 : wr.cell? ⟨w.heap.size, 0, none⟩ = some (.int .i64 (m : Int)) := (hB.cell (p := ⟨w.heap.size, 0, none⟩) hs1).trans HBX.out
    by_cases hlt : L ≤ m
    · have hlt2 : (L : Int) ≤ (m : Int) := by omega
      go_wp2
      obtain ⟨wo, rfl⟩ : ∃ wo : World, wo = wr := ⟨_, rfl⟩
      go_loopw [25, 7, 8] (fun j _ _ wr => ∃ k : Nat, k ≤ m ∧ j = .int .i64 k ∧ Hid (∀ y, y < k → ¬ wk (adjE es) L y y) ∧ Below w1.heap.size w1 wr) (fun j _ _ _ => m - (intOf j).toNat)
      case atStart => exact ⟨0, Nat.zero_le _, rfl, Lib.hid (fun y hy => by omega), hB⟩
      case round =>
        obtain ⟨k, hk, rfl, HNO, hBi⟩ := hrel
        have hsz := hBi.size
        have HWr := Lib.hid (HW1.out.go_ hBi)
        have HBw : Hid (Below w.heap.size w wr) := Lib.hid (HB1.out.trans (hBi.mono (by omega)))
        have HTr := Lib.hid (HT.out.go_ HBw.out)
        by_cases hkm : k < m
        · by_cases hw : wk (adjE es) L k k
          · have HC := Lib.hid (firstRound_some m k L hm10 hkm (by omega) (by omega) (some ⟨gn, 0, none⟩) m es HG.out wr HWr.out HTr.out hw)
            clear hw
            go_wp2_with (go_at_call 60; refine HC.out.mono ?_; rintro e w2 ⟨⟨l, v, he, hr, ho⟩, hb2⟩; obtain ⟨gv, cv, rfl⟩ : ∃ gv cv, v = .slice (some ⟨gv, 0, none⟩) L cv := own_some ho (by omega); obtain rfl := he; have HR2 := Lib.hid hr; have HO2 := Lib.hid ho; have HB2 := Lib.hid hb2; clear hr ho hb2)
            have HEND : Hid (RingEnd m es w.heap.size (.returned (.tuple #[.slice (some ⟨gv, 0, none⟩) L cv, .int .i64 0])) w2) := Lib.hid (.inl ⟨L, k, l, _, cv, hL3, hlt, HO.out, hkm, HR2.out, HNO.out, rfl, own_low HO2.out (by omega)⟩)
            have HBE : Hid (Below w.heap.size w w2) := Lib.hid (HBw.out.trans (HB2.out.mono HBw.out.size))
            go_ret2
            exact ⟨HEND.out, HBE.out⟩
          · have HC := Lib.hid (firstRound_none m k L hm10 hkm (by omega) (some ⟨gn, 0, none⟩) m es HG.out wr HWr.out hw)
            have HN : Hid (∀ y, y < k + 1 → ¬ wk (adjE es) L y y) := Lib.hid fun y hy => by
              rcases Nat.lt_or_ge y k with h | h
              · exact HNO.out y h
              · obtain rfl : y = k := by omega
                exact hw
            clear hw
            go_wp2_with (go_at_call 60; refine HC.out.mono ?_; rintro e w2 ⟨rfl, hb2⟩; have HB2 := Lib.hid hb2; clear hb2)
            go_roundw
            case rel => exact ⟨k + 1, by omega, by go_num, HN, hBi.trans (HB2.out.mono hsz)⟩
            case measure => simp [intOf]; omega
        · obtain rfl : k = m := by omega
          have HN := Lib.hid (odd_more HG.out HO.out HNO.out)
          go_wp2
          go_roundw
          case rel => exact ⟨L + 2, by omega, by omega, by go_num, HN, hBi⟩
          case measure => simp [intOf]; omega
    · have HEND : Hid (RingEnd m es w.heap.size (.returned (.tuple #[.slice none 0 0, .int .i64 5])) wr) := Lib.hid (.inr ⟨odd_none HG.out HO.out.1 (by omega) HO.out, rfl⟩)
      have HBE : Hid (Below w.heap.size w wr) := Lib.hid (HB1.out.trans (hB.mono (by omega)))
      have hlt2 : ¬ (L : Int) ≤ (m : Int) := by omega
      go_wp2
      go_ret2
      exact ⟨HEND.out, HBE.out⟩
end Go.Proofs.YthfgbgmkiggjmabDoor
