/- fee.Assign: what it tells of fees. No conditions. -/
import Derived.Test.YtmlmnmphmghdlaaDoorDealGo
import Derived.Test.YtmlmnmphmghdlaaDoorFeesGo
import Derived.Test.YtmlmnmphmghdlaaDoorMat
import Derived.Deep.OwnRows
import Derived.Deep.RegionWith
import Derived.RegionTactic
namespace Go.Proofs.YtmlmnmphmghdlaaDoor
open Go.RowKit

structure DealS (w : World) (A : Option Addr) (n c : Nat) (Ls : List (List Int)) (T : Nat → Int) (lo : Nat) (wr : World) : Prop where
  deal : DealW w.heap.size w.heap.size (w.heap.size + 1 + 1) (w.heap.size + 1) A n c Ls T wr
  right : ∀ q, lo ≤ q → q < 2 ^ n → T q = dealV (feeQ Ls) n (n - ones q) q
  below : Below w.heap.size w wr
  size : w.heap.size + 1 + 1 < wr.heap.size
  tab : 0 < w.heap.size
section
variable {w wr : World} {A : Option Addr} {n c : Nat} {Ls : List (List Int)} {T : Nat → Int} {lo t : Nat}
theorem DealS.drewN (h : DealS w A n c Ls T lo wr) (k : Nat) : DealS w A n c Ls T lo (wr.drewN k) := ⟨h.deal.drewN k, h.right, below_drewN h.below k, h.size, h.tab⟩
theorem DealS.later {W : World} (h : DealS w A n c Ls T lo wr) (hb : Below (w.heap.size + 1 + 1 + 1) wr W) : DealS w A n c Ls T lo W :=
  ⟨⟨h.deal.side.below (hb.mono (by omega)), (hb.cell (p := ⟨w.heap.size, 0, none⟩) (by show w.heap.size < _; omega)).trans h.deal.box1, (hb.cell (p := ⟨w.heap.size + 1 + 1, 0, none⟩) (Nat.lt_succ_self _)).trans h.deal.box2, by
    obtain ⟨cur, h1, h2⟩ := h.deal.row
    exact ⟨cur, (hb.block _ (by omega)).trans h1, h2⟩, h.deal.tab.below hb (by have := h.tab; omega)⟩, h.right, h.below.trans (hb.mono (by omega)), Nat.lt_of_lt_of_le h.size hb.size, h.tab⟩
theorem DealS.put (h : DealS w A n c Ls T (t + 1) wr) {v : Int} (hv : v = dealV (feeQ Ls) n (n - ones t) t) : DealS w A n c Ls (updQ T t v) t (wr.setCell ⟨w.heap.size + 1, t, none⟩ (.int .i64 v)) := by
  have hb : Below (w.heap.size + 1) wr (wr.setCell ⟨w.heap.size + 1, t, none⟩ (.int .i64 v)) := (Below.refl _ _).setCell (p := ⟨w.heap.size + 1, t, none⟩) (Nat.le_refl _) _
  refine ⟨⟨h.deal.side.below (hb.mono (by omega)), (hb.cell (p := ⟨w.heap.size, 0, none⟩) (Nat.lt_succ_self _)).trans h.deal.box1, ?_, h.deal.row.set_ t v, h.deal.tab.below hb (by have := h.tab; omega)⟩, fun q hq hqn => ?_, h.below.trans (hb.mono (by omega)), by have := h.size; simpa using this, h.tab⟩
  · have := Below.heap_setCell wr ⟨w.heap.size + 1, t, none⟩ (.int .i64 v) (w.heap.size + 1 + 1) (by show w.heap.size + 1 + 1 ≠ w.heap.size + 1; omega)
    unfold World.cell?
    rw [this]
    exact h.deal.box2
  · unfold updQ
    split
    · rename_i e; rw [e]; exact hv
    · exact h.right q (by omega) hqn
theorem first_ex {F : Nat → Int} (hn : n ≤ 8) (ht : t < 2 ^ n - 1) : ∃ b, FirstLe F n t b := by
  obtain ⟨h1, h2⟩ := minJ_ok (F := F) (t := t) n
  cases hm : minJ F t n with
  | some b => exact ⟨b, h1 b hm⟩
  | none =>
    exfalso
    apply open_some hn ht
    have h3 : 2 ^ n ≤ 2 ^ 8 := Nat.pow_le_pow_right (by decide) hn
    have h4 : 2 ^ 8 = 256 := rfl
    apply Nat.eq_of_testBit_eq
    intro i
    rw [open_bits hn (by omega), Nat.zero_testBit]
    by_cases hi : i < n
    · rw [h2 hm i hi]; simp
    · rw [decide_eq_false hi]; rfl
/-- What is told of a word, when those above it are right. -/
theorem DealS.first (h : DealS w A n c Ls T (t + 1) wr) (hn : n ≤ 8) (ht : t < 2 ^ n - 1) {b : Nat} (hf : FirstLe (fun j => feeQ Ls (ones t) j + T (t ||| 2 ^ j)) n t b) :
    FirstLe (fun j => feeQ Ls (n - ((n - ones t - 1) + 1)) j + dealV (feeQ Ls) n (n - ones t - 1) (t ||| 2 ^ j)) n t b ∧ feeQ Ls (ones t) b + T (t ||| 2 ^ b) = dealV (feeQ Ls) n (n - ones t) t := by
  have ho := (ones_full_dec n (by omega)).2 t ht
  have h3 : 2 ^ n ≤ 2 ^ 8 := Nat.pow_le_pow_right (by decide) hn
  have h4 : 2 ^ 8 = 256 := rfl
  have key : ∀ j, j < n → t.testBit j = false → T (t ||| 2 ^ j) = dealV (feeQ Ls) n (n - ones t - 1) (t ||| 2 ^ j) := fun j hj hb => by
    obtain ⟨h1, h2⟩ := ones_or_dec j (by omega) t (by omega) hb
    rw [h.right _ (by omega) (Nat.or_lt_two_pow (by omega) (Nat.pow_lt_pow_right (by decide) hj)), h1, show n - (ones t + 1) = n - ones t - 1 by omega]
  have e : n - ((n - ones t - 1) + 1) = ones t := by omega
  have hf2 : FirstLe (fun j => feeQ Ls (n - ((n - ones t - 1) + 1)) j + dealV (feeQ Ls) n (n - ones t - 1) (t ||| 2 ^ j)) n t b := hf.congr fun j hj hb => by rw [key j hj hb, e]
  refine ⟨hf2, ?_⟩
  have hd := deal_first hf2
  rw [show n - ones t - 1 + 1 = n - ones t by omega] at hd
  rw [hd, key b hf.lt hf.out, show n - (n - ones t) = ones t by omega]
end
theorem DealS.up {w wr : World} {A : Option Addr} {n c : Nat} {Ls : List (List Int)} {T : Nat → Int} {lo hi : Nat} (h : DealS w A n c Ls T lo wr) (hl : lo ≤ hi) : DealS w A n c Ls T hi wr :=
  ⟨h.deal, fun q h1 h2 => h.right q (by omega) h2, h.below, h.size, h.tab⟩
/-- While the list is told: k of it stand. -/
structure ListS (w : World) (L : Nat) (A : Option Addr) (n c : Nat) (Ls : List (List Int)) (T : Nat → Int) (k t : Nat) (l : List Nat) (wr : World) : Prop where
  deal : DealS w A n c Ls T 0 wr
  row : RowC wr L n (fun i => ((l.getD i 0 : Nat) : Int))
  lo : w.heap.size + 1 + 1 < L
  len : l.length = k
  word : IsW t l
  ones : ones t = k
  same : (asgR (feeQ Ls) n (n - k) l).1 = (asgR (feeQ Ls) n n []).1
theorem ListS.drewN {w wr : World} {L : Nat} {A : Option Addr} {n c : Nat} {Ls : List (List Int)} {T : Nat → Int} {k t : Nat} {l : List Nat} (h : ListS w L A n c Ls T k t l wr) (q : Nat) : ListS w L A n c Ls T k t l (wr.drewN q) :=
  ⟨h.deal.drewN q, h.row.drewN q, h.lo, h.len, h.word, h.ones, h.same⟩
theorem ListS.next {w wr : World} {L : Nat} {A : Option Addr} {n c : Nat} {Ls : List (List Int)} {T : Nat → Int} {k t b : Nat} {l : List Nat} (h : ListS w L A n c Ls T k t l wr) (hn : n ≤ 8) (hk : k < n) (ht : t < 2 ^ n - 1)
    (hf : FirstLe (fun j => feeQ Ls (Go.Proofs.YtmlmnmphmghdlaaDoor.ones t) j + T (t ||| 2 ^ j)) n t b) : ListS w L A n c Ls T (k + 1) (t ||| 2 ^ b) (l ++ [b]) (wr.setCell ⟨L, k, none⟩ (.int .i64 b)) := by
  have h3 : 2 ^ n ≤ 2 ^ 8 := Nat.pow_le_pow_right (by decide) hn
  have h4 : 2 ^ 8 = 256 := rfl
  have hL := h.lo
  have hlen := h.len
  have hlb := hf.lt
  obtain ⟨o1, _⟩ := ones_or_dec b (by omega) t (by omega) hf.out
  refine ⟨h.deal.later ((Below.refl _ _).setCell (p := ⟨L, k, none⟩) (by show w.heap.size + 1 + 1 + 1 ≤ L; omega) _), (h.row.set_ k (b : Int)).congr fun i hi => ?_, hL, by simp [hlen], h.word.next b, by rw [o1, h.ones], ?_⟩
  · show (if i = k then (b : Int) else ((l.getD i 0 : Nat) : Int)) = (((l ++ [b]).getD i 0 : Nat) : Int)
    simp only [List.getD_eq_getElem?_getD]
    split
    · rename_i e
      rw [e, List.getElem?_append_right (by omega), hlen, Nat.sub_self]; rfl
    · rename_i e
      by_cases h5 : i < k
      · rw [List.getElem?_append_left (by omega)]
      · rw [List.getElem?_eq_none (by omega), List.getElem?_eq_none (by simp; omega)]
  · have hf2 := ((h.deal.up (Nat.zero_le (t + 1))).first hn ht hf).1
    have ho := h.ones
    rw [ho] at hf2
    have hs := asg_step h.word (by rw [hlen]; omega) hf2
    rw [show n - k - 1 + 1 = n - k by omega] at hs
    rw [show n - (k + 1) = n - k - 1 by omega, ← hs]
    exact h.same
def AssignOut (Ls : List (List Int)) (n : Nat) (w : World) (e : Ending) (w' : World) : Prop :=
  ∃ g, e = .returned (.tuple #[.slice (some ⟨g, 0, none⟩) n n, .int .i64 (asgR (feeQ Ls) n n []).2, .int .i64 0]) ∧ RowC w' g n (fun i => (((asgR (feeQ Ls) n n []).1.getD i 0 : Nat) : Int)) ∧ Below w.heap.size w w'
set_option maxRecDepth 100000 in
set_option maxHeartbeats 1000000 in
theorem assign_bad (A : Option Addr) (n c : Nat) (Ls : List (List Int)) (x : Int) (w : World) (S : SideAt w w.heap.size A n c Ls) (hx : feesF Ls = x) (h0 : x ≠ 0) :
    Calls Tryd.prog 6 #[.slice A n c] w fun e w' => e = .returned (.tuple #[.slice none 0 0, .int .i64 0, .int .i64 x]) ∧ Below w.heap.size w w' := by
  have hB : Below w.heap.size w (w.alloc (.cells #[.slice A n c] 22)) := (Below.refl _ _).alloc (Nat.le_refl _) _
  have HC := Lib.hid (checkFees_any A n c Ls _ (S.go_ hB))
  rw [hx] at HC
  have HB := Lib.hid hB
  have hx0 : (x != 0) = true := by simpa using h0
  clear S hx h0 hB
  go_enter Tryd.func6, Tryd.ntmps6
  go_wp2_with fail
  refine HC.out.mono ?_
  rintro e w1 ⟨rfl, rfl⟩
  go_wp2
  go_ret3
  exact ⟨rfl, HB.out⟩
set_option maxRecDepth 100000 in
set_option maxHeartbeats 4000000 in
theorem assign_good (A : Option Addr) (n c : Nat) (Ls : List (List Int)) (w : World) (S : SideAt w w.heap.size A n c Ls) (hx : feesF Ls = 0) (hT : Tab w) :
    Calls Tryd.prog 6 #[.slice A n c] w (AssignOut Ls n w) := by
  obtain ⟨hn8, hs, hr⟩ := feesF_zero hx
  rw [S.len] at hn8
  have hB : Below w.heap.size w (w.alloc (.cells #[.slice A n c] 22)) := (Below.refl _ _).alloc (Nat.le_refl _) _
  have HC := Lib.hid (checkFees_any A n c Ls _ (S.go_ hB))
  rw [hx] at HC
  have HS := Lib.hid S
  have HTAB := Lib.hid hT
  have HSQ := Lib.hid hs
  have HRG := Lib.hid hr
  have h256 : 2 ^ n ≤ 256 := by rw [show 256 = 2 ^ 8 from rfl]; exact Nat.pow_le_pow_right (by decide) hn8
  have h1p : 1 ≤ 2 ^ n := Nat.one_le_pow _ _ (by omega)
  have hsn : (2 : Int) ^ n % 4294967296 = ((2 ^ n : Nat) : Int) := pow_mod n (by omega)
  have htn : IntKind.u32.wrap ((2 : Int) ^ n) = ((2 ^ n : Nat) : Int) := by rw [wrap_u32n]; exact hsn
  obtain ⟨al, hal⟩ : ∃ al, al = 2 ^ n - 1 := ⟨_, rfl⟩
  obtain ⟨pn, hpn⟩ : ∃ pn, pn = 2 ^ n := ⟨_, rfl⟩
  have HAL := Lib.hid hal
  have HPN := Lib.hid hpn
  rw [← hpn] at h256 h1p hsn htn
  have e1 : (pn : Int) - 1 = (al : Int) := by omega
  have e2 : (al : Int) + 1 = (pn : Int) := by omega
  have hal256 : al < 256 := by omega
  have hmk := fun W => run_make_row' (P := Tryd.prog) 32 2 (.int .i64 0) 8 Tryd.underlying32 (by kernel_rfl) rfl .u32 .u32 pn (by omega) (by omega) W
  have hmk2 := fun W => run_make_row' (P := Tryd.prog) 23 3 (.int .i64 0) 8 Tryd.underlying23 (by kernel_rfl) rfl .i64 .i64 n (by omega) (by omega) W
  clear S hx hT hs hr hB hal hpn
  go_enter Tryd.func6, Tryd.ntmps6
  go_wp2_with fail
  refine HC.out.mono ?_
  rintro e w1 ⟨rfl, rfl⟩
  clear HC
  go_wp2_with fail
  clear hmk hsn htn e2
  have HST : Hid (∃ T, DealS w A n c Ls T al (((w.alloc (.cells #[.slice A n c] 22)).alloc (.cells (madeCells #[.int .i64 0] pn) 2)).alloc (.cells #[.slice (some ⟨w.heap.size + 1, 0, none⟩) pn pn] 32))) := Lib.hid (by
    have hp := HPN.out
    have ha := HAL.out
    have hb0 : Below w.heap.size w (((w.alloc (.cells #[.slice A n c] 22)).alloc (.cells (madeCells #[.int .i64 0] pn) 2)).alloc (.cells #[.slice (some ⟨w.heap.size + 1, 0, none⟩) pn pn] 32)) := (((Below.refl _ _).alloc (Nat.le_refl _) _).alloc (by simp) _).alloc (by simp; omega) _
    refine ⟨fun _ => 0, ⟨HS.out.below hb0, ?_, ?_, ⟨madeCells #[.int .i64 0] pn, ?_, fun j hj => by simp [madeCells, Nat.mod_one, hp, hj]⟩, HTAB.out.go_ hb0⟩, fun q h1 h2 => ?_, hb0, by simp, HTAB.out.1⟩
    · have : (((w.alloc (.cells #[.slice A n c] 22)).alloc (.cells (madeCells #[.int .i64 0] pn) 2)).alloc (.cells #[.slice (some ⟨w.heap.size + 1, 0, none⟩) pn pn] 32)).heap[w.heap.size]? = some (.cells #[.slice A n c] 22 (0, 0)) := by
        rw [Below.heap_alloc _ _ _ (by simp; omega), Below.heap_alloc _ _ _ (by simp)]
        exact (MapKept.heap_alloc w _).1
      simp only [World.cell?, this]; rfl
    · have := (MapKept.heap_alloc ((w.alloc (.cells #[.slice A n c] 22)).alloc (.cells (madeCells #[.int .i64 0] pn) 2)) (.cells #[.slice (some ⟨w.heap.size + 1, 0, none⟩) pn pn] 32)).1
      rw [World.size_alloc, World.size_alloc] at this
      rw [← hp]
      simp only [World.cell?, this]; rfl
    · rw [Below.heap_alloc _ _ _ (by simp)]
      have := (MapKept.heap_alloc (w.alloc (.cells #[.slice A n c] 22)) (.cells (madeCells #[.int .i64 0] pn) 2)).1
      rwa [World.size_alloc] at this
    · obtain rfl : q = 2 ^ n - 1 := by omega
      rw [(ones_full_dec n (by omega)).1, Nat.sub_self]; rfl)
  go_loopw [9] (fun x wr => ∃ lo : Nat, x = .int .u32 lo ∧ lo ≤ al ∧ Hid (∃ T, DealS w A n c Ls T lo wr)) (fun x _ => (intOf x).toNat)
  case atStart => exact ⟨al, rfl, Nat.le_refl _, HST.out⟩
  case round =>
    clear HST
    obtain ⟨lo, rfl, hlo, HD⟩ := hrel
    obtain ⟨T, HD⟩ : ∃ T, Hid (DealS w A n c Ls T lo wr) := by
      obtain ⟨T, h⟩ := HD.out
      exact ⟨T, Lib.hid h⟩
    by_cases h0 : lo = 0
    · have HD0 : Hid (DealS w A n c Ls T 0 wr) := Lib.hid (by rw [← h0]; exact HD.out)
      have hz0 : ¬ (lo : Int) > 0 := by omega
      clear h0 hlo HD
      have kb : wr.cell? ⟨w.heap.size, 0, none⟩ = some (.slice A n c) := HD0.out.deal.box1
      go_wp2_with fail
      clear hmk2 kb
      obtain ⟨wo, rfl⟩ : ∃ wo : World, wo = wr := ⟨_, rfl⟩
      have HSS : Hid (ListS w wo.heap.size A n c Ls T 0 0 [] (wo.alloc (.cells (madeCells #[.int .i64 0] n) 3))) := Lib.hid
        ⟨HD0.out.later ((Below.refl _ _).alloc (by have := HD0.out.size; omega) _), ⟨_, (MapKept.heap_alloc wo _).1, fun j hj => by simp [madeCells, Nat.mod_one, hj]⟩, by have := HD0.out.size; omega, rfl, IsW.nil, by decide, by rw [Nat.sub_zero]⟩
      go_loopw [11, 46] (fun x y wx => ∃ (k t : Nat) (l : List Nat), x = .int .u32 t ∧ y = .int .i64 k ∧ k ≤ n ∧ t < pn ∧ Hid (ListS w wo.heap.size A n c Ls T k t l wx)) (fun _ y _ => n - (intOf y).toNat)
      case atStart => exact ⟨0, 0, [], rfl, rfl, Nat.zero_le _, by omega, HSS⟩
      case round =>
        clear HSS HD0
        obtain ⟨k, t, l, rfl, rfl, hk, htp, HL⟩ := hrel
        by_cases hkn : k < n
        · have hta2 : t < 2 ^ n - 1 := by
            apply Classical.byContradiction
            intro h
            have h2 := HPN.out
            obtain rfl : t = 2 ^ n - 1 := by omega
            have h3 := HL.out.ones
            rw [(ones_full_dec n (by omega)).1] at h3
            omega
          obtain ⟨b, hb⟩ := first_ex (F := fun j => feeQ Ls (ones t) j + T (t ||| 2 ^ j)) hn8 hta2
          have hp2 := HPN.out
          have hbT : ∀ j, j < n → t.testBit j = false → -100000000 ≤ T (t ||| 2 ^ j) ∧ T (t ||| 2 ^ j) ≤ 100000000 := fun j hj hjb => by
            rw [HL.out.deal.right _ (Nat.zero_le _) (Nat.or_lt_two_pow (by omega) (Nat.pow_lt_pow_right (by decide) hj))]
            have h3 := deal_abs (fee := feeQ Ls) (n := n) (feeQ_abs HRG.out) (by decide) (n - ones (t ||| 2 ^ j)) (t ||| 2 ^ j)
            have h4 : ((n - ones (t ||| 2 ^ j) : Nat) : Int) * 1048576 ≤ 8 * 1048576 := Int.mul_le_mul_of_nonneg_right (by omega) (by decide)
            omega
          have HCH : Hid (Calls Tryd.prog 15 #[.int .u32 al, .int .u32 t, .func (.func 13) #[] #[.pointer (some ⟨w.heap.size, 0, none⟩), .pointer (some ⟨w.heap.size + 1 + 1, 0, none⟩)]] wr fun e w' => e = .returned (.int .i64 b) ∧ ∃ k, w' = wr.drewN k) := Lib.hid (by
            have h := cheapest_any w.heap.size w.heap.size (w.heap.size + 1 + 1) (w.heap.size + 1) A n c Ls T _ t b wr HL.out.deal.deal hn8 HSQ.out HRG.out hta2 hbT (fun _ => rfl) hb
            rw [← HAL.out] at h
            exact h)
          have hpb : 2 ^ b < 2 ^ 8 := Nat.pow_lt_pow_right (by decide) (by have := hb.lt; omega)
          rw [show 2 ^ 8 = 256 from rfl] at hpb
          have hqp : t ||| 2 ^ b < pn := by rw [hp2] at htp ⊢; exact Nat.or_lt_two_pow htp (Nat.pow_lt_pow_right (by decide) hb.lt)
          have hsb : (2 : Int) ^ b % 4294967296 = ((2 ^ b : Nat) : Int) := pow_mod b (by omega)
          have htb : IntKind.u32.wrap ((2 : Int) ^ b) = ((2 ^ b : Nat) : Int) := by rw [wrap_u32n]; exact hsb
          have hor := or_u32 t (2 ^ b) (by omega) (by omega)
          have HNX : Hid (∀ q, ListS w wo.heap.size A n c Ls T (k + 1) (t ||| 2 ^ b) (l ++ [b]) ((wr.drewN q).setCell ⟨wo.heap.size, k, none⟩ (.int .i64 b))) := Lib.hid fun q => (HL.out.drewN q).next hn8 hkn hta2 hb
          have kc := HL.out.row.cell hkn
          have kf := HL.out.row.frozen k
          have ik0 : (0 : Int) ≤ (k : Int) := by omega
          have ik1 : (k : Int) < (n : Int) := by omega
          have ib0 : (0 : Int) ≤ (b : Int) := by omega
          have hb32 : b < 32 := by have := hb.lt; omega
          clear hbT hb hta2 hp2
          obtain ⟨q, hq⟩ : ∃ q, q = t ||| 2 ^ b := ⟨_, rfl⟩
          rw [← hq] at hqp hor HNX
          obtain ⟨pb, hpbe⟩ : ∃ pb, pb = 2 ^ b := ⟨_, rfl⟩
          rw [← hpbe] at hpb hsb htb hor
          clear hq hpbe
          generalize l.getD k 0 = z at kc
          go_wp2_with fail
          refine HCH.out.mono ?_
          rintro e w2 ⟨rfl, q2, rfl⟩
          clear HCH
          go_wp2_with fail
          have HN2 := Lib.hid (HNX.out q2)
          clear HNX kc kf
          go_roundw
          case rel => exact ⟨k + 1, q, l ++ [b], rfl, by go_num, by omega, hqp, HN2⟩
          case measure => simp [intOf]; omega
        · obtain rfl : k = n := by omega
          have k2 : wr.cell? ⟨w.heap.size + 1 + 1, 0, none⟩ = some (.slice (some ⟨w.heap.size + 1, 0, none⟩) pn pn) := by rw [HPN.out]; exact HL.out.deal.deal.box2
          have kT : wr.cell? ⟨w.heap.size + 1, 0, none⟩ = some (.int .i64 (asgR (feeQ Ls) k k []).2) := by
            have h1 := HL.out.deal.deal.row.cell (j := 0) (by have := HPN.out; omega)
            rw [h1, HL.out.deal.right 0 (Nat.le_refl _) (by have := HPN.out; omega), deal_asg (n := k) k [] 0 IsW.nil (by simp)]
            rfl
          have ip : (0 : Int) < (pn : Int) := by omega
          have HO : Hid (∀ q, AssignOut Ls k w (.returned (.tuple #[.slice (some ⟨wo.heap.size, 0, none⟩) k k, .int .i64 (asgR (feeQ Ls) k k []).2, .int .i64 0])) (wr.drewN q)) := Lib.hid fun q => by
            refine ⟨wo.heap.size, rfl, (HL.out.row.drewN q).congr fun i _ => ?_, (HL.out.drewN q).deal.below⟩
            have h1 := HL.out.same
            rw [Nat.sub_self] at h1
            rw [← h1]; rfl
          generalize (asgR (feeQ Ls) k k []).2 = z at kT HO
          go_wp2_with fail
          go_quiet (fail)
          go_wp2
          go_ret3
          exact HO.out _
    · obtain ⟨t, ht⟩ : ∃ t, lo = t + 1 := ⟨lo - 1, by omega⟩
      have hl1 : (lo : Int) - 1 = (t : Int) := by omega
      have hlp : (lo : Int) > 0 := by omega
      have hl0 : 1 ≤ (lo : Int) := by omega
      have htal : t < al := by omega
      have hta2 : t < 2 ^ n - 1 := by rw [← HAL.out]; exact htal
      have HD1 : Hid (DealS w A n c Ls T (t + 1) wr) := Lib.hid (by rw [← ht]; exact HD.out)
      obtain ⟨b, hb⟩ := first_ex (F := fun j => feeQ Ls (ones t) j + T (t ||| 2 ^ j)) hn8 hta2
      have hbT : ∀ j, j < n → t.testBit j = false → -100000000 ≤ T (t ||| 2 ^ j) ∧ T (t ||| 2 ^ j) ≤ 100000000 := fun j hj hjb => by
        obtain ⟨_, h2⟩ := ones_or_dec j (by omega) t (by omega) hjb
        rw [HD1.out.right _ (by omega) (Nat.or_lt_two_pow (by omega) (Nat.pow_lt_pow_right (by decide) hj))]
        have h3 := deal_abs (fee := feeQ Ls) (n := n) (feeQ_abs HRG.out) (by decide) (n - ones (t ||| 2 ^ j)) (t ||| 2 ^ j)
        have h4 : ((n - ones (t ||| 2 ^ j) : Nat) : Int) * 1048576 ≤ 8 * 1048576 := Int.mul_le_mul_of_nonneg_right (by omega) (by decide)
        omega
      have HV := Lib.hid (HD1.out.first hn8 hta2 hb).2
      have HCH : Hid (∀ W, DealW w.heap.size w.heap.size (w.heap.size + 1 + 1) (w.heap.size + 1) A n c Ls T W → Calls Tryd.prog 15 #[.int .u32 al, .int .u32 t, .func (.func 13) #[] #[.pointer (some ⟨w.heap.size, 0, none⟩), .pointer (some ⟨w.heap.size + 1 + 1, 0, none⟩)]] W fun e w' => e = .returned (.int .i64 b) ∧ ∃ k, w' = W.drewN k) := Lib.hid fun W hW => by
        have h := cheapest_any w.heap.size w.heap.size (w.heap.size + 1 + 1) (w.heap.size + 1) A n c Ls T _ t b W hW hn8 HSQ.out HRG.out hta2 hbT (fun _ => rfl) hb
        rw [← HAL.out] at h
        exact h
      have HFE := Lib.hid (fun W (hW : DealW w.heap.size w.heap.size (w.heap.size + 1 + 1) (w.heap.size + 1) A n c Ls T W) => dealFee_any w.heap.size w.heap.size (w.heap.size + 1 + 1) (w.heap.size + 1) A n c Ls T t b _ W hW hn8 HSQ.out HRG.out (by omega) hb.lt hb.out (hbT b hb.lt hb.out) (HD1.out.first hn8 hta2 hb).2)
      obtain ⟨v, hv⟩ : ∃ v, v = dealV (feeQ Ls) n (n - ones t) t := ⟨_, rfl⟩
      rw [← hv] at HFE
      have HVV := Lib.hid hv
      have k2 : wr.cell? ⟨w.heap.size + 1 + 1, 0, none⟩ = some (.slice (some ⟨w.heap.size + 1, 0, none⟩) pn pn) := by rw [HPN.out]; exact HD.out.deal.box2
      have kT : wr.cell? ⟨w.heap.size + 1, t, none⟩ = some (.int .i64 (T t)) := HD.out.deal.row.cell (by omega)
      have kF := HD.out.deal.row.frozen t
      have it0 : (0 : Int) ≤ (t : Int) := by omega
      have it1 : (t : Int) < (pn : Int) := by omega
      clear hbT hb hv HV h0 ht hta2 hmk2
      go_wp2_with fail
      go_region_with (first
        | (go_at_call 15; refine (HCH.out _ (by first | exact HD.out.deal | exact HD.out.deal.drew | exact HD.out.deal.drew.drewN _ | exact HD.out.deal.drewN _)).mono ?_; rintro e w5 ⟨rfl, q5, rfl⟩)
        | (go_at_call 13; refine (HFE.out _ (by first | exact HD.out.deal | exact HD.out.deal.drew | exact HD.out.deal.drew.drewN _ | exact HD.out.deal.drewN _)).mono ?_; rintro e w6 ⟨rfl, q6, rfl⟩))
      all_goals
        have HN : Hid (∃ T', DealS w A n c Ls T' t ((wr.drewN (1 + q5 + q6)).setCell ⟨w.heap.size + 1, t, none⟩ (.int .i64 v))) := Lib.hid ⟨_, (HD1.out.drewN _).put HVV.out⟩
        clear k2 kT kF
        go_wp2
        go_roundw
        case rel => exact ⟨t, rfl, by omega, HN⟩
        case measure => simp [intOf]; omega
end Go.Proofs.YtmlmnmphmghdlaaDoor
