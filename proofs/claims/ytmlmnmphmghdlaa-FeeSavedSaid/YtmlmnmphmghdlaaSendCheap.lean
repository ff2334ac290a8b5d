/- The program's sendCheapest: what goes is more, and still can't be had cheaper. Conditions: heights fit what goes, and more can go. -/
import Derived.Test.YtmlmnmphmghdlaaStepsOf
import Derived.Test.YtmlmnmphmghdlaaFarFrom
import Derived.Test.YtmlmnmphmghdlaaFlowSend
import Derived.Test.YtmlmnmphmghdlaaCutL
import Derived.Deep.RegionHeld3
namespace Go.Proofs.Ytmlmnmphmghdlaa
open Go.RowKit

theorem ints_row {w : World} {g len : Nat} {f : Nat → Int} (h : RowI w g len f) : IntsAt w w.heap.size (some ⟨g, 0, none⟩) len ((List.range len).map f) :=
  ⟨by simp, fun _ => ⟨g, 0, rfl, h.lt, fun i x hx => by
    obtain ⟨h1, h2⟩ := List.getElem?_eq_some_iff.1 hx
    simp at h1 h2
    rw [Nat.zero_add, h.cell h1, h2]⟩⟩
theorem goes_map {len k : Nat} {f : Nat → Int} (h : k < len) : goesF ((List.range len).map f) k = f k := by
  unfold goesF
  rw [List.getD_eq_getElem?_getD, List.getElem?_map, List.getElem?_range h]; rfl
theorem stepT_congr {es : List A4} {f f' : Nat → Int} : ∀ m, (∀ k, k < m → f k = f' k) → stepT es f m = stepT es f' m
  | 0, _ => rfl
  | m + 1, h => by simp only [stepT]; rw [stepT_congr m fun k hk => h k (by omega), h m (by omega)]
theorem own_putN {w : World} {base n g cap sz : Nat} {t : TypeId} {xs : List Value} (h : w.ownsRow base t sz (.slice (some ⟨g, 0, none⟩) n cap) n xs) (j : Nat) (y : Value) : (w.setCell ⟨g, j, none⟩ y).ownsRow base t sz (.slice (some ⟨g, 0, none⟩) n cap) n (xs.set j y) := by
  refine ⟨by rw [List.length_set]; exact h.1, .inr ?_⟩
  rcases h.2 with ⟨h0, _⟩ | ⟨g', cap', cur, hv, hb, hg, h1, h2, h3, h4⟩
  · cases h0
  · injection hv with e1 _ e2
    injection e1 with e1
    injection e1 with e1
    subst e1 e2
    refine ⟨g, cap, cur.setIfInBounds j y, rfl, hb, ?_, h1, h2, by rw [Array.size_setIfInBounds]; exact h3, ?_⟩
    · simp [World.setCell, Array.getElem?_modify, hg]
    · rw [← h4, Array.toList_setIfInBounds, List.take_set]
theorem own_frozen {w : World} {base n g cap sz : Nat} {t : TypeId} {xs : List Value} (h : w.ownsRow base t sz (.slice (some ⟨g, 0, none⟩) n cap) n xs) (j : Nat) : w.frozen? ⟨g, j, none⟩ = false := by
  rcases h.2 with ⟨h0, _⟩ | ⟨g', cap', cur, hv, _, hg, _⟩
  · cases h0
  · injection hv with e1
    injection e1 with e1
    injection e1 with e1
    subst e1
    simp [World.frozen?, hg]
section
variable {ops : Array Oper} {o : Oper} {a : Act} {w : World} {K : Act → World → Prop} {Q : Exit → Act → World → Prop} {E : Prop}
set_option maxRecDepth 100000 in
/-- append(arcs, a), in a region that draws. -/
theorem step_appA (hgd : o.guard = none) (s x : Operand) (ho : o.op = .call { callee := .builtin .append, args := #[s, x], argTypes := #[22, 22] })
    (base n : Nat) (L : List A4) (a4 : A4) (A : Option Addr) (c y : Nat) (hs : a.eval s = .slice A n c) (hx : a.eval x = .slice (some ⟨y, 0, none⟩) 1 1) (hown : w.ownsRow base 31 4 (.slice A n c) n (cellsA L))
    (hy : w.heap[y]? = some (.cells #[.int .i64 a4.1, .int .i64 a4.2.1, .int .i64 a4.2.2.1, .int .i64 a4.2.2.2] 31 (0, 0))) (hn : n ≤ 1000) (hb : base ≤ w.heap.size)
    (h : ∀ A' c' w', w'.ownsRow base 31 4 (.slice A' (n + 1) c') (n + 1) (cellsA (L ++ [a4])) → w.grownBy w' (Value.slice A n c).ownBlock → K (a.put o.dst (.slice A' (n + 1) c')) w') :
    if Region.wanted o (yielded ops a.tmps) = true then Oper.wp Try.prog o a w K Q else E := by
  have hw : Region.wanted o (yielded ops a.tmps) = true := by simp [Region.wanted, hgd]
  rw [if_pos hw]
  obtain ⟨i0, hi, hz0, hz1, hz2⟩ := info_parts infoArc
  exact wp_append_own w s x 22 ho base 31 i0 (.agg #[.int .i64 0, .int .i64 0, .int .i64 0, .int .i64 0]) 4 32 Try.underlying22 hi hz0 hz1 hz2 rfl (by decide) _ n (cellsA L) hs hown ⟨y, 0, none⟩ 1 1 _ hx rfl (World.news_of_block hy) (by simp [Value.oneCell']) (by unfold maxLen; omega) (by omega) hb fun v' w' h2 h3 _ => by
    obtain ⟨A', c', rfl⟩ := own_form4 h2
    refine h A' c' w' ?_ h3
    rw [cellsA_snoc]
    exact h2
end
/-- While the steps are cut. -/
structure CutW (W0 : World) (base n : Nat) (v : Value) (L : List A4) (wr : World) : Prop where
  own : wr.ownsRow base 31 4 v n (cellsA L)
  but : But (fun b => v.ownBlock = some b) W0 wr
theorem CutW.later {W0 wr W : World} {base n : Nat} {v : Value} {L : List A4} (h : CutW W0 base n v L wr) (hb : Below wr.heap.size wr W) : CutW W0 base n v L W :=
  ⟨own_block4 h.own fun g hg => hb.block g (h.own.lt g hg).2, h.but.trans (.of_below hb)⟩
theorem CutW.cell {W0 wr : World} {base n b o : Nat} {v x : Value} {L : List A4} (h : CutW W0 base n v L wr) (hb : v.ownBlock ≠ some b) (hc : W0.cell? ⟨b, o, none⟩ = some x) : wr.cell? ⟨b, o, none⟩ = some x := by
  have hl := cell_lt hc
  have := h.but.block b hl hb
  unfold World.cell? at hc ⊢
  rw [this]; exact hc
def sentT (f g : Nat → Int) (k i : Nat) : Int := if i < k then sentF f g i else f i
def SendC (N : NetP) (fee : Nat → Int) (s t g0 len : Nat) (v left : Int) (w : World) (e : Ending) (w' : World) : Prop :=
  ∃ r f' π, e = .returned (.int .i64 r) ∧ 1 ≤ r ∧ r ≤ left ∧ FlowP N s t f' (v + r) ∧ PotP N fee f' π ∧ RowI w' g0 len f' ∧ But (fun b => b = g0) w w'

set_option maxRecDepth 100000 in
set_option maxHeartbeats 4000000 in
theorem sendC_any (m : Nat) (A : Option Addr) (len cap : Nat) (es : List A4) (B g0 s t : Nat) (f π f2 : Nat → Int) (v v2 left : Int) (w : World) (hE : ArcsAt w B A len es) (hB : B ≤ g0) (hR : RowI w g0 len f) (hG : GoodN (m : Int) es)
    (hFB : ∀ k, -1048576 ≤ feeP es k ∧ feeP es k ≤ 1048576) (hs : s < m) (ht : t < m) (hst : s ≠ t) (hF : FlowP (netP (m : Int) es) s t f v) (hP : PotP (netP (m : Int) es) (feeP es) f π) (hl0 : 0 < left) (hl1 : left ≤ 67108864)
    (hF2 : FlowP (netP (m : Int) es) s t f2 v2) (hv : v < v2) :
    Calls Try.prog 18 #[.agg #[.int .i64 m, .slice A len cap], .slice (some ⟨g0, 0, none⟩) len len, .int .i64 s, .int .i64 t, .int .i64 left] w (SendC (netP (m : Int) es) (feeP es) s t g0 len v left w) := by
  have hgw := hR.lt
  have hlen : es.length = len := hE.1
  have hm10 : m ≤ 10 := by have := hG.n1; omega
  have hl30 : len ≤ 30 := by have := hG.len; omega
  have hok := netP_ok hG.big
  obtain ⟨N, hN⟩ : ∃ N, N = netP (m : Int) es := ⟨_, rfl⟩
  have hNn : N.n = m := by rw [hN]; simp [netP]
  have hNK : N.K = len := by rw [hN]; exact hlen
  have hNNf : NoNeg (StepC N (feeP es) f) := by
    rw [hN]
    refine noNeg_of (π := π) ?_
    rintro i j c ⟨k, hk, ⟨rfl, rfl, h3, rfl⟩ | ⟨rfl, rfl, h3, rfl⟩⟩
    · exact (hP k hk).1 h3
    · have := (hP k hk).2 h3; omega
  obtain ⟨S, hS⟩ : ∃ S, S = stepT es f len := ⟨_, rfl⟩
  have hSl : S.length = 2 * len := by rw [hS, stepT_len]
  have hBig : BigN (m : Int) S := by rw [hS, ← hlen]; exact stepT_big hG hF.may
  have hSF : ∀ k, -1048576 ≤ feeP S k ∧ feeP S k ≤ 1048576 := fun k => by rw [hS]; exact stepT_fee hFB k
  have hAV : AvailP (netP (m : Int) S) (feeP S) = StepC N (feeP es) f := by rw [hS, ← hlen, hN]; exact avail_eq
  have hX0 : ArcsAt w w.heap.size A len es := hE.more (by omega)
  have HST := Lib.hid (fun W (h1 : ArcsAt W W.heap.size A len es) (h2 : RowI W g0 len f) => stepsOf_any m A len cap es (some ⟨g0, 0, none⟩) len ((List.range len).map f) W h1 (ints_row h2) hG hFB (fun k hk => by rw [goes_map (by rw [← hlen]; exact hk)]; exact hF.may k hk))
  have HSTE : Hid (stepT es (goesF ((List.range len).map f)) len = S) := Lib.hid (by rw [hS]; exact stepT_congr len fun k hk => goes_map hk)
  have HFAR := Lib.hid (fun W A' c' (h1 : ArcsAt W W.heap.size A' (2 * len) S) => farFrom_any m A' (2 * len) c' S s W h1 hBig hm10 hs hSF (by rw [hAV]; exact hNNf))
  have HABS := Lib.hid (fun d (h : FarP (netP (m : Int) S) (feeP S) s d) i (hi : i < m) => h.abs (netP_ok hBig) hSF (by rw [hAV]; exact hNNf) (by simp [netP]; omega) (i := i) (by simpa [netP] using hi))
  have HBG := Lib.hid hBig
  have HAV := Lib.hid hAV
  have HSF := Lib.hid hSF
  have HSS := Lib.hid (And.intro hS hSl)
  have HX := Lib.hid (BoxN.start (n := (m : Int)) (cap := cap) hX0)
  have HR := Lib.hid (hR.of_block (w' := bxN w (m : Int) A len cap) (Below.heap_alloc _ _ _ hgw))
  have HG := Lib.hid hG
  have HFB := Lib.hid hFB
  have HFL := Lib.hid (And.intro hF (And.intro hF2 hv))
  have HNE := Lib.hid (And.intro hN (And.intro hNn (And.intro hNK hlen)))
  have HOK := Lib.hid hok
  have k0 := HX.out.k0
  have k1 := HX.out.k1
  have hwl := HX.out.lt
  clear hE hR hG hFB hF hP hF2 hv hlen hok hNn hNK hNNf hS hSl hBig hSF hAV hX0
  go_enter Try.func18, Try.ntmps18
  go_wp2_with fail
  refine (HST.out _ (by exact HX.out.arcs) (by exact HR.out)).mono ?_
  rintro e w1 ⟨A', c', rfl, hown, hBl⟩
  have HX1 := Lib.hid (HX.out.next hBl)
  have HOW : Hid (w1.ownsRow (w.heap.size + 1) 31 4 (.slice A' (2 * len) c') (2 * len) (cellsA S)) := Lib.hid (by
    rw [HSTE.out] at hown
    refine ⟨hown.1, ?_⟩
    rcases hown.2 with h0 | ⟨g, cap, cur, hv, hg, hr⟩
    · exact .inl h0
    · exact .inr ⟨g, cap, cur, hv, by simp at hg; omega, hr⟩)
  have HR1 : Hid (RowI w1 g0 len f) := Lib.hid (HR.out.of_block (hBl.block _ HR.out.lt))
  clear hown hBl HST HSTE HR k0 k1 HX
  have k0 := HX1.out.k0
  have hlt1 := HX1.out.lt
  go_wp2_with fail
  obtain ⟨W1, hW1⟩ : ∃ W1, W1 = w1.alloc (.cells #[.int .i64 m, .slice A' (2 * len) c'] 24) := ⟨_, rfl⟩
  rw [← hW1]
  have hb1 : Below w1.heap.size w1 W1 := by rw [hW1]; exact (Below.refl _ _).alloc (Nat.le_refl _) _
  have HB1 : Hid (Below w1.heap.size w1 W1 ∧ W1.heap.size = w1.heap.size + 1) := Lib.hid ⟨hb1, by rw [hW1]; simp⟩
  have HQ1 : Hid (W1.heap[w1.heap.size]? = some (.cells #[.int .i64 m, .slice A' (2 * len) c'] 24 (0, 0))) := Lib.hid (by rw [hW1]; exact (MapKept.heap_alloc w1 _).1)
  clear hW1 hb1 k0
  refine (HFAR.out W1 A' c' ((ArcsAt.of_own4 HOW.out).go_ HB1.out.1)).mono ?_
  rintro e w2 ⟨gF, d, rfl, hrow, hfar, hfeas, hgF, hBl⟩
  have HB2 := Lib.hid hBl
  have HD : Hid (FarP (netP (m : Int) S) (feeP S) s d ∧ FeasP (AvailP (netP (m : Int) S) (feeP S)) d) := Lib.hid ⟨hfar, hfeas⟩
  have HRF := Lib.hid hrow
  have hgF2 : gF < w2.heap.size := hrow.lt
  clear hrow hfar hfeas hBl HFAR
  go_wp2_with fail
  refine (dearer_any _ _ _ _).mono ?_
  rintro e w3 ⟨rfl, rfl⟩
  obtain ⟨W0, hW0⟩ : ∃ W0, W0 = w2.alloc (.cells #[.slice (some ⟨gF, 0, none⟩) m m] 25) := ⟨_, rfl⟩
  rw [← hW0]
  have hb3 : Below w2.heap.size w2 W0 := by rw [hW0]; exact (Below.refl _ _).alloc (Nat.le_refl _) _
  have HBA : Hid (Below w1.heap.size w1 W0) := Lib.hid (HB1.out.1.trans ((HB2.out.mono HB1.out.1.size).trans (hb3.mono (by have := HB2.out.size; have := HB1.out.1.size; omega))))
  have HSZ : Hid (W0.heap.size = w2.heap.size + 1 ∧ W1.heap.size ≤ w2.heap.size) := Lib.hid ⟨by rw [hW0]; simp, HB2.out.size⟩
  have HQ2 : Hid (W0.cell? ⟨w2.heap.size, 0, none⟩ = some (.slice (some ⟨gF, 0, none⟩) m m)) := Lib.hid (by
    have := (MapKept.heap_alloc w2 (.cells #[.slice (some ⟨gF, 0, none⟩) m m] 25)).1
    rw [hW0]
    simp only [World.cell?, this]; rfl)
  have HQ1' : Hid (W0.heap[w1.heap.size]? = some (.cells #[.int .i64 m, .slice A' (2 * len) c'] 24 (0, 0))) := Lib.hid (by
    rw [hb3.block _ (by have := HB2.out.size; have := HB1.out.2; omega), HB2.out.block _ (by have := HB1.out.2; omega)]; exact HQ1.out)
  have HRF0 : Hid (RowI W0 gF m d) := Lib.hid (HRF.out.of_block (hb3.block _ hgF2))
  have HCW : Hid (CutW W0 (w.heap.size + 1) (2 * len) (.slice A' (2 * len) c') (cutT S d 0) W0) := Lib.hid ⟨own_block4 HOW.out fun g hg => HBA.out.block g (HOW.out.lt g hg).2, But.refl _ _⟩
  have HOB : Hid (∀ b, (Value.slice A' (2 * len) c').ownBlock = some b → w.heap.size + 1 ≤ b ∧ b < w1.heap.size) := Lib.hid fun b hb => HOW.out.lt b hb
  have HK0 : Hid (W0.cell? ⟨w.heap.size, 0, none⟩ = some (.int .i64 m)) := Lib.hid ((HBA.out.cell (p := ⟨w.heap.size, 0, none⟩) hlt1).trans HX1.out.k0)
  have HBW0 : Hid (Below w.heap.size w W0) := Lib.hid (HX1.out.below.trans (HBA.out.mono HX1.out.below.size))
  have HRG0 : Hid (RowI W0 g0 len f) := Lib.hid (HR1.out.of_block (HBA.out.block _ HR1.out.lt))
  have hq1 : w1.heap.size < W0.heap.size := by have := HSZ.out; have := HB1.out.2; omega
  clear hW0 hb3 HB2 HQ1 HRF HR1 HOW HX1
  have HC1 : Hid (∀ L W, CutW W0 (w.heap.size + 1) (2 * len) (.slice A' (2 * len) c') L W → W.cell? ⟨w1.heap.size, 0, none⟩ = some (.int .i64 m) ∧ W.cell? ⟨w1.heap.size, 1, none⟩ = some (.slice A' (2 * len) c') ∧ W.cell? ⟨w.heap.size, 0, none⟩ = some (.int .i64 m) ∧ W.cell? ⟨w2.heap.size, 0, none⟩ = some (.slice (some ⟨gF, 0, none⟩) m m) ∧ RowI W gF m d ∧ RowI W g0 len f) := Lib.hid fun L W h => by
    have hgf1 : w1.heap.size < gF := by have := HB1.out.2; omega
    refine ⟨h.cell (fun hb => by have := HOB.out _ hb; omega) (by simp [World.cell?, HQ1'.out]), h.cell (fun hb => by have := HOB.out _ hb; omega) (by simp [World.cell?, HQ1'.out]), h.cell (fun hb => by have := HOB.out _ hb; omega) HK0.out, h.cell (fun hb => by have := HOB.out _ hb; omega) HQ2.out, ?_, ?_⟩
    · exact HRF0.out.of_block (h.but.block gF HRF0.out.lt (fun hb => by have := HOB.out _ hb; omega))
    · exact HRG0.out.of_block (h.but.block g0 HRG0.out.lt (fun hb => by have := HOB.out _ hb; omega))
  have c1 := (HC1.out _ _ HCW.out).2.1
  go_wp2_with fail
  clear c1
  go_loopw [28] (fun j wr => ∃ k : Nat, k ≤ 2 * len ∧ j = .int .i64 k ∧ Hid (CutW W0 (w.heap.size + 1) (2 * len) (.slice A' (2 * len) c') (cutT S d k) wr)) (fun j _ => 2 * len - (intOf j).toNat)
  case atStart => exact ⟨0, Nat.zero_le _, rfl, HCW.out⟩
  case round =>
    clear HCW
    obtain ⟨k, hk, rfl, HC⟩ := hrel
    by_cases hkl : k < 2 * len
    · obtain ⟨gS, HGS⟩ : ∃ gS, Hid (A' = some ⟨gS, 0, none⟩) := by
        rcases HC.out.own.2 with ⟨_, h0⟩ | ⟨g, cap', cur, hv, _⟩
        · omega
        · injection hv with e1
          exact ⟨g, Lib.hid e1⟩
      obtain rfl := HGS.out
      have hSlen := HSS.out.2
      obtain ⟨x0, x1, x2, x3, hx⟩ : ∃ x0 x1 x2 x3, S.getD k default = (x0, x1, x2, x3) := ⟨_, _, _, _, rfl⟩
      have hck : (cutT S d k)[k]? = some (x0, x1, x2, x3) := by rw [cutT_at (by omega), if_neg (by omega), hx]
      obtain ⟨bb, off, _, e1, hbb, hx2, hc0, hc1, hc2, hc3⟩ := (ArcsAt.of_own4 HC.out.own).at_ hkl
      obtain ⟨hs1, hs2⟩ := HOB.out gS rfl
      injection e1 with e1
      injection e1 with e1 e2
      subst e1 e2
      rw [hck] at hx2
      injection hx2 with hx2
      rw [← hx2] at hc0 hc1 hc2 hc3
      have hSk : S[k]? = some (x0, x1, x2, x3) := by
        rw [List.getD_eq_getElem?_getD, List.getElem?_eq_getElem (by omega)] at hx
        rw [List.getElem?_eq_getElem (by omega)]
        exact congrArg some hx
      obtain ⟨a0, a1, a2, a3, a4, a5, a6⟩ := HBG.out.arc _ (List.mem_of_getElem? hSk)
      have hf3 := HSF.out k
      rw [feeP_at4 hSk] at hf3
      simp only at a0 a1 a2 a3 hc0 hc1 hc2 hc3 hf3
      obtain ⟨fr, hfr⟩ := Int.eq_ofNat_of_zero_le a0
      obtain ⟨to, hto⟩ := Int.eq_ofNat_of_zero_le a2
      subst hfr hto
      have l0 : fr < m := by omega
      have l1 : to < m := by omega
      rw [Nat.zero_add] at hc0 hc1 hc2 hc3
      have hbf := HABS.out d HD.out.1 fr l0
      have hbt := HABS.out d HD.out.1 to l1
      obtain ⟨_, n1, _, n3, n4, _⟩ := HC1.out _ _ HC.out
      have hfz := own_frozen HC.out.own (k * 4 + 2)
      have hw1w : w1.heap.size < wr.heap.size := by have := HC.out.but.size; omega
      have hw2w : w2.heap.size < wr.heap.size := by have := HC.out.but.size; have := HSZ.out; omega
      have hgSw : gS < wr.heap.size := by omega
      obtain ⟨df, hdf⟩ : ∃ df, d fr = df := ⟨_, rfl⟩
      obtain ⟨dt, hdt⟩ : ∃ dt, d to = dt := ⟨_, rfl⟩
      rw [hdf] at hbf
      rw [hdt] at hbt
      have HYES : Hid (0 < df + x3 - dt → ∀ W, CutW W0 (w.heap.size + 1) (2 * len) (.slice (some ⟨gS, 0, none⟩) (2 * len) c') (cutT S d k) W → CutW W0 (w.heap.size + 1) (2 * len) (.slice (some ⟨gS, 0, none⟩) (2 * len) c') (cutT S d (k + 1)) (W.setCell ⟨gS, k * 4 + 2, none⟩ (.int .i64 0))) := Lib.hid fun h W hW => by
        have e : cutT S d (k + 1) = (cutT S d k).set k ((fr : Int), (to : Int), 0, x3) := by
          show (cutT S d k).set k (cutA d (S.getD k default)) = _
          rw [hx]
          unfold cutA
          simp only [Int.toNat_natCast]
          rw [if_pos (by rw [hdf, hdt]; exact h)]
        refine ⟨?_, hW.but.set_ (p := ⟨gS, k * 4 + 2, none⟩) rfl _⟩
        rw [e, cellsA_set _ _ _ _ _ _ _ hck]
        exact own_putN hW.own _ _
      have HNO : Hid (df + x3 - dt ≤ 0 → cutT S d (k + 1) = cutT S d k) := Lib.hid fun h => cutT_stay (by omega) (by
        rw [hx]
        unfold cutA
        simp only [Int.toNat_natCast]
        rw [if_neg (by rw [hdf, hdt]; omega)])
      have HDD := Lib.hid (And.intro hdf hdt)
      obtain ⟨vv, hvv⟩ : ∃ vv, df + x3 - dt = vv := ⟨_, rfl⟩
      have HVV := Lib.hid hvv
      rw [hvv] at HYES HNO
      clear hvv
      have ik0 : (0 : Int) ≤ (k : Int) := by omega
      have ik1 : (k : Int) < ((2 * len : Nat) : Int) := by omega
      have ik2 : (k : Int) < 2 * (len : Int) := by omega
      clear HGS hx hck hbb hx2 hSk a0 a1 a2 a3 hdf hdt hSlen
      go_wp2_with fail
      obtain ⟨W1r, hW1r⟩ : ∃ W1r, W1r = wr.alloc (.cells #[.int .i64 fr, .int .i64 to, .int .i64 x2, .int .i64 x3] 31) := ⟨_, rfl⟩
      rw [← hW1r]
      have HC2 : Hid (CutW W0 (w.heap.size + 1) (2 * len) (.slice (some ⟨gS, 0, none⟩) (2 * len) c') (cutT S d k) W1r) := Lib.hid (by rw [hW1r]; exact HC.out.later ((Below.refl _ _).alloc (Nat.le_refl _) _))
      have HBr : Hid (Below wr.heap.size wr W1r) := Lib.hid (by rw [hW1r]; exact (Below.refl _ _).alloc (Nat.le_refl _) _)
      obtain ⟨_, o1, _, o3, o4, _⟩ := HC1.out _ _ HC2.out
      clear hW1r
      refine ((dearer1_any w2.heap.size gF m m fr to x2 x3 df dt d W1r o3 o4 l0 l1 (by omega) HDD.out.1 HDD.out.2 (by omega) (by omega) hf3).mono (R' := fun e w' => e = .returned (.int .i64 vv) ∧ Below W1r.heap.size W1r w') (fun e w' h => by rw [HVV.out] at h; exact h)).mono ?_
      rintro e w5 ⟨rfl, hb5⟩
      have HC5 := Lib.hid (HC2.out.later hb5)
      have HB5 : Hid (Below wr.heap.size wr w5) := Lib.hid (HBr.out.trans (hb5.mono HBr.out.size))
      clear hb5 hc0 hc1 hc3 hfz n1 n3 n4 o1 o3 o4
      have p1 := (HC1.out _ _ HC5.out).2.1
      have pc : w5.cell? ⟨gS, k * 4 + 2, none⟩ = some (.int .i64 x2) := (HB5.out.cell (p := ⟨gS, k * 4 + 2, none⟩) hgSw).trans hc2
      have pf := own_frozen HC5.out.own (k * 4 + 2)
      clear hc2
      by_cases hgt : 0 < vv
      · have HN := Lib.hid (HYES.out hgt _ HC5.out)
        go_wp2_with fail
        go_roundw
        case rel => exact ⟨k + 1, by omega, by go_num, HN⟩
        case measure => simp [intOf]; omega
      · have HN : Hid (CutW W0 (w.heap.size + 1) (2 * len) (.slice (some ⟨gS, 0, none⟩) (2 * len) c') (cutT S d (k + 1)) w5) := Lib.hid (by rw [HNO.out (by omega)]; exact HC5.out)
        have hgtb : decide (0 < vv) = false := decide_eq_false hgt
        clear hgt
        go_wp2_with fail
        go_roundw
        case rel => exact ⟨k + 1, by omega, by go_num, HN⟩
        case measure => simp [intOf]; omega
    · have hk2 : k = 2 * len := by omega
      subst hk2
      obtain ⟨_, n1, nb, _, _, ng⟩ := HC1.out _ _ HC.out
      have hwb : w.heap.size < wr.heap.size := by have := HC.out.but.size; omega
      have hw1w : w1.heap.size < wr.heap.size := by have := HC.out.but.size; omega
      have HBr : Hid (Below w.heap.size W0 wr) := Lib.hid (HC.out.but.below (by have := HBW0.out.size; omega) (fun b hb => by have := HOB.out _ hb; omega))
      obtain ⟨m1, hm1⟩ : ∃ m1, m1 = m + 1 := ⟨_, rfl⟩
      have em1 : IntKind.i64.wrap ((m : Int) + 1) = (m1 : Int) := by rw [IntWalk.i64_in _ (by omega)]; omega
      have HM1 := Lib.hid hm1
      clear hkl hk hm1 ng
      go_wp2_with fail
      obtain ⟨W2, hW2⟩ : ∃ W2, W2 = wr.alloc (.cells #[.int .i64 m, .int .i64 s, .int .i64 left, .int .i64 0] 31) := ⟨_, rfl⟩
      rw [← hW2]
      have HB2 : Hid (Below wr.heap.size wr W2 ∧ W2.heap.size = wr.heap.size + 1) := Lib.hid (by rw [hW2]; exact ⟨(Below.refl _ _).alloc (Nat.le_refl _) _, by simp⟩)
      have HQG : Hid (W2.heap[wr.heap.size]? = some (.cells #[.int .i64 m, .int .i64 s, .int .i64 left, .int .i64 0] 31 (0, 0))) := Lib.hid (by rw [hW2]; exact (MapKept.heap_alloc wr _).1)
      clear hW2
      have HC2 := Lib.hid (HC.out.later HB2.out.1)
      have z0 : W2.cell? ⟨wr.heap.size, 0, none⟩ = some (.int .i64 m) := by simp [World.cell?, HQG.out]
      have z1 : W2.cell? ⟨wr.heap.size, 1, none⟩ = some (.int .i64 s) := by simp [World.cell?, HQG.out]
      have z2 : W2.cell? ⟨wr.heap.size, 2, none⟩ = some (.int .i64 left) := by simp [World.cell?, HQG.out]
      have z3 : W2.cell? ⟨wr.heap.size, 3, none⟩ = some (.int .i64 0) := by simp [World.cell?, HQG.out]
      obtain ⟨_, o1, ob, _, _, _⟩ := HC1.out _ _ HC2.out
      clear n1 nb
      have hsl : 2 * len ≤ 1000 := by omega
      have hbs : w.heap.size + 1 ≤ W2.heap.size := by have := HB2.out.2; omega
      have HBL : Hid (BigN ((m1 : Nat) : Int) (sendL S d m s left)) := Lib.hid (by
        rw [HSS.out.1, ← HNE.out.2.2.2, HM1.out]
        exact sendL_big HG.out HFL.out.1.may hs ⟨by omega, hl1⟩)
      have HSL : Hid (cutT S d (2 * len) ++ [((m : Int), (s : Int), left, 0)] = sendL S d m s left) := Lib.hid (by unfold sendL; rw [HSS.out.2])
      have htm : t < m1 := by have := HM1.out; omega
      have hmm : m < m1 := by have := HM1.out; omega
      have htne : m ≠ t := by omega
      have hq0 := Lib.hid (And.intro ob (And.intro o1 (And.intro z0 (And.intro z1 (And.intro z2 z3)))))
      go_region_held3 (fun W => W.cell? ⟨w.heap.size, 0, none⟩ = some (.int .i64 m) ∧ W.cell? ⟨w1.heap.size, 1, none⟩ = some (.slice A' (2 * len) c') ∧ W.cell? ⟨wr.heap.size, 0, none⟩ = some (.int .i64 m) ∧ W.cell? ⟨wr.heap.size, 1, none⟩ = some (.int .i64 s) ∧ W.cell? ⟨wr.heap.size, 2, none⟩ = some (.int .i64 left) ∧ W.cell? ⟨wr.heap.size, 3, none⟩ = some (.int .i64 0))
        (first | exact hq0.out | exact hq5.out | exact hq6.out | go_keep)
        (first
          | (refine step_appA rfl (.tmp 52) (.tmp 54) rfl (w.heap.size + 1) (2 * len) (cutT S d (2 * len)) ((m : Int), (s : Int), left, 0) A' c' W2.heap.size rfl rfl (show (W2.drew.alloc _).ownsRow _ _ _ _ _ _ from World.ownsRow.alloc (show W2.drew.ownsRow (w.heap.size + 1) 31 4 (.slice A' (2 * len) c') (2 * len) (cellsA (cutT S d (2 * len))) from HC2.out.own) _) (heap_alloc_new W2.drew _) hsl (by simp; omega) ?_; intro A5 c5 w5 hown5 hg5; have HO5 := Lib.hid hown5; have HB5 : Hid (Below (w.heap.size + 1) W2 w5 ∧ ∀ b, b < W2.heap.size → (Value.slice A' (2 * len) c').ownBlock ≠ some b → w5.heap[b]? = W2.heap[b]?) := Lib.hid ⟨((Below.refl _ W2).drew.alloc hbs _).grown hg5 (by simp; omega) (fun q hq => (HOB.out q hq).1), fun b hb hn => (hg5.block b (by simp; omega) (fun he => hn he.symm)).trans (Below.heap_alloc W2.drew _ b hb)⟩; have hq5 := Lib.hid (show w5.cell? ⟨w.heap.size, 0, none⟩ = some (.int .i64 m) ∧ w5.cell? ⟨w1.heap.size, 1, none⟩ = some (.slice A' (2 * len) c') ∧ w5.cell? ⟨wr.heap.size, 0, none⟩ = some (.int .i64 m) ∧ w5.cell? ⟨wr.heap.size, 1, none⟩ = some (.int .i64 s) ∧ w5.cell? ⟨wr.heap.size, 2, none⟩ = some (.int .i64 left) ∧ w5.cell? ⟨wr.heap.size, 3, none⟩ = some (.int .i64 0) from by
              have hf : ∀ b o, b < W2.heap.size → (Value.slice A' (2 * len) c').ownBlock ≠ some b → w5.cell? ⟨b, o, none⟩ = W2.cell? ⟨b, o, none⟩ := fun b o hb hn => by unfold World.cell?; rw [HB5.out.2 b hb hn]
              have hx : ∀ b, w1.heap.size ≤ b → (Value.slice A' (2 * len) c').ownBlock ≠ some b := fun b hb he => by have := HOB.out b he; omega
              have hy : (Value.slice A' (2 * len) c').ownBlock ≠ some w.heap.size := fun he => by have := HOB.out _ he; omega
              have hz := HB2.out.2
              exact ⟨(hf _ _ (by omega) hy).trans hq0.out.1, (hf _ _ (by omega) (hx _ (Nat.le_refl _))).trans hq0.out.2.1, (hf _ _ (by omega) (hx _ (by omega))).trans hq0.out.2.2.1, (hf _ _ (by omega) (hx _ (by omega))).trans hq0.out.2.2.2.1, (hf _ _ (by omega) (hx _ (by omega))).trans hq0.out.2.2.2.2.1, (hf _ _ (by omega) (hx _ (by omega))).trans hq0.out.2.2.2.2.2⟩); clear hown5 hg5)
          | (go_at_call 31; refine (flowSend_any m1 A5 (2 * len + 1) c5 (sendL S d m s left) m t w5 (by have h := ArcsAt.of_own4 HO5.out; rw [HSL.out] at h; exact h) HBL.out hmm htm htne).mono ?_; rintro e w6 ⟨gG, g, r, rfl, hrow6, hfl6, hn6, hgl6, hb6⟩; have HR6 := Lib.hid hrow6; have HF6 := Lib.hid (And.intro hfl6 (And.intro hn6 hgl6)); have HB6 := Lib.hid hb6; have hq6 := Lib.hid (show w6.cell? ⟨w.heap.size, 0, none⟩ = some (.int .i64 m) ∧ w6.cell? ⟨w1.heap.size, 1, none⟩ = some (.slice A' (2 * len) c') ∧ w6.cell? ⟨wr.heap.size, 0, none⟩ = some (.int .i64 m) ∧ w6.cell? ⟨wr.heap.size, 1, none⟩ = some (.int .i64 s) ∧ w6.cell? ⟨wr.heap.size, 2, none⟩ = some (.int .i64 left) ∧ w6.cell? ⟨wr.heap.size, 3, none⟩ = some (.int .i64 0) from by
              have hs5 := HB5.out.1.size
              have hz := HB2.out.2
              exact ⟨(HB6.out.cell (p := ⟨w.heap.size, 0, none⟩) (by show w.heap.size < _; omega)).trans hq5.out.1, (HB6.out.cell (p := ⟨w1.heap.size, 1, none⟩) (by show w1.heap.size < _; omega)).trans hq5.out.2.1, (HB6.out.cell (p := ⟨wr.heap.size, 0, none⟩) (by show wr.heap.size < _; omega)).trans hq5.out.2.2.1, (HB6.out.cell (p := ⟨wr.heap.size, 1, none⟩) (by show wr.heap.size < _; omega)).trans hq5.out.2.2.2.1, (HB6.out.cell (p := ⟨wr.heap.size, 2, none⟩) (by show wr.heap.size < _; omega)).trans hq5.out.2.2.2.2.1, (HB6.out.cell (p := ⟨wr.heap.size, 3, none⟩) (by show wr.heap.size < _; omega)).trans hq5.out.2.2.2.2.2⟩); clear hrow6 hfl6 hn6 hgl6 hb6))
      clear z0 z1 z2 z3 o1 ob hq0 hq5 hq6
      have HB06 : Hid (Below w.heap.size W0 w6) := Lib.hid (HBr.out.trans (((HB2.out.1.mono (show w.heap.size ≤ wr.heap.size by omega)).trans (HB5.out.1.mono (Nat.le_succ _))).trans (HB6.out.mono (by have := HB5.out.1.size; omega))))
      have HBW6 : Hid (Below w.heap.size w w6) := Lib.hid (HBW0.out.trans HB06.out)
      have HRG6 : Hid (RowI w6 g0 len f) := Lib.hid (HRG0.out.of_block (HB06.out.block g0 hgw))
      have hg0G : g0 ≠ gG := by have h1 := HF6.out.2.2; have h2 := HB5.out.1.size; have h3 := HB2.out.2; omega
      have HSN : Hid (SendN N (feeP es) f d s left (netP ((m1 : Nat) : Int) (sendL S d m s left))) := Lib.hid (by
        have h := send_net (es := es) (f := f) (d := d) (m := m) (s := s) (left := left)
        rw [HNE.out.1, HM1.out, HSS.out.1, ← HNE.out.2.2.2]; exact h)
      have hN6 := HNE.out.1
      have HFE : Hid (FeasP (StepC N (feeP es) f) d) := Lib.hid (by have h := HD.out.2; rw [HAV.out] at h; exact h)
      have HOKN : Hid (N.ok) := Lib.hid (by rw [HNE.out.1]; exact HOK.out)
      have HFN : Hid (FlowP N s t f v ∧ FlowP N s t f2 v2 ∧ v < v2) := Lib.hid (by rw [HNE.out.1]; exact HFL.out)
      have HGN : Hid (FlowP (netP ((m1 : Nat) : Int) (sendL S d m s left)) N.n t g r ∧ ¬ ComeP (netP ((m1 : Nat) : Int) (sendL S d m s left)) g N.n t) := Lib.hid (by rw [HNE.out.2.1]; exact ⟨HF6.out.1, HF6.out.2.1⟩)
      have hsn : s < N.n := by rw [HNE.out.2.1]; exact hs
      have htn : t < N.n := by rw [HNE.out.2.1]; exact ht
      obtain ⟨q1, q2, q3, q4, q5⟩ := send_ok HOKN.out HFN.out.1 hsn htn hst HFE.out HSN.out HGN.out.1
      have q6 : 1 ≤ r := send_more (d0 := farD s) (L := 41943040) HOKN.out HFN.out.1 hsn htn HFE.out HSN.out (netP_ok HBL.out) HGN.out.1 hl0 HGN.out.2 (fun k _ => HFB.out k) (by have := HNE.out.2.1; omega) (fun i hi => farD_far hi) (farD_src s) (by
        have h := HD.out.1.src
        rw [HAV.out] at h
        have e : (netP (m : Int) S).n = N.n := by rw [HNE.out.2.1]; simp [netP]
        rw [e] at h
        exact h) HD.out.1.down HFN.out.2.1 HFN.out.2.2
      have HOUT : Hid (FlowP (netP (m : Int) es) s t (sentF f g) (v + r) ∧ PotP (netP (m : Int) es) (feeP es) (sentF f g) d ∧ g (2 * len) = r ∧ 1 ≤ r ∧ r ≤ left) := Lib.hid (by
        rw [← HNE.out.1, ← HNE.out.2.2.1]; exact ⟨q1, q2, q3, q6, q5⟩)
      have HGB : Hid (∀ j, j < 2 * len + 1 → 0 ≤ g j ∧ g j ≤ 67108864) := Lib.hid fun j hj => by
        have hl : (sendL S d m s left).length = 2 * len + 1 := by unfold sendL; rw [List.length_append, cutT_len, HSS.out.2]; rfl
        have h1 := HF6.out.1.may j (by show j < (sendL S d m s left).length; omega)
        have h2 := netP_mo HBL.out (k := j) (by omega)
        exact ⟨h1.1, by omega⟩
      have HFM : Hid (∀ j, j < len → 0 ≤ f j ∧ f j ≤ 1048576) := Lib.hid fun j hj => by
        have h1 := HFL.out.1.may j (by show j < es.length; have := HNE.out.2.2.2; omega)
        have h2 := netP_moG HG.out (k := j) (by have := HNE.out.2.2.2; omega)
        exact ⟨h1.1, by omega⟩
      have HL0 : Hid (RowI w6 g0 len (sentT f g 0) ∧ But (fun b => b = g0) w6 w6) := Lib.hid ⟨HRG6.out.congr fun j _ => by unfold sentT; rw [if_neg (by omega)], But.refl _ _⟩
      clear q1 q2 q3 q4 q5 q6 hN6 hsn htn HRG6 HB06 HC HC2 HQG HB2 HB5 HB6 HBr
      go_wp2_with fail
      go_loopw [63] (fun j wr => ∃ k : Nat, k ≤ len ∧ j = .int .i64 k ∧ Hid (RowI wr g0 len (sentT f g k) ∧ But (fun b => b = g0) w6 wr)) (fun j _ => len - (intOf j).toNat)
      case atStart => exact ⟨0, Nat.zero_le _, rfl, HL0⟩
      case round =>
        clear HL0
        obtain ⟨k, hk, rfl, HW⟩ := hrel
        have HRw : Hid (RowI wr gG (2 * len + 1) g) := Lib.hid (HR6.out.of_block (HW.out.2.block gG HR6.out.lt (fun he => hg0G he.symm)))
        by_cases hkl : k < len
        · obtain ⟨ka, hka⟩ : ∃ ka, ka = 2 * k := ⟨_, rfl⟩
          obtain ⟨kb, hkb⟩ : ∃ kb, kb = 2 * k + 1 := ⟨_, rfl⟩
          have ea : (2 : Int) * (k : Int) = (ka : Int) := by omega
          have eb : (ka : Int) + 1 = (kb : Int) := by omega
          have ca := HRw.out.cell (j := ka) (by omega)
          have cb := HRw.out.cell (j := kb) (by omega)
          have cg := HW.out.1.cell hkl
          have fg := HW.out.1.frozen k
          have eT : sentT f g k k = f k := by unfold sentT; rw [if_neg (by omega)]
          rw [eT] at cg
          obtain ⟨b1, b2⟩ := HFM.out k hkl
          obtain ⟨b3, b4⟩ := HGB.out ka (by omega)
          obtain ⟨b5, b6⟩ := HGB.out kb (by omega)
          have HN : Hid (RowI (wr.setCell ⟨g0, k, none⟩ (.int .i64 (f k + (g ka - g kb)))) g0 len (sentT f g (k + 1)) ∧ But (fun b => b = g0) w6 (wr.setCell ⟨g0, k, none⟩ (.int .i64 (f k + (g ka - g kb))))) := Lib.hid (by
            refine ⟨(HW.out.1.set_ k _).congr fun j _ => ?_, HW.out.2.set_ (p := ⟨g0, k, none⟩) rfl _⟩
            unfold updI
            by_cases e : j = k
            · subst e
              rw [if_pos rfl]
              unfold sentT
              rw [if_pos (by omega)]
              unfold sentF
              rw [hka, hkb]
            · rw [if_neg e]
              unfold sentT
              by_cases h : j < k
              · rw [if_pos h, if_pos (by omega)]
              · rw [if_neg h, if_neg (by omega)])
          have ik0 : (0 : Int) ≤ (k : Int) := by omega
          have ik1 : (k : Int) < (len : Int) := by omega
          have ia0 : (0 : Int) ≤ (ka : Int) := by omega
          have ia1 : (ka : Int) < 2 * (len : Int) + 1 := by omega
          have ib0 : (0 : Int) ≤ (kb : Int) := by omega
          have ib1 : (kb : Int) < 2 * (len : Int) + 1 := by omega
          generalize f k = fk at *
          generalize g ka = ga at *
          generalize g kb = gb at *
          clear eT hka hkb
          go_wp2_with fail
          go_region
          have HN2 : Hid (RowI (wr.setCell ⟨g0, k, none⟩ (.int .i64 (fk + (ga - gb)))).drew g0 len (sentT f g (k + 1)) ∧ But (fun b => b = g0) w6 (wr.setCell ⟨g0, k, none⟩ (.int .i64 (fk + (ga - gb)))).drew) := Lib.hid ⟨HN.out.1, HN.out.2.drew⟩
          clear ca cb cg fg HN
          go_wp2_with fail
          go_roundw
          case rel => exact ⟨k + 1, by omega, by go_num, HN2⟩
          case measure => simp [intOf]; omega
        · obtain rfl : k = len := by omega
          have HO : Hid (SendC (netP (m : Int) es) (feeP es) s t g0 k v left w (.returned (.int .i64 r)) wr) := Lib.hid
            ⟨r, sentF f g, d, rfl, HOUT.out.2.2.2.1, HOUT.out.2.2.2.2, HOUT.out.1, HOUT.out.2.1, HW.out.1.congr (fun j hj => by unfold sentT; rw [if_pos hj]), (But.of_below HBW6.out).trans HW.out.2⟩
          obtain ⟨c, hc⟩ : ∃ c, c = 2 * k := ⟨_, rfl⟩
          have ec : (2 : Int) * (k : Int) = (c : Int) := by omega
          have cc : wr.cell? ⟨gG, c, none⟩ = some (.int .i64 r) := by rw [hc, ← HOUT.out.2.2.1]; exact HRw.out.cell (by omega)
          have ic0 : (0 : Int) ≤ (c : Int) := by omega
          have ic1 : (c : Int) < (c : Int) + 1 := by omega
          clear HW hc
          go_wp2_with fail
          go_ret
          exact HO.out
end Go.Proofs.Ytmlmnmphmghdlaa
