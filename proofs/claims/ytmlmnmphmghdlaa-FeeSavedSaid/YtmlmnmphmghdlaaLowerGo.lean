/- The program's dearer (a closure), and lower: one round of steps. Conditions: the numbers stay small. -/
import Derived.Test.YtmlmnmphmghdlaaLowerP
import Derived.Test.YtmlmnmphmghdlaaRangeAll
import Derived.Deep.QuietTactic
import Derived.BigQuiet
namespace Go.Proofs.Ytmlmnmphmghdlaa
open Go.RowKit

theorem cell_lt {w : World} {a : Addr} {v : Value} (h : w.cell? a = some v) : a.block < w.heap.size := by
  rcases Nat.lt_or_ge a.block w.heap.size with h1 | h1
  · exact h1
  · simp [World.cell?, Array.getElem?_eq_none h1] at h
theorem feeP_at4 {es : List A4} {k : Nat} {a : A4} (h : es[k]? = some a) : feeP es k = a.2.2.2 := by unfold feeP; rw [List.getD_eq_getElem?_getD, h]; rfl
set_option maxRecDepth 100000 in
theorem dearer_any (A : Option Addr) (n c : Nat) (w : World) :
    Calls Try.prog 29 #[.slice A n c] w fun e w' => e = .returned (.func (.func 35) #[] #[.pointer (some ⟨w.heap.size, 0, none⟩)]) ∧ w' = w.alloc (.cells #[.slice A n c] 25) := by
  go_enter Try.func29, Try.ntmps29
  go_wp2
  go_ret
  exact ⟨rfl, rfl⟩
set_option maxRecDepth 100000 in
set_option maxHeartbeats 1000000 in
theorem dearer1_any (B g m cap fr to : Nat) (x2 x3 df dt : Int) (d : Nat → Int) (w : World) (hB : w.cell? ⟨B, 0, none⟩ = some (.slice (some ⟨g, 0, none⟩) m cap)) (hR : RowI w g m d) (hfr : fr < m) (hto : to < m) (_hm : m ≤ 20)
    (h1 : d fr = df) (h2 : d to = dt) (b1 : -1125899906842624 ≤ df ∧ df ≤ 1125899906842624) (b2 : -1125899906842624 ≤ dt ∧ dt ≤ 1125899906842624) (b3 : -1048576 ≤ x3 ∧ x3 ≤ 1048576) :
    Calls Try.prog 35 #[.agg #[.int .i64 fr, .int .i64 to, .int .i64 x2, .int .i64 x3], .pointer (some ⟨B, 0, none⟩)] w fun e w' => e = .returned (.int .i64 (df + x3 - dt)) ∧ Below w.heap.size w w' := by
  have cf := hR.cell hfr
  have ct := hR.cell hto
  rw [h1] at cf
  rw [h2] at ct
  have hBl : B < w.heap.size := cell_lt hB
  have hgl := hR.lt
  obtain ⟨p1, p2⟩ := b1
  obtain ⟨p3, p4⟩ := b2
  obtain ⟨p5, p6⟩ := b3
  have if0 : (0 : Int) ≤ (fr : Int) := by omega
  have if1 : (fr : Int) < (m : Int) := by omega
  have it0 : (0 : Int) ≤ (to : Int) := by omega
  have it1 : (to : Int) < (m : Int) := by omega
  clear hR h1 h2
  go_enter Try.func35, Try.ntmps35
  go_wp2
  go_quiet (fail)
  go_wp2
  go_ret
  exact ⟨rfl, below_drewN ((Below.refl _ _).alloc (Nat.le_refl _) _) _⟩

/-- While a round goes: the numbers, and what lay there. -/
structure LowW (W0 : World) (g m : Nat) (d : Nat → Int) (wr : World) : Prop where
  row : RowI wr g m d
  but : But (fun b => b = g) W0 wr
theorem LowW.later {W0 : World} {g m : Nat} {d : Nat → Int} {wr W : World} (h : LowW W0 g m d wr) (hb : Below wr.heap.size wr W) : LowW W0 g m d W :=
  ⟨h.row.of_block (hb.block _ h.row.lt), h.but.trans (.of_below hb)⟩
theorem LowW.put {W0 : World} {g m : Nat} {d d' : Nat → Int} {wr : World} (h : LowW W0 g m d wr) (j : Nat) (x : Int) (he : ∀ i, d' i = updI d j x i) : LowW W0 g m d' (wr.setCell ⟨g, j, none⟩ (.int .i64 x)) :=
  ⟨(h.row.set_ j x).congr fun i _ => (he i).symm, h.but.set_ (p := ⟨g, j, none⟩) rfl _⟩
theorem LowW.cell {W0 : World} {g m : Nat} {d : Nat → Int} {wr : World} (h : LowW W0 g m d wr) {b o : Nat} {v : Value} (hb : b ≠ g) (hc : W0.cell? ⟨b, o, none⟩ = some v) : wr.cell? ⟨b, o, none⟩ = some v := by
  have hl := cell_lt hc
  have := h.but.block b hl hb
  unfold World.cell? at hc ⊢
  rw [this]; exact hc
theorem LowW.arcs {W0 : World} {g m : Nat} {d : Nat → Int} {wr : World} (h : LowW W0 g m d wr) {B n : Nat} {A : Option Addr} {es : List A4} (hE : ArcsAt W0 B A n es) (hB : B ≤ g) (hg : g < W0.heap.size) : ArcsAt wr B A n es :=
  hE.keep fun p hp => by
    have := h.but.block p.block (by omega) (by omega)
    unfold World.cell?
    rw [this]
theorem lowS_yes {N : NetP} {fee d : Nat → Int} {k : Nat} (h1 : 0 < N.mo k) (h2 : d (N.fr k) + fee k - d (N.to k) < 0) : lowS N fee d k = updI d (N.to k) (d (N.fr k) + fee k) := by unfold lowS; rw [if_pos ⟨h1, h2⟩]
theorem lowS_no {N : NetP} {fee d : Nat → Int} {k : Nat} (h : ¬ lowC N fee d k) : lowS N fee d k = d := by unfold lowS; rw [if_neg h]
theorem lowB_yes {N : NetP} {fee d : Nat → Int} {k : Nat} (h : lowC N fee (lowK N fee d k) k) : lowB N fee d (k + 1) = true := by
  show (lowB N fee d k || decide _) = true
  rw [decide_eq_true h]; simp
theorem lowB_no {N : NetP} {fee d : Nat → Int} {k : Nat} (h : ¬ lowC N fee (lowK N fee d k) k) : lowB N fee d (k + 1) = lowB N fee d k := by
  show (lowB N fee d k || decide _) = _
  rw [decide_eq_false h]; simp
set_option maxRecDepth 100000 in
set_option maxHeartbeats 2000000 in
theorem lower_any (m : Nat) (A : Option Addr) (len cap : Nat) (es : List A4) (g cap2 B : Nat) (d : Nat → Int) (w : World) (hE : ArcsAt w B A len es) (hBg : B ≤ g) (hR : RowI w g m d) (hG : BigN (m : Int) es)
    (hFB : ∀ k, -1048576 ≤ feeP es k ∧ feeP es k ≤ 1048576) (hd : ∀ k, k ≤ len → ∀ i, i < m → -1125899906842624 ≤ lowK (netP (m : Int) es) (feeP es) d k i ∧ lowK (netP (m : Int) es) (feeP es) d k i ≤ 1125899906842624) :
    Calls Try.prog 24 #[.agg #[.int .i64 m, .slice A len cap], .slice (some ⟨g, 0, none⟩) m cap2] w fun e w' => e = .returned (.bool (lowB (netP (m : Int) es) (feeP es) d len)) ∧ RowI w' g m (lowK (netP (m : Int) es) (feeP es) d len) ∧ But (fun b => b = g) w w' := by
  have hgw : g < w.heap.size := hR.lt
  have hm20 : m ≤ 20 := by have := hG.n1; omega
  have hl100 : len ≤ 100 := by have := hG.len; have := hE.1; omega
  have HG := Lib.hid hG
  have HFB := Lib.hid hFB
  have HD := Lib.hid hd
  have HL := Lib.hid hE.1
  have hb0 : Below w.heap.size w ((w.alloc (.cells #[.int .i64 m, .slice A len cap] 24)).alloc (.cells #[.slice (some ⟨g, 0, none⟩) m cap2] 25)) := ((Below.refl _ _).alloc (Nat.le_refl _) _).alloc (by simp) _
  have HE0 := Lib.hid (hE.below (hb0.mono (show B ≤ w.heap.size by omega)))
  have HR0 := Lib.hid (hR.of_block (hb0.block g hgw))
  have HB0 := Lib.hid hb0
  clear hE hG hFB hd hR hb0
  go_enter Try.func24, Try.ntmps24
  go_wp2_with fail
  refine (dearer_any _ _ _ _).mono ?_
  rintro e w1 ⟨rfl, rfl⟩
  go_wp2_with fail
  obtain ⟨W0, hW0⟩ : ∃ W0, W0 = ((w.alloc (.cells #[.int .i64 m, .slice A len cap] 24)).alloc (.cells #[.slice (some ⟨g, 0, none⟩) m cap2] 25)) := ⟨_, rfl⟩
  rw [← hW0] at HE0 HR0 HB0 ⊢
  have HBX : Hid (W0.cell? ⟨w.heap.size + 1, 0, none⟩ = some (.slice (some ⟨g, 0, none⟩) m cap2)) := Lib.hid (by
    have := (MapKept.heap_alloc (w.alloc (.cells #[.int .i64 m, .slice A len cap] 24)) (.cells #[.slice (some ⟨g, 0, none⟩) m cap2] 25)).1
    rw [World.size_alloc] at this
    rw [hW0]
    simp only [World.cell?, this]; rfl)
  have HS0 : Hid (g < W0.heap.size) := Lib.hid (by rw [hW0]; simp; omega)
  have HST : Hid (LowW W0 g m (lowK (netP (m : Int) es) (feeP es) d 0) W0) := Lib.hid ⟨HR0.out, But.refl _ _⟩
  have hgne : w.heap.size + 1 ≠ g := by omega
  clear hW0 HR0
  go_loopw [6, 15] (fun x y wr => ∃ k : Nat, k ≤ len ∧ x = .bool (lowB (netP (m : Int) es) (feeP es) d k) ∧ y = .int .i64 k ∧ Hid (LowW W0 g m (lowK (netP (m : Int) es) (feeP es) d k) wr)) (fun _ y _ => len - (intOf y).toNat)
  case atStart => exact ⟨0, Nat.zero_le _, rfl, rfl, HST.out⟩
  case round =>
    clear HST
    obtain ⟨k, hk, rfl, rfl, HW⟩ := hrel
    by_cases hkl : k < len
    · have HE1 := Lib.hid (HW.out.arcs HE0.out hBg HS0.out)
      obtain ⟨bb, off, ⟨x0, x1, x2, x3⟩, rfl, hbb, hx, hc0, hc1, hc2, hc3⟩ := HE1.out.at_ hkl
      obtain ⟨e0, e1, e2, l0, l1, lne, b0, b1⟩ := netP_arc HG.out hx
      have e3 := feeP_at4 hx
      simp only at e0 e1 e2 e3 hc0 hc1 hc2 hc3
      have hfb := HFB.out k
      rw [e3] at hfb
      obtain ⟨f1, f2⟩ := hfb
      have hnn : (netP (m : Int) es).n = m := by simp [netP]
      rw [hnn] at l0 l1
      obtain ⟨N, hN⟩ : ∃ N, N = netP (m : Int) es := ⟨_, rfl⟩
      rw [← hN] at HW e0 e1 e2 l0 l1 b0 b1 lne
      obtain ⟨D, hDe⟩ : ∃ D, D = lowK N (feeP es) d k := ⟨_, rfl⟩
      rw [← hDe] at HW
      have hdf := HD.out k hk (N.fr k) l0
      have hdt := HD.out k hk (N.to k) l1
      rw [← hN, ← hDe] at hdf hdt
      rw [e0] at hc0
      rw [e1] at hc1
      have HSTEP : Hid (∀ j, lowK N (feeP es) d (k + 1) j = lowS N (feeP es) D k j) := Lib.hid fun j => by rw [hDe]; rfl
      have HBY : Hid (lowC N (feeP es) D k → lowB N (feeP es) d (k + 1) = true) := Lib.hid fun h => lowB_yes (by rw [← hDe]; exact h)
      have HBN : Hid (¬ lowC N (feeP es) D k → lowB N (feeP es) d (k + 1) = lowB N (feeP es) d k) := Lib.hid fun h => lowB_no (by rw [← hDe]; exact h)
      have HNN := Lib.hid hN
      rw [← hN]
      generalize hbk : lowB N (feeP es) d k = bk at *
      have HMO : Hid (N.mo k = x2 ∧ feeP es k = x3) := Lib.hid ⟨e2.symm, e3⟩
      obtain ⟨fr, hfr⟩ : ∃ fr, fr = N.fr k := ⟨_, rfl⟩
      obtain ⟨to, hto⟩ : ∃ to, to = N.to k := ⟨_, rfl⟩
      rw [← hfr] at hc0 l0 hdf
      rw [← hto] at hc1 l1 hdt
      have HFT : Hid (fr = N.fr k ∧ to = N.to k) := Lib.hid ⟨hfr, hto⟩
      obtain ⟨df, hdfe⟩ : ∃ df, D fr = df := ⟨_, rfl⟩
      obtain ⟨dt, hdte⟩ : ∃ dt, D to = dt := ⟨_, rfl⟩
      rw [hdfe] at hdf
      rw [hdte] at hdt
      obtain ⟨b3, b4⟩ := hdf
      obtain ⟨b5, b6⟩ := hdt
      have HCL : Hid (lowC N (feeP es) D k ↔ (0 < x2 ∧ df + x3 - dt < 0)) := Lib.hid (by
        unfold lowC
        rw [← e2, e3, ← hfr, ← hto, hdfe, hdte])
      have HDD := Lib.hid (And.intro hdfe hdte)
      have hbl : bb < wr.heap.size := by have := HW.out.but.size; have := HS0.out; omega
      clear hx e0 e1 e2 e3 lne hDe hN hbk hfr hto hdfe hdte hnn
      have ik0 : (0 : Int) ≤ (k : Int) := by omega
      have ik1 : (k : Int) < (len : Int) := by omega
      have if0 : (0 : Int) ≤ (fr : Int) := by omega
      have if1 : (fr : Int) < (m : Int) := by omega
      have it0 : (0 : Int) ≤ (to : Int) := by omega
      have it1 : (to : Int) < (m : Int) := by omega
      go_wp2_with fail
      clear hc0 hc1 hc2 hc3
      obtain ⟨W1, hW1⟩ : ∃ W1, W1 = wr.alloc (.cells #[.int .i64 fr, .int .i64 to, .int .i64 x2, .int .i64 x3] 31) := ⟨_, rfl⟩
      rw [← hW1]
      have HQ1 : Hid (W1.heap[wr.heap.size]? = some (.cells #[.int .i64 fr, .int .i64 to, .int .i64 x2, .int .i64 x3] 31 (0, 0)) ∧ wr.heap.size < W1.heap.size) := Lib.hid (by rw [hW1]; exact ⟨(MapKept.heap_alloc wr _).1, by simp⟩)
      have HW1 : Hid (LowW W0 g m D W1) := Lib.hid (by rw [hW1]; exact HW.out.later ((Below.refl _ _).alloc (Nat.le_refl _) _))
      have hgr : g ≠ wr.heap.size := by have := HW.out.but.size; have := HS0.out; omega
      clear hW1 HW
      refine (dearer1_any (w.heap.size + 1) g m cap2 fr to x2 x3 df dt D W1 (HW1.out.cell hgne HBX.out) HW1.out.row l0 l1 hm20 HDD.out.1 HDD.out.2 ⟨b3, b4⟩ ⟨b5, b6⟩ ⟨f1, f2⟩).mono ?_
      rintro e w2 ⟨rfl, hb2⟩
      have HW2 := Lib.hid (HW1.out.later hb2)
      have HQ2 : Hid (w2.heap[wr.heap.size]? = some (.cells #[.int .i64 fr, .int .i64 to, .int .i64 x2, .int .i64 x3] 31 (0, 0))) := Lib.hid ((hb2.block _ HQ1.out.2).trans HQ1.out.1)
      clear hb2 HW1 HQ1
      have z1 : w2.cell? ⟨wr.heap.size, 1, none⟩ = some (.int .i64 to) := by simp [World.cell?, HQ2.out]
      have z2 : w2.cell? ⟨wr.heap.size, 2, none⟩ = some (.int .i64 x2) := by simp [World.cell?, HQ2.out]
      have ct : w2.cell? ⟨g, to, none⟩ = some (.int .i64 dt) := by rw [← HDD.out.2]; exact HW2.out.row.cell l1
      have ft := HW2.out.row.frozen to
      by_cases h1 : 0 < x2
      · by_cases h2 : df + x3 - dt < 0
        · have HY := Lib.hid (HBY.out (HCL.out.2 ⟨h1, h2⟩))
          have HN : Hid (LowW W0 g m (lowK N (feeP es) d (k + 1)) (w2.setCell ⟨g, to, none⟩ (.int .i64 (dt + (df + x3 - dt))))) := Lib.hid (HW2.out.put _ _ fun j => by
            rw [HSTEP.out, lowS_yes (by rw [HMO.out.1]; exact h1) (by rw [HMO.out.2, ← HFT.out.1, ← HFT.out.2, HDD.out.1, HDD.out.2]; exact h2), HMO.out.2, ← HFT.out.1, ← HFT.out.2, HDD.out.1]
            rw [show dt + (df + x3 - dt) = df + x3 by omega])
          clear HBY HBN HCL
          go_wp2_with fail
          go_roundw
          case rel => exact ⟨k + 1, by omega, by rw [HY.out], by go_num, HN⟩
          case measure => simp [intOf]; omega
        · have HNO := Lib.hid (fun h => h2 (HCL.out.1 h).2)
          have HY := Lib.hid (HBN.out HNO.out)
          have HN : Hid (LowW W0 g m (lowK N (feeP es) d (k + 1)) w2) := Lib.hid (by
            have e : lowK N (feeP es) d (k + 1) = D := by funext j; rw [HSTEP.out, lowS_no HNO.out]
            rw [e]; exact HW2.out)
          have h2b : decide (df + x3 - dt < 0) = false := decide_eq_false h2
          clear HBY HBN HCL h2
          go_wp2_with fail
          go_roundw
          case rel => exact ⟨k + 1, by omega, by rw [HY.out], by go_num, HN⟩
          case measure => simp [intOf]; omega
      · have HNO := Lib.hid (fun h => h1 (HCL.out.1 h).1)
        have HY := Lib.hid (HBN.out HNO.out)
        have HN : Hid (LowW W0 g m (lowK N (feeP es) d (k + 1)) w2) := Lib.hid (by
          have e : lowK N (feeP es) d (k + 1) = D := by funext j; rw [HSTEP.out, lowS_no HNO.out]
          rw [e]; exact HW2.out)
        have h1b : decide (0 < x2) = false := decide_eq_false h1
        clear HBY HBN HCL h1
        go_wp2_with fail
        go_roundw
        case rel => exact ⟨k + 1, by omega, by rw [HY.out], by go_num, HN⟩
        case measure => simp [intOf]; omega
    · obtain rfl : k = len := by omega
      have HRW := Lib.hid HW.out.row
      have HBT : Hid (But (fun b => b = g) w wr) := Lib.hid (But.trans (.of_below HB0.out) HW.out.but)
      go_wp2_with fail
      go_ret
      exact ⟨rfl, HRW.out, HBT.out⟩
end Go.Proofs.Ytmlmnmphmghdlaa
