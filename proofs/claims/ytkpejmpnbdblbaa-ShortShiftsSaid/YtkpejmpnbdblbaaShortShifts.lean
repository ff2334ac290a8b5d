/- ShortShifts, walked: with heights the same is told, and each way is as much longer as the heights say. -/
import Derived.Test.YtkpejmpnbdblbaaShortBellman
import Derived.Test.YtkpejmpnbdblbaaShiftP
import Derived.Test.YtkpejmpnbdblbaaArcsOwn
import Derived.Test.YtkpejmpnbdblbaaOpenI16
import Derived.Deep.AppendLies
import Derived.Laws.OwnMore
import Derived.RegionTactic
import Derived.BigQuiet
namespace Go.Proofs.Ytkpejmpnbdblbaa
open Go.RowKit

/-- The second net, as far as it grew. -/
structure ShifW (w2 : World) (m : Nat) (L : List A4) (v : Value) (wr : World) : Prop where
  net : RowOf wr w2.heap.size 24 [.int .i64 m, v]
  own : wr.ownsRow (w2.heap.size + 1) 50 4 v L.length (cellsA L)
  below : Below w2.heap.size w2 wr
  le : w2.heap.size + 1 ≤ wr.heap.size
theorem ShifW.later {w2 wr W : World} {m : Nat} {L : List A4} {v : Value} (h : ShifW w2 m L v wr) (hb : Below wr.heap.size wr W) : ShifW w2 m L v W :=
  ⟨(hb.block _ h.net.lt).trans h.net, own_block4 h.own fun g hg => hb.block g (h.own.lt g hg).2, h.below.trans (hb.mono h.below.size), Nat.le_trans h.le hb.size⟩
/-- The world of the last loop. -/
structure TellW (w : World) (m : Nat) (A : Option Addr) (len cap : Nat) (es : List A4) (A2 : Option Addr) (hs : List Int) (N' : ArcsF) (D : Nat → Option (List Nat)) (g1 g2 g3 g4 : Nat) (w1 : World) : Prop where
  box : BoxN w (m : Int) A len cap es w1
  hts : I16At w1 w1.heap.size A2 m hs
  row1 : RowOf w1 g1 2 (farL (netA m es) D m)
  row2 : RowOf w1 g2 4 (isL D m)
  row3 : RowOf w1 g3 2 (farL N' D m)
  row4 : RowOf w1 g4 4 (isL D m)
section
variable {w w1 w2 : World} {m : Nat} {A A2 : Option Addr} {len cap : Nat} {es : List A4} {hs : List Int} {N N' : ArcsF} {D : Nat → Option (List Nat)} {g1 g2 g3 g4 t g : Nat}
theorem TellW.later (h : TellW w m A len cap es A2 hs N' D g1 g2 g3 g4 w1) (hb : Below w1.heap.size w1 w2) : TellW w m A len cap es A2 hs N' D g1 g2 g3 g4 w2 :=
  ⟨h.box.next hb, h.hts.go_ hb, h.row1.keep hb, h.row2.keep hb, h.row3.keep hb, h.row4.keep hb⟩
theorem farL_cell (h : RowOf w1 g 2 (farL N D m)) (ht : t < m) : w1.cell? ⟨g, t, none⟩ = some (.int .i64 (farV N D t)) := h.cell (by unfold farL; rw [List.getElem?_map, List.getElem?_range ht]; rfl)
theorem isL_cell (h : RowOf w1 g 4 (isL D m)) (ht : t < m) : w1.cell? ⟨g, t, none⟩ = some (.bool (D t).isSome) := h.cell (by unfold isL; rw [List.getElem?_map, List.getElem?_range ht]; rfl)
end
/-- What Far told, in a form of one shape. -/
theorem farR_shape {w w' : World} {m s : Nat} {es : List A4} {v : Bool} {e : Ending} (h : FarR w m es s v e w') :
    ∃ fv tv ev, e = .returned (.tuple #[fv, tv, .int .i64 ev]) ∧ Below w.heap.size w w' ∧ (v = true → fv = .slice none 0 0 ∧ tv = .slice none 0 0 ∧ ev = 5) ∧
      (v = false → ∃ g1 g2, fv = .slice (some ⟨g1, 0, none⟩) m m ∧ tv = .slice (some ⟨g2, 0, none⟩) m m ∧ ev = 0 ∧ RowOf w' g1 2 (farL (netA m es) (runD (netA m es) s m) m) ∧ RowOf w' g2 4 (isL (runD (netA m es) s m) m)) := by
  obtain ⟨h1, h2, hB⟩ := h
  cases v with
  | true => exact ⟨_, _, _, h1 rfl, hB, fun _ => ⟨rfl, rfl, rfl⟩, fun h => by cases h⟩
  | false =>
    obtain ⟨g1, g2, he, hr1, hr2, _⟩ := h2 rfl
    exact ⟨_, _, _, he, hB, (fun h => by cases h), fun _ => ⟨g1, g2, rfl, rfl, rfl, hr1, hr2⟩⟩
set_option maxRecDepth 100000 in
set_option maxHeartbeats 8000000 in
theorem shortShifts_any (n : Int) (A : Option Addr) (len cap : Nat) (es : List A4) (s : Int) (A2 : Option Addr) (len2 cap2 : Nat) (hs : List Int) (w : World) (hE : ArcsAt w w.heap.size A len es) (_ : len ≤ cap) (_ : ∀ e ∈ es, WfA e) (_ : (Lit.int .i64 n).wf = true) (_ : (Lit.int .i64 s).wf = true)
    (hI : I16At w w.heap.size A2 len2 hs) (_ : len2 ≤ cap2) (_ : cap2 ≤ maxLen) (hh : ∀ x ∈ hs, -32768 ≤ x ∧ x ≤ 32767) :
    Calls Try.prog 8 #[.agg #[.int .i64 n, .slice A len cap], .int .i64 s, .slice A2 len2 cap2] w fun e w' => e = .returned (.bool true) ∧ Below w.heap.size w w' := by
  have HX := Lib.hid (BoxN.start (n := n) (cap := cap) hE)
  have HHB := Lib.hid (getD_i16 hh)
  obtain ⟨x, hx⟩ : ∃ x, askF n es [s] = x := ⟨_, rfl⟩
  have HV := Lib.hid hx
  have k0 := HX.out.k0
  have k1 := HX.out.k1
  by_cases h0 : x = 0
  · subst h0
    obtain ⟨hn0, hsn⟩ := askF_zero hx
    have hG := good_of_netF hn0
    obtain ⟨m, rfl⟩ := Int.eq_ofNat_of_zero_le hG.n0
    obtain ⟨hs0, hs1⟩ := hsn s (by simp)
    obtain ⟨s, rfl⟩ := Int.eq_ofNat_of_zero_le hs0
    have hsm : s < m := by omega
    obtain ⟨v, hv⟩ := sinks_bool (netA m es) s
    have hF := feeS_of_netF hn0
    have HFG := Lib.hid (fun W hW => far_good m A len cap es s v W hW hn0 hsm hv)
    have HVV := Lib.hid hv
    have hm10 : m ≤ 10 := by have := hG.n1; omega
    have hl30 : len ≤ 30 := by have := hG.len; have := hE.1; omega
    have HG := Lib.hid hG
    have HF := Lib.hid hF
    have HEL := Lib.hid hE.1
    have HI2 : Hid (I16At (bxN w (m : Int) A len cap) (bxN w (m : Int) A len cap).heap.size A2 len2 hs) := Lib.hid (hI.go_ ((Below.refl _ _).alloc (Nat.le_refl _) _))
    obtain ⟨i0, hi, hz0, hz1, hz2⟩ := info_parts infoArc
    have HI := Lib.hid hi
    have HI0 := Lib.hid hz0
    have HI1 := Lib.hid hz1
    have HII2 := Lib.hid hz2
    clear hE hI hh hx hn0 hsn hG hs0 hs1 hv hF hi hz0 hz1 hz2
    by_cases hlm : len2 = m
    · subst hlm
      go_enter Try.func8, Try.ntmps8
      go_wp2_with fail
      refine (HFG.out _ HX.out.arcs).mono ?_
      rintro e w1 hfr
      obtain ⟨fv, tv, ev, rfl, hB, ht, hf⟩ := farR_shape hfr
      have HX1 := Lib.hid (HX.out.next hB)
      have HH1 := Lib.hid (HI2.out.go_ hB)
      have HTT := Lib.hid ht
      have HFF := Lib.hid hf
      clear k0 k1 hB HFG hfr ht hf HI2
      have k0 := HX1.out.k0
      have k1 := HX1.out.k1
      go_wp2_with fail
      refine (keepNet_yes (len2 : Int) (s : Int) A len cap es _ (by exact HX1.out.arcs) HV.out).mono ?_
      rintro e w2 ⟨rfl, hB⟩
      have HX2 := Lib.hid (HX1.out.next hB)
      have HH2 := Lib.hid (HH1.out.go_ hB)
      have HF2 : Hid (v = false → ∃ g1 g2, fv = .slice (some ⟨g1, 0, none⟩) len2 len2 ∧ tv = .slice (some ⟨g2, 0, none⟩) len2 len2 ∧ ev = 0 ∧ RowOf w2 g1 2 (farL (netA len2 es) (runD (netA len2 es) s len2) len2) ∧ RowOf w2 g2 4 (isL (runD (netA len2 es) s len2) len2)) := Lib.hid fun h => by
        obtain ⟨g1, g2, e1, e2, e3, r1, r2⟩ := HFF.out h
        exact ⟨g1, g2, e1, e2, e3, r1.keep hB, r2.keep hB⟩
      clear k0 k1 hB HFF HH1
      have k0 := HX2.out.k0
      have k1 := HX2.out.k1
      have k2 := (HX2.out.next ((Below.refl _ _).alloc (Nat.le_refl _) (.cells #[.int .i64 len2, .slice none 0 0] 24))).k1
      go_wp2_with fail
      clear k0 k1 k2
      obtain ⟨W0, hW0⟩ : ∃ W0, w2.alloc (.cells #[.int .i64 len2, .slice none 0 0] 24) = W0 := ⟨_, rfl⟩
      rw [hW0]
      have HS : Hid (ShifW w2 len2 ((shiftE (fun i => hs.getD i 0) es).take 0) (.slice none 0 0) W0) := Lib.hid (by
        rw [← hW0]
        exact ⟨(MapKept.heap_alloc w2 _).1, World.ownsRow_nil .., (Below.refl _ _).alloc (Nat.le_refl _) _, by simp⟩)
      clear hW0
      go_loopw [48] (fun j wr => ∃ k : Nat, k ≤ len ∧ j = .int .i64 k ∧ Hid (∃ v, ShifW w2 len2 ((shiftE (fun i => hs.getD i 0) es).take k) v wr)) (fun j _ => len - (intOf j).toNat)
      case atStart => exact ⟨0, Nat.zero_le _, rfl, Lib.hid ⟨_, HS.out⟩⟩
      case round =>
        clear HS
        obtain ⟨k, hk, rfl, HN⟩ := hrel
        obtain ⟨u, HU⟩ : ∃ u, Hid (ShifW w2 len2 ((shiftE (fun i => hs.getD i 0) es).take k) u wr) := by
          obtain ⟨u, h⟩ := HN.out
          exact ⟨u, Lib.hid h⟩
        clear HN
        have HXr := Lib.hid (HX2.out.next HU.out.below)
        have HHr := Lib.hid (HH2.out.go_ HU.out.below)
        by_cases hlt : k < len
        · obtain ⟨bb, off, ⟨x0, x1, x2, x3⟩, rfl, hbb, hx, hc0, hc1, hc2, hc3⟩ := HXr.out.arcs.at_ hlt
          obtain ⟨a0, a1, a2, a3, _, _, _⟩ := HG.out.arc _ (List.mem_of_getElem? hx)
          obtain ⟨f1, f2⟩ := HF.out _ (List.mem_of_getElem? hx)
          simp only at a0 a1 a2 a3 f1 f2 hc0 hc1 hc2 hc3
          obtain ⟨fr, rfl⟩ := Int.eq_ofNat_of_zero_le a0
          obtain ⟨to, rfl⟩ := Int.eq_ofNat_of_zero_le a2
          obtain ⟨bh, oh, rfl, hbh, hcf, hct⟩ := HHr.out.at2 (i := fr) (j := to) (by omega) (by omega)
          have HT : Hid ((shiftE (fun i => hs.getD i 0) es).take (k + 1) = (shiftE (fun i => hs.getD i 0) es).take k ++ [((fr : Int), (to : Int), x2, x3 + hs.getD fr 0 - hs.getD to 0)]) := Lib.hid (shiftE_take hx)
          have HL : Hid (((shiftE (fun i => hs.getD i 0) es).take k).length = k) := Lib.hid (by have := HEL.out; simp [shiftE]; omega)
          obtain ⟨hf1, hf2⟩ := HHB.out fr
          obtain ⟨ht1, ht2⟩ := HHB.out to
          obtain ⟨L1, hL1⟩ : ∃ L1, L1 = (shiftE (fun i => hs.getD i 0) es).take (k + 1) := ⟨_, rfl⟩
          rw [← hL1] at HT
          have HL1 := Lib.hid hL1
          clear hL1
          generalize (shiftE (fun i => hs.getD i 0) es).take k = L0 at HT HL HU
          generalize hs.getD fr 0 = hfr at *
          generalize hs.getD to 0 = hto at *
          have ik0 : (0 : Int) ≤ (k : Int) := by omega
          have ik1 : (k : Int) < (len : Int) := by omega
          clear hx
          go_wp2
          clear hc0 hc1 hc2 hc3
          obtain ⟨W1, hW1⟩ : ∃ W1, W1 = wr.alloc (.cells #[.int .i64 fr, .int .i64 to, .int .i64 x2, .int .i64 x3] 50) := ⟨_, rfl⟩
          rw [← hW1]
          have HB1 : Hid (Below wr.heap.size wr W1 ∧ W1.heap.size = wr.heap.size + 1) := Lib.hid (by rw [hW1]; exact ⟨(Below.refl _ _).alloc (Nat.le_refl _) _, by simp⟩)
          have HQ1 : Hid (RowOf W1 wr.heap.size 50 [.int .i64 fr, .int .i64 to, .int .i64 x2, .int .i64 x3]) := Lib.hid (by rw [hW1]; exact (MapKept.heap_alloc wr _).1)
          clear hW1
          have y0 : W1.cell? ⟨wr.heap.size, 0, none⟩ = some (.int .i64 fr) := HQ1.out.cell rfl
          have y1 : W1.cell? ⟨wr.heap.size, 1, none⟩ = some (.int .i64 to) := HQ1.out.cell rfl
          have y3 : W1.cell? ⟨wr.heap.size, 3, none⟩ = some (.int .i64 x3) := HQ1.out.cell rfl
          have yf := HQ1.out.frozen 3
          have yh := (HB1.out.1.cell (p := ⟨bh, oh + fr, none⟩) hbh).trans hcf
          have yt := (HB1.out.1.cell (p := ⟨bh, oh + to, none⟩) hbh).trans hct
          have hl1 : wr.heap.size < W1.heap.size := by have := HB1.out.2; omega
          have hw1 : IntKind.i64.wrap hfr = hfr := IntWalk.i64_in _ (by omega)
          have hw2 : IntKind.i64.wrap hto = hto := IntWalk.i64_in _ (by omega)
          have hw3 : IntKind.i64.wrap (x3 + hfr) = x3 + hfr := IntWalk.i64_in _ (by omega)
          have hw4 : IntKind.i64.wrap (x3 + hfr - hto) = x3 + hfr - hto := IntWalk.i64_in _ (by omega)
          have if0 : (0 : Int) ≤ (fr : Int) := by omega
          have if1 : (fr : Int) < (len2 : Int) := by omega
          have it0 : (0 : Int) ≤ (to : Int) := by omega
          have it1 : (to : Int) < (len2 : Int) := by omega
          clear hcf hct
          go_region
          clear y0 y1 y3 yf yh yt
          obtain ⟨W3, hW3⟩ : ∃ W3, W3 = (W1.setCell ⟨wr.heap.size, 3, none⟩ (.int .i64 (x3 + hfr - hto))).drew := ⟨_, rfl⟩
          rw [← hW3]
          have HQ3 : Hid (RowOf W3 wr.heap.size 50 [.int .i64 fr, .int .i64 to, .int .i64 x2, .int .i64 (x3 + hfr - hto)]) := Lib.hid (by rw [hW3]; exact HQ1.out.set_ 3 (.int .i64 (x3 + hfr - hto)))
          have HB3 : Hid (Below wr.heap.size wr W3) := Lib.hid (by rw [hW3]; exact (HB1.out.1.setCell (p := ⟨wr.heap.size, 3, none⟩) (Nat.le_refl _) _).drew)
          clear hW3 HQ1 HB1 hl1
          have HN3 := Lib.hid (HU.out.later HB3.out)
          obtain ⟨A6, c6, HVV2⟩ : ∃ A6 c6, Hid (u = .slice A6 k c6) := by
            obtain ⟨A6, c6, h⟩ := own_form4 HU.out.own
            rw [HL.out] at h
            exact ⟨A6, c6, Lib.hid h⟩
          obtain rfl := HVV2.out
          have kv : W3.cell? ⟨w2.heap.size, 1, none⟩ = some (.slice A6 k c6) := HN3.out.net.cell rfl
          have HOW : Hid (W3.ownsRow (w2.heap.size + 1) 50 4 (.slice A6 k c6) k (cellsA L0)) := Lib.hid (by have h := HN3.out.own; rw [HL.out] at h; exact h)
          have a0 : W3.cell? ⟨wr.heap.size, 0, none⟩ = some (.int .i64 fr) := HQ3.out.cell rfl
          have a1 : W3.cell? ⟨wr.heap.size, 1, none⟩ = some (.int .i64 to) := HQ3.out.cell rfl
          have a2 : W3.cell? ⟨wr.heap.size, 2, none⟩ = some (.int .i64 x2) := HQ3.out.cell rfl
          have a3 : W3.cell? ⟨wr.heap.size, 3, none⟩ = some (.int .i64 (x3 + hfr - hto)) := HQ3.out.cell rfl
          have hle : w2.heap.size + 1 ≤ W3.heap.size := HN3.out.le
          clear HVV2
          go_wp2_with (at_builtin; refine wpList_append_own _ rfl _ _ 22 rfl (w2.heap.size + 1) 50 i0 (.agg #[.int .i64 0, .int .i64 0, .int .i64 0, .int .i64 0]) 4 32 Try.underlying22 HI.out HI0.out HI1.out HII2.out rfl (by decide) _ _ _ rfl (HOW.out.alloc _) ⟨W3.heap.size, 0, none⟩ 1 1 [.int .i64 fr, .int .i64 to, .int .i64 x2, .int .i64 (x3 + hfr - hto)] rfl rfl ?c1 ?c2 ?c3 ?c4 ?c5 ?_)
          try (case c1 => exact World.news_of_block (MapKept.heap_alloc W3 _).1)
          case c2 => simp [Value.oneCell']
          case c3 => unfold maxLen; omega
          case c4 => omega
          case c5 => simp; omega
          intro v' w4 hown' hgrow _
          obtain ⟨A7, c7, rfl⟩ := own_form4 hown'
          have hgb : ∀ b, b < W3.heap.size → (∀ q, (Value.slice A6 k c6).ownBlock = some q → b ≠ q) → w4.heap[b]? = W3.heap[b]? := fun b hb hn => (hgrow.block b (by simp; omega) (fun he => hn b he.symm rfl)).trans (Below.heap_alloc _ _ b hb)
          have hob : ∀ q, (Value.slice A6 k c6).ownBlock = some q → w2.heap.size + 1 ≤ q := fun q hq => (HOW.out.lt q hq).1
          have hR4 : RowOf w4 w2.heap.size 24 [.int .i64 len2, .slice A6 k c6] := (hgb _ (by omega) (fun q hq => by have := hob q hq; omega)).trans HN3.out.net
          have hv4 : w4.cell? ⟨w2.heap.size, 1, none⟩ = some (.slice A6 k c6) := hR4.cell rfl
          have hf4 := hR4.frozen 1
          have hs4 : W3.heap.size ≤ w4.heap.size := by have := hgrow.size; simp at this; omega
          have HNX : Hid (ShifW w2 len2 L1 (.slice A7 (k + 1) c7) (w4.setCell ⟨w2.heap.size, 1, none⟩ (.slice A7 (k + 1) c7))) := Lib.hid (by
            have hfar : ∀ b : Nat, b ≠ w2.heap.size → (w4.setCell ⟨w2.heap.size, 1, none⟩ (.slice A7 (k + 1) c7)).heap[b]? = w4.heap[b]? := fun b hb => Below.heap_setCell _ _ _ b hb
            refine ⟨hR4.set_ 1 _, ?_, ⟨hgrow.os.trans HN3.out.below.os, hgrow.tape.trans HN3.out.below.tape, hgrow.output.trans HN3.out.below.output, by have := HN3.out.below.size; simp; omega, fun b hb => (hfar b (by omega)).trans ((hgb b (by omega) (fun q hq => by have := hob q hq; omega)).trans (HN3.out.below.block b hb))⟩, by simp; omega⟩
            rw [HT.out, List.length_append, HL.out, cellsA_snoc]
            exact own_keep4 hown' fun g hg => hfar g (by omega))
          clear hown' hgrow hgb hob hR4
          go_wp2
          go_roundw
          case rel => exact ⟨k + 1, by omega, by go_num, Lib.hid (by rw [← HL1.out]; exact ⟨_, HNX.out⟩)⟩
          case measure => simp [intOf]; omega
        · obtain rfl : k = len := by omega
          have HTK : Hid ((shiftE (fun i => hs.getD i 0) es).take k = shiftE (fun i => hs.getD i 0) es) := Lib.hid (List.take_of_length_le (by have := HEL.out; simp [shiftE]; omega))
          have HSL : Hid ((shiftE (fun i => hs.getD i 0) es).length = k) := Lib.hid (by have := HEL.out; simp [shiftE]; omega)
          have HSH := Lib.hid (shiftN_of (fun i => hs.getD i 0) len2 es)
          have HFS := Lib.hid (fun t l hl => far_shift (h := fun i => hs.getD i 0) (m := len2) (t := t) (l := l) HG.out hsm hl)
          have HRN := Lib.hid (HSH.out.run (netA_ok HG.out) (show s < (netA len2 es).n from hsm) len2)
          have HFA := Lib.hid (farV_abs HG.out HF.out hsm)
          rw [HTK.out] at HU
          obtain ⟨es', hes'⟩ : ∃ es', es' = shiftE (fun i => hs.getD i 0) es := ⟨_, rfl⟩
          rw [← hes'] at HU HSL HSH HFS HRN
          clear hes' HTK
          obtain ⟨A6, c6, HVV2⟩ : ∃ A6 c6, Hid (u = .slice A6 k c6) := by
            obtain ⟨A6, c6, h⟩ := own_form4 HU.out.own
            rw [HSL.out] at h
            exact ⟨A6, c6, Lib.hid h⟩
          obtain rfl := HVV2.out
          have HAR : Hid (ArcsAt wr wr.heap.size A6 k es') := Lib.hid (by have h := HU.out.own; rw [HSL.out] at h; exact ArcsAt.of_own4 h)
          have kv0 : wr.cell? ⟨w2.heap.size, 0, none⟩ = some (.int .i64 len2) := HU.out.net.cell rfl
          have kv1 : wr.cell? ⟨w2.heap.size, 1, none⟩ = some (.slice A6 k c6) := HU.out.net.cell rfl
          have HRW := Lib.hid HU.out.net
          have HFF : Hid (v = false → ∃ g1 g2, fv = .slice (some ⟨g1, 0, none⟩) len2 len2 ∧ tv = .slice (some ⟨g2, 0, none⟩) len2 len2 ∧ ev = 0 ∧ RowOf wr g1 2 (farL (netA len2 es) (runD (netA len2 es) s len2) len2) ∧ RowOf wr g2 4 (isL (runD (netA len2 es) s len2) len2)) := Lib.hid fun h => by
            obtain ⟨g1, g2, e1, e2, e3, r1, r2⟩ := HF2.out h
            exact ⟨g1, g2, e1, e2, e3, r1.keep HU.out.below, r2.keep HU.out.below⟩
          clear HVV2 HU HF2 HX2 HH2 hlt hk HI HI0 HI1 HII2
          obtain ⟨x', hx'⟩ : ∃ x', netF (len2 : Int) es' = x' := ⟨_, rfl⟩
          have HN' := Lib.hid hx'
          by_cases hx0 : x' = 0
          · subst hx0
            have HGG := Lib.hid (fun W hW => far_good len2 A6 k c6 es' s v W hW hx' hsm (HVV.out.trans HSH.out.sinks.symm))
            clear hx'
            go_wp2_with fail
            refine (HGG.out _ HAR.out).mono ?_
            clear kv0 kv1
            cases v with
            | true =>
              obtain ⟨rfl, rfl, rfl⟩ := HTT.out rfl
              rintro e w5 ⟨h1, _, hB⟩
              obtain rfl := h1 rfl
              have HX5 := Lib.hid (HXr.out.next hB)
              have HAR5 := Lib.hid (HAR.out.go_ hB)
              have HRW5 := Lib.hid (HRW.out.keep hB)
              clear hB
              have kv0 : w5.cell? ⟨w2.heap.size, 0, none⟩ = some (.int .i64 len2) := HRW5.out.cell rfl
              have kv1 : w5.cell? ⟨w2.heap.size, 1, none⟩ = some (.slice A6 k c6) := HRW5.out.cell rfl
              go_wp2_with fail
              refine (netCheck_v (len2 : Int) 0 A6 k c6 es' _ (by exact HAR5.out) HN'.out).mono ?_
              rintro e w6 ⟨rfl, hB⟩
              have HX6 := Lib.hid (HX5.out.next hB)
              clear hB kv0 kv1
              go_wp2_with fail
              go_ret
              exact ⟨rfl, HX6.out.below⟩
            | false =>
              obtain ⟨g1, g2, rfl, rfl, rfl, r1, r2⟩ := HFF.out rfl
              have HR1 := Lib.hid r1
              have HR2 := Lib.hid r2
              clear r1 r2
              rintro e w5 ⟨_, h2, hB⟩
              obtain ⟨g3, g4, rfl, hr3, hr4, _⟩ := h2 rfl
              rw [HRN.out] at hr3 hr4
              rw [HRN.out] at HFS
              obtain ⟨D, hD⟩ : ∃ D, D = runD (netA len2 es) s len2 := ⟨_, rfl⟩
              rw [← hD] at hr3 hr4 HR1 HR2 HFS HFA
              have HTW : Hid (TellW w len2 A k cap es A2 hs (netA len2 es') D g1 g2 g3 g4 w5) := Lib.hid ⟨HXr.out.next hB, HHr.out.go_ hB, HR1.out.keep hB, HR2.out.keep hB, hr3, hr4⟩
              have HAR5 := Lib.hid (HAR.out.go_ hB)
              have HRW5 := Lib.hid (HRW.out.keep hB)
              clear hB hr3 hr4 h2 hD HRN HSH HTT HFF HR1 HR2 HXr HHr HAR HRW
              have kv0 : w5.cell? ⟨w2.heap.size, 0, none⟩ = some (.int .i64 len2) := HRW5.out.cell rfl
              have kv1 : w5.cell? ⟨w2.heap.size, 1, none⟩ = some (.slice A6 k c6) := HRW5.out.cell rfl
              go_wp2_with fail
              refine (netCheck_v (len2 : Int) 0 A6 k c6 es' _ (by exact HAR5.out) HN'.out).mono ?_
              rintro e w6 ⟨rfl, hB⟩
              have HT6 := Lib.hid (HTW.out.later hB)
              clear hB kv0 kv1 HTW HAR5 HRW5
              have k0 := HT6.out.box.k0
              go_wp2_with fail
              clear k0
              go_loopw [16] (fun y wr => ∃ t : Nat, t ≤ len2 ∧ y = .int .i64 t ∧ Hid (TellW w len2 A k cap es A2 hs (netA len2 es') D g1 g2 g3 g4 wr)) (fun y _ => len2 - (intOf y).toNat)
              case atStart => exact ⟨0, Nat.zero_le _, rfl, HT6⟩
              case round =>
                clear HT6
                obtain ⟨t, ht, rfl, HT⟩ := hrel
                have k0 := HT.out.box.k0
                by_cases htl : t < len2
                · obtain ⟨bh, oh, rfl, hbh, hcs, hct⟩ := HT.out.hts.at2 (i := s) (j := t) hsm htl
                  have c1 := farL_cell HT.out.row1 htl
                  have c2 := isL_cell HT.out.row2 htl
                  have c3 := farL_cell HT.out.row3 htl
                  have c4 := isL_cell HT.out.row4 htl
                  have it0 : (0 : Int) ≤ (t : Int) := by omega
                  have it1 : (t : Int) < (len2 : Int) := by omega
                  have is0 : (0 : Int) ≤ (s : Int) := by omega
                  have is1 : (s : Int) < (len2 : Int) := by omega
                  have HNX : Hid (∀ q, TellW w len2 A k cap es (some ⟨bh, oh, none⟩) hs (netA len2 es') D g1 g2 g3 g4 (wr.drewN q)) := Lib.hid fun q => HT.out.later (below_drewN (Below.refl _ _) q)
                  cases hd : D t with
                  | none =>
                    rw [hd] at c2 c4
                    simp only [Option.isSome_none] at c2 c4
                    clear hd c1 c3 hcs hct
                    go_wp2_with fail
                    go_quiet (fail)
                    go_wp2
                    go_roundw
                    case rel => exact ⟨t + 1, by omega, by go_num, Lib.hid (HNX.out _)⟩
                    case measure => simp [intOf]; omega
                  | some l =>
                    have hf := HFS.out t l hd
                    rw [hf] at c3
                    rw [hd] at c2 c4
                    simp only [Option.isSome_some] at c2 c4
                    obtain ⟨b1, b2⟩ := HFA.out t
                    obtain ⟨b3, b4⟩ := HHB.out s
                    obtain ⟨b5, b6⟩ := HHB.out t
                    generalize farV (netA len2 es) D t = df at *
                    generalize hs.getD s 0 = p1 at *
                    generalize hs.getD t 0 = p2 at *
                    have hw1 : IntKind.i64.wrap p1 = p1 := IntWalk.i64_in _ (by omega)
                    have hw2 : IntKind.i64.wrap p2 = p2 := IntWalk.i64_in _ (by omega)
                    have hw3 : IntKind.i64.wrap (df + p1) = df + p1 := IntWalk.i64_in _ (by omega)
                    have hw4 : IntKind.i64.wrap (df + p1 - p2) = df + p1 - p2 := IntWalk.i64_in _ (by omega)
                    clear hd hf
                    go_wp2_with fail
                    go_quiet (fail)
                    go_wp2
                    go_roundw
                    case rel => exact ⟨t + 1, by omega, by go_num, Lib.hid (HNX.out _)⟩
                    case measure => simp [intOf]; omega
                · obtain rfl : t = len2 := by omega
                  go_wp2_with fail
                  go_ret
                  exact ⟨rfl, HT.out.box.below⟩
          · have HH0 := Lib.hid hx0
            have hxb : (x' != 0) = true := by simpa using hx0
            have HASK : Hid (askF (len2 : Int) es' [(s : Int)] = x') := Lib.hid (by rw [askF_bad (by rw [hx']; exact hx0), hx'])
            clear hx' hx0 HFS HRN HSH HFA HFF HTT HVV
            go_wp2_with fail
            refine (far_bad (len2 : Int) x' A6 k c6 es' (s : Int) _ (by exact HAR.out) HASK.out HH0.out).mono ?_
            rintro e w5 ⟨rfl, hB⟩
            have HX5 := Lib.hid (HXr.out.next hB)
            have HAR5 := Lib.hid (HAR.out.go_ hB)
            have HRW5 := Lib.hid (HRW.out.keep hB)
            clear hB kv0 kv1
            have kv0 : w5.cell? ⟨w2.heap.size, 0, none⟩ = some (.int .i64 len2) := HRW5.out.cell rfl
            have kv1 : w5.cell? ⟨w2.heap.size, 1, none⟩ = some (.slice A6 k c6) := HRW5.out.cell rfl
            go_wp2_with fail
            refine (netCheck_v (len2 : Int) x' A6 k c6 es' _ (by exact HAR5.out) HN'.out).mono ?_
            rintro e w6 ⟨rfl, hB⟩
            have HX6 := Lib.hid (HX5.out.next hB)
            clear hB kv0 kv1
            go_wp2_with fail
            go_ret
            exact ⟨rfl, HX6.out.below⟩
    · have hlb : ((len2 : Int) != (m : Int)) = true := by simp; omega
      clear HI HI0 HI1 HII2
      go_enter Try.func8, Try.ntmps8
      go_wp2_with fail
      refine (HFG.out _ HX.out.arcs).mono ?_
      rintro e w1 hfr
      obtain ⟨fv, tv, ev, rfl, hB, _, _⟩ := farR_shape hfr
      have HX1 := Lib.hid (HX.out.next hB)
      clear k0 k1 hB HFG hfr HI2
      have k0 := HX1.out.k0
      have k1 := HX1.out.k1
      go_wp2_with fail
      refine (keepNet_yes (m : Int) (s : Int) A len cap es _ (by exact HX1.out.arcs) HV.out).mono ?_
      rintro e w2 ⟨rfl, hB⟩
      have HX2 := Lib.hid (HX1.out.next hB)
      clear k0 k1 hB
      have k0 := HX2.out.k0
      have k1 := HX2.out.k1
      go_wp2_with fail
      refine (keepNet_yes (m : Int) (s : Int) A len cap es _ (by exact HX2.out.arcs) HV.out).mono ?_
      rintro e w3 ⟨rfl, hB⟩
      have HX3 := Lib.hid (HX2.out.next hB)
      clear k0 k1 hB
      go_wp2_with fail
      go_ret
      exact ⟨rfl, HX3.out.below⟩
  · have HH0 := Lib.hid h0
    have hx0 : (x != 0) = true := by simpa using h0
    clear hE hI hh hx h0
    go_enter Try.func8, Try.ntmps8
    go_wp2_with fail
    refine (far_bad n x A len cap es s _ (by exact HX.out.arcs) HV.out HH0.out).mono ?_
    rintro e w1 ⟨rfl, hB⟩
    have HX1 := Lib.hid (HX.out.next hB)
    clear k0 k1 hB
    have k0 := HX1.out.k0
    have k1 := HX1.out.k1
    go_wp2_with fail
    refine (keepNet_no n s A len cap es _ (by exact HX1.out.arcs) (by rw [HV.out]; exact HH0.out)).mono ?_
    rintro e w2 ⟨rfl, hB⟩
    have HX2 := Lib.hid (HX1.out.next hB)
    clear k0 k1 hB
    have k0 := HX2.out.k0
    have k1 := HX2.out.k1
    go_wp2_with fail
    refine (keepNet_no n s A len cap es _ (by exact HX2.out.arcs) (by rw [HV.out]; exact HH0.out)).mono ?_
    rintro e w3 ⟨rfl, hB⟩
    have HX3 := Lib.hid (HX2.out.next hB)
    clear k0 k1 hB
    go_wp2_with fail
    go_ret
    exact ⟨rfl, HX3.out.below⟩
end Go.Proofs.Ytkpejmpnbdblbaa
