/- flow.Send; lanes.follow: where ways first go to, and of each half the next one. No conditions. -/
import Derived.Test.YtmelemjngnadpaaDoorZFillGo
import Derived.Test.YtmelemjngnadpaaDoorZb2
import Derived.Test.YtmelemjngnadpaaDoorZHalfGo
import Derived.StillTailTactics
namespace Go.Proofs.YtmelemjngnadpaaDoor
open Go.RowKit

def SendEnd (m : Nat) (len : Nat) (es : List A4) (s t : Nat) (w : World) (e : Ending) (w' : World) : Prop :=
  ∃ g f v, e = .returned (.slice (some ⟨g, 0, none⟩) len len) ∧ RowI w' g len f ∧ FlowP (netP (m : Int) es) s t f v ∧ ¬ ComeP (netP (m : Int) es) f s t ∧ w.heap.size ≤ g ∧ Below w.heap.size w w'
theorem flowSend_any (m : Nat) (A : Option Addr) (len cap : Nat) (es : List A4) (s t : Nat) (w : World)
    (hE : ArcsAt w w.heap.size A len es) (hG : BigN (m : Int) es) (hs : s < m) (ht : t < m) (hst : s ≠ t) :
    Calls Tryd.prog 27 #[.agg #[.int .i64 m, .slice A len cap], .int .i64 s, .int .i64 t] w (SendEnd m len es s t w) := by
  have HX := Lib.hid (BoxN.start (n := m) (cap := cap) hE)
  have HG := Lib.hid hG
  clear hE hG
  go_enter Tryd.func27, Tryd.ntmps27
  go_wp2_with fail
  refine (fill_any m A len cap es s t _ (by exact HX.out.arcs) HG.out hs ht hst).mono ?_
  rintro e w1 ⟨F, g, f, v, rfl, hF, hfl, hn, hg, hB⟩
  have c2 := hF.c2
  have HO : Hid (SendEnd m len es s t w (.returned (.slice (some ⟨g, 0, none⟩) len len)) w1) := Lib.hid ⟨g, f, v, rfl, hF.row, hfl, hn, Nat.le_trans HX.out.below.size hg, HX.out.below.trans (hB.mono HX.out.below.size)⟩
  clear hF hfl hn hg hB
  go_wp2
  go_ret
  exact HO.out

def natN (x : Nat) : Value := .int .i64 (x : Int)
theorem own_set {w : World} {base n : Nat} {t : TypeId} {v : Value} {xs : List Value} {p : Addr} (h : w.ownsRow base t 1 v n xs) (hp : p.block < base) (y : Value) : (w.setCell p y).ownsRow base t 1 v n xs := by
  refine ⟨h.1, ?_⟩
  rcases h.2 with h0 | ⟨g, cap, cur, hv, hg, hr, hrest⟩
  · exact .inl h0
  · exact .inr ⟨g, cap, cur, hv, hg, (Below.heap_setCell _ _ _ g (by omega)).trans hr, hrest⟩
structure FolW (m g2 : Nat) (L : List A4) (f : Nat → Int) (s k : Nat) (v : Value) (w1 wr : World) : Prop where
  own : wr.ownsRow w1.heap.size 3 1 v (firstsTo (netP (m : Int) L) f s k).length ((firstsTo (netP (m : Int) L) f s k).map natN)
  row : RowC wr g2 m (fun i => (nextTo (netP (m : Int) L) f s k i : Int))
  but : But (fun b => b = g2) w1 wr
theorem FolW.same {m g2 s k : Nat} {L : List A4} {f : Nat → Int} {v : Value} {w1 wr W : World} (h : FolW m g2 L f s k v w1 wr) (hb : ∀ b : Nat, W.heap[b]? = wr.heap[b]?) (hs : W.heap.size = wr.heap.size) (ho : W.os = wr.os ∧ W.tape = wr.tape ∧ W.output = wr.output) : FolW m g2 L f s k v w1 W := by
  refine ⟨⟨h.own.1, ?_⟩, h.row.of_block (hb _), ⟨ho.1.trans h.but.os, ho.2.1.trans h.but.tape, ho.2.2.trans h.but.output, by rw [hs]; exact h.but.size, fun b hbl hn => (hb b).trans (h.but.block b hbl hn)⟩⟩
  rcases h.own.2 with h0 | ⟨g, cap, cur, hv, hg, hr, hrest⟩
  · exact .inl h0
  · exact .inr ⟨g, cap, cur, hv, hg, (hb g).trans hr, hrest⟩
def FollowOut (m len : Nat) (L : List A4) (a b : Nat) (w : World) (e : Ending) (w' : World) : Prop :=
  ∃ A' cp g2 f v, e = .returned (.tuple #[.slice A' (firstsTo (netP (m : Int) L) f (2 * a + 1) len).length cp, .slice (some ⟨g2, 0, none⟩) m m]) ∧
    IntsAt w' w'.heap.size A' (firstsTo (netP (m : Int) L) f (2 * a + 1) len).length ((firstsTo (netP (m : Int) L) f (2 * a + 1) len).map fun x : Nat => (x : Int)) ∧
    RowC w' g2 m (fun i => (nextTo (netP (m : Int) L) f (2 * a + 1) len i : Int)) ∧ FlowP (netP (m : Int) L) (2 * a + 1) (2 * b) f v ∧ ¬ ComeP (netP (m : Int) L) f (2 * a + 1) (2 * b) ∧ Below w.heap.size w w'
set_option maxRecDepth 100000 in
set_option maxHeartbeats 2000000 in
theorem follow_any (m : Nat) (A : Option Addr) (len cap : Nat) (L : List A4) (a b : Nat) (w : World)
    (hE : ArcsAt w w.heap.size A len L) (hG : BigN (m : Int) L) (ha : 2 * a + 1 < m) (hb : 2 * b < m) :
    Calls Tryd.prog 18 #[.agg #[.int .i64 m, .slice A len cap], .int .i64 a, .int .i64 b] w (FollowOut m len L a b w) := by
  have HX := Lib.hid (BoxN.start (n := m) (cap := cap) hE)
  have HG := Lib.hid hG
  have hm20 : m ≤ 20 := by have := hG.n1; omega
  have HLL : Hid (L.length = len) := Lib.hid hE.1
  have hlen : len ≤ 100 := by have := hG.len; have := hE.1; omega
  have HE := Lib.hid hE
  clear hE hG
  have hmk := fun W => run_make_row' (P := Tryd.prog) 45 3 (.int .i64 0) 8 Tryd.underlying45 (by kernel_rfl) rfl .i64 .i64 m (by omega) (by omega) W
  obtain ⟨i0, hi, hz0, hz1, hz2⟩ := info_parts infoInt
  have HI := Lib.hid hi
  have HI0 := Lib.hid hz0
  have HI1 := Lib.hid hz1
  have HI2 := Lib.hid hz2
  clear hi hz0 hz1 hz2
  go_enter Tryd.func18, Tryd.ntmps18
  go_wp2
  clear hmk
  obtain ⟨W0, hW0⟩ : ∃ W0, ((w.alloc (.cells #[.int .i64 m, .slice A len cap] 50)).alloc (.cells (madeCells #[.int .i64 0] m) 3)) = W0 := ⟨_, rfl⟩
  rw [hW0]
  have hrow0 : RowC W0 (w.heap.size + 1) m (fun _ => 0) := by
    rw [← hW0]
    have := (MapKept.heap_alloc (w.alloc (.cells #[.int .i64 m, .slice A len cap] 50)) (.cells (madeCells #[.int .i64 0] m) 3)).1
    rw [World.size_alloc] at this
    exact ⟨_, this, fun j hj => by simp [madeCells, hj, Nat.mod_one]⟩
  have hX0 : BoxN w m A len cap L W0 := by
    rw [← hW0]
    exact HX.out.next ((Below.refl _ _).alloc (Nat.le_refl _) _)
  have HX0 := Lib.hid hX0
  have HR0 := Lib.hid hrow0
  have k0 := hX0.k0
  have k1 := hX0.k1
  clear hW0 hrow0 hX0
  rename_i K1 hK1
  have TAIL : Hid (∀ (gS : Nat) (f : Nat → Int) (v : Int) (w3 : World), RowI w3 gS len f → FlowP (netP (m : Int) L) (2 * a + 1) (2 * b) f v → ¬ ComeP (netP (m : Int) L) f (2 * a + 1) (2 * b) → W0.heap.size ≤ gS → Below W0.heap.size W0 w3 →
      K1 { tmps := #[.agg #[.int .i64 m, .slice A len cap], .int .i64 a, .int .i64 b, .pointer (some ⟨w.heap.size, 0, none⟩), undef, undef, .slice none 0 0, .slice (some ⟨w.heap.size + 1, 0, none⟩) m m, undef, undef, undef, undef, .pointer (some ⟨w.heap.size, 0, none⟩), .int .i64 m, .slice (some ⟨w.heap.size + 1, 0, none⟩) m m, .agg #[.int .i64 m, .slice A len cap], .int .i64 a, .int .i64 (2 * (a : Int) + 1), .int .i64 b, .int .i64 (2 * (b : Int)), .slice (some ⟨gS, 0, none⟩) len len, .int .i64 len, .int .i64 0, undef, undef, undef, undef, undef, undef, undef, undef, undef, undef, undef, undef, undef, undef, undef, undef, undef, undef, undef, undef, undef, undef, undef, undef, undef, undef, undef, undef, undef, undef, undef, undef, undef, undef, undef], defers := [] } w3) := by
    refine Lib.hid fun gS f v w3 hrow hfl hn hgs hB => hK1 _ _ ?_
    clear hK1
    have HROW := Lib.hid hrow
    have HFL := Lib.hid hfl
    have HNC := Lib.hid hn
    have hg2 : w.heap.size + 1 < W0.heap.size := HR0.out.lt
    have HX3 := Lib.hid (HX0.out.next hB)
    have HR3 : Hid (RowC w3 (w.heap.size + 1) m (fun _ => 0)) := Lib.hid (HR0.out.of_block (hB.block _ hg2))
    have hgl : gS < w3.heap.size := hrow.lt
    have hgne : gS ≠ w.heap.size + 1 := by omega
    have hs3 : w.heap.size + 1 < w3.heap.size := HR3.out.lt
    have HBw := Lib.hid HX3.out.below
    clear hrow hfl hn hB k0 k1
    go_wp2
    go_loopw [6, 22] (fun x j wr => ∃ k : Nat, k ≤ len ∧ j = .int .i64 k ∧ Hid (FolW m (w.heap.size + 1) L f (2 * a + 1) k x w3 wr)) (fun _ j _ => len - (intOf j).toNat)
    case atStart => exact ⟨0, Nat.zero_le _, rfl, Lib.hid ⟨World.ownsRow_nil .., HR3.out, But.refl _ _⟩⟩
    case round =>
      obtain ⟨k, hk, rfl, HF⟩ := hrel
      have hfar : ∀ b, b < w3.heap.size → b ≠ w.heap.size + 1 → wr.heap[b]? = w3.heap[b]? := fun b h1 h2 => HF.out.but.block b h1 h2
      by_cases hlt : k < len
      · have hEr : ArcsAt wr w.heap.size A len L := (HE.out.below HBw.out).keep fun p hp => World.cell?_of_block (hfar p.block (by omega) (by omega))
        obtain ⟨bb, off, ⟨x0, x1, x2, x3⟩, rfl, hbb, hx, hc0, hc1, _, _⟩ := hEr.at_ hlt
        obtain ⟨e0, e1, _, l0, l1, _⟩ := netP_arc HG.out hx
        have qg : wr.cell? ⟨gS, k, none⟩ = some (.int .i64 (f k)) := (World.cell?_of_block (a := ⟨gS, k, none⟩) (hfar gS hgl hgne)).trans (HROW.out.cell hlt)
        have q0 : wr.cell? ⟨w.heap.size, 0, none⟩ = some (.int .i64 m) := (World.cell?_of_block (a := ⟨w.heap.size, 0, none⟩) (hfar w.heap.size (by omega) (by omega))).trans HX3.out.k0
        have q1 : wr.cell? ⟨w.heap.size, 1, none⟩ = some (.slice (some ⟨bb, off, none⟩) len cap) := (World.cell?_of_block (a := ⟨w.heap.size, 1, none⟩) (hfar w.heap.size (by omega) (by omega))).trans HX3.out.k1
        have hz0 := firstsTo_zero (N := netP (m : Int) L) (f := f) (s := 2 * a + 1) (k := k)
        have hz1 := firstsTo_src (N := netP (m : Int) L) (f := f) (s := 2 * a + 1) (k := k)
        have hz2 := firstsTo_mid (N := netP (m : Int) L) (f := f) (s := 2 * a + 1) (k := k)
        have HFL1 := Lib.hid (firstsTo_len (N := netP (m : Int) L) (f := f) (s := 2 * a + 1) k)
        simp only at hc0 hc1 e0 e1
        rw [e0] at hc0
        rw [e1] at hc1
        have hnn : (netP (m : Int) L).n = m := by simp [netP]
        rw [hnn] at l0 l1
        have ik0 : (0 : Int) ≤ (k : Int) := by omega
        have ik1 : (k : Int) < (len : Int) := by omega
        clear hx e0 e1 hEr hnn hfar
        obtain ⟨fr, hfr⟩ : ∃ fr, fr = (netP (m : Int) L).fr k := ⟨_, rfl⟩
        obtain ⟨to, hto⟩ : ∃ to, to = (netP (m : Int) L).to k := ⟨_, rfl⟩
        rw [← hfr] at hc0 l0 hz1 hz2
        rw [← hto] at hc1 l1 hz1 hz2
        have HFT : Hid (fr = (netP (m : Int) L).fr k ∧ to = (netP (m : Int) L).to k) := Lib.hid ⟨hfr, hto⟩
        clear hfr hto
        obtain ⟨A6, c6, HV6⟩ : ∃ A6 c6, Hid (u6 = .slice A6 (firstsTo (netP (m : Int) L) f (2 * a + 1) k).length c6) := by
          obtain ⟨A6, c6, h⟩ := own_form HF.out.own
          exact ⟨A6, c6, Lib.hid h⟩
        obtain rfl := HV6.out
        by_cases h0 : f k = 0
        · have HZ := Lib.hid (hz0 h0)
          rw [h0] at qg
          clear hz0 hz1 hz2 h0
          go_wp2
          go_quiet (fail)
          have HN : Hid (FolW m (w.heap.size + 1) L f (2 * a + 1) (k + 1) (.slice A6 (firstsTo (netP (m : Int) L) f (2 * a + 1) k).length c6) w3 (wr.drewN nq)) := Lib.hid (by
            have h := HF.out.same (W := wr.drewN nq) (fun _ => rfl) rfl ⟨rfl, rfl, rfl⟩
            exact ⟨by rw [HZ.out.1]; exact h.own, by rw [HZ.out.2]; exact h.row, h.but⟩)
          go_wp2
          go_roundw
          case rel => exact ⟨k + 1, by omega, by go_num, HN⟩
          case measure => simp [intOf]; omega
        · have hne0 : (f k == 0) = false := by simpa using h0
          by_cases hs : fr = 2 * a + 1
          · have HZ := Lib.hid (hz1 h0 hs)
            have hse : ((fr : Int) == 2 * (a : Int) + 1) = true := by rw [hs]; simp
            clear hz0 hz1 hz2 h0 hs
            go_wp2
            go_quiet (fail)
            have HN : Hid (FolW m (w.heap.size + 1) L f (2 * a + 1) k (.slice A6 (firstsTo (netP (m : Int) L) f (2 * a + 1) k).length c6) w3 (wr.drewN nq)) := Lib.hid (HF.out.same (W := wr.drewN nq) (fun _ => rfl) rfl ⟨rfl, rfl, rfl⟩)
            generalize wr.drewN nq = W at HN ⊢
            go_wp2_with fail
            refine (wayOut_any a (by omega) (by omega) _).mono ?_
            rintro e w5 ⟨rfl, rfl⟩
            go_wp2_with (at_builtin; refine wpList_append_own _ rfl _ _ 45 rfl w3.heap.size 3 i0 (.int .i64 0) 1 8 Tryd.underlying45 HI.out HI0.out HI1.out HI2.out rfl (by decide) _ _ _ rfl (HN.out.own.alloc _) ⟨w5.heap.size, 0, none⟩ 1 1 [.int .i64 (to : Int)] rfl rfl ?c1 ?c2 ?c3 ?c4 ?c5 ?_)
            try (case c1 => exact cell_one_new _ _ _)
            case c2 => simp [Value.oneCell']
            case c3 => have := HFL1.out; unfold maxLen; omega
            case c4 => have := HFL1.out; omega
            case c5 => have := HN.out.but.size; simp; omega
            intro v' w6 hown' hgrow _
            have HN6 : Hid (FolW m (w.heap.size + 1) L f (2 * a + 1) (k + 1) v' w3 w6) := Lib.hid (by
              have hbs := HN.out.but.size
              have hbk : ∀ b, b < w3.heap.size → w6.heap[b]? = w5.heap[b]? := fun b hb => (hgrow.block b (by simp; omega) (fun he => by have := own_base HN.out.own b he.symm; omega)).trans (Below.heap_alloc _ _ b (by omega))
              refine ⟨?_, ?_, ⟨hgrow.os.trans HN.out.but.os, hgrow.tape.trans HN.out.but.tape, hgrow.output.trans HN.out.but.output, by have := hgrow.size; simp at this; omega, fun b hb hn => (hbk b hb).trans (HN.out.but.block b hb hn)⟩⟩
              · rw [HZ.out.1, List.length_append, List.map_append]; exact hown'
              · rw [HZ.out.2]; exact HN.out.row.of_block (hbk _ hs3))
            clear hown' hgrow
            go_wp2
            go_roundw
            case rel => exact ⟨k + 1, by omega, by go_num, HN6⟩
            case measure => simp [intOf]; omega
          · have HZ := Lib.hid (hz2 h0 hs)
            have hse : ((fr : Int) == 2 * (a : Int) + 1) = false := by simp; omega
            clear hz0 hz1 hz2 h0 hs
            go_wp2
            go_quiet (fail)
            have HN : Hid (FolW m (w.heap.size + 1) L f (2 * a + 1) k (.slice A6 (firstsTo (netP (m : Int) L) f (2 * a + 1) k).length c6) w3 (wr.drewN nq)) := Lib.hid (HF.out.same (W := wr.drewN nq) (fun _ => rfl) rfl ⟨rfl, rfl, rfl⟩)
            generalize wr.drewN nq = W at HN ⊢
            have qn := HN.out.row.cell l0
            have fn := HN.out.row.frozen fr
            have if0 : (0 : Int) ≤ (fr : Int) := by omega
            have if1 : (fr : Int) < (m : Int) := by omega
            go_wp2_with fail
            refine (wayOut_any a (by omega) (by omega) _).mono ?_
            rintro e w5 ⟨rfl, rfl⟩
            go_wp2
            have HN6 : Hid (FolW m (w.heap.size + 1) L f (2 * a + 1) (k + 1) (.slice A6 (firstsTo (netP (m : Int) L) f (2 * a + 1) k).length c6) w3 (w5.setCell ⟨w.heap.size + 1, fr, none⟩ (.int .i64 (to : Int)))) := Lib.hid (by
              refine ⟨by rw [HZ.out.1]; exact own_set HN.out.own (by omega) _, ?_, HN.out.but.set_ (p := ⟨w.heap.size + 1, fr, none⟩) rfl _⟩
              refine (HN.out.row.set_ fr (to : Int)).congr fun j _ => ?_
              rw [HZ.out.2]
              unfold updF updN
              split <;> rfl)
            clear qn fn
            go_roundw
            case rel => exact ⟨k + 1, by omega, by go_num, HN6⟩
            case measure => simp [intOf]; omega
      · obtain rfl : k = len := by omega
        obtain ⟨A6, c6, HV6⟩ : ∃ A6 c6, Hid (u6 = .slice A6 (firstsTo (netP (m : Int) L) f (2 * a + 1) k).length c6) := by
          obtain ⟨A6, c6, h⟩ := own_form HF.out.own
          exact ⟨A6, c6, Lib.hid h⟩
        obtain rfl := HV6.out
        have HO : Hid (FollowOut m k L a b w (.returned (.tuple #[.slice A6 (firstsTo (netP (m : Int) L) f (2 * a + 1) k).length c6, .slice (some ⟨w.heap.size + 1, 0, none⟩) m m])) wr) := Lib.hid (by
          refine ⟨A6, c6, _, f, v, rfl, IntsAt.of_own (t := 3) (base := w3.heap.size) (cap := c6) ?_ (Nat.le_refl _), HF.out.row, HFL.out, HNC.out, HBw.out.trans ⟨HF.out.but.os, HF.out.but.tape, HF.out.but.output, ?_, fun b hb => hfar b (by omega) (by omega)⟩⟩
          · have h := HF.out.own
            rw [List.map_map]; exact h
          · have := HF.out.but.size; omega)
        clear hfar
        go_wp2
        go_ret2
        exact HO.out
  go_region_with (first
    | (go_at_call 28; refine (wayOut_any a (by omega) (by omega) _).mono ?_; rintro e w1 ⟨rfl, rfl⟩)
    | (go_at_call 20; refine (wayIn_any b (by omega) (by omega) _).mono ?_; rintro e w2 ⟨rfl, rfl⟩)
    | (go_at_call 27; refine (flowSend_any m A len cap L (2 * a + 1) (2 * b) _ (by exact HX0.out.arcs) HG.out ha hb (by omega)).mono ?_; rintro e w3 ⟨gS, f, v, rfl, hrow, hfl, hn, hgs, hB⟩))
  all_goals
    exact TAIL.out gS f v w3 hrow hfl hn hgs ((Below.refl _ _).drew.trans hB)
end Go.Proofs.YtmelemjngnadpaaDoor
