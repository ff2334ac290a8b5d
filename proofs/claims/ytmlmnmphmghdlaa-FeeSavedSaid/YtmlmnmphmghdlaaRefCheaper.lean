/- The reference's Cheaper: by detours, is there a ring of steps that costs less than nothing? Conditions: a net without fault, and for each arc a number. -/
import Derived.Test.YtmlmnmphmghdlaaCheaperP
import Derived.Test.YtmlmnmphmghdlaaMatQ
import Derived.Test.YtmlmnmphmghdlaaRefFlows
import Derived.IntWalk
import Derived.Deep.QuietTactic
import Derived.BigQuiet
import Derived.BigRegion
namespace Go.Proofs.Ytmlmnmphmghdlaa
open Go.RowKit

def FeeB (es : List A4) : Prop := ∀ a ∈ es, -1048576 ≤ a.2.2.2 ∧ a.2.2.2 ≤ 1048576
theorem fee_of_netF {n : Int} {es : List A4} (h : netF n es = 0) : FeeB es := by
  unfold netF at h
  split at h
  · omega
  · intro a ha
    have := arcErr_zero (scanA_all h a ha)
    omega
theorem feeP_at {es : List A4} {k : Nat} {a : A4} (h : es[k]? = some a) : feeP es k = a.2.2.2 := by unfold feeP; rw [List.getD_eq_getElem?_getD, h]; rfl
theorem feeP_abs {es : List A4} (h : FeeB es) (k : Nat) : -1048576 ≤ feeP es k ∧ feeP es k ≤ 1048576 := by
  cases hk : es[k]? with
  | none =>
    have e : es.getD k default = default := by rw [List.getD_eq_getElem?_getD, hk]; rfl
    unfold feeP
    rw [e]; exact ⟨by decide, by decide⟩
  | some a => rw [feeP_at hk]; exact h a (List.mem_of_getElem? hk)
set_option maxRecDepth 100000 in
theorem infoI64 : (Try.prog.info? 2).map (fun i => (i.zero, i.size, i.bytes)) = some (some (.int .i64 0), 1, 8) := by kernel_rfl
/-- A cell of a row of one's own. -/
theorem own_put {w : World} {base n g cap i : Nat} {t : TypeId} {xs : List Value} (h : w.ownsRow base t 1 (.slice (some ⟨g, 0, none⟩) n cap) n xs) (_hi : i < n) (y : Value) : (w.setCell ⟨g, i, none⟩ y).ownsRow base t 1 (.slice (some ⟨g, 0, none⟩) n cap) n (xs.set i y) := by
  refine ⟨by rw [List.length_set]; exact h.1, .inr ?_⟩
  rcases h.2 with ⟨h0, _⟩ | ⟨g', cap', cur, hv, hb, hg, h1, h2, h3, h4⟩
  · cases h0
  · injection hv with e1 _ e2
    injection e1 with e1
    injection e1 with e1
    subst e1 e2
    refine ⟨g, cap, cur.setIfInBounds i y, rfl, hb, ?_, h1, h2, by rw [Array.size_setIfInBounds]; exact h3, ?_⟩
    · simp [World.setCell, Array.getElem?_modify, hg]
    · rw [← h4, Array.toList_setIfInBounds, List.take_set]
theorem row_pushQ (k : Nat) (x : Int) : (List.range (k + 1)).map (fun _ => Value.int .i64 x) = (List.range k).map (fun _ => Value.int .i64 x) ++ [.int .i64 x] := by
  rw [List.range_succ, List.map_append]; rfl
theorem row_diag {n i : Nat} (hi : i < n) : ((List.range n).map fun _ => Value.int .i64 farQ).set i (.int .i64 0) = (List.range n).map fun j => .int .i64 (encQ (diagQ n i j)) := by
  apply List.ext_getElem
  · simp
  · intro j h1 h2
    simp only [List.length_map, List.length_range] at h2
    rw [List.getElem_set]
    simp only [List.getElem_map, List.getElem_range, diagQ]
    by_cases e : i = j
    · subst e; rw [if_pos rfl, if_pos ⟨rfl, hi⟩]; rfl
    · rw [if_neg e, if_neg (fun h => e h.1)]; rfl
/-- Under way: the matrix, and what lay there. -/
structure CheW (w : World) (m : Nat) (A : Option Addr) (len cap : Nat) (v : Value) (i : Nat) (bs cs : Nat → Nat) (f : Nat → Nat → Int) (wr : World) : Prop where
  rows : RowsQ wr (w.heap.size + 1) m i v bs cs f
  box : Below (w.heap.size + 1) (bxN w m A len cap) wr
theorem CheW.drewN {w : World} {m : Nat} {A : Option Addr} {len cap : Nat} {v : Value} {i : Nat} {bs cs : Nat → Nat} {f : Nat → Nat → Int} {wr : World} (h : CheW w m A len cap v i bs cs f wr) (q : Nat) : CheW w m A len cap v i bs cs f (wr.drewN q) := ⟨h.rows.drewN q, below_drewN h.box q⟩
theorem CheW.later {w : World} {m : Nat} {A : Option Addr} {len cap : Nat} {v : Value} {i : Nat} {bs cs : Nat → Nat} {f : Nat → Nat → Int} {wr W : World} (h : CheW w m A len cap v i bs cs f wr) (hb : Below wr.heap.size wr W) : CheW w m A len cap v i bs cs f W :=
  ⟨h.rows.keep hb, h.box.trans (hb.mono (by have := h.box.size; simp [bxN] at this; omega))⟩
theorem CheW.put {w : World} {m : Nat} {A : Option Addr} {len cap : Nat} {v : Value} {i : Nat} {bs cs : Nat → Nat} {f f' : Nat → Nat → Int} {wr : World} (h : CheW w m A len cap v i bs cs f wr) {a b : Nat} (ha : a < i) (hb : b < m) {x : Int}
    (hf : ∀ p q, p < i → q < m → f' p q = if p = a ∧ q = b then x else f p q) : CheW w m A len cap v i bs cs f' (wr.setCell ⟨bs a, b, none⟩ (.int .i64 x)) := by
  refine ⟨(h.rows.set_ ha hb x).congr fun p q hp hq => ?_, h.box.setCell (p := ⟨bs a, b, none⟩) (h.rows.row a ha).1 _⟩
  rw [hf p q hp hq]
  rfl
theorem CheW.lt {w : World} {m : Nat} {A : Option Addr} {len cap : Nat} {v : Value} {i : Nat} {bs cs : Nat → Nat} {f : Nat → Nat → Int} {wr : World} (h : CheW w m A len cap v i bs cs f wr) : w.heap.size < wr.heap.size := by have := h.box.size; simp [bxN] at this; omega
theorem CheW.boxN {w : World} {m : Nat} {A : Option Addr} {len cap : Nat} {v : Value} {i : Nat} {bs cs : Nat → Nat} {f : Nat → Nat → Int} {wr : World} {es : List A4} (h : CheW w m A len cap v i bs cs f wr) (hE : ArcsAt w w.heap.size A len es) : BoxN w m A len cap es wr := by
  have hb : Below w.heap.size w wr := ((Below.refl _ w).alloc (Nat.le_refl _) _).trans (h.box.mono (Nat.le_succ _))
  exact ⟨hE.go_ hb, hb, h.box.mono (by simp [bxN])⟩
theorem fwR_small {E : Nat → Nat → Option Int} (hB : ∀ i j c, E i j = some c → -1048576 ≤ c ∧ c ≤ 1048576) {k : Nat} (hk : k ≤ 10) {i j : Nat} {c : Int} (h : fwR E k i j = some c) : -1073741824 ≤ c ∧ c ≤ 1073741824 := by
  have h4 : 2 ^ k ≤ 2 ^ 10 := Nat.pow_le_pow_right (by decide) hk
  have h5 : ((2 ^ k : Nat) : Int) ≤ 1024 := by omega
  have h6 : (2 : Int) ^ k ≤ 1024 := by simpa using h5
  have h7 : (1048576 : Int) * 2 ^ k ≤ 1073741824 := by omega
  have := fwR_abs hB (by omega) k i j c h
  omega
theorem CheW.congr {w : World} {m : Nat} {A : Option Addr} {len cap : Nat} {v : Value} {i : Nat} {bs cs : Nat → Nat} {f f' : Nat → Nat → Int} {wr : World} (h : CheW w m A len cap v i bs cs f wr) (he : ∀ p q, p < i → q < m → f p q = f' p q) : CheW w m A len cap v i bs cs f' wr := ⟨h.rows.congr he, h.box⟩
def lowQ_on (D : Nat → Nat → Option Int) (a b : Nat) (c : Int) (on : Bool) : Prop := on = true ∧ c < encQ (D a b)
theorem lowQ_put {D : Nat → Nat → Option Int} {a b : Nat} {c : Int} {on : Bool} (h1 : on = true) (h2 : c < encQ (D a b)) (p q : Nat) : encQ (lowQ D a b c on p q) = if p = a ∧ q = b then c else encQ (D p q) := by
  unfold lowQ
  rw [if_pos ⟨h1, h2⟩]
  unfold putQ
  split <;> rfl
theorem lowQ_not {D : Nat → Nat → Option Int} {a b : Nat} {c : Int} {on : Bool} (h : ¬ (on = true ∧ c < encQ (D a b))) : lowQ D a b c on = D := by unfold lowQ; rw [if_neg h]

set_option maxRecDepth 100000 in
set_option maxHeartbeats 16000000 in
theorem cheaper_v (m : Nat) (A : Option Addr) (len cap : Nat) (es : List A4) (A2 : Option Addr) (l2 cap2 : Nat) (xs : List Int) (b : Bool) (w : World) (hE : ArcsAt w w.heap.size A len es) (hI : IntsAt w w.heap.size A2 l2 xs) (hl2 : l2 = len)
    (hG : GoodN (m : Int) es) (hFB : FeeB es) (hb : b = true ↔ ¬ NoNeg (StepC (netP (m : Int) es) (feeP es) (goesF xs))) :
    Calls Try.prog 12 #[.agg #[.int .i64 m, .slice A len cap], .slice A2 l2 cap2] w fun e w' => e = .returned (.bool b) ∧ Below w.heap.size w w' := by
  subst hl2
  obtain ⟨N, hN⟩ : ∃ N, N = netP (m : Int) es := ⟨_, rfl⟩
  have hNn : N.n = m := by rw [hN]; simp [netP]
  have hNK : N.K = l2 := by rw [hN]; exact hE.1
  have hok : N.ok := by rw [hN]; exact netP_ok hG.big
  rw [← hN] at hb
  obtain ⟨f, hf⟩ : ∃ f, f = goesF xs := ⟨_, rfl⟩
  rw [← hf] at hb
  obtain ⟨fee, hfee⟩ : ∃ fee, fee = feeP es := ⟨_, rfl⟩
  rw [← hfee] at hb
  have hfa : ∀ k, -1048576 ≤ fee k ∧ fee k ≤ 1048576 := fun k => by rw [hfee]; exact feeP_abs hFB k
  obtain ⟨E, hEE⟩ : ∃ E, E = startQ N fee f N.K := ⟨_, rfl⟩
  have hE1 : ∀ i j c, E i j = some c → (i = j ∧ c = 0) ∨ StepC N fee f i j c := fun i j c h => startQ_some N.K (Nat.le_refl _) (by rw [← hEE]; exact h)
  have hA : ∀ i j c, StepC N fee f i j c → i < m ∧ j < m := fun i j c ⟨k, hk, hh⟩ => by
    obtain ⟨a1, a2, _⟩ := hok k hk
    omega
  have hout : ∀ l i, m ≤ i → ∀ j, fwR E l i j = none := fun l i hi => by
    have h := startQ_out (N := N) (fee := fee) (f := f) (fun k hk => ⟨(hok k hk).1, (hok k hk).2.1⟩) (i := i) (by omega)
    rw [← hEE] at h
    exact fwR_out h l
  have hdiag : ∀ i z, E i i = some z → 0 ≤ z := fun i z h => by
    rw [hEE, startQ_diag (fun k hk => (hok k hk).2.2.1) N.K (Nat.le_refl _)] at h
    unfold diagQ at h
    split at h
    · injection h with h; omega
    · cases h
  have hEB : ∀ i j c, E i j = some c → -1048576 ≤ c ∧ c ≤ 1048576 := fun i j c h => by
    rcases hE1 i j c h with ⟨_, rfl⟩ | ⟨k, _, ⟨_, _, _, rfl⟩ | ⟨_, _, _, rfl⟩⟩
    · omega
    · exact hfa k
    · have := hfa k; omega
  have HIFF := Lib.hid (cheaper_iff (A := StepC N fee f) (E := E) (n := m) hA hE1 (fun i j c h => by rw [hEE]; exact startQ_all (fun k _ => hfa k) h) hdiag (fun l i z hi h => by rw [hout l i hi] at h; cases h))
  have HB := Lib.hid hb
  have HOUT := Lib.hid hout
  have HDIAG := Lib.hid hdiag
  have HEB := Lib.hid hEB
  have HFA := Lib.hid hfa
  have HN := Lib.hid hN
  have HFF := Lib.hid (And.intro hf hfee)
  have HEE := Lib.hid hEE
  have HNN := Lib.hid (And.intro hNn hNK)
  have HOK := Lib.hid hok
  have HARC := Lib.hid hE
  have HINT := Lib.hid hI
  have HG := Lib.hid hG
  have hm10 : m ≤ 10 := by have := hG.n1; omega
  have hl30 : l2 ≤ 30 := by have := hG.len; have := hE.1; omega
  have HX0 : Hid (BoxN w m A l2 cap es (bxN w m A l2 cap)) := Lib.hid (BoxN.start hE)
  obtain ⟨i0, hi, hz0, hz1, hz2⟩ := info_parts infoI64
  have HI := Lib.hid hi
  have HI0 := Lib.hid hz0
  have HI1 := Lib.hid hz1
  have HI2 := Lib.hid hz2
  clear hi hz0 hz1 hz2
  obtain ⟨i1, hi, hz0, hz1, hz2⟩ := info_parts infoI64s
  have HJ := Lib.hid hi
  have HJ0 := Lib.hid hz0
  have HJ1 := Lib.hid hz1
  have HJ2 := Lib.hid hz2
  clear hi hz0 hz1 hz2
  clear hb hN hf hfee hfa hEE hE1 hA hout hdiag hEB hNn hNK hok hE hI hG hFB
  have hfarq : farQ = 1152921504606846976 := rfl
  have HST : Hid (CheW w m A l2 cap (.slice none 0 0) 0 (fun _ => 0) (fun _ => 0) (fun i j => encQ (diagQ m i j)) (bxN w m A l2 cap)) := Lib.hid ⟨RowsQ.nil .., Below.refl _ _⟩
  unfold farQ at hfarq
  clear hfarq
  go_enter Try.func12, Try.ntmps12
  go_wp2
  go_loopw [5, 6] (fun v j wr => ∃ i : Nat, i ≤ m ∧ j = .int .i64 i ∧ Hid (∃ bs cs, CheW w m A l2 cap v i bs cs (fun i j => encQ (diagQ m i j)) wr)) (fun _ j _ => m - (intOf j).toNat)
  case atStart => exact ⟨0, Nat.zero_le _, rfl, Lib.hid ⟨_, _, HST.out⟩⟩
  case round =>
    clear HST
    obtain ⟨i, hi, rfl, HR⟩ := hrel
    obtain ⟨bs, cs, HC⟩ : ∃ bs cs, Hid (CheW w m A l2 cap u5 i bs cs (fun i j => encQ (diagQ m i j)) wr) := by
      obtain ⟨bs, cs, h⟩ := HR.out
      exact ⟨bs, cs, Lib.hid h⟩
    clear HR
    have HBX := Lib.hid (HC.out.boxN HARC.out)
    have k0 := HBX.out.k0
    have hwl := HC.out.lt
    by_cases hlt : i < m
    · obtain ⟨wo, rfl⟩ : ∃ wo : World, wo = wr := ⟨_, rfl⟩
      go_wp2
      clear k0
      go_loopw [7, 8] (fun r j wr => ∃ k : Nat, k ≤ m ∧ j = .int .i64 k ∧ Hid (wr.ownsRow wo.heap.size 2 1 r k ((List.range k).map fun _ => .int .i64 farQ)) ∧ Hid (Below wo.heap.size wo wr)) (fun _ j _ => m - (intOf j).toNat)
      case atStart => exact ⟨0, Nat.zero_le _, rfl, Lib.hid (World.ownsRow_nil ..), Lib.hid (Below.refl _ _)⟩
      case round =>
        obtain ⟨k, hk, rfl, HO, HBi⟩ := hrel
        have k0 : wr.cell? ⟨w.heap.size, 0, none⟩ = some (.int .i64 m) := by rw [HBi.out.cell (p := ⟨w.heap.size, 0, none⟩) hwl]; exact HBX.out.k0
        by_cases hkm : k < m
        · have HP := Lib.hid (row_pushQ k farQ)
          go_wp2_with (at_builtin; refine wpList_append_own _ rfl _ _ 25 rfl wo.heap.size 2 i0 (.int .i64 0) 1 8 Try.underlying25 HI.out HI0.out HI1.out HI2.out rfl (by decide) _ _ _ rfl (HO.out.alloc _) ⟨wr.heap.size, 0, none⟩ 1 1 [.int .i64 farQ] rfl rfl ?c1 ?c2 ?c3 ?c4 ?c5 ?_)
          try (case c1 => exact cell_one_new _ _ _)
          case c2 => simp [Value.oneCell']
          case c3 => unfold maxLen; omega
          case c4 => omega
          case c5 => have := HBi.out.size; simp; omega
          intro v' w3 hown' hgrow _
          have HO' : Hid (w3.ownsRow wo.heap.size 2 1 v' (k + 1) ((List.range (k + 1)).map fun _ => .int .i64 farQ)) := Lib.hid (by rw [HP.out]; exact hown')
          have HB3 : Hid (Below wo.heap.size wo w3) := Lib.hid ((HBi.out.alloc HBi.out.size _).grown hgrow (by have := HBi.out.size; simp; omega) (own_base HO.out))
          clear hown' hgrow
          go_wp2
          go_roundw
          case rel => exact ⟨k + 1, by omega, by go_num, HO', HB3⟩
          case measure => simp [intOf]; omega
        · obtain rfl : k = m := by omega
          obtain ⟨gr, capr, HU⟩ : ∃ gr capr, Hid (u7 = .slice (some ⟨gr, 0, none⟩) k capr) := by
            rcases HO.out.2 with ⟨_, h0⟩ | ⟨g, cap, cur, hv, _⟩
            · omega
            · exact ⟨g, cap, Lib.hid hv⟩
          obtain rfl := HU.out
          have HO2 := Lib.hid (own_put HO.out hlt (.int .i64 0))
          rw [row_diag hlt] at HO2
          have hgr : wo.heap.size ≤ gr := by
            rcases HO.out.2 with ⟨h0, _⟩ | ⟨g', cap', cur, hv, hb, _⟩
            · cases h0
            · injection hv with e1
              injection e1 with e1
              injection e1 with e1
              omega
          have HB2 : Hid (Below wo.heap.size wo (wr.setCell ⟨gr, i, none⟩ (.int .i64 0))) := Lib.hid (HBi.out.setCell (p := ⟨gr, i, none⟩) hgr _)
          obtain ⟨_, hrq⟩ := RowQ.of_own HO.out
          have kC := hrq.cell hlt
          have kF := hrq.frozen i
          have ii0 : (0 : Int) ≤ (i : Int) := by omega
          have ii1 : (i : Int) < (k : Int) := by omega
          clear hrq
          go_wp2_with (at_builtin; refine wpList_append_own _ rfl _ _ 51 rfl (w.heap.size + 1) 25 i1 (.slice none 0 0) 1 24 Try.underlying51 HJ.out HJ0.out HJ1.out HJ2.out rfl (by decide) _ _ _ rfl ((HC.out.rows.keep HB2.out).own.alloc _) ⟨wr.heap.size, 0, none⟩ 1 1 [.slice (some ⟨gr, 0, none⟩) k capr] rfl rfl ?f1 ?f2 ?f3 ?f4 ?f5 ?_)
          try (case f1 => exact cell_one_new _ _ _)
          case f2 => simp [Value.oneCell']
          case f3 => unfold maxLen; omega
          case f4 => omega
          case f5 => have h1 := HBi.out.size; simp; omega
          intro v' w3 hown' hgrow _
          have HN3 : Hid (∃ bs cs, CheW w k A l2 cap v' (i + 1) bs cs (fun i j => encQ (diagQ k i j)) w3) := Lib.hid (by
            refine ⟨_, _, HC.out.rows.next (HB2.out.alloc HB2.out.size _) (HO2.out.alloc _) (by omega) hgrow hown', ?_⟩
            exact ((HC.out.box.trans (HB2.out.mono (by omega))).alloc (by have h1 := HBi.out.size; simp; omega) _).grown hgrow (by have h1 := HBi.out.size; simp; omega) (own_base HC.out.rows.own))
          clear hown' hgrow
          go_wp2
          go_roundw
          case rel => exact ⟨i + 1, by omega, by go_num, HN3⟩
          case measure => simp [intOf]; omega
    · obtain rfl : i = m := by omega
      have k1 := HBX.out.k1
      have HC1 : Hid (CheW w i A l2 cap u5 i bs cs (fun p q => encQ (startQ N fee f 0 p q)) wr) := Lib.hid (by
        have h : diagQ i = startQ N fee f 0 := by show _ = diagQ N.n; rw [HNN.out.1]
        rw [← h]; exact HC.out)
      obtain ⟨vd, hvd⟩ : ∃ vd, vd = u5 := ⟨_, rfl⟩
      clear HC hlt hi hwl HBX
      obtain ⟨wo, rfl⟩ : ∃ wo : World, wo = wr := ⟨_, rfl⟩
      go_wp2
      rw [← hvd] at HC1 ⊢
      clear hvd k0 k1
      go_loopw [40] (fun j wr => ∃ k : Nat, k ≤ l2 ∧ j = .int .i64 k ∧ Hid (CheW w i A l2 cap vd i bs cs (fun p q => encQ (startQ N fee f k p q)) wr)) (fun j _ => l2 - (intOf j).toNat)
      case atStart => exact ⟨0, Nat.zero_le _, rfl, HC1⟩
      case round =>
        clear HC1
        obtain ⟨k, hk, rfl, HC⟩ := hrel
        have HBX := Lib.hid (HC.out.boxN HARC.out)
        by_cases hkl : k < l2
        · obtain ⟨bb, off, ⟨x0, x1, x2, x3⟩, rfl, hbb, hx, hc0, hc1, hc2, hc3⟩ := HBX.out.arcs.at_ hkl
          obtain ⟨e0, e1, e2, l0, l1, lne, b0, b1⟩ := netP_arc HG.out.big hx
          have e3 := feeP_at hx
          rw [← HN.out] at e0 e1 e2 l0 l1 lne b0 b1
          rw [← HFF.out.2] at e3
          rw [HNN.out.1] at l0 l1
          simp only at e0 e1 e2 e3 hc0 hc1 hc2 hc3
          obtain ⟨fa, fb⟩ := HFA.out k
          obtain ⟨bi, oi, z, rfl, hbi, hz, hcz0⟩ := HINT.out.at_ hkl
          have hcz : wr.cell? ⟨bi, oi + k, none⟩ = some (.int .i64 z) := (HBX.out.below.cell (p := ⟨bi, oi + k, none⟩) hbi).trans hcz0
          have HGO : Hid (∀ W, Below w.heap.size w W → W.cell? ⟨bi, oi + k, none⟩ = some (.int .i64 z)) := Lib.hid fun W h => (h.cell (p := ⟨bi, oi + k, none⟩) hbi).trans hcz0
          have hfz : f k = z := by rw [HFF.out.1]; unfold goesF; rw [List.getD_eq_getElem?_getD, hz]; rfl
          have HKEY : Hid (startQ N fee f (k + 1) = lowQ (lowQ (startQ N fee f k) (N.fr k) (N.to k) (fee k) (decide (f k < N.mo k))) (N.to k) (N.fr k) (-fee k) (decide (0 < f k))) := Lib.hid rfl
          obtain ⟨fr, hfr⟩ : ∃ fr, fr = N.fr k := ⟨_, rfl⟩
          obtain ⟨to, hto⟩ : ∃ to, to = N.to k := ⟨_, rfl⟩
          rw [← hfr] at e0 l0 lne HKEY
          rw [← hto] at e1 l1 lne HKEY
          rw [hfz] at HKEY
          rw [← e2] at HKEY
          rw [e3] at fa fb
          rw [e3] at HKEY
          rw [e0] at hc0
          rw [e1] at hc1
          obtain ⟨D, hD⟩ : ∃ D, D = startQ N fee f k := ⟨_, rfl⟩
          rw [← hD] at HKEY HC
          obtain ⟨g, capg, HV, HCG⟩ : ∃ g capg, Hid (vd = Value.slice (some ⟨g, 0, none⟩) i capg) ∧ Hid (w.heap.size + 1 ≤ g ∧ g < wr.heap.size) := by
            obtain ⟨g, capg, h1, h2, h3, _⟩ := HC.out.rows.top (by omega)
            exact ⟨g, capg, Lib.hid h1, Lib.hid ⟨h2, h3⟩⟩
          obtain rfl := HV.out
          clear HV hx hz hfz hfr hto hD e0 e1 e2 e3
          have if0 : (0 : Int) ≤ (fr : Int) := by omega
          have if1 : (fr : Int) < (i : Int) := by omega
          have it0 : (0 : Int) ≤ (to : Int) := by omega
          have it1 : (to : Int) < (i : Int) := by omega
          have ik0 : (0 : Int) ≤ (k : Int) := by omega
          have ik1 : (k : Int) < (l2 : Int) := by omega
          have HTOP : Hid (∀ f' W, RowsQ W (w.heap.size + 1) i i (.slice (some ⟨g, 0, none⟩) i capg) bs cs f' → ∀ x, x < i → W.cell? ⟨g, x, none⟩ = some (.slice (some ⟨bs x, 0, none⟩) i (cs x))) := Lib.hid fun f' W h => by
            obtain ⟨g', c', h1, _, _, h2⟩ := h.top (by omega)
            injection h1 with h1 _ h3
            injection h1 with h1
            injection h1 with h1
            subst h1 h3
            exact h2
          go_wp2
          clear hc0 hc1 hc2 hc3 hcz
          obtain ⟨W1, hW1⟩ : ∃ W1, W1 = wr.alloc (.cells #[.int .i64 fr, .int .i64 to, .int .i64 x2, .int .i64 x3] 31) := ⟨_, rfl⟩
          rw [← hW1]
          have hq1 : W1.heap[wr.heap.size]? = some (.cells #[.int .i64 fr, .int .i64 to, .int .i64 x2, .int .i64 x3] 31 (0, 0)) := by rw [hW1]; exact (MapKept.heap_alloc wr _).1
          have HM1 : Hid (CheW w i (some ⟨bb, off, none⟩) l2 cap (.slice (some ⟨g, 0, none⟩) i capg) i bs cs (fun p q => encQ (D p q)) W1) := Lib.hid (by rw [hW1]; exact HC.out.later ((Below.refl _ _).alloc (Nat.le_refl _) _))
          have HLT : Hid (∀ x, x < i → bs x < wr.heap.size) := Lib.hid fun x hx => (HC.out.rows.row x hx).2.lt
          have y0 : W1.cell? ⟨wr.heap.size, 0, none⟩ = some (.int .i64 fr) := by simp [World.cell?, hq1]
          have y1 : W1.cell? ⟨wr.heap.size, 1, none⟩ = some (.int .i64 to) := by simp [World.cell?, hq1]
          have y2 : W1.cell? ⟨wr.heap.size, 2, none⟩ = some (.int .i64 x2) := by simp [World.cell?, hq1]
          have y3 : W1.cell? ⟨wr.heap.size, 3, none⟩ = some (.int .i64 x3) := by simp [World.cell?, hq1]
          have hcz : W1.cell? ⟨bi, oi + k, none⟩ = some (.int .i64 z) := HGO.out _ (HM1.out.boxN HARC.out).below
          have g0 := HTOP.out _ _ HM1.out.rows fr l0
          have c0 := HM1.out.rows.cell l0 l1
          have f0 := (HM1.out.rows.row fr l0).2.frozen to
          have HQ1 := Lib.hid hq1
          have HOUT1 : Hid ((z < x2 ∧ x3 < encQ (D fr to) ∧ ∀ q, CheW w i (some ⟨bb, off, none⟩) l2 cap (.slice (some ⟨g, 0, none⟩) i capg) i bs cs (fun p q => encQ (lowQ D fr to x3 (decide (z < x2)) p q)) ((W1.drewN q).setCell ⟨bs fr, to, none⟩ (.int .i64 x3))) ∨ (¬ (z < x2 ∧ x3 < encQ (D fr to)) ∧ lowQ D fr to x3 (decide (z < x2)) = D)) := Lib.hid (by
            by_cases h : z < x2 ∧ x3 < encQ (D fr to)
            · exact .inl ⟨h.1, h.2, fun q => (HM1.out.drewN q).put l0 l1 fun p q _ _ => lowQ_put (decide_eq_true h.1) h.2 p q⟩
            · exact .inr ⟨h, lowQ_not fun h2 => h ⟨of_decide_eq_true h2.1, h2.2⟩⟩)
          obtain ⟨D1, hD1⟩ : ∃ D1, D1 = lowQ D fr to x3 (decide (z < x2)) := ⟨_, rfl⟩
          rw [← hD1] at HKEY HOUT1
          clear hW1 hq1 hD1 HC
          have hne : ∀ x, x < i → wr.heap.size ≠ bs x := fun x hx => by have := HLT.out x hx; omega
          have HNE := Lib.hid hne
          clear hne
          generalize encQ (D fr to) = d0 at c0 HOUT1
          have HX3 := Lib.hid (And.intro fa fb)
          have tri : (z < x2 ∧ x3 < d0) ∨ (z < x2 ∧ ¬ x3 < d0) ∨ ¬ z < x2 := by omega
          have HD1 : Hid (¬ (z < x2 ∧ x3 < d0) → D1 = D) := Lib.hid fun h => by
            rcases HOUT1.out with h2 | h2
            · exact absurd ⟨h2.1, h2.2.1⟩ h
            · exact h2.2
          rcases tri with ⟨hA1, hA2⟩ | ⟨hA1, hA2⟩ | hA1
          · go_wp2
            go_quiet (fail)
            go_wp2
            go_region
            generalize hW2 : World.setCell _ _ _ = W2
            have HM2 : Hid (CheW w i (some ⟨bb, off, none⟩) l2 cap (.slice (some ⟨g, 0, none⟩) i capg) i bs cs (fun p q => encQ (D1 p q)) W2) := Lib.hid (by
              rcases HOUT1.out with h | h
              · rw [← hW2]; exact h.2.2 _
              · exact absurd ⟨hA1, hA2⟩ h.1)
            have HQ2 : Hid (W2.heap[wr.heap.size]? = some (.cells #[.int .i64 fr, .int .i64 to, .int .i64 x2, .int .i64 x3] 31 (0, 0))) := Lib.hid (by
              rw [← hW2]; exact (Below.heap_setCell _ _ _ _ (HNE.out fr l0)).trans HQ1.out)
            clear hW2 hA1 hA2 HOUT1 HD1 y0 y1 y2 y3 hcz g0 c0 f0
            have y0 : W2.cell? ⟨wr.heap.size, 0, none⟩ = some (.int .i64 fr) := by simp [World.cell?, HQ2.out]
            have y1 : W2.cell? ⟨wr.heap.size, 1, none⟩ = some (.int .i64 to) := by simp [World.cell?, HQ2.out]
            have y3 : W2.cell? ⟨wr.heap.size, 3, none⟩ = some (.int .i64 x3) := by simp [World.cell?, HQ2.out]
            have hcz : W2.cell? ⟨bi, oi + k, none⟩ = some (.int .i64 z) := HGO.out _ (HM2.out.boxN HARC.out).below
            have g0 := HTOP.out _ _ HM2.out.rows to l1
            have c0 := HM2.out.rows.cell l1 l0
            have f0 := (HM2.out.rows.row to l1).2.frozen fr
            have HOUT2 : Hid ((0 < z ∧ -x3 < encQ (D1 to fr) ∧ ∀ q, CheW w i (some ⟨bb, off, none⟩) l2 cap (.slice (some ⟨g, 0, none⟩) i capg) i bs cs (fun p q => encQ (startQ N fee f (k + 1) p q)) ((W2.drewN q).setCell ⟨bs to, fr, none⟩ (.int .i64 (-x3)))) ∨ (¬ (0 < z ∧ -x3 < encQ (D1 to fr)) ∧ ∀ q, CheW w i (some ⟨bb, off, none⟩) l2 cap (.slice (some ⟨g, 0, none⟩) i capg) i bs cs (fun p q => encQ (startQ N fee f (k + 1) p q)) (W2.drewN q))) := Lib.hid (by
              rw [HKEY.out]
              by_cases h : 0 < z ∧ -x3 < encQ (D1 to fr)
              · exact .inl ⟨h.1, h.2, fun q => (HM2.out.drewN q).put l1 l0 fun p q _ _ => lowQ_put (decide_eq_true h.1) h.2 p q⟩
              · exact .inr ⟨h, fun q => by rw [lowQ_not fun h2 => h ⟨of_decide_eq_true h2.1, h2.2⟩]; exact HM2.out.drewN q⟩)
            generalize encQ (D1 to fr) = d1 at c0 HOUT2
            have HIN : Hid ((0 < z ∧ -x3 < d1) → ∀ q, CheW w i (some ⟨bb, off, none⟩) l2 cap (.slice (some ⟨g, 0, none⟩) i capg) i bs cs (fun p q => encQ (startQ N fee f (k + 1) p q)) ((W2.drewN q).setCell ⟨bs to, fr, none⟩ (.int .i64 (-x3)))) := Lib.hid fun h => by
              rcases HOUT2.out with h2 | h2
              · exact h2.2.2
              · exact absurd h h2.1
            have HNO : Hid (¬ (0 < z ∧ -x3 < d1) → ∀ q, CheW w i (some ⟨bb, off, none⟩) l2 cap (.slice (some ⟨g, 0, none⟩) i capg) i bs cs (fun p q => encQ (startQ N fee f (k + 1) p q)) (W2.drewN q)) := Lib.hid fun h => by
              rcases HOUT2.out with h2 | h2
              · exact absurd ⟨h2.1, h2.2.1⟩ h
              · exact h2.2
            clear HOUT2 HM2
            have tri : (0 < z ∧ -x3 < d1) ∨ (0 < z ∧ ¬ -x3 < d1) ∨ ¬ 0 < z := by omega
            rcases tri with ⟨hA1, hA2⟩ | ⟨hA1, hA2⟩ | hA1
            · have HN2 := Lib.hid (HIN.out ⟨hA1, hA2⟩)
              go_wp2
              go_quiet (fail)
              go_wp2
              go_region
              go_wp2
              go_roundw
              case rel => exact ⟨k + 1, by omega, by go_num, Lib.hid (HN2.out _)⟩
              case measure => simp [intOf]; omega
            · have hA2b : decide (-x3 < d1) = false := decide_eq_false hA2
              have HN2 := Lib.hid (HNO.out fun h => hA2 h.2)
              clear hA2
              go_wp2
              go_quiet (fail)
              go_wp2
              go_roundw
              case rel => exact ⟨k + 1, by omega, by go_num, Lib.hid (HN2.out _)⟩
              case measure => simp [intOf]; omega
            · have hA1b : decide (0 < z) = false := decide_eq_false hA1
              have HN2 := Lib.hid (HNO.out fun h => hA1 h.1)
              clear hA1
              go_wp2
              go_quiet (fail)
              go_wp2
              go_roundw
              case rel => exact ⟨k + 1, by omega, by go_num, Lib.hid (HN2.out _)⟩
              case measure => simp [intOf]; omega
          · have hA2b : decide (x3 < d0) = false := decide_eq_false hA2
            have HDD := Lib.hid (HD1.out fun h => hA2 h.2)
            clear hA2
            go_wp2
            go_quiet (fail)
            generalize hW2 : World.drewN _ _ = W2
            have HM2 : Hid (CheW w i (some ⟨bb, off, none⟩) l2 cap (.slice (some ⟨g, 0, none⟩) i capg) i bs cs (fun p q => encQ (D1 p q)) W2) := Lib.hid (by rw [← hW2, HDD.out]; exact HM1.out.drewN _)
            have HQ2 : Hid (W2.heap[wr.heap.size]? = some (.cells #[.int .i64 fr, .int .i64 to, .int .i64 x2, .int .i64 x3] 31 (0, 0))) := Lib.hid (by rw [← hW2]; exact HQ1.out)
            clear hW2 hA1 hA2b HOUT1 HD1 HDD y0 y1 y2 y3 hcz g0 c0 f0
            have y0 : W2.cell? ⟨wr.heap.size, 0, none⟩ = some (.int .i64 fr) := by simp [World.cell?, HQ2.out]
            have y1 : W2.cell? ⟨wr.heap.size, 1, none⟩ = some (.int .i64 to) := by simp [World.cell?, HQ2.out]
            have y3 : W2.cell? ⟨wr.heap.size, 3, none⟩ = some (.int .i64 x3) := by simp [World.cell?, HQ2.out]
            have hcz : W2.cell? ⟨bi, oi + k, none⟩ = some (.int .i64 z) := HGO.out _ (HM2.out.boxN HARC.out).below
            have g0 := HTOP.out _ _ HM2.out.rows to l1
            have c0 := HM2.out.rows.cell l1 l0
            have f0 := (HM2.out.rows.row to l1).2.frozen fr
            have HOUT2 : Hid ((0 < z ∧ -x3 < encQ (D1 to fr) ∧ ∀ q, CheW w i (some ⟨bb, off, none⟩) l2 cap (.slice (some ⟨g, 0, none⟩) i capg) i bs cs (fun p q => encQ (startQ N fee f (k + 1) p q)) ((W2.drewN q).setCell ⟨bs to, fr, none⟩ (.int .i64 (-x3)))) ∨ (¬ (0 < z ∧ -x3 < encQ (D1 to fr)) ∧ ∀ q, CheW w i (some ⟨bb, off, none⟩) l2 cap (.slice (some ⟨g, 0, none⟩) i capg) i bs cs (fun p q => encQ (startQ N fee f (k + 1) p q)) (W2.drewN q))) := Lib.hid (by
              rw [HKEY.out]
              by_cases h : 0 < z ∧ -x3 < encQ (D1 to fr)
              · exact .inl ⟨h.1, h.2, fun q => (HM2.out.drewN q).put l1 l0 fun p q _ _ => lowQ_put (decide_eq_true h.1) h.2 p q⟩
              · exact .inr ⟨h, fun q => by rw [lowQ_not fun h2 => h ⟨of_decide_eq_true h2.1, h2.2⟩]; exact HM2.out.drewN q⟩)
            generalize encQ (D1 to fr) = d1 at c0 HOUT2
            have HIN : Hid ((0 < z ∧ -x3 < d1) → ∀ q, CheW w i (some ⟨bb, off, none⟩) l2 cap (.slice (some ⟨g, 0, none⟩) i capg) i bs cs (fun p q => encQ (startQ N fee f (k + 1) p q)) ((W2.drewN q).setCell ⟨bs to, fr, none⟩ (.int .i64 (-x3)))) := Lib.hid fun h => by
              rcases HOUT2.out with h2 | h2
              · exact h2.2.2
              · exact absurd h h2.1
            have HNO : Hid (¬ (0 < z ∧ -x3 < d1) → ∀ q, CheW w i (some ⟨bb, off, none⟩) l2 cap (.slice (some ⟨g, 0, none⟩) i capg) i bs cs (fun p q => encQ (startQ N fee f (k + 1) p q)) (W2.drewN q)) := Lib.hid fun h => by
              rcases HOUT2.out with h2 | h2
              · exact absurd ⟨h2.1, h2.2.1⟩ h
              · exact h2.2
            clear HOUT2 HM2
            have tri : (0 < z ∧ -x3 < d1) ∨ (0 < z ∧ ¬ -x3 < d1) ∨ ¬ 0 < z := by omega
            rcases tri with ⟨hA1, hA2⟩ | ⟨hA1, hA2⟩ | hA1
            · have HN2 := Lib.hid (HIN.out ⟨hA1, hA2⟩)
              go_wp2
              go_quiet (fail)
              go_wp2
              go_region
              go_wp2
              go_roundw
              case rel => exact ⟨k + 1, by omega, by go_num, Lib.hid (HN2.out _)⟩
              case measure => simp [intOf]; omega
            · have hA2b : decide (-x3 < d1) = false := decide_eq_false hA2
              have HN2 := Lib.hid (HNO.out fun h => hA2 h.2)
              clear hA2
              go_wp2
              go_quiet (fail)
              go_wp2
              go_roundw
              case rel => exact ⟨k + 1, by omega, by go_num, Lib.hid (HN2.out _)⟩
              case measure => simp [intOf]; omega
            · have hA1b : decide (0 < z) = false := decide_eq_false hA1
              have HN2 := Lib.hid (HNO.out fun h => hA1 h.1)
              clear hA1
              go_wp2
              go_quiet (fail)
              go_wp2
              go_roundw
              case rel => exact ⟨k + 1, by omega, by go_num, Lib.hid (HN2.out _)⟩
              case measure => simp [intOf]; omega
          · have hA1b : decide (z < x2) = false := decide_eq_false hA1
            have HDD := Lib.hid (HD1.out fun h => hA1 h.1)
            clear hA1
            go_wp2
            go_quiet (fail)
            generalize hW2 : World.drewN _ _ = W2
            have HM2 : Hid (CheW w i (some ⟨bb, off, none⟩) l2 cap (.slice (some ⟨g, 0, none⟩) i capg) i bs cs (fun p q => encQ (D1 p q)) W2) := Lib.hid (by rw [← hW2, HDD.out]; exact HM1.out.drewN _)
            have HQ2 : Hid (W2.heap[wr.heap.size]? = some (.cells #[.int .i64 fr, .int .i64 to, .int .i64 x2, .int .i64 x3] 31 (0, 0))) := Lib.hid (by rw [← hW2]; exact HQ1.out)
            clear hW2 hA1b HOUT1 HD1 HDD y0 y1 y2 y3 hcz g0 c0 f0
            have y0 : W2.cell? ⟨wr.heap.size, 0, none⟩ = some (.int .i64 fr) := by simp [World.cell?, HQ2.out]
            have y1 : W2.cell? ⟨wr.heap.size, 1, none⟩ = some (.int .i64 to) := by simp [World.cell?, HQ2.out]
            have y3 : W2.cell? ⟨wr.heap.size, 3, none⟩ = some (.int .i64 x3) := by simp [World.cell?, HQ2.out]
            have hcz : W2.cell? ⟨bi, oi + k, none⟩ = some (.int .i64 z) := HGO.out _ (HM2.out.boxN HARC.out).below
            have g0 := HTOP.out _ _ HM2.out.rows to l1
            have c0 := HM2.out.rows.cell l1 l0
            have f0 := (HM2.out.rows.row to l1).2.frozen fr
            have HOUT2 : Hid ((0 < z ∧ -x3 < encQ (D1 to fr) ∧ ∀ q, CheW w i (some ⟨bb, off, none⟩) l2 cap (.slice (some ⟨g, 0, none⟩) i capg) i bs cs (fun p q => encQ (startQ N fee f (k + 1) p q)) ((W2.drewN q).setCell ⟨bs to, fr, none⟩ (.int .i64 (-x3)))) ∨ (¬ (0 < z ∧ -x3 < encQ (D1 to fr)) ∧ ∀ q, CheW w i (some ⟨bb, off, none⟩) l2 cap (.slice (some ⟨g, 0, none⟩) i capg) i bs cs (fun p q => encQ (startQ N fee f (k + 1) p q)) (W2.drewN q))) := Lib.hid (by
              rw [HKEY.out]
              by_cases h : 0 < z ∧ -x3 < encQ (D1 to fr)
              · exact .inl ⟨h.1, h.2, fun q => (HM2.out.drewN q).put l1 l0 fun p q _ _ => lowQ_put (decide_eq_true h.1) h.2 p q⟩
              · exact .inr ⟨h, fun q => by rw [lowQ_not fun h2 => h ⟨of_decide_eq_true h2.1, h2.2⟩]; exact HM2.out.drewN q⟩)
            generalize encQ (D1 to fr) = d1 at c0 HOUT2
            have HIN : Hid ((0 < z ∧ -x3 < d1) → ∀ q, CheW w i (some ⟨bb, off, none⟩) l2 cap (.slice (some ⟨g, 0, none⟩) i capg) i bs cs (fun p q => encQ (startQ N fee f (k + 1) p q)) ((W2.drewN q).setCell ⟨bs to, fr, none⟩ (.int .i64 (-x3)))) := Lib.hid fun h => by
              rcases HOUT2.out with h2 | h2
              · exact h2.2.2
              · exact absurd h h2.1
            have HNO : Hid (¬ (0 < z ∧ -x3 < d1) → ∀ q, CheW w i (some ⟨bb, off, none⟩) l2 cap (.slice (some ⟨g, 0, none⟩) i capg) i bs cs (fun p q => encQ (startQ N fee f (k + 1) p q)) (W2.drewN q)) := Lib.hid fun h => by
              rcases HOUT2.out with h2 | h2
              · exact absurd ⟨h2.1, h2.2.1⟩ h
              · exact h2.2
            clear HOUT2 HM2
            have tri : (0 < z ∧ -x3 < d1) ∨ (0 < z ∧ ¬ -x3 < d1) ∨ ¬ 0 < z := by omega
            rcases tri with ⟨hA1, hA2⟩ | ⟨hA1, hA2⟩ | hA1
            · have HN2 := Lib.hid (HIN.out ⟨hA1, hA2⟩)
              go_wp2
              go_quiet (fail)
              go_wp2
              go_region
              go_wp2
              go_roundw
              case rel => exact ⟨k + 1, by omega, by go_num, Lib.hid (HN2.out _)⟩
              case measure => simp [intOf]; omega
            · have hA2b : decide (-x3 < d1) = false := decide_eq_false hA2
              have HN2 := Lib.hid (HNO.out fun h => hA2 h.2)
              clear hA2
              go_wp2
              go_quiet (fail)
              go_wp2
              go_roundw
              case rel => exact ⟨k + 1, by omega, by go_num, Lib.hid (HN2.out _)⟩
              case measure => simp [intOf]; omega
            · have hA1b : decide (0 < z) = false := decide_eq_false hA1
              have HN2 := Lib.hid (HNO.out fun h => hA1 h.1)
              clear hA1
              go_wp2
              go_quiet (fail)
              go_wp2
              go_roundw
              case rel => exact ⟨k + 1, by omega, by go_num, Lib.hid (HN2.out _)⟩
              case measure => simp [intOf]; omega
        · obtain rfl : k = l2 := by omega
          have HC0 : Hid (CheW w i A k cap vd i bs cs (fun p q => numQ E 0 0 0 p q) wr) := Lib.hid (HC.out.congr fun p q _ _ => by rw [numQ_zero]; show _ = encQ (E p q); rw [HEE.out, HNN.out.2])
          have k0 := HBX.out.k0
          have HD0 : Hid (∀ l, l ≤ 0 → ∀ x z, fwR E l x x = some z → 0 ≤ z) := Lib.hid fun l hl x z h => by
            obtain rfl : l = 0 := by omega
            exact HDIAG.out x z h
          clear HC hkl hk HBX
          go_wp2
          clear k0
          go_loopw [11] (fun j wr => ∃ q : Nat, q ≤ i ∧ j = .int .i64 q ∧ Hid (CheW w i A k cap vd i bs cs (fun x y => numQ E q 0 0 x y) wr) ∧ Hid (∀ l, l ≤ q → ∀ x z, fwR E l x x = some z → 0 ≤ z)) (fun j _ => i - (intOf j).toNat)
          case atStart => exact ⟨0, Nat.zero_le _, rfl, HC0, HD0⟩
          case round =>
            clear HC0 HD0
            obtain ⟨q, hq, rfl, HC, HD⟩ := hrel
            have k0 := (HC.out.boxN HARC.out).k0
            by_cases hqi : q < i
            · obtain ⟨g, capg, HV⟩ : ∃ g capg, Hid (vd = Value.slice (some ⟨g, 0, none⟩) i capg) := by
                obtain ⟨g, capg, h1, _⟩ := HC.out.rows.top (by omega)
                exact ⟨g, capg, Lib.hid h1⟩
              obtain rfl := HV.out
              clear HV
              have HTOP : Hid (∀ f' W, RowsQ W (w.heap.size + 1) i i (.slice (some ⟨g, 0, none⟩) i capg) bs cs f' → ∀ x, x < i → W.cell? ⟨g, x, none⟩ = some (.slice (some ⟨bs x, 0, none⟩) i (cs x))) := Lib.hid fun f' W h => by
                obtain ⟨g', c', h1, _, _, h2⟩ := h.top (by omega)
                injection h1 with h1 _ h3
                injection h1 with h1
                injection h1 with h1
                subst h1 h3
                exact h2
              have iq0 : (0 : Int) ≤ (q : Int) := by omega
              have iq1 : (q : Int) < (i : Int) := by omega
              have HSM : Hid (∀ x y c, fwR E q x y = some c → -1073741824 ≤ c ∧ c ≤ 1073741824) := Lib.hid fun x y c h => fwR_small HEB.out (by omega) h
              have HQQ : Hid (∀ z, fwR E q q q = some z → 0 ≤ z) := Lib.hid (HD.out q (Nat.le_refl _) q)
              go_wp2
              clear k0
              go_loopw [12] (fun j wr => ∃ a : Nat, a ≤ i ∧ j = .int .i64 a ∧ Hid (CheW w i A k cap (.slice (some ⟨g, 0, none⟩) i capg) i bs cs (fun x y => numQ E q a 0 x y) wr)) (fun j _ => i - (intOf j).toNat)
              case atStart => exact ⟨0, Nat.zero_le _, rfl, HC⟩
              case round =>
                clear HC
                obtain ⟨a, ha, rfl, HC⟩ := hrel
                have k0 := (HC.out.boxN HARC.out).k0
                by_cases hai : a < i
                · have ia0 : (0 : Int) ≤ (a : Int) := by omega
                  have ia1 : (a : Int) < (i : Int) := by omega
                  go_wp2
                  clear k0
                  go_loopw [13] (fun j wr => ∃ b : Nat, b ≤ i ∧ j = .int .i64 b ∧ Hid (CheW w i A k cap (.slice (some ⟨g, 0, none⟩) i capg) i bs cs (fun x y => numQ E q a b x y) wr)) (fun j _ => i - (intOf j).toNat)
                  case atStart => exact ⟨0, Nat.zero_le _, rfl, HC⟩
                  case round =>
                    clear HC
                    obtain ⟨c, hc, rfl, HC⟩ := hrel
                    have k0 := (HC.out.boxN HARC.out).k0
                    by_cases hci : c < i
                    · have ic0 : (0 : Int) ≤ (c : Int) := by omega
                      have ic1 : (c : Int) < (i : Int) := by omega
                      have ga := HTOP.out _ _ HC.out.rows a hai
                      have gq := HTOP.out _ _ HC.out.rows q hqi
                      have c0 := HC.out.rows.cell hai hqi
                      have c1 := HC.out.rows.cell hqi hci
                      have c2 := HC.out.rows.cell hai hci
                      have f2 := (HC.out.rows.row a hai).2.frozen c
                      have hp := numQ_abs (E := E) (k := q) (a := a) (b := c) (i := a) (j := q) HEB.out (by omega)
                      have ht := numQ_abs (E := E) (k := q) (a := a) (b := c) (i := q) (j := c) HEB.out (by omega)
                      have hr := numQ_abs (E := E) (k := q) (a := a) (b := c) (i := a) (j := c) HEB.out (by omega)
                      have HNX := Lib.hid (fun x y => numQ_next (E := E) (k := q) (a := a) (b := c) (i := x) (j := y) HSM.out HQQ.out)
                      have HNS := Lib.hid (fun x y => numQ_stay (E := E) (k := q) (a := a) (b := c) (i := x) (j := y) HSM.out HQQ.out)
                      have hfar : farQ = 1152921504606846976 := rfl
                      have HFR := Lib.hid hfar
                      rw [hfar] at hp ht hr
                      clear hfar
                      have HC2 := Lib.hid HC.out
                      obtain ⟨F, hF⟩ : ∃ F : Nat → Nat → Int, F = fun x y => numQ E q a c x y := ⟨_, rfl⟩
                      have hpF : numQ E q a c a q = F a q := by rw [hF]
                      have htF : numQ E q a c q c = F q c := by rw [hF]
                      have hrF : numQ E q a c a c = F a c := by rw [hF]
                      have HFF2 := Lib.hid (And.intro hpF (And.intro htF hrF))
                      have HF3 := Lib.hid hF
                      simp only [hpF] at c0 hp
                      simp only [htF] at c1 ht
                      simp only [hrF] at c2 hr
                      clear hF hpF htF hrF HC
                      obtain ⟨p, hpe⟩ : ∃ p, p = F a q := ⟨_, rfl⟩
                      obtain ⟨t, hte⟩ : ∃ t, t = F q c := ⟨_, rfl⟩
                      obtain ⟨r, hre⟩ : ∃ r, r = F a c := ⟨_, rfl⟩
                      rw [← hpe] at c0 hp
                      rw [← hte] at c1 ht
                      rw [← hre] at c2 hr
                      have HNO : Hid (¬ (p < 1152921504606846976 ∧ t < 1152921504606846976 ∧ p + t < r) → ∀ W, CheW w i A k cap (.slice (some ⟨g, 0, none⟩) i capg) i bs cs (fun x y => numQ E q a c x y) W → CheW w i A k cap (.slice (some ⟨g, 0, none⟩) i capg) i bs cs (fun x y => numQ E q a (c + 1) x y) W) := Lib.hid fun h W hW => hW.congr fun x y _ _ => by
                        refine (HNS.out x y ?_).symm
                        rw [HFF2.out.1, HFF2.out.2.1, HFF2.out.2.2, ← hpe, ← hte, ← hre, HFR.out]
                        exact h
                      have HYES : Hid ((p < 1152921504606846976 ∧ t < 1152921504606846976 ∧ p + t < r) → ∀ W, CheW w i A k cap (.slice (some ⟨g, 0, none⟩) i capg) i bs cs (fun x y => numQ E q a c x y) W → CheW w i A k cap (.slice (some ⟨g, 0, none⟩) i capg) i bs cs (fun x y => numQ E q a (c + 1) x y) (W.setCell ⟨bs a, c, none⟩ (.int .i64 (p + t)))) := Lib.hid fun h W hW => hW.put hai hci fun x y _ _ => by
                        have h2 := HNX.out x y
                        rw [HFF2.out.1, HFF2.out.2.1, HFF2.out.2.2, ← hpe, ← hte, ← hre, HFR.out, if_pos h] at h2
                        exact h2
                      clear hpe hte hre HNX HNS HFF2 HF3 F
                      have tri : ¬ p < 1152921504606846976 ∨ (p < 1152921504606846976 ∧ ¬ t < 1152921504606846976) ∨ (p < 1152921504606846976 ∧ t < 1152921504606846976 ∧ ¬ p + t < r) ∨ (p < 1152921504606846976 ∧ t < 1152921504606846976 ∧ p + t < r) := by omega
                      have p1 : -1073741824 ≤ p := hp.1
                      have p2 : p ≤ 1152921504606846976 := by omega
                      have t1 : -1073741824 ≤ t := ht.1
                      have t2 : t ≤ 1152921504606846976 := by omega
                      rcases tri with h1 | ⟨h1, h2⟩ | ⟨h1, h2, h3⟩ | ⟨h1, h2, h3⟩
                      · have HN := Lib.hid (HNO.out (fun h => h1 h.1))
                        have hb1 : decide (p < 1152921504606846976) = false := decide_eq_false h1
                        clear h1 hp ht hr
                        go_wp2
                        go_quiet (fail)
                        go_wp2
                        go_roundw
                        case rel => exact ⟨c + 1, by omega, by go_num, Lib.hid (HN.out _ (HC2.out.drewN _))⟩
                        case measure => simp [intOf]; omega
                      · have HN := Lib.hid (HNO.out (fun h => h2 h.2.1))
                        have hb2 : decide (t < 1152921504606846976) = false := decide_eq_false h2
                        clear h2 hp ht hr
                        go_wp2
                        go_quiet (fail)
                        go_wp2
                        go_roundw
                        case rel => exact ⟨c + 1, by omega, by go_num, Lib.hid (HN.out _ (HC2.out.drewN _))⟩
                        case measure => simp [intOf]; omega
                      · have HN := Lib.hid (HNO.out (fun h => h3 h.2.2))
                        have hb3 : decide (p + t < r) = false := decide_eq_false h3
                        have p3 : p ≤ 1073741824 := by omega
                        have t3 : t ≤ 1073741824 := by omega
                        clear h3 hp ht hr
                        go_wp2
                        go_quiet (fail)
                        go_wp2
                        go_roundw
                        case rel => exact ⟨c + 1, by omega, by go_num, Lib.hid (HN.out _ (HC2.out.drewN _))⟩
                        case measure => simp [intOf]; omega
                      · have HN := Lib.hid (HYES.out ⟨h1, h2, h3⟩)
                        have p3 : p ≤ 1073741824 := by omega
                        have t3 : t ≤ 1073741824 := by omega
                        clear hp ht hr
                        go_wp2
                        go_quiet (fail)
                        go_wp2
                        go_region
                        go_wp2
                        go_roundw
                        case rel => exact ⟨c + 1, by omega, by go_num, Lib.hid (HN.out _ (HC2.out.drewN _))⟩
                        case measure => simp [intOf]; omega
                    · obtain rfl : c = i := by omega
                      have HN : Hid (CheW w c A k cap (.slice (some ⟨g, 0, none⟩) c capg) c bs cs (fun x y => numQ E q (a + 1) 0 x y) wr) := Lib.hid (HC.out.congr fun x y _ hy => numQ_row hy)
                      go_wp2
                      go_roundw
                      case rel => exact ⟨a + 1, by omega, by go_num, HN⟩
                      case measure => simp [intOf]; omega
                · obtain rfl : a = i := by omega
                  have HN : Hid (CheW w a A k cap (.slice (some ⟨g, 0, none⟩) a capg) a bs cs (fun x y => numQ E (q + 1) 0 0 x y) wr) := Lib.hid (HC.out.congr fun x y hx _ => numQ_end hx)
                  clear HC
                  go_wp2
                  clear k0
                  go_loopw [14] (fun j wr => ∃ x : Nat, x ≤ a ∧ j = .int .i64 x ∧ Hid (CheW w a A k cap (.slice (some ⟨g, 0, none⟩) a capg) a bs cs (fun x y => numQ E (q + 1) 0 0 x y) wr) ∧ Hid (∀ y, y < x → 0 ≤ numQ E (q + 1) 0 0 y y)) (fun j _ => a - (intOf j).toNat)
                  case atStart => exact ⟨0, Nat.zero_le _, rfl, HN, Lib.hid (fun y hy => by omega)⟩
                  case round =>
                    clear HN
                    obtain ⟨x, hx, rfl, HC, HP⟩ := hrel
                    have k0 := (HC.out.boxN HARC.out).k0
                    by_cases hxa : x < a
                    · have gx := HTOP.out _ _ HC.out.rows x hxa
                      have cx0 := HC.out.rows.cell hxa hxa
                      have ix0 : (0 : Int) ≤ (x : Int) := by omega
                      have ix1 : (x : Int) < (a : Int) := by omega
                      have HZ := Lib.hid (numQ_zero (E := E) (k := q + 1) (i := x) (j := x))
                      have cx : wr.cell? ⟨bs x, x, none⟩ = some (.int .i64 (numQ E (q + 1) 0 0 x x)) := cx0
                      clear cx0
                      obtain ⟨v, hv⟩ : ∃ v, v = numQ E (q + 1) 0 0 x x := ⟨_, rfl⟩
                      rw [← hv] at cx HZ
                      have HV := Lib.hid hv
                      clear hv
                      by_cases hneg : v < 0
                      · have HT : Hid (b = true) := Lib.hid (HB.out.2 (HIFF.out.1 (by
                          cases hf : fwR E (q + 1) x x with
                          | none =>
                            have h1 := HZ.out
                            rw [hf] at h1
                            have : v = 1152921504606846976 := h1
                            omega
                          | some z =>
                            have h1 := HZ.out
                            rw [hf] at h1
                            have h2 : v = z := h1
                            exact ⟨q, x, z, hqi, hxa, hf, by omega⟩)))
                        have HBl : Hid (Below w.heap.size w wr) := Lib.hid (HC.out.boxN HARC.out).below
                        go_wp2
                        go_ret
                        exact ⟨by rw [HT.out]; rfl, HBl.out⟩
                      · have hnb : decide (v < 0) = false := decide_eq_false hneg
                        have HP2 : Hid (∀ y, y < x + 1 → 0 ≤ numQ E (q + 1) 0 0 y y) := Lib.hid fun y hy => by
                          by_cases e : y = x
                          · subst e; rw [← HV.out]; omega
                          · exact HP.out y (by omega)
                        clear hneg HP
                        go_wp2
                        go_roundw
                        case rel => exact ⟨x + 1, by omega, by go_num, HC, HP2⟩
                        case measure => simp [intOf]; omega
                    · obtain rfl : x = a := by omega
                      have HD2 : Hid (∀ l, l ≤ q + 1 → ∀ y z, fwR E l y y = some z → 0 ≤ z) := Lib.hid fun l hl y z h => by
                        by_cases e : l = q + 1
                        · subst e
                          by_cases hy : y < x
                          · have h1 := HP.out y hy
                            rw [numQ_zero, h] at h1
                            exact h1
                          · rw [HOUT.out (q + 1) y (by omega)] at h; cases h
                        · exact HD.out l (by omega) y z h
                      clear HP
                      go_wp2
                      go_roundw
                      case rel => exact ⟨q + 1, by omega, by go_num, HC, HD2⟩
                      case measure => simp [intOf]; omega
            · obtain rfl : q = i := by omega
              have HF : Hid (b = false) := Lib.hid (by
                cases hbb : b with
                | false => rfl
                | true =>
                  obtain ⟨l, x, z, h1, h2, h3, h4⟩ := HIFF.out.2 (HB.out.1 hbb)
                  have := HD.out (l + 1) (by omega) x z h3
                  omega)
              have HBl : Hid (Below w.heap.size w wr) := Lib.hid (HC.out.boxN HARC.out).below
              go_wp2
              go_ret
              exact ⟨by rw [HF.out]; rfl, HBl.out⟩
end Go.Proofs.Ytmlmnmphmghdlaa
