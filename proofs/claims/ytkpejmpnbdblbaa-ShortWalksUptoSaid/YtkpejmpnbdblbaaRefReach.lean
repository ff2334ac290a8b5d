/- The reference's Reach: the least lengths of walks of so many arcs at most. -/
import Derived.Test.YtkpejmpnbdblbaaShortBf
import Derived.Test.YtkpejmpnbdblbaaRowAdd
import Derived.Test.YtkpejmpnbdblbaaImprove
import Derived.Deep.QuietTactic
import Derived.BigQuiet
import Derived.BigRegion
namespace Go.Proofs.Ytkpejmpnbdblbaa
open Go.RowKit

def rowE (f : Nat → Int) (m : Nat) : List Value := (List.range m).map fun t : Nat => .int .i64 (f t)
section
variable {f f' : Nat → Int} {m t : Nat}
theorem rowE_at (ht : t < m) : (rowE f m)[t]? = some (.int .i64 (f t)) := by
  unfold rowE; rw [List.getElem?_map, List.getElem?_range ht]; rfl
theorem rowE_congr (h : ∀ t, t < m → f t = f' t) : rowE f m = rowE f' m := List.map_congr_left fun t ht => by rw [h t (List.mem_range.1 ht)]
theorem rowE_push : rowE f (m + 1) = rowE f m ++ [.int .i64 (f m)] := by
  unfold rowE; rw [List.range_succ, List.map_append]; rfl
theorem rowE_set (ht : t < m) (v : Int) : (rowE f m).set t (.int .i64 v) = rowE (fun x => if x = t then v else f x) m := by
  apply List.ext_getElem?
  intro j
  simp only [rowE, List.getElem?_set, List.getElem?_map, List.length_map, List.length_range]
  by_cases h : t = j
  · subst h
    rw [if_pos rfl, if_pos ht, List.getElem?_range ht]
    simp
  · rw [if_neg h]
    rcases Nat.lt_or_ge j m with hj | hj
    · rw [List.getElem?_range hj]
      simp [show ¬ j = t from fun e => h e.symm]
    · rw [List.getElem?_eq_none (by simpa using hj)]
      simp
theorem rowE_ints (f : Nat → Int) (m : Nat) : rowE f m = ((List.range m).map f).map (Value.int .i64) := by
  unfold rowE; rw [List.map_map]; rfl
end
/-- The world behind a net's box. -/
abbrev FrN (w : World) (n : Int) (A : Option Addr) (len cap : Nat) (w1 : World) : Prop := Below (w.heap.size + 1) (bxN w n A len cap) w1
section
variable {w w1 w2 : World} {n : Int} {A : Option Addr} {len cap : Nat} {es : List A4}
theorem FrN.start : FrN w n A len cap (bxN w n A len cap) := Below.refl _ _
theorem FrN.lt (h : FrN w n A len cap w1) : w.heap.size < w1.heap.size := by have := h.size; simp [bxN] at this; omega
theorem FrN.box (h : FrN w n A len cap w1) : w1.heap[w.heap.size]? = some (.cells #[.int .i64 n, .slice A len cap] 24 (0, 0)) := (h.block _ (Nat.lt_succ_self _)).trans (MapKept.heap_alloc w _).1
theorem FrN.k0 (h : FrN w n A len cap w1) : w1.cell? ⟨w.heap.size, 0, none⟩ = some (.int .i64 n) := by simp [World.cell?, h.box]
theorem FrN.k1 (h : FrN w n A len cap w1) : w1.cell? ⟨w.heap.size, 1, none⟩ = some (.slice A len cap) := by simp [World.cell?, h.box]
theorem FrN.below (h : FrN w n A len cap w1) : Below w.heap.size w w1 := ((Below.refl _ w).alloc (Nat.le_refl _) _).trans (h.mono (Nat.le_succ _))
theorem FrN.arcs (h : FrN w n A len cap w1) (hE : ArcsAt w w.heap.size A len es) : ArcsAt w1 w1.heap.size A len es := hE.go_ h.below
theorem FrN.later (h : FrN w n A len cap w1) (hb : Below w1.heap.size w1 w2) : FrN w n A len cap w2 := h.trans (hb.mono h.lt)
end
set_option maxRecDepth 100000 in
theorem infoI64x : (Try.prog.info? 2).map (fun i => (i.zero, i.size, i.bytes)) = some (some (.int .i64 0), 1, 8) := by kernel_rfl
theorem grown_set (W : World) (g i : Nat) (v : Value) : W.grownBy (W.setCell ⟨g, i, none⟩ v) (some g) := ⟨rfl, rfl, rfl, by simp, fun b _ hb => Below.heap_setCell _ _ _ b (fun e => hb (by rw [e]))⟩
theorem own_news {w : World} {base n g cap : Nat} {t : TypeId} {xs : List Value} (h : w.ownsRow base t 1 (.slice (some ⟨g, 0, none⟩) n cap) n xs) : ∀ j u, xs[j]? = some u → w.cell? ((⟨g, 0, none⟩ : Addr).add j) = some u := fun j u hu => by
  have h1 := (own_cell h hu).1
  rwa [show (Addr.add ⟨g, 0, none⟩ j) = ⟨g, j, none⟩ by simp [Addr.add]; omega]
def reachV (N : ArcsF) (s r : Nat) (t : Nat) : Int := encR (bfR N s r t)
def midV (N : ArcsF) (s r j : Nat) (t : Nat) : Int := encR (bfTo N (bfR N s r) t j)
set_option maxRecDepth 100000 in
set_option maxHeartbeats 4000000 in
theorem refReach_any (m s r : Nat) (A : Option Addr) (len cap : Nat) (es : List A4) (w : World) (hE : ArcsAt w w.heap.size A len es) (hG : GoodN (m : Int) es) (hF : FeeS es) (hs : s < m) (hr : r ≤ 100) :
    Calls Try.prog 25 #[.agg #[.int .i64 (m : Int), .slice A len cap], .int .i64 (s : Int), .int .i64 (r : Int)] w fun e w' =>
      (∃ A' c', e = .returned (.slice A' m c') ∧ IntsAt w' w'.heap.size A' m ((List.range m).map (reachV (netA m es) s r))) ∧ Below w.heap.size w w' := by
  have hl30 : len ≤ 30 := by have := hG.len; have := hE.1; omega
  have hm10 : m ≤ 10 := by have := hG.n1; omega
  have HKL : Hid ((netA m es).K = len) := Lib.hid hE.1
  have HG := Lib.hid hG
  have HE := Lib.hid hE
  have HFE := Lib.hid (netA_fee hG hF)
  have HX := Lib.hid (FrN.start (w := w) (n := (m : Int)) (A := A) (len := len) (cap := cap))
  have k0 := HX.out.k0
  have HO0 : Hid ((bxN w (m : Int) A len cap).ownsRow (w.heap.size + 1) 2 1 (.slice none 0 0) 0 (rowE (fun _ => 1152921504606846976) 0)) := Lib.hid (World.ownsRow_nil ..)
  have hLim : ∀ k, k ≤ 100 → ∀ t c, bfR (netA m es) s k t = some c → -104857600 ≤ c ∧ c ≤ 104857600 := fun k hk t c h => by
    have h1 := bfR_abs HFE.out (by decide) h
    omega
  have hLim2 : ∀ k, k ≤ 100 → ∀ j, j ≤ len → ∀ t c, bfTo (netA m es) (bfR (netA m es) s k) t j = some c → -105906176 ≤ c ∧ c ≤ 105906176 := fun k hk j hj t c h => by
    have h1 := bfTo_abs HFE.out (by decide) (by rw [HKL.out]; exact hj) h
    omega
  have HL1 := Lib.hid hLim
  have HL2 := Lib.hid hLim2
  clear hE hG hF hLim hLim2
  go_enter Try.func25, Try.ntmps25
  go_wp2_with fail
  clear k0
  go_loopw [7, 8] (fun x y wr => ∃ (i : Nat) (A1 : Option Addr) (c1 : Nat), i ≤ m ∧ x = .slice A1 i c1 ∧ y = .int .i64 i ∧ Hid (FrN w (m : Int) A len cap wr ∧ wr.ownsRow (w.heap.size + 1) 2 1 (.slice A1 i c1) i (rowE (fun _ => 1152921504606846976) i))) (fun _ y _ => m - (intOf y).toNat)
  case atStart => exact ⟨0, none, 0, Nat.zero_le _, rfl, rfl, Lib.hid ⟨HX.out, HO0.out⟩⟩
  case round =>
    clear HX HO0
    obtain ⟨i, A1, c1, hi, rfl, rfl, HR⟩ := hrel
    have k0 := HR.out.1.k0
    by_cases hlt : i < m
    · have HO1 : Hid ((wr.alloc (.cells #[.int .i64 1152921504606846976] 2)).ownsRow (w.heap.size + 1) 2 1 (.slice A1 i c1) i (rowE (fun _ => 1152921504606846976) i)) := Lib.hid (own_later HR.out.2 ((Below.refl _ _).alloc (Nat.le_refl _) _))
      have HH : Hid ((wr.alloc (.cells #[.int .i64 1152921504606846976] 2)).heap[wr.heap.size]? = some (.cells #[.int .i64 1152921504606846976] 2 (0, 0))) := Lib.hid (MapKept.heap_alloc wr _).1
      have hbs : w.heap.size + 1 ≤ (wr.alloc (.cells #[.int .i64 1152921504606846976] 2)).heap.size := by have := HR.out.1.lt; simp; omega
      go_wp2_with (at_builtin; refine wpList_app_one infoI64x rfl _ _ 25 rfl (w.heap.size + 1) Try.underlying25 rfl (by decide) rfl HO1.out rfl HH.out rfl (by omega) hbs ?_; intro A2 c2 w2 hown2 hb2 hs2 _; have HO2 := Lib.hid hown2; have HB2 := Lib.hid hb2; clear hown2 hb2)
      have HN : Hid (FrN w (m : Int) A len cap w2 ∧ w2.ownsRow (w.heap.size + 1) 2 1 (.slice A2 (i + 1) c2) (i + 1) (rowE (fun _ => 1152921504606846976) (i + 1))) := Lib.hid ⟨(HR.out.1.alloc (by have := HR.out.1.lt; omega) _).trans HB2.out, by rw [rowE_push]; exact HO2.out⟩
      clear hs2 hbs
      go_wp2_with fail
      go_roundw
      case rel => exact ⟨i + 1, A2, c2, by omega, rfl, by go_num, HN⟩
      case measure => simp [intOf]; omega
    · obtain rfl : i = m := by omega
      obtain ⟨g, rfl, hg1, hg2⟩ := own_some HR.out.2 (by omega)
      obtain ⟨cc, cf, _⟩ := own_cell HR.out.2 (rowE_at hs)
      have is0 : (0 : Int) ≤ (s : Int) := by omega
      have is1 : (s : Int) < (i : Int) := by omega
      have HST : Hid (FrN w (i : Int) A len cap (wr.setCell ⟨g, s, none⟩ (.int .i64 0)) ∧ (wr.setCell ⟨g, s, none⟩ (.int .i64 0)).ownsRow (w.heap.size + 1) 2 1 (.slice (some ⟨g, 0, none⟩) i c1) i (rowE (reachV (netA i es) s 0) i)) := Lib.hid ⟨HR.out.1.setCell (p := ⟨g, s, none⟩) hg1 _, by
        have h := own_setc (i := s) HR.out.2 (.int .i64 0)
        rw [rowE_set hs] at h
        rwa [rowE_congr (f' := reachV (netA i es) s 0) fun t _ => by
          unfold reachV bfR
          by_cases e : t = s
          · rw [if_pos e, if_pos e]; rfl
          · rw [if_neg e, if_neg e]; rfl] at h⟩
      go_wp2_with fail
      clear cc cf k0 HR hg1 hg2
      go_loopw [7, 9, 10, 12] (fun x y _ _ wk => ∃ (k g c : Nat), k ≤ r ∧ x = .slice (some ⟨g, 0, none⟩) i c ∧ y = .int .i64 k ∧ Hid (FrN w (i : Int) A len cap wk ∧ wk.ownsRow (w.heap.size + 1) 2 1 (.slice (some ⟨g, 0, none⟩) i c) i (rowE (reachV (netA i es) s k) i))) (fun _ y _ _ _ => r - (intOf y).toNat)
      case atStart => exact ⟨0, g, c1, Nat.zero_le _, rfl, rfl, HST⟩
      case round =>
        clear HST
        obtain ⟨k, gd, cd, hk, rfl, rfl, HD⟩ := hrel
        by_cases hkr : k < r
        · obtain ⟨i0, hi0, hz0, hz1, hz2⟩ := info_parts infoI64x
          have HOd := Lib.hid HD.out.2
          have HNW : Hid (∀ j u, (rowE (reachV (netA i es) s k) i)[j]? = some u → (wr.alloc (.cells #[] 2)).cell? ((⟨gd, 0, none⟩ : Addr).add j) = some u) := Lib.hid (own_news (own_later HD.out.2 ((Below.refl _ _).alloc (Nat.le_refl _) _)))
          have HLN : Hid ((rowE (reachV (netA i es) s k) i).length = i) := Lib.hid (by have := HD.out.2.1; omega)
          have HZZ := Lib.hid (And.intro hi0 (And.intro hz0 (And.intro hz1 hz2)))
          clear hi0 hz0 hz1 hz2
          go_wp2_with (at_builtin; refine wpList_append_own _ rfl _ _ 25 rfl wr.heap.size 2 i0 (.int .i64 0) 1 8 Try.underlying25 HZZ.out.1 HZZ.out.2.1 HZZ.out.2.2.1 HZZ.out.2.2.2 rfl (by decide) _ 0 [] rfl (World.ownsRow_made wr #[] 0 (Nat.le_refl _) (Nat.zero_le _) rfl) ⟨gd, 0, none⟩ i cd (rowE (reachV (netA i es) s k) i) rfl (by rw [HLN.out]; omega) HNW.out (fun u hu => by obtain ⟨t, _, rfl⟩ := List.mem_map.1 hu; rfl) (by unfold maxLen; omega) (by omega) (by simp) ?_; intro v4 w4 hown4 hgr4 _; rw [Nat.zero_add, List.nil_append] at hown4; have HO4 := Lib.hid hown4; have HB4 : Hid (Below wr.heap.size wr w4) := Lib.hid (((Below.refl _ wr).alloc (Nat.le_refl _) _).grown hgr4 (by simp) (fun q hq => by have h2 : some wr.heap.size = some q := hq; injection h2; omega)); have k1 := (HD.out.1.later HB4.out).k1; clear hown4 hgr4)
          obtain ⟨A4, c4, HV4⟩ : ∃ A4 c4, Hid (v4 = .slice A4 i c4) := by
            obtain ⟨A4, c4, h⟩ := own_form HO4.out
            exact ⟨A4, c4, Lib.hid h⟩
          obtain rfl := HV4.out
          clear HV4
          obtain ⟨g4, HA4⟩ : ∃ g4, Hid (A4 = some ⟨g4, 0, none⟩ ∧ wr.heap.size ≤ g4) := by
            obtain ⟨g4, h1, h2, _⟩ := own_some HO4.out (by omega)
            exact ⟨g4, Lib.hid ⟨h1, h2⟩⟩
          obtain rfl := HA4.out.1
          have HI0 : Hid (FrN w (i : Int) A len cap w4 ∧ w4.ownsRow (w.heap.size + 1) 2 1 (.slice (some ⟨gd, 0, none⟩) i cd) i (rowE (reachV (netA i es) s k) i) ∧ w4.ownsRow wr.heap.size 2 1 (.slice (some ⟨g4, 0, none⟩) i c4) i (rowE (midV (netA i es) s k 0) i)) := Lib.hid ⟨HD.out.1.later HB4.out, own_later HD.out.2 HB4.out, HO4.out⟩
          have hgd : gd < wr.heap.size ∧ w.heap.size < wr.heap.size := by
            obtain ⟨q, h1, _, h2⟩ := own_some HD.out.2 (by omega)
            injection h1 with h1
            injection h1 with h1
            subst h1; exact ⟨h2, HD.out.1.lt⟩
          obtain ⟨hgd1, hgd2⟩ := hgd
          have hg4 : wr.heap.size ≤ g4 := HA4.out.2
          have hiM : i ≤ 10 := hm10
          generalize wr.heap.size = B at *
          clear HO4 HB4 HA4 HNW HOd HLN HD
          clear k1
          go_loopw [12, 36] (fun _ y wj => ∃ j : Nat, j ≤ len ∧ y = .int .i64 j ∧ Hid (FrN w (i : Int) A len cap wj ∧ wj.ownsRow (w.heap.size + 1) 2 1 (.slice (some ⟨gd, 0, none⟩) i cd) i (rowE (reachV (netA i es) s k) i) ∧ wj.ownsRow B 2 1 (.slice (some ⟨g4, 0, none⟩) i c4) i (rowE (midV (netA i es) s k j) i))) (fun _ y _ => len - (intOf y).toNat)
          case atStart => exact ⟨0, Nat.zero_le _, rfl, HI0⟩
          case round =>
            clear HI0
            obtain ⟨j, hj, rfl, HR⟩ := hrel
            by_cases hjl : j < len
            · obtain ⟨bb, off, ⟨x0, x1, x2, x3⟩, rfl, hbb, hx, hc0', hc1, hc2, hc3⟩ := (HR.out.1.arcs HE.out).at_ hjl
              obtain ⟨e0, e1, e2, l0, l1, l2⟩ := netA_at HG.out hx
              simp only at e0 e1 e2 hc0' hc1 hc2 hc3
              subst e0 e1
              obtain ⟨f1, f2⟩ := HFE.out j l2
              rw [e2] at f1 f2
              have HES : Hid (∀ t, midV (netA i es) s k (j + 1) t = if t = (netA i es).to j ∧ reachV (netA i es) s k ((netA i es).fr j) < 1152921504606846976 ∧ reachV (netA i es) s k ((netA i es).fr j) + x3 < midV (netA i es) s k j ((netA i es).to j) then reachV (netA i es) s k ((netA i es).fr j) + x3 else midV (netA i es) s k j t) := Lib.hid fun t => by
                have h := enc_step (N := netA i es) (D := bfR (netA i es) s k) (j := j) (fun c hc => by
                  have h1 := HL1.out k (by omega) _ c hc
                  rw [e2]
                  unfold farE
                  omega) t
                rw [e2] at h
                exact h
              obtain ⟨cf, _, _⟩ := own_cell HR.out.2.1 (rowE_at l0)
              obtain ⟨ct, ft, _⟩ := own_cell HR.out.2.2 (rowE_at l1)
              have HBD : Hid (reachV (netA i es) s k ((netA i es).fr j) ≤ 1152921504606846976 ∧ -1152921504606846976 ≤ reachV (netA i es) s k ((netA i es).fr j)) := Lib.hid (by
                unfold reachV
                cases h : bfR (netA i es) s k ((netA i es).fr j) with
                | none => simp [encR, farE]
                | some c => have := HL1.out k (by omega) _ c h; simp only [encR]; omega)
              generalize hfr : (netA i es).fr j = fr at *
              generalize hto : (netA i es).to j = to at *
              generalize hdx : reachV (netA i es) s k fr = dx at *
              generalize hdy : midV (netA i es) s k j to = dy at *
              obtain ⟨b1, b2⟩ := HBD.out
              clear hx e2 hfr hto hdx hdy l2
              have ik0 : (0 : Int) ≤ (j : Int) := by omega
              have ik1 : (j : Int) < (len : Int) := by omega
              have if0 : (0 : Int) ≤ (fr : Int) := by omega
              have if1 : (fr : Int) < (i : Int) := by omega
              have it0 : (0 : Int) ≤ (to : Int) := by omega
              have it1 : (to : Int) < (i : Int) := by omega
              have hlg : gd < wr.heap.size ∧ g4 < wr.heap.size := by
                obtain ⟨q, h1, _, h2⟩ := own_some HR.out.2.1 (by omega)
                obtain ⟨q', h1', _, h2'⟩ := own_some HR.out.2.2 (by omega)
                injection h1 with h1
                injection h1 with h1
                injection h1' with h1'
                injection h1' with h1'
                subst h1 h1'; exact ⟨h2, h2'⟩
              obtain ⟨hlg1, hlg2⟩ := hlg
              go_wp2_with fail
              clear hc0' hc1 hc2 hc3
              obtain ⟨W1, hW1⟩ : ∃ W1, W1 = wr.alloc (.cells #[.int .i64 fr, .int .i64 to, .int .i64 x2, .int .i64 x3] 50) := ⟨_, rfl⟩
              rw [← hW1]
              have hb1 : Below wr.heap.size wr W1 := by rw [hW1]; exact (Below.refl _ _).alloc (Nat.le_refl _) _
              have HQ1 : Hid (W1.heap[wr.heap.size]? = some (.cells #[.int .i64 fr, .int .i64 to, .int .i64 x2, .int .i64 x3] 50 (0, 0))) := Lib.hid (by rw [hW1]; exact (MapKept.heap_alloc wr _).1)
              have HR1 : Hid (FrN w (i : Int) (some ⟨bb, off, none⟩) len cap W1 ∧ W1.ownsRow (w.heap.size + 1) 2 1 (.slice (some ⟨gd, 0, none⟩) i cd) i (rowE (reachV (netA i es) s k) i) ∧ W1.ownsRow B 2 1 (.slice (some ⟨g4, 0, none⟩) i c4) i (rowE (midV (netA i es) s k j) i)) := Lib.hid ⟨HR.out.1.later hb1, own_later HR.out.2.1 hb1, own_later HR.out.2.2 hb1⟩
              have cf1 : W1.cell? ⟨gd, fr, none⟩ = some (.int .i64 dx) := by rw [hb1.cell (p := ⟨gd, fr, none⟩) hlg1]; exact cf
              have ct1 : W1.cell? ⟨g4, to, none⟩ = some (.int .i64 dy) := by rw [hb1.cell (p := ⟨g4, to, none⟩) hlg2]; exact ct
              have ft1 : W1.frozen? ⟨g4, to, none⟩ = false := by
                have h := hb1.block g4 hlg2
                simp only [World.frozen?] at ft ⊢
                rw [h]; exact ft
              have y0 : W1.cell? ⟨wr.heap.size, 0, none⟩ = some (.int .i64 fr) := by simp [World.cell?, HQ1.out]
              have y1 : W1.cell? ⟨wr.heap.size, 1, none⟩ = some (.int .i64 to) := by simp [World.cell?, HQ1.out]
              have y3 : W1.cell? ⟨wr.heap.size, 3, none⟩ = some (.int .i64 x3) := by simp [World.cell?, HQ1.out]
              have HNE : (Value.slice (some ⟨gd, 0, none⟩) i cd).ownBlock ≠ some g4 := fun e => by
                have h2 : some gd = some g4 := e
                injection h2; omega
              clear hW1 hb1 cf ct ft HR
              have HNO : Hid (¬ (dx < 1152921504606846976 ∧ dx + x3 < dy) → ∀ W, (∃ q, W = W1.drewN q) → FrN w (i : Int) (some ⟨bb, off, none⟩) len cap W ∧ W.ownsRow (w.heap.size + 1) 2 1 (.slice (some ⟨gd, 0, none⟩) i cd) i (rowE (reachV (netA i es) s k) i) ∧ W.ownsRow B 2 1 (.slice (some ⟨g4, 0, none⟩) i c4) i (rowE (midV (netA i es) s k (j + 1)) i)) := Lib.hid fun hno W ⟨q, hq⟩ => by
                subst hq
                rw [rowE_congr (f := midV (netA i es) s k (j + 1)) (f' := midV (netA i es) s k j) fun t _ => by rw [HES.out t, if_neg (fun h => hno h.2)]]
                exact ⟨below_drewN HR1.out.1 q, own_later HR1.out.2.1 (below_drewN (Below.refl _ _) q), own_later HR1.out.2.2 (below_drewN (Below.refl _ _) q)⟩
              by_cases h1 : dx < 1152921504606846976
              · have hw1 : IntKind.i64.wrap (dx + x3) = dx + x3 := IntWalk.i64_in _ (by omega)
                have hw2 : wrap64 (dx + x3) = dx + x3 := by unfold wrap64; omega
                have h1b : decide (dx < 1152921504606846976) = true := decide_eq_true h1
                by_cases h2 : dx + x3 < dy
                · have h2b : decide (dx + x3 < dy) = true := decide_eq_true h2
                  have HYES : Hid (∀ W, (∃ q q', W = ((W1.drewN q).setCell ⟨g4, to, none⟩ (.int .i64 (dx + x3))).drewN q') → FrN w (i : Int) (some ⟨bb, off, none⟩) len cap W ∧ W.ownsRow (w.heap.size + 1) 2 1 (.slice (some ⟨gd, 0, none⟩) i cd) i (rowE (reachV (netA i es) s k) i) ∧ W.ownsRow B 2 1 (.slice (some ⟨g4, 0, none⟩) i c4) i (rowE (midV (netA i es) s k (j + 1)) i)) := Lib.hid fun W ⟨q, q', hq⟩ => by
                    subst hq
                    rw [rowE_congr (f := midV (netA i es) s k (j + 1)) (f' := fun t => if t = to then dx + x3 else midV (netA i es) s k j t) fun t _ => by
                      rw [HES.out t]
                      by_cases e : t = to
                      · rw [if_pos ⟨e, h1, h2⟩, if_pos e]
                      · rw [if_neg (fun h => e h.1), if_neg e]]
                    rw [← rowE_set l1]
                    have hbq : Below W1.heap.size W1 (W1.drewN q) := below_drewN (Below.refl _ _) q
                    refine ⟨below_drewN ((below_drewN HR1.out.1 q).setCell (p := ⟨g4, to, none⟩) (by show w.heap.size + 1 ≤ g4; omega) _) q', own_later ((own_later HR1.out.2.1 hbq).kept (grown_set _ g4 to _) (Or.inr HNE)) (below_drewN (Below.refl _ _) q'), own_later (own_setc (own_later HR1.out.2.2 hbq) _) (below_drewN (Below.refl _ _) q')⟩
                  clear HNO h1 h2 HR1 HES
                  go_wp2_with fail
                  go_quiet (fail)
                  go_wp2
                  go_region
                  go_wp2
                  go_roundw
                  case rel => exact ⟨j + 1, by omega, by go_num, Lib.hid (HYES.out _ ⟨_, 0, rfl⟩)⟩
                  case measure => simp [intOf]; omega
                · have h2b : decide (dx + x3 < dy) = false := decide_eq_false h2
                  have HN := Lib.hid (HNO.out (fun h => h2 h.2))
                  clear HNO h1 h2 HR1 HES
                  go_wp2_with fail
                  go_quiet (fail)
                  go_wp2
                  go_roundw
                  case rel => exact ⟨j + 1, by omega, by go_num, Lib.hid (HN.out _ ⟨_, rfl⟩)⟩
                  case measure => simp [intOf]; omega
              · have h1b : decide (dx < 1152921504606846976) = false := decide_eq_false h1
                have HN := Lib.hid (HNO.out (fun h => h1 h.1))
                clear HNO h1 HR1 HES
                go_wp2_with fail
                go_quiet (fail)
                go_wp2
                go_roundw
                case rel => exact ⟨j + 1, by omega, by go_num, Lib.hid (HN.out _ ⟨_, rfl⟩)⟩
                case measure => simp [intOf]; omega
            · obtain rfl : j = len := by omega
              have HN : Hid (FrN w (i : Int) A j cap wr ∧ wr.ownsRow (w.heap.size + 1) 2 1 (.slice (some ⟨g4, 0, none⟩) i c4) i (rowE (reachV (netA i es) s (k + 1)) i)) := Lib.hid ⟨HR.out.1, own_low (by
                have h := HR.out.2.2
                rwa [rowE_congr (f := midV (netA i es) s k j) (f' := reachV (netA i es) s (k + 1)) fun t _ => by
                  unfold midV reachV
                  rw [← HKL.out]; rfl] at h) (by omega)⟩
              clear HR
              go_wp2_with fail
              go_roundw
              case rel => exact ⟨k + 1, g4, c4, by omega, rfl, by go_num, HN⟩
              case measure => simp [intOf]; omega
        · obtain rfl : k = r := by omega
          have HE2 : Hid (IntsAt wr wr.heap.size (some ⟨gd, 0, none⟩) i ((List.range i).map (reachV (netA i es) s k))) := Lib.hid (by
            have h := HD.out.2
            rw [rowE_ints] at h
            exact IntsAt.of_own h (Nat.le_refl _))
          go_wp2_with fail
          go_ret
          exact ⟨⟨_, _, rfl, HE2.out⟩, HD.out.1.below⟩
end Go.Proofs.Ytkpejmpnbdblbaa
