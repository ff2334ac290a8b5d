/- The reference's exact: the least length of walks of just so many arcs. -/
import Derived.Test.YtkpejmpnbdblbaaExactP
import Derived.Test.YtkpejmpnbdblbaaRefReach
namespace Go.Proofs.Ytkpejmpnbdblbaa
open Go.RowKit

def exV (N : ArcsF) (t r : Nat) (i : Nat) : Int := encR (exR N t r i)
def exM (N : ArcsF) (t r i j : Nat) : Int := encR (exTo N (exR N t r) i j)
/-- A row of one's own is kept by what lies beyond it. -/
theorem own_under {w w' : World} {base B n : Nat} {t : TypeId} {g cap : Nat} {xs : List Value} (h : w.ownsRow base t 1 (.slice (some ⟨g, 0, none⟩) n cap) n xs) (hg : g < B) (hb : Below B w w') : w'.ownsRow base t 1 (.slice (some ⟨g, 0, none⟩) n cap) n xs := by
  refine ⟨h.1, ?_⟩
  rcases h.2 with ⟨h0, _⟩ | ⟨g', cap', cur, hv, hbs, hgg, rest⟩
  · cases h0
  · have e1 := hv
    injection e1 with e1 _ _
    injection e1 with e1
    injection e1 with e1
    subst e1
    exact .inr ⟨g, cap', cur, hv, hbs, (hb.block g hg).trans hgg, rest⟩
set_option maxRecDepth 100000 in
set_option maxHeartbeats 4000000 in
theorem refExact_any (m a t r : Nat) (A : Option Addr) (len cap : Nat) (es : List A4) (w : World) (hE : ArcsAt w w.heap.size A len es) (hG : GoodN (m : Int) es) (hF : FeeS es) (ha : a < m) (hr : r ≤ 100) :
    Calls Try.prog 27 #[.agg #[.int .i64 (m : Int), .slice A len cap], .int .i64 (a : Int), .int .i64 (t : Int), .int .i64 (r : Int)] w fun e w' => e = .returned (.int .i64 (exV (netA m es) t r a)) ∧ Below w.heap.size w w' := by
  have hl30 : len ≤ 30 := by have := hG.len; have := hE.1; omega
  have hm10 : m ≤ 10 := by have := hG.n1; omega
  have HKL : Hid ((netA m es).K = len) := Lib.hid hE.1
  have HG := Lib.hid hG
  have HE := Lib.hid hE
  have HFE := Lib.hid (netA_fee hG hF)
  have HX := Lib.hid (FrN.start (w := w) (n := (m : Int)) (A := A) (len := len) (cap := cap))
  have k0 := HX.out.k0
  have HO0 : Hid ((bxN w (m : Int) A len cap).ownsRow (w.heap.size + 1) 2 1 (.slice none 0 0) 0 (rowE (exV (netA m es) t 0) 0)) := Lib.hid (World.ownsRow_nil ..)
  have hLim : ∀ k, k ≤ 100 → ∀ i c, exR (netA m es) t k i = some c → -104857600 ≤ c ∧ c ≤ 104857600 := fun k hk i c h => by
    have h1 := exR_abs HFE.out h
    omega
  have HL1 := Lib.hid hLim
  have HZ : Hid (∀ i, exV (netA m es) t 0 i = if i = t then 0 else 1152921504606846976) := Lib.hid fun i => by
    unfold exV exR
    by_cases e : i = t
    · rw [if_pos e, if_pos e]; rfl
    · rw [if_neg e, if_neg e]; rfl
  clear hE hG hF hLim
  go_enter Try.func27, Try.ntmps27
  go_wp2_with fail
  clear k0
  go_loopw [9, 10, 11] (fun x y _ wr => ∃ (i : Nat) (A1 : Option Addr) (c1 : Nat), i ≤ m ∧ x = .slice A1 i c1 ∧ y = .int .i64 i ∧ Hid (FrN w (m : Int) A len cap wr ∧ wr.ownsRow (w.heap.size + 1) 2 1 (.slice A1 i c1) i (rowE (exV (netA m es) t 0) i))) (fun _ y _ _ => m - (intOf y).toNat)
  case atStart => exact ⟨0, none, 0, Nat.zero_le _, rfl, rfl, Lib.hid ⟨HX.out, HO0.out⟩⟩
  case round =>
    clear HX HO0
    obtain ⟨i, A1, c1, hi, rfl, rfl, HR⟩ := hrel
    have k0 := HR.out.1.k0
    by_cases hlt : i < m
    · obtain ⟨z, hz⟩ : ∃ z, z = exV (netA m es) t 0 i := ⟨_, rfl⟩
      have HZI : Hid (z = exV (netA m es) t 0 i) := Lib.hid hz
      have HO1 : Hid ((wr.alloc (.cells #[.int .i64 z] 2)).ownsRow (w.heap.size + 1) 2 1 (.slice A1 i c1) i (rowE (exV (netA m es) t 0) i)) := Lib.hid (own_later HR.out.2 ((Below.refl _ _).alloc (Nat.le_refl _) _))
      have HH : Hid ((wr.alloc (.cells #[.int .i64 z] 2)).heap[wr.heap.size]? = some (.cells #[.int .i64 z] 2 (0, 0))) := Lib.hid (MapKept.heap_alloc wr _).1
      have hbs : w.heap.size + 1 ≤ (wr.alloc (.cells #[.int .i64 z] 2)).heap.size := by have := HR.out.1.lt; simp; omega
      have HFR : Hid (∀ w2, Below (w.heap.size + 1) (wr.alloc (.cells #[.int .i64 z] 2)) w2 → FrN w (m : Int) A len cap w2) := Lib.hid fun w2 h => (HR.out.1.alloc (by have := HR.out.1.lt; omega) _).trans h
      by_cases hit : i = t
      · have htb : ((i : Int) == (t : Int)) = true := by simp [hit]
        have htn : (i == t) = true := by simp [hit]
        obtain rfl : z = 0 := by rw [hz, HZ.out, if_pos hit]
        clear hz hit
        go_wp2_with (at_builtin; refine wpList_app_one infoI64x rfl _ _ 25 rfl (w.heap.size + 1) Try.underlying25 rfl (by decide) rfl HO1.out rfl HH.out rfl (by omega) hbs ?_; intro A2 c2 w2 hown2 hb2 hs2 _; have HO2 := Lib.hid hown2; have HB2 := Lib.hid hb2; clear hown2 hb2)
        have HN : Hid (FrN w (m : Int) A len cap w2 ∧ w2.ownsRow (w.heap.size + 1) 2 1 (.slice A2 (i + 1) c2) (i + 1) (rowE (exV (netA m es) t 0) (i + 1))) := Lib.hid ⟨HFR.out w2 HB2.out, by rw [rowE_push, ← HZI.out]; exact HO2.out⟩
        clear hs2 hbs
        go_wp2_with fail
        go_roundw
        case rel => exact ⟨i + 1, A2, c2, by omega, rfl, by go_num, HN⟩
        case measure => simp [intOf]; omega
      · have htb : ((i : Int) == (t : Int)) = false := by simp; omega
        have htn : (i == t) = false := by simp [hit]
        obtain rfl : z = 1152921504606846976 := by rw [hz, HZ.out, if_neg hit]
        clear hz hit
        go_wp2_with (at_builtin; refine wpList_app_one infoI64x rfl _ _ 25 rfl (w.heap.size + 1) Try.underlying25 rfl (by decide) rfl HO1.out rfl HH.out rfl (by omega) hbs ?_; intro A2 c2 w2 hown2 hb2 hs2 _; have HO2 := Lib.hid hown2; have HB2 := Lib.hid hb2; clear hown2 hb2)
        have HN : Hid (FrN w (m : Int) A len cap w2 ∧ w2.ownsRow (w.heap.size + 1) 2 1 (.slice A2 (i + 1) c2) (i + 1) (rowE (exV (netA m es) t 0) (i + 1))) := Lib.hid ⟨HFR.out w2 HB2.out, by rw [rowE_push, ← HZI.out]; exact HO2.out⟩
        clear hs2 hbs
        go_wp2_with fail
        go_roundw
        case rel => exact ⟨i + 1, A2, c2, by omega, rfl, by go_num, HN⟩
        case measure => simp [intOf]; omega
    · obtain rfl : i = m := by omega
      obtain ⟨g, rfl, hg1, hg2⟩ := own_some HR.out.2 (by omega)
      go_wp2_with fail
      clear k0 hg1 hg2 HZ
      go_loopw [9, 12, 13, 14, 15, 17] (fun x y _ _ _ _ wk => ∃ (k g c : Nat), k ≤ r ∧ x = .slice (some ⟨g, 0, none⟩) i c ∧ y = .int .i64 k ∧ Hid (FrN w (i : Int) A len cap wk ∧ wk.ownsRow (w.heap.size + 1) 2 1 (.slice (some ⟨g, 0, none⟩) i c) i (rowE (exV (netA i es) t k) i))) (fun _ y _ _ _ _ _ => r - (intOf y).toNat)
      case atStart => exact ⟨0, g, c1, Nat.zero_le _, rfl, rfl, HR⟩
      case round =>
        clear HR
        obtain ⟨k, gd, cd, hk, rfl, rfl, HD⟩ := hrel
        by_cases hkr : k < r
        · obtain ⟨wo, rfl⟩ : ∃ wo : World, wo = wr := ⟨_, rfl⟩
          have hgd : gd < wo.heap.size ∧ w.heap.size < wo.heap.size := by
            obtain ⟨q, h1, _, h2⟩ := own_some HD.out.2 (by omega)
            injection h1 with h1
            injection h1 with h1
            subst h1; exact ⟨h2, HD.out.1.lt⟩
          obtain ⟨hgd1, hgd2⟩ := hgd
          go_wp2_with fail
          obtain ⟨B, hB⟩ : ∃ B, B = wo.heap.size := ⟨_, rfl⟩
          rw [← hB] at hgd1 hgd2
          have HI0 : Hid (FrN w (i : Int) A len cap wo ∧ wo.ownsRow (w.heap.size + 1) 2 1 (.slice (some ⟨gd, 0, none⟩) i cd) i (rowE (exV (netA i es) t k) i) ∧ wo.ownsRow B 2 1 (.slice none 0 0) 0 (rowE (exV (netA i es) t (k + 1)) 0) ∧ B ≤ wo.heap.size) := Lib.hid ⟨HD.out.1, HD.out.2, World.ownsRow_nil .., Nat.le_of_eq hB⟩
          clear hB
          go_loopw [13, 14, 15, 17] (fun x y _ _ wi => ∃ (p : Nat) (A3 : Option Addr) (c3 : Nat), p ≤ i ∧ x = .slice A3 p c3 ∧ y = .int .i64 p ∧ Hid (FrN w (i : Int) A len cap wi ∧ wi.ownsRow (w.heap.size + 1) 2 1 (.slice (some ⟨gd, 0, none⟩) i cd) i (rowE (exV (netA i es) t k) i) ∧ wi.ownsRow B 2 1 (.slice A3 p c3) p (rowE (exV (netA i es) t (k + 1)) p) ∧ B ≤ wi.heap.size)) (fun _ y _ _ _ => i - (intOf y).toNat)
          case atStart => exact ⟨0, none, 0, Nat.zero_le _, rfl, rfl, HI0⟩
          case round =>
            clear HI0 HD
            obtain ⟨p, A3, c3, hp, rfl, rfl, HR⟩ := hrel
            have k0 := HR.out.1.k0
            by_cases hpi : p < i
            · have k1 := HR.out.1.k1
              obtain ⟨wp0, rfl⟩ : ∃ wp0 : World, wp0 = wr := ⟨_, rfl⟩
              go_wp2_with fail
              clear k0 k1
              go_loopw [15, 17, 45] (fun x _ y wj => ∃ j : Nat, j ≤ len ∧ y = .int .i64 j ∧ x = .int .i64 (exM (netA i es) t k p j) ∧ Hid (FrN w (i : Int) A len cap wj ∧ wj.ownsRow (w.heap.size + 1) 2 1 (.slice (some ⟨gd, 0, none⟩) i cd) i (rowE (exV (netA i es) t k) i) ∧ wj.ownsRow B 2 1 (.slice A3 p c3) p (rowE (exV (netA i es) t (k + 1)) p) ∧ B ≤ wj.heap.size)) (fun _ _ y _ => len - (intOf y).toNat)
              case atStart => exact ⟨0, Nat.zero_le _, rfl, rfl, HR⟩
              case round =>
                clear HR
                obtain ⟨j, hj, rfl, rfl, HR⟩ := hrel
                by_cases hjl : j < len
                · obtain ⟨bb, off, ⟨x0, x1, x2, x3⟩, rfl, hbb, hx, hc0', hc1, hc2, hc3⟩ := (HR.out.1.arcs HE.out).at_ hjl
                  obtain ⟨e0, e1, e2, l0, l1, l2⟩ := netA_at HG.out hx
                  simp only at e0 e1 e2 hc0' hc1 hc2 hc3
                  subst e0 e1
                  obtain ⟨f1, f2⟩ := HFE.out j l2
                  rw [e2] at f1 f2
                  have HES : Hid (exM (netA i es) t k p (j + 1) = if (netA i es).fr j = p ∧ exV (netA i es) t k ((netA i es).to j) < 1152921504606846976 ∧ exV (netA i es) t k ((netA i es).to j) + x3 < exM (netA i es) t k p j then exV (netA i es) t k ((netA i es).to j) + x3 else exM (netA i es) t k p j) := Lib.hid (by
                    have h := ex_step (N := netA i es) (D := exR (netA i es) t k) (j := j) (fun c hc => by
                      have h1 := HL1.out k (by omega) _ c hc
                      rw [e2]
                      unfold farE
                      omega) p
                    rw [e2] at h
                    exact h)
                  obtain ⟨ct, _, _⟩ := own_cell HR.out.2.1 (rowE_at l1)
                  have HBD : Hid (exV (netA i es) t k ((netA i es).to j) ≤ 1152921504606846976 ∧ -1152921504606846976 ≤ exV (netA i es) t k ((netA i es).to j)) := Lib.hid (by
                    unfold exV
                    cases h : exR (netA i es) t k ((netA i es).to j) with
                    | none => simp [encR, farE]
                    | some c => have := HL1.out k (by omega) _ c h; simp only [encR]; omega)
                  generalize hfr : (netA i es).fr j = fr at *
                  generalize hto : (netA i es).to j = to at *
                  generalize hdx : exV (netA i es) t k to = dx at *
                  generalize hdy : exM (netA i es) t k p j = dy at *
                  obtain ⟨b1, b2⟩ := HBD.out
                  clear hx e2 hfr hto hdx hdy l2
                  have ik0 : (0 : Int) ≤ (j : Int) := by omega
                  have ik1 : (j : Int) < (len : Int) := by omega
                  have it0 : (0 : Int) ≤ (to : Int) := by omega
                  have it1 : (to : Int) < (i : Int) := by omega
                  have hlg1 : gd < wr.heap.size := by have := HR.out.2.2.2; omega
                  go_wp2_with fail
                  clear hc0' hc1 hc2 hc3
                  obtain ⟨W1, hW1⟩ : ∃ W1, W1 = wr.alloc (.cells #[.int .i64 fr, .int .i64 to, .int .i64 x2, .int .i64 x3] 50) := ⟨_, rfl⟩
                  rw [← hW1]
                  have hb1 : Below wr.heap.size wr W1 := by rw [hW1]; exact (Below.refl _ _).alloc (Nat.le_refl _) _
                  have HQ1 : Hid (W1.heap[wr.heap.size]? = some (.cells #[.int .i64 fr, .int .i64 to, .int .i64 x2, .int .i64 x3] 50 (0, 0))) := Lib.hid (by rw [hW1]; exact (MapKept.heap_alloc wr _).1)
                  have HR1 : Hid (∀ W, Below W1.heap.size W1 W → FrN w (i : Int) (some ⟨bb, off, none⟩) len cap W ∧ W.ownsRow (w.heap.size + 1) 2 1 (.slice (some ⟨gd, 0, none⟩) i cd) i (rowE (exV (netA i es) t k) i) ∧ W.ownsRow B 2 1 (.slice A3 p c3) p (rowE (exV (netA i es) t (k + 1)) p) ∧ B ≤ W.heap.size) := Lib.hid fun W hb => by
                    have h := hb1.trans (hb.mono hb1.size)
                    exact ⟨HR.out.1.later h, own_later HR.out.2.1 h, own_later HR.out.2.2.1 h, Nat.le_trans HR.out.2.2.2 h.size⟩
                  have ct1 : W1.cell? ⟨gd, to, none⟩ = some (.int .i64 dx) := by rw [hb1.cell (p := ⟨gd, to, none⟩) hlg1]; exact ct
                  have y0 : W1.cell? ⟨wr.heap.size, 0, none⟩ = some (.int .i64 fr) := by simp [World.cell?, HQ1.out]
                  have y1 : W1.cell? ⟨wr.heap.size, 1, none⟩ = some (.int .i64 to) := by simp [World.cell?, HQ1.out]
                  have y3 : W1.cell? ⟨wr.heap.size, 3, none⟩ = some (.int .i64 x3) := by simp [World.cell?, HQ1.out]
                  clear hW1 hb1 ct HR
                  by_cases hfp : fr = p
                  · have htb : ((fr : Int) == (p : Int)) = true := by simp [hfp]
                    have htn : (fr == p) = true := by simp [hfp]
                    by_cases h1 : dx < 1152921504606846976
                    · have hw1 : IntKind.i64.wrap (dx + x3) = dx + x3 := IntWalk.i64_in _ (by omega)
                      have hw2 : wrap64 (dx + x3) = dx + x3 := by unfold wrap64; omega
                      have h1b : decide (dx < 1152921504606846976) = true := decide_eq_true h1
                      by_cases h2 : dx + x3 < dy
                      · have h2b : decide (dx + x3 < dy) = true := decide_eq_true h2
                        have HN : Hid (exM (netA i es) t k p (j + 1) = dx + x3) := Lib.hid (by rw [HES.out, if_pos ⟨hfp, h1, h2⟩])
                        clear HES h1 h2 hfp
                        go_wp2_with fail
                        go_quiet (fail)
                        go_wp2
                        go_quiet (fail)
                        go_wp2
                        go_roundw
                        case rel => exact ⟨j + 1, by omega, by go_num, by rw [HN.out], Lib.hid (HR1.out _ (by first | exact below_drewN (Below.refl _ _) _ | exact below_drewN (below_drewN (Below.refl _ _) _) _))⟩
                        case measure => simp [intOf]; omega
                      · have h2b : decide (dx + x3 < dy) = false := decide_eq_false h2
                        have HN : Hid (exM (netA i es) t k p (j + 1) = dy) := Lib.hid (by rw [HES.out, if_neg (fun h => h2 h.2.2)])
                        clear HES h1 h2 hfp
                        go_wp2_with fail
                        go_quiet (fail)
                        go_wp2
                        go_roundw
                        case rel => exact ⟨j + 1, by omega, by go_num, by rw [HN.out], Lib.hid (HR1.out _ (below_drewN (Below.refl _ _) _))⟩
                        case measure => simp [intOf]; omega
                    · have h1b : decide (dx < 1152921504606846976) = false := decide_eq_false h1
                      have HN : Hid (exM (netA i es) t k p (j + 1) = dy) := Lib.hid (by rw [HES.out, if_neg (fun h => h1 h.2.1)])
                      clear HES h1 hfp
                      go_wp2_with fail
                      go_quiet (fail)
                      go_wp2
                      go_roundw
                      case rel => exact ⟨j + 1, by omega, by go_num, by rw [HN.out], Lib.hid (HR1.out _ (below_drewN (Below.refl _ _) _))⟩
                      case measure => simp [intOf]; omega
                  · have htb : ((fr : Int) == (p : Int)) = false := by simp; omega
                    have htn : (fr == p) = false := by simp [hfp]
                    have HN : Hid (exM (netA i es) t k p (j + 1) = dy) := Lib.hid (by rw [HES.out, if_neg (fun h => hfp h.1)])
                    clear HES hfp
                    go_wp2_with fail
                    go_quiet (fail)
                    go_wp2
                    go_roundw
                    case rel => exact ⟨j + 1, by omega, by go_num, by rw [HN.out], Lib.hid (HR1.out _ (below_drewN (Below.refl _ _) _))⟩
                    case measure => simp [intOf]; omega
                · obtain rfl : j = len := by omega
                  have HVE : Hid (exM (netA i es) t k p j = exV (netA i es) t (k + 1) p) := Lib.hid (by unfold exM exV; rw [← HKL.out]; rfl)
                  rw [HVE.out]
                  obtain ⟨z, hz⟩ : ∃ z, z = exV (netA i es) t (k + 1) p := ⟨_, rfl⟩
                  have HZI := Lib.hid hz
                  rw [← hz]
                  clear hz HVE
                  have HO1 : Hid ((wr.alloc (.cells #[.int .i64 z] 2)).ownsRow B 2 1 (.slice A3 p c3) p (rowE (exV (netA i es) t (k + 1)) p)) := Lib.hid (own_later HR.out.2.2.1 ((Below.refl _ _).alloc (Nat.le_refl _) _))
                  have HH : Hid ((wr.alloc (.cells #[.int .i64 z] 2)).heap[wr.heap.size]? = some (.cells #[.int .i64 z] 2 (0, 0))) := Lib.hid (MapKept.heap_alloc wr _).1
                  have hbs : B ≤ (wr.alloc (.cells #[.int .i64 z] 2)).heap.size := by have := HR.out.2.2.2; simp; omega
                  have HNX : Hid (∀ w2, Below B (wr.alloc (.cells #[.int .i64 z] 2)) w2 → FrN w (i : Int) A j cap w2 ∧ w2.ownsRow (w.heap.size + 1) 2 1 (.slice (some ⟨gd, 0, none⟩) i cd) i (rowE (exV (netA i es) t k) i) ∧ B ≤ w2.heap.size) := Lib.hid fun w2 h => by
                    have h2 : Below B wr w2 := ((Below.refl _ wr).alloc HR.out.2.2.2 _).trans h
                    exact ⟨HR.out.1.trans (h2.mono (by omega)), own_under HR.out.2.1 hgd1 h2, Nat.le_trans HR.out.2.2.2 h2.size⟩
                  clear HR
                  go_wp2_with (at_builtin; refine wpList_app_one infoI64x rfl _ _ 25 rfl B Try.underlying25 rfl (by decide) rfl HO1.out rfl HH.out rfl (by omega) hbs ?_; intro A2 c2 w2 hown2 hb2 hs2 _; have HO2 := Lib.hid hown2; have HB2 := Lib.hid hb2; clear hown2 hb2)
                  have HN := Lib.hid (HNX.out w2 HB2.out)
                  clear hs2 hbs HNX
                  go_wp2_with fail
                  go_roundw
                  case rel => exact ⟨p + 1, A2, c2, by omega, rfl, by go_num, Lib.hid ⟨HN.out.1, HN.out.2.1, by rw [rowE_push, ← HZI.out]; exact HO2.out, HN.out.2.2⟩⟩
                  case measure => simp [intOf]; omega
            · obtain rfl : p = i := by omega
              obtain ⟨g3, HA3⟩ : ∃ g3, Hid (A3 = some ⟨g3, 0, none⟩) := by
                obtain ⟨g3, h1, _, _⟩ := own_some HR.out.2.2.1 (by omega)
                exact ⟨g3, Lib.hid h1⟩
              obtain rfl := HA3.out
              have HN : Hid (FrN w (p : Int) A len cap wr ∧ wr.ownsRow (w.heap.size + 1) 2 1 (.slice (some ⟨g3, 0, none⟩) p c3) p (rowE (exV (netA p es) t (k + 1)) p)) := Lib.hid ⟨HR.out.1, own_low HR.out.2.2.1 (by omega)⟩
              clear HR HA3
              go_wp2_with fail
              go_roundw
              case rel => exact ⟨k + 1, g3, c3, by omega, rfl, by go_num, HN⟩
              case measure => simp [intOf]; omega
        · obtain rfl : k = r := by omega
          obtain ⟨ca, _, _⟩ := own_cell HD.out.2 (rowE_at ha)
          have ia0 : (0 : Int) ≤ (a : Int) := by omega
          have ia1 : (a : Int) < (i : Int) := by omega
          go_wp2_with fail
          go_ret
          exact ⟨rfl, HD.out.1.below⟩
end Go.Proofs.Ytkpejmpnbdblbaa
