/- ShortBellman, walked: no arc makes a shorter way than is told; each that is told is made by some arc. -/
import Derived.Test.YtkpejmpnbdblbaaShortFars
import Derived.Test.YtkpejmpnbdblbaaBellP
import Derived.Test.YtkpejmpnbdblbaaInsideV
namespace Go.Proofs.Ytkpejmpnbdblbaa
open Go.RowKit

set_option maxRecDepth 100000 in
set_option maxHeartbeats 1000000 in
theorem keepNet_v (n s : Int) (A : Option Addr) (len cap : Nat) (es : List A4) (v : Bool) (w : World) (hE : ArcsAt w w.heap.size A len es) (hv : v = true ↔ askF n es [s] = 0) :
    Calls Try.prog 20 #[.agg #[.int .i64 n, .slice A len cap], .int .i64 s] w fun e w' => e = .returned (.bool v) ∧ Below w.heap.size w w' := by
  have HX := Lib.hid (BoxN.start (n := n) (cap := cap) hE)
  obtain ⟨x, hx⟩ : ∃ x, netF n es = x := ⟨_, rfl⟩
  have HN := Lib.hid hx
  have k0 := HX.out.k0
  have k1 := HX.out.k1
  by_cases h0 : x = 0
  · subst h0
    have HIN : Hid ([s].all (isIn n) = v) := Lib.hid (by
      rw [Bool.eq_iff_iff, hv]
      simp only [List.all_cons, List.all_nil, Bool.and_true, isIn, Bool.and_eq_true, decide_eq_true_eq]
      constructor
      · exact fun h => askF_ok hx fun x hx => by simp at hx; omega
      · exact fun h => (askF_zero h).2 s (by simp))
    clear hE hx hv
    go_enter Try.func20, Try.ntmps20
    go_wp2_with fail
    refine (netCheck_v n 0 A len cap es _ (by exact HX.out.arcs) HN.out).mono ?_
    rintro e w1 ⟨rfl, hB⟩
    have HX1 := Lib.hid (HX.out.next hB)
    clear k0 k1 hB
    have k0 := HX1.out.k0
    have HI := Lib.hid (ints_one w1 s 3)
    go_wp2_with fail
    refine (inside_v n _ 1 1 [s] v _ (by exact HI.out) (by omega) HIN.out).mono ?_
    rintro e w2 ⟨rfl, rfl⟩
    go_wp2_with fail
    go_ret
    exact ⟨rfl, HX1.out.below.alloc (by have := HX1.out.lt; omega) _⟩
  · have HE : Hid (v = false) := Lib.hid (by
      rw [Bool.eq_false_iff]
      intro h
      have h1 := hv.1 h
      exact h0 (by rw [← hx]; exact (askF_zero h1).1))
    have hx0 : (x == 0) = false := by simpa using h0
    clear hE hx hv h0
    go_enter Try.func20, Try.ntmps20
    go_wp2_with fail
    refine (netCheck_v n x A len cap es _ (by exact HX.out.arcs) HN.out).mono ?_
    rintro e w1 ⟨rfl, hB⟩
    have HX1 := Lib.hid (HX.out.next hB)
    clear k0 k1 hB
    have k0 := HX1.out.k0
    go_wp2_with fail
    go_ret
    exact ⟨by rw [HE.out]; rfl, HX1.out.below⟩
theorem keepNet_yes (n s : Int) (A : Option Addr) (len cap : Nat) (es : List A4) (w : World) (hE : ArcsAt w w.heap.size A len es) (hv : askF n es [s] = 0) :
    Calls Try.prog 20 #[.agg #[.int .i64 n, .slice A len cap], .int .i64 s] w fun e w' => e = .returned (.bool true) ∧ Below w.heap.size w w' := keepNet_v n s A len cap es true w hE ⟨fun _ => hv, fun _ => rfl⟩
theorem keepNet_no (n s : Int) (A : Option Addr) (len cap : Nat) (es : List A4) (w : World) (hE : ArcsAt w w.heap.size A len es) (hv : askF n es [s] ≠ 0) :
    Calls Try.prog 20 #[.agg #[.int .i64 n, .slice A len cap], .int .i64 s] w fun e w' => e = .returned (.bool false) ∧ Below w.heap.size w w' := keepNet_v n s A len cap es false w hE ⟨(fun h => by cases h), fun h => absurd h hv⟩
/-- Is what is told of t made by some arc, of so many? -/
def madeF (N : ArcsF) (D : Nat → Option (List Nat)) (s t : Nat) : Nat → Bool
  | 0 => decide (t = s) || !(D t).isSome
  | j + 1 => madeF N D s t j || (decide (N.to j = t) && ((D (N.fr j)).isSome && decide (farV N D t = farV N D (N.fr j) + N.fee j)))
theorem madeF_base {N : ArcsF} {D : Nat → Option (List Nat)} {s t : Nat} (h : madeF N D s t 0 = true) : ∀ j, madeF N D s t j = true
  | 0 => h
  | j + 1 => by
    show (madeF N D s t j || _) = true
    rw [madeF_base h j]; rfl
theorem madeF_by {N : ArcsF} {D : Nat → Option (List Nat)} {s t k : Nat} (h : (decide (N.to k = t) && ((D (N.fr k)).isSome && decide (farV N D t = farV N D (N.fr k) + N.fee k))) = true) : ∀ j, k < j → madeF N D s t j = true
  | j + 1, hk => by
    show (madeF N D s t j || _) = true
    rcases Nat.lt_or_ge k j with h1 | h1
    · rw [madeF_by h j h1]; rfl
    · obtain rfl : k = j := by omega
      rw [h, Bool.or_true]
/-- The world of ShortBellman: the net's box, and the two rows. -/
structure BellW (w : World) (m : Nat) (A : Option Addr) (len cap : Nat) (es : List A4) (D : Nat → Option (List Nat)) (g1 g2 : Nat) (w1 : World) : Prop where
  box : BoxN w (m : Int) A len cap es w1
  row1 : RowOf w1 g1 2 (farL (netA m es) D m)
  row2 : RowOf w1 g2 4 (isL D m)
section
variable {w w1 w2 : World} {m : Nat} {A : Option Addr} {len cap : Nat} {es : List A4} {D : Nat → Option (List Nat)} {g1 g2 t : Nat}
theorem BellW.later (h : BellW w m A len cap es D g1 g2 w1) (hb : Below w1.heap.size w1 w2) : BellW w m A len cap es D g1 g2 w2 := ⟨h.box.next hb, h.row1.keep hb, h.row2.keep hb⟩
theorem BellW.c1 (h : BellW w m A len cap es D g1 g2 w1) (ht : t < m) : w1.cell? ⟨g1, t, none⟩ = some (.int .i64 (farV (netA m es) D t)) := h.row1.cell (by unfold farL; rw [List.getElem?_map, List.getElem?_range ht]; rfl)
theorem BellW.c2 (h : BellW w m A len cap es D g1 g2 w1) (ht : t < m) : w1.cell? ⟨g2, t, none⟩ = some (.bool (D t).isSome) := h.row2.cell (by unfold isL; rw [List.getElem?_map, List.getElem?_range ht]; rfl)
end
theorem farV_abs {m s : Nat} {es : List A4} (hG : GoodN (m : Int) es) (hF : FeeS es) (hs : s < m) (t : Nat) : -314572800 ≤ farV (netA m es) (runD (netA m es) s m) t ∧ farV (netA m es) (runD (netA m es) s m) t ≤ 314572800 := by
  unfold farV
  cases hd : runD (netA m es) s m t with
  | none =>
    show (-314572800 : Int) ≤ 0 ∧ (0 : Int) ≤ 314572800
    decide
  | some l =>
    have h := (OkD.run (N := netA m es) (netA_ok hG) (show s < (netA m es).n from hs) m).1 t l hd
    have h1 := lenL_abs (netA_fee hG hF) h.1.all
    have h2 : m * (netA m es).K ≤ 10 * 30 := Nat.mul_le_mul (by have := hG.n1; omega) hG.len
    have h3 := h.2.1
    show -314572800 ≤ lenL (netA m es) l ∧ lenL (netA m es) l ≤ 314572800
    omega
set_option maxRecDepth 100000 in
set_option maxHeartbeats 4000000 in
theorem shortBellman_any (n : Int) (A : Option Addr) (len cap : Nat) (es : List A4) (s : Int) (w : World) (hE : ArcsAt w w.heap.size A len es) (_ : len ≤ cap) (_ : ∀ e ∈ es, WfA e) (_ : (Lit.int .i64 n).wf = true) (_ : (Lit.int .i64 s).wf = true) :
    Calls Try.prog 6 #[.agg #[.int .i64 n, .slice A len cap], .int .i64 s] w fun e w' => e = .returned (.bool true) ∧ Below w.heap.size w w' := by
  have HX := Lib.hid (BoxN.start (n := n) (cap := cap) hE)
  have HEL := Lib.hid hE.1
  obtain ⟨x, hx⟩ : ∃ x, askF n es [s] = x := ⟨_, rfl⟩
  have HV := Lib.hid hx
  have k0 := HX.out.k0
  have k1 := HX.out.k1
  by_cases h0 : x = 0
  · subst h0
    obtain ⟨hn0, hsn⟩ := askF_zero hx
    have hG := good_of_netF hn0
    obtain ⟨m, rfl⟩ := Int.eq_ofNat_of_zero_le hG.n0
    obtain ⟨hs0, hs1⟩ := hsn s (by simp)
    obtain ⟨s, rfl⟩ := Int.eq_ofNat_of_zero_le hs0
    have hsm : s < m := by omega
    obtain ⟨v, hv⟩ := sinks_bool (netA m es) s
    have hF := feeS_of_netF hn0
    have HFG := Lib.hid (fun W hW => far_good m A len cap es s v W hW hn0 hsm hv)
    have HSI := Lib.hid (fun W hW => sinks_v m s A len cap es v W hW hG hF hsm hv)
    have HVV := Lib.hid hv
    have hm10 : m ≤ 10 := by have := hG.n1; omega
    have hl30 : len ≤ 30 := by have := hG.len; have := hE.1; omega
    have HG := Lib.hid hG
    have HFE := Lib.hid (netA_fee hG hF)
    have HBS := Lib.hid (fun hS => bell_start (r := m) (netA_fee hG hF) (by decide) (netA_ok hG) (show s < (netA m es).n from hsm) (netA_K hG) hS (Nat.le_succ m))
    have HBA := Lib.hid (fun hS k l hk h => bell_arc (r := m) (k := k) (l := l) (netA_fee hG hF) (by decide) (netA_ok hG) (show s < (netA m es).n from hsm) (netA_K hG) hS (Nat.le_succ m) hk h)
    have HBM := Lib.hid (fun hS t l h hne => bell_made (r := m) (t := t) (l := l) (netA_fee hG hF) (by decide) (netA_ok hG) (show s < (netA m es).n from hsm) (netA_K hG) hS (Nat.le_succ m) h hne)
    have HFA := Lib.hid (farV_abs hG hF hsm)
    have HKL : Hid ((netA m es).K = len) := Lib.hid hE.1
    clear hE hx hn0 hsn hG hs0 hs1 hv hF
    go_enter Try.func6, Try.ntmps6
    go_wp2_with fail
    refine (HFG.out _ HX.out.arcs).mono ?_
    cases v with
    | true =>
      rintro e w1 ⟨h1, _, hB⟩
      obtain rfl := h1 rfl
      have HX1 := Lib.hid (HX.out.next hB)
      clear k0 k1 hB HFG HBS HBA HBM HFA HFE
      have k0 := HX1.out.k0
      have k1 := HX1.out.k1
      go_wp2_with fail
      refine (keepNet_yes (m : Int) (s : Int) A len cap es _ (by exact HX1.out.arcs) HV.out).mono ?_
      rintro e w2 ⟨rfl, hB⟩
      have HX2 := Lib.hid (HX1.out.next hB)
      clear k0 k1 hB
      have k0 := HX2.out.k0
      have k1 := HX2.out.k1
      go_wp2_with fail
      refine (HSI.out _ HX2.out.arcs).mono ?_
      rintro e w3 ⟨rfl, hB⟩
      have HX3 := Lib.hid (HX2.out.next hB)
      clear k0 k1 hB
      go_wp2_with fail
      go_ret
      exact ⟨rfl, HX3.out.below⟩
    | false =>
      rintro e w1 ⟨_, h2, hB⟩
      obtain ⟨g1, g2, rfl, hr1, hr2, _⟩ := h2 rfl
      have HX1 := Lib.hid (HX.out.next hB)
      have hS : ¬ SinksP (netA m es) s := fun h => by have := HVV.out.2 h; cases this
      have HB1 := Lib.hid (HBS.out hS)
      have HA1 := Lib.hid (HBA.out hS)
      have HM1 := Lib.hid (HBM.out hS)
      have HR1 := Lib.hid hr1
      have HR2 := Lib.hid hr2
      clear k0 k1 hB HFG hr1 hr2 HBS HBA HBM hS HSI
      have k0 := HX1.out.k0
      have k1 := HX1.out.k1
      go_wp2_with fail
      refine (keepNet_yes (m : Int) (s : Int) A len cap es _ (by exact HX1.out.arcs) HV.out).mono ?_
      rintro e w2 ⟨rfl, hB⟩
      have HW2 : Hid (BellW w m A len cap es (runD (netA m es) s m) g1 g2 w2) := Lib.hid ⟨HX1.out.next hB, HR1.out.keep hB, HR2.out.keep hB⟩
      clear k0 k1 hB HX1 HR1 HR2
      have k0 := HW2.out.box.k0
      have k1 := HW2.out.box.k1
      obtain ⟨l0, hl0, hlen0⟩ := HB1.out
      have cs1 : w2.cell? ⟨g1, s, none⟩ = some (.int .i64 0) := by
        have h := HW2.out.c1 hsm
        rwa [show farV (netA m es) (runD (netA m es) s m) s = 0 by unfold farV; rw [hl0]; exact hlen0] at h
      have cs2 : w2.cell? ⟨g2, s, none⟩ = some (.bool true) := by
        have h := HW2.out.c2 hsm
        rwa [hl0] at h
      have is0 : (0 : Int) ≤ (s : Int) := by omega
      have is1 : (s : Int) < (m : Int) := by omega
      clear hl0 hlen0 HB1
      go_wp2_with fail
      clear k0 k1 cs1 cs2
      obtain ⟨D, hD⟩ : ∃ D, D = runD (netA m es) s m := ⟨_, rfl⟩
      rw [← hD] at HW2 HFA HA1 HM1
      clear hD
      go_loopw [9, 65] (fun _ y wr => ∃ j : Nat, j ≤ len ∧ y = .int .i64 j ∧ Hid (BellW w m A len cap es D g1 g2 wr)) (fun _ y _ => len - (intOf y).toNat)
      case atStart => exact ⟨0, Nat.zero_le _, rfl, HW2⟩
      case round =>
        clear HW2
        obtain ⟨j, hj, rfl, HR⟩ := hrel
        by_cases hjl : j < len
        · obtain ⟨bb, off, ⟨x0, x1, x2, x3⟩, rfl, hbb, hx, hc0', hc1, hc2, hc3⟩ := HR.out.box.arcs.at_ hjl
          obtain ⟨e0, e1, e2, l0, l1, l2⟩ := netA_at HG.out hx
          simp only at e0 e1 e2 hc0' hc1 hc2 hc3
          subst e0 e1
          obtain ⟨f1, f2⟩ := HFE.out j l2
          rw [e2] at f1 f2
          have b1 := HFA.out ((netA m es).fr j)
          have HAR : Hid (∀ l, D ((netA m es).fr j) = some l → ∃ q, D ((netA m es).to j) = some q ∧ lenL (netA m es) q ≤ lenL (netA m es) l + x3) := Lib.hid fun l hl => by rw [← e2]; exact HA1.out j l l2 hl
          generalize hfr : (netA m es).fr j = fr at *
          generalize hto : (netA m es).to j = to at *
          clear hx e2 hfr hto l2
          have ik0 : (0 : Int) ≤ (j : Int) := by omega
          have ik1 : (j : Int) < (len : Int) := by omega
          have if0 : (0 : Int) ≤ (fr : Int) := by omega
          have if1 : (fr : Int) < (m : Int) := by omega
          have it0 : (0 : Int) ≤ (to : Int) := by omega
          have it1 : (to : Int) < (m : Int) := by omega
          go_wp2_with fail
          clear hc0' hc1 hc2 hc3
          obtain ⟨W1, hW1⟩ : ∃ W1, W1 = wr.alloc (.cells #[.int .i64 fr, .int .i64 to, .int .i64 x2, .int .i64 x3] 50) := ⟨_, rfl⟩
          rw [← hW1]
          have HR1 : Hid (BellW w m (some ⟨bb, off, none⟩) len cap es D g1 g2 W1) := Lib.hid (HR.out.later (by rw [hW1]; exact (Below.refl _ _).alloc (Nat.le_refl _) _))
          have HQ1 : Hid (W1.heap[wr.heap.size]? = some (.cells #[.int .i64 fr, .int .i64 to, .int .i64 x2, .int .i64 x3] 50 (0, 0))) := Lib.hid (by rw [hW1]; exact (MapKept.heap_alloc wr _).1)
          have y0 : W1.cell? ⟨wr.heap.size, 0, none⟩ = some (.int .i64 fr) := by simp [World.cell?, HQ1.out]
          have y1 : W1.cell? ⟨wr.heap.size, 1, none⟩ = some (.int .i64 to) := by simp [World.cell?, HQ1.out]
          have y3 : W1.cell? ⟨wr.heap.size, 3, none⟩ = some (.int .i64 x3) := by simp [World.cell?, HQ1.out]
          have cf2 := HR1.out.c2 l0
          have ct2 := HR1.out.c2 l1
          clear hW1 HR
          cases hDf : D fr with
          | none =>
            rw [hDf] at cf2
            clear b1
            have HDF := Lib.hid hDf
            clear hDf ct2
            simp only [Option.isSome_none] at cf2
            go_wp2_with fail
            go_quiet (fail)
            go_wp2
            go_roundw
            case rel => exact ⟨j + 1, by omega, by go_num, Lib.hid (HR1.out.later (below_drewN (Below.refl _ _) _))⟩
            case measure => simp [intOf]; omega
          | some l =>
            obtain ⟨q, hq, hle⟩ := HAR.out l hDf
            rw [hDf] at cf2
            rw [hq] at ct2
            simp only [Option.isSome_some] at cf2 ct2
            have cf1 := HR1.out.c1 l0
            have ct1 := HR1.out.c1 l1
            have e3 : farV (netA m es) D fr = lenL (netA m es) l := by unfold farV; rw [hDf]
            have e4 : farV (netA m es) D to = lenL (netA m es) q := by unfold farV; rw [hq]
            rw [e3] at cf1 b1
            rw [e4] at ct1
            clear hDf hq e3 e4
            generalize lenL (netA m es) l = df at *
            generalize lenL (netA m es) q = dt at *
            obtain ⟨b2, b3⟩ := b1
            have hw1 : IntKind.i64.wrap (df + x3) = df + x3 := IntWalk.i64_in _ (by omega)
            have hw2 : wrap64 (df + x3) = df + x3 := by unfold wrap64; omega
            have hcb : decide (df + x3 < dt) = false := decide_eq_false (by omega)
            clear HAR hle
            go_wp2_with fail
            go_quiet (fail)
            go_wp2
            go_roundw
            case rel => exact ⟨j + 1, by omega, by go_num, Lib.hid (HR1.out.later (below_drewN (Below.refl _ _) _))⟩
            case measure => simp [intOf]; omega
        · obtain rfl : j = len := by omega
          have k0 := HR.out.box.k0
          clear HA1
          go_wp2_with fail
          clear k0
          go_loopw [10, 11, 13] (fun y _ _ wt => ∃ t : Nat, t ≤ m ∧ y = .int .i64 t ∧ Hid (BellW w m A j cap es D g1 g2 wt)) (fun y _ _ _ => m - (intOf y).toNat)
          case atStart => exact ⟨0, Nat.zero_le _, rfl, HR⟩
          case round =>
            clear HR
            obtain ⟨t, ht, rfl, HR⟩ := hrel
            have k0 := HR.out.box.k0
            by_cases htm : t < m
            · have k1 := HR.out.box.k1
              have ct2 := HR.out.c2 htm
              have it0 : (0 : Int) ≤ (t : Int) := by omega
              have it1 : (t : Int) < (m : Int) := by omega
              have HMT : Hid (madeF (netA m es) D s t j = true) := Lib.hid (by
                by_cases hts : t = s
                · exact madeF_base (by simp [madeF, hts]) j
                · cases hDt : D t with
                  | none => exact madeF_base (by simp [madeF, hDt]) j
                  | some l =>
                    obtain ⟨k, q, h1, h2, h3, h4⟩ := HM1.out t l hDt hts
                    refine madeF_by (k := k) ?_ j (by rw [← HKL.out]; exact h1)
                    have e1 : farV (netA m es) D t = lenL (netA m es) l := by unfold farV; rw [hDt]
                    have e2 : farV (netA m es) D ((netA m es).fr k) = lenL (netA m es) q := by unfold farV; rw [h3]
                    rw [e1, e2, h2, h3]
                    simp [h4])
              obtain ⟨wo, rfl⟩ : ∃ wo : World, wo = wr := ⟨_, rfl⟩
              have hcs : ((t = s ∧ Hid (madeF (netA m es) D s t 0 = true)) ∨ (t ≠ s ∧ (D t).isSome = true ∧ Hid (madeF (netA m es) D s t 0 = false))) ∨ (t ≠ s ∧ (D t).isSome = false ∧ Hid (madeF (netA m es) D s t 0 = true)) := by
                by_cases hts : t = s
                · exact .inl (.inl ⟨hts, Lib.hid (by simp [madeF, hts])⟩)
                · cases hc : (D t).isSome with
                  | true => exact .inl (.inr ⟨hts, rfl, Lib.hid (by simp [madeF, hts, hc])⟩)
                  | false => exact .inr ⟨hts, rfl, Lib.hid (by simp [madeF, hc])⟩
              rcases hcs with (⟨hts, HM0⟩ | ⟨hts, hc, HM0⟩) | ⟨hts, hc, HM0⟩
              · have htb : ((t : Int) == (s : Int)) = true := by simp [hts]
                have htn : (t == s) = true := by simp [hts]
                clear hts ct2
                go_wp2_with fail
                clear k0 k1 htb htn
                go_loopw [11, 13, 118] (fun x _ y wj => ∃ q : Nat, q ≤ j ∧ y = .int .i64 q ∧ x = .bool (madeF (netA m es) D s t q) ∧ Hid (BellW w m A j cap es D g1 g2 wj)) (fun _ _ y _ => j - (intOf y).toNat)
                case atStart => exact ⟨0, Nat.zero_le _, rfl, by rw [HM0.out], HR⟩
                case round =>
                  clear HR HM0
                  obtain ⟨q, hq, rfl, rfl, HR⟩ := hrel
                  by_cases hqj : q < j
                  · obtain ⟨bb, off, ⟨x0, x1, x2, x3⟩, rfl, hbb, hx, hc0', hc1, hc2, hc3⟩ := HR.out.box.arcs.at_ hqj
                    obtain ⟨e0, e1, e2, l0, l1, l2⟩ := netA_at HG.out hx
                    simp only at e0 e1 e2 hc0' hc1 hc2 hc3
                    subst e0 e1
                    obtain ⟨f1, f2⟩ := HFE.out q l2
                    rw [e2] at f1 f2
                    have b1 := HFA.out ((netA m es).fr q)
                    have HST : Hid (madeF (netA m es) D s t (q + 1) = (madeF (netA m es) D s t q || (decide ((netA m es).to q = t) && ((D ((netA m es).fr q)).isSome && decide (farV (netA m es) D t = farV (netA m es) D ((netA m es).fr q) + x3))))) := Lib.hid (by rw [← e2]; rfl)
                    generalize hfr : (netA m es).fr q = fr at *
                    generalize hto : (netA m es).to q = to at *
                    generalize hmq : madeF (netA m es) D s t q = mq at *
                    clear hx e2 hfr hto l2 hmq
                    have ik0 : (0 : Int) ≤ (q : Int) := by omega
                    have ik1 : (q : Int) < (j : Int) := by omega
                    have if0 : (0 : Int) ≤ (fr : Int) := by omega
                    have if1 : (fr : Int) < (m : Int) := by omega
                    go_wp2_with fail
                    clear hc0' hc1 hc2 hc3
                    obtain ⟨W1, hW1⟩ : ∃ W1, W1 = wr.alloc (.cells #[.int .i64 fr, .int .i64 to, .int .i64 x2, .int .i64 x3] 50) := ⟨_, rfl⟩
                    rw [← hW1]
                    have HR1 : Hid (BellW w m (some ⟨bb, off, none⟩) j cap es D g1 g2 W1) := Lib.hid (HR.out.later (by rw [hW1]; exact (Below.refl _ _).alloc (Nat.le_refl _) _))
                    have HQ1 : Hid (W1.heap[wr.heap.size]? = some (.cells #[.int .i64 fr, .int .i64 to, .int .i64 x2, .int .i64 x3] 50 (0, 0))) := Lib.hid (by rw [hW1]; exact (MapKept.heap_alloc wr _).1)
                    have y0 : W1.cell? ⟨wr.heap.size, 0, none⟩ = some (.int .i64 fr) := by simp [World.cell?, HQ1.out]
                    have y1 : W1.cell? ⟨wr.heap.size, 1, none⟩ = some (.int .i64 to) := by simp [World.cell?, HQ1.out]
                    have y3 : W1.cell? ⟨wr.heap.size, 3, none⟩ = some (.int .i64 x3) := by simp [World.cell?, HQ1.out]
                    have cf2 := HR1.out.c2 l0
                    have cf1 := HR1.out.c1 l0
                    have ct1 := HR1.out.c1 htm
                    clear hW1 HR
                    cases mq with
                    | true =>
                      have HN : Hid (madeF (netA m es) D s t (q + 1) = true) := Lib.hid (by rw [HST.out]; rfl)
                      clear HST cf2 cf1 ct1
                      go_wp2_with fail
                      go_quiet (fail)
                      go_wp2
                      go_roundw
                      case rel => exact ⟨q + 1, by omega, by go_num, by rw [HN.out], Lib.hid (HR1.out.later (below_drewN (Below.refl _ _) _))⟩
                      case measure => simp [intOf]; omega
                    | false =>
                      by_cases htt : to = t
                      · have htb : ((to : Int) == (t : Int)) = true := by simp [htt]
                        have htn : (to == t) = true := by simp [htt]
                        cases hDf : D fr with
                        | none =>
                          have HN : Hid (madeF (netA m es) D s t (q + 1) = false) := Lib.hid (by rw [HST.out, hDf]; simp)
                          rw [hDf] at cf2
                          simp only [Option.isSome_none] at cf2
                          clear HST cf1 ct1 htt hDf
                          go_wp2_with fail
                          go_quiet (fail)
                          go_wp2
                          go_roundw
                          case rel => exact ⟨q + 1, by omega, by go_num, by rw [HN.out], Lib.hid (HR1.out.later (below_drewN (Below.refl _ _) _))⟩
                          case measure => simp [intOf]; omega
                        | some l =>
                          have HST2 : Hid (madeF (netA m es) D s t (q + 1) = decide (farV (netA m es) D t = farV (netA m es) D fr + x3)) := Lib.hid (by rw [HST.out, hDf]; simp [htt])
                          rw [hDf] at cf2
                          simp only [Option.isSome_some] at cf2
                          generalize farV (netA m es) D fr = df at *
                          generalize farV (netA m es) D t = dt at *
                          obtain ⟨b2, b3⟩ := b1
                          have hw1 : IntKind.i64.wrap (df + x3) = df + x3 := IntWalk.i64_in _ (by omega)
                          have hw2 : wrap64 (df + x3) = df + x3 := by unfold wrap64; omega
                          clear HST htt hDf
                          by_cases hee : dt = df + x3
                          · have HN : Hid (madeF (netA m es) D s t (q + 1) = true) := Lib.hid (by rw [HST2.out]; exact decide_eq_true hee)
                            have hcb : (dt == df + x3) = true := by simp [hee]
                            clear hee HST2
                            go_wp2_with fail
                            go_quiet (fail)
                            go_wp2
                            go_roundw
                            case rel => exact ⟨q + 1, by omega, by go_num, by rw [HN.out], Lib.hid (HR1.out.later (below_drewN (Below.refl _ _) _))⟩
                            case measure => simp [intOf]; omega
                          · have HN : Hid (madeF (netA m es) D s t (q + 1) = false) := Lib.hid (by rw [HST2.out]; exact decide_eq_false hee)
                            have hcb : (dt == df + x3) = false := by simpa using hee
                            clear hee HST2
                            go_wp2_with fail
                            go_quiet (fail)
                            go_wp2
                            go_roundw
                            case rel => exact ⟨q + 1, by omega, by go_num, by rw [HN.out], Lib.hid (HR1.out.later (below_drewN (Below.refl _ _) _))⟩
                            case measure => simp [intOf]; omega
                      · have HN : Hid (madeF (netA m es) D s t (q + 1) = false) := Lib.hid (by rw [HST.out]; simp [htt])
                        have htb : ((to : Int) == (t : Int)) = false := by simp; omega
                        have htn : (to == t) = false := by simp [htt]
                        clear HST cf2 cf1 ct1 htt
                        go_wp2_with fail
                        go_quiet (fail)
                        go_wp2
                        go_roundw
                        case rel => exact ⟨q + 1, by omega, by go_num, by rw [HN.out], Lib.hid (HR1.out.later (below_drewN (Below.refl _ _) _))⟩
                        case measure => simp [intOf]; omega
                  · obtain rfl : q = j := by omega
                    have HMQ := HMT
                    rw [HMT.out]
                    go_wp2_with fail
                    go_roundw
                    case rel => exact ⟨t + 1, by omega, by go_num, HR⟩
                    case measure => simp [intOf]; omega
              · have htb : ((t : Int) == (s : Int)) = false := by simp; omega
                have htn : (t == s) = false := by simp [hts]
                rw [hc] at ct2
                clear hts hc
                go_wp2_with fail
                clear k0 k1 htb htn
                go_loopw [11, 13, 118] (fun x _ y wj => ∃ q : Nat, q ≤ j ∧ y = .int .i64 q ∧ x = .bool (madeF (netA m es) D s t q) ∧ Hid (BellW w m A j cap es D g1 g2 wj)) (fun _ _ y _ => j - (intOf y).toNat)
                case atStart => exact ⟨0, Nat.zero_le _, rfl, by rw [HM0.out], HR⟩
                case round =>
                  clear HR HM0
                  obtain ⟨q, hq, rfl, rfl, HR⟩ := hrel
                  by_cases hqj : q < j
                  · obtain ⟨bb, off, ⟨x0, x1, x2, x3⟩, rfl, hbb, hx, hc0', hc1, hc2, hc3⟩ := HR.out.box.arcs.at_ hqj
                    obtain ⟨e0, e1, e2, l0, l1, l2⟩ := netA_at HG.out hx
                    simp only at e0 e1 e2 hc0' hc1 hc2 hc3
                    subst e0 e1
                    obtain ⟨f1, f2⟩ := HFE.out q l2
                    rw [e2] at f1 f2
                    have b1 := HFA.out ((netA m es).fr q)
                    have HST : Hid (madeF (netA m es) D s t (q + 1) = (madeF (netA m es) D s t q || (decide ((netA m es).to q = t) && ((D ((netA m es).fr q)).isSome && decide (farV (netA m es) D t = farV (netA m es) D ((netA m es).fr q) + x3))))) := Lib.hid (by rw [← e2]; rfl)
                    generalize hfr : (netA m es).fr q = fr at *
                    generalize hto : (netA m es).to q = to at *
                    generalize hmq : madeF (netA m es) D s t q = mq at *
                    clear hx e2 hfr hto l2 hmq
                    have ik0 : (0 : Int) ≤ (q : Int) := by omega
                    have ik1 : (q : Int) < (j : Int) := by omega
                    have if0 : (0 : Int) ≤ (fr : Int) := by omega
                    have if1 : (fr : Int) < (m : Int) := by omega
                    go_wp2_with fail
                    clear hc0' hc1 hc2 hc3
                    obtain ⟨W1, hW1⟩ : ∃ W1, W1 = wr.alloc (.cells #[.int .i64 fr, .int .i64 to, .int .i64 x2, .int .i64 x3] 50) := ⟨_, rfl⟩
                    rw [← hW1]
                    have HR1 : Hid (BellW w m (some ⟨bb, off, none⟩) j cap es D g1 g2 W1) := Lib.hid (HR.out.later (by rw [hW1]; exact (Below.refl _ _).alloc (Nat.le_refl _) _))
                    have HQ1 : Hid (W1.heap[wr.heap.size]? = some (.cells #[.int .i64 fr, .int .i64 to, .int .i64 x2, .int .i64 x3] 50 (0, 0))) := Lib.hid (by rw [hW1]; exact (MapKept.heap_alloc wr _).1)
                    have y0 : W1.cell? ⟨wr.heap.size, 0, none⟩ = some (.int .i64 fr) := by simp [World.cell?, HQ1.out]
                    have y1 : W1.cell? ⟨wr.heap.size, 1, none⟩ = some (.int .i64 to) := by simp [World.cell?, HQ1.out]
                    have y3 : W1.cell? ⟨wr.heap.size, 3, none⟩ = some (.int .i64 x3) := by simp [World.cell?, HQ1.out]
                    have cf2 := HR1.out.c2 l0
                    have cf1 := HR1.out.c1 l0
                    have ct1 := HR1.out.c1 htm
                    clear hW1 HR
                    cases mq with
                    | true =>
                      have HN : Hid (madeF (netA m es) D s t (q + 1) = true) := Lib.hid (by rw [HST.out]; rfl)
                      clear HST cf2 cf1 ct1
                      go_wp2_with fail
                      go_quiet (fail)
                      go_wp2
                      go_roundw
                      case rel => exact ⟨q + 1, by omega, by go_num, by rw [HN.out], Lib.hid (HR1.out.later (below_drewN (Below.refl _ _) _))⟩
                      case measure => simp [intOf]; omega
                    | false =>
                      by_cases htt : to = t
                      · have htb : ((to : Int) == (t : Int)) = true := by simp [htt]
                        have htn : (to == t) = true := by simp [htt]
                        cases hDf : D fr with
                        | none =>
                          have HN : Hid (madeF (netA m es) D s t (q + 1) = false) := Lib.hid (by rw [HST.out, hDf]; simp)
                          rw [hDf] at cf2
                          simp only [Option.isSome_none] at cf2
                          clear HST cf1 ct1 htt hDf
                          go_wp2_with fail
                          go_quiet (fail)
                          go_wp2
                          go_roundw
                          case rel => exact ⟨q + 1, by omega, by go_num, by rw [HN.out], Lib.hid (HR1.out.later (below_drewN (Below.refl _ _) _))⟩
                          case measure => simp [intOf]; omega
                        | some l =>
                          have HST2 : Hid (madeF (netA m es) D s t (q + 1) = decide (farV (netA m es) D t = farV (netA m es) D fr + x3)) := Lib.hid (by rw [HST.out, hDf]; simp [htt])
                          rw [hDf] at cf2
                          simp only [Option.isSome_some] at cf2
                          generalize farV (netA m es) D fr = df at *
                          generalize farV (netA m es) D t = dt at *
                          obtain ⟨b2, b3⟩ := b1
                          have hw1 : IntKind.i64.wrap (df + x3) = df + x3 := IntWalk.i64_in _ (by omega)
                          have hw2 : wrap64 (df + x3) = df + x3 := by unfold wrap64; omega
                          clear HST htt hDf
                          by_cases hee : dt = df + x3
                          · have HN : Hid (madeF (netA m es) D s t (q + 1) = true) := Lib.hid (by rw [HST2.out]; exact decide_eq_true hee)
                            have hcb : (dt == df + x3) = true := by simp [hee]
                            clear hee HST2
                            go_wp2_with fail
                            go_quiet (fail)
                            go_wp2
                            go_roundw
                            case rel => exact ⟨q + 1, by omega, by go_num, by rw [HN.out], Lib.hid (HR1.out.later (below_drewN (Below.refl _ _) _))⟩
                            case measure => simp [intOf]; omega
                          · have HN : Hid (madeF (netA m es) D s t (q + 1) = false) := Lib.hid (by rw [HST2.out]; exact decide_eq_false hee)
                            have hcb : (dt == df + x3) = false := by simpa using hee
                            clear hee HST2
                            go_wp2_with fail
                            go_quiet (fail)
                            go_wp2
                            go_roundw
                            case rel => exact ⟨q + 1, by omega, by go_num, by rw [HN.out], Lib.hid (HR1.out.later (below_drewN (Below.refl _ _) _))⟩
                            case measure => simp [intOf]; omega
                      · have HN : Hid (madeF (netA m es) D s t (q + 1) = false) := Lib.hid (by rw [HST.out]; simp [htt])
                        have htb : ((to : Int) == (t : Int)) = false := by simp; omega
                        have htn : (to == t) = false := by simp [htt]
                        clear HST cf2 cf1 ct1 htt
                        go_wp2_with fail
                        go_quiet (fail)
                        go_wp2
                        go_roundw
                        case rel => exact ⟨q + 1, by omega, by go_num, by rw [HN.out], Lib.hid (HR1.out.later (below_drewN (Below.refl _ _) _))⟩
                        case measure => simp [intOf]; omega
                  · obtain rfl : q = j := by omega
                    have HMQ := HMT
                    rw [HMT.out]
                    go_wp2_with fail
                    go_roundw
                    case rel => exact ⟨t + 1, by omega, by go_num, HR⟩
                    case measure => simp [intOf]; omega
              · have htb : ((t : Int) == (s : Int)) = false := by simp; omega
                have htn : (t == s) = false := by simp [hts]
                rw [hc] at ct2
                clear hts hc
                go_wp2_with fail
                clear k0 k1 htb htn
                go_loopw [11, 13, 118] (fun x _ y wj => ∃ q : Nat, q ≤ j ∧ y = .int .i64 q ∧ x = .bool (madeF (netA m es) D s t q) ∧ Hid (BellW w m A j cap es D g1 g2 wj)) (fun _ _ y _ => j - (intOf y).toNat)
                case atStart => exact ⟨0, Nat.zero_le _, rfl, by rw [HM0.out], HR⟩
                case round =>
                  clear HR HM0
                  obtain ⟨q, hq, rfl, rfl, HR⟩ := hrel
                  by_cases hqj : q < j
                  · obtain ⟨bb, off, ⟨x0, x1, x2, x3⟩, rfl, hbb, hx, hc0', hc1, hc2, hc3⟩ := HR.out.box.arcs.at_ hqj
                    obtain ⟨e0, e1, e2, l0, l1, l2⟩ := netA_at HG.out hx
                    simp only at e0 e1 e2 hc0' hc1 hc2 hc3
                    subst e0 e1
                    obtain ⟨f1, f2⟩ := HFE.out q l2
                    rw [e2] at f1 f2
                    have b1 := HFA.out ((netA m es).fr q)
                    have HST : Hid (madeF (netA m es) D s t (q + 1) = (madeF (netA m es) D s t q || (decide ((netA m es).to q = t) && ((D ((netA m es).fr q)).isSome && decide (farV (netA m es) D t = farV (netA m es) D ((netA m es).fr q) + x3))))) := Lib.hid (by rw [← e2]; rfl)
                    generalize hfr : (netA m es).fr q = fr at *
                    generalize hto : (netA m es).to q = to at *
                    generalize hmq : madeF (netA m es) D s t q = mq at *
                    clear hx e2 hfr hto l2 hmq
                    have ik0 : (0 : Int) ≤ (q : Int) := by omega
                    have ik1 : (q : Int) < (j : Int) := by omega
                    have if0 : (0 : Int) ≤ (fr : Int) := by omega
                    have if1 : (fr : Int) < (m : Int) := by omega
                    go_wp2_with fail
                    clear hc0' hc1 hc2 hc3
                    obtain ⟨W1, hW1⟩ : ∃ W1, W1 = wr.alloc (.cells #[.int .i64 fr, .int .i64 to, .int .i64 x2, .int .i64 x3] 50) := ⟨_, rfl⟩
                    rw [← hW1]
                    have HR1 : Hid (BellW w m (some ⟨bb, off, none⟩) j cap es D g1 g2 W1) := Lib.hid (HR.out.later (by rw [hW1]; exact (Below.refl _ _).alloc (Nat.le_refl _) _))
                    have HQ1 : Hid (W1.heap[wr.heap.size]? = some (.cells #[.int .i64 fr, .int .i64 to, .int .i64 x2, .int .i64 x3] 50 (0, 0))) := Lib.hid (by rw [hW1]; exact (MapKept.heap_alloc wr _).1)
                    have y0 : W1.cell? ⟨wr.heap.size, 0, none⟩ = some (.int .i64 fr) := by simp [World.cell?, HQ1.out]
                    have y1 : W1.cell? ⟨wr.heap.size, 1, none⟩ = some (.int .i64 to) := by simp [World.cell?, HQ1.out]
                    have y3 : W1.cell? ⟨wr.heap.size, 3, none⟩ = some (.int .i64 x3) := by simp [World.cell?, HQ1.out]
                    have cf2 := HR1.out.c2 l0
                    have cf1 := HR1.out.c1 l0
                    have ct1 := HR1.out.c1 htm
                    clear hW1 HR
                    cases mq with
                    | true =>
                      have HN : Hid (madeF (netA m es) D s t (q + 1) = true) := Lib.hid (by rw [HST.out]; rfl)
                      clear HST cf2 cf1 ct1
                      go_wp2_with fail
                      go_quiet (fail)
                      go_wp2
                      go_roundw
                      case rel => exact ⟨q + 1, by omega, by go_num, by rw [HN.out], Lib.hid (HR1.out.later (below_drewN (Below.refl _ _) _))⟩
                      case measure => simp [intOf]; omega
                    | false =>
                      by_cases htt : to = t
                      · have htb : ((to : Int) == (t : Int)) = true := by simp [htt]
                        have htn : (to == t) = true := by simp [htt]
                        cases hDf : D fr with
                        | none =>
                          have HN : Hid (madeF (netA m es) D s t (q + 1) = false) := Lib.hid (by rw [HST.out, hDf]; simp)
                          rw [hDf] at cf2
                          simp only [Option.isSome_none] at cf2
                          clear HST cf1 ct1 htt hDf
                          go_wp2_with fail
                          go_quiet (fail)
                          go_wp2
                          go_roundw
                          case rel => exact ⟨q + 1, by omega, by go_num, by rw [HN.out], Lib.hid (HR1.out.later (below_drewN (Below.refl _ _) _))⟩
                          case measure => simp [intOf]; omega
                        | some l =>
                          have HST2 : Hid (madeF (netA m es) D s t (q + 1) = decide (farV (netA m es) D t = farV (netA m es) D fr + x3)) := Lib.hid (by rw [HST.out, hDf]; simp [htt])
                          rw [hDf] at cf2
                          simp only [Option.isSome_some] at cf2
                          generalize farV (netA m es) D fr = df at *
                          generalize farV (netA m es) D t = dt at *
                          obtain ⟨b2, b3⟩ := b1
                          have hw1 : IntKind.i64.wrap (df + x3) = df + x3 := IntWalk.i64_in _ (by omega)
                          have hw2 : wrap64 (df + x3) = df + x3 := by unfold wrap64; omega
                          clear HST htt hDf
                          by_cases hee : dt = df + x3
                          · have HN : Hid (madeF (netA m es) D s t (q + 1) = true) := Lib.hid (by rw [HST2.out]; exact decide_eq_true hee)
                            have hcb : (dt == df + x3) = true := by simp [hee]
                            clear hee HST2
                            go_wp2_with fail
                            go_quiet (fail)
                            go_wp2
                            go_roundw
                            case rel => exact ⟨q + 1, by omega, by go_num, by rw [HN.out], Lib.hid (HR1.out.later (below_drewN (Below.refl _ _) _))⟩
                            case measure => simp [intOf]; omega
                          · have HN : Hid (madeF (netA m es) D s t (q + 1) = false) := Lib.hid (by rw [HST2.out]; exact decide_eq_false hee)
                            have hcb : (dt == df + x3) = false := by simpa using hee
                            clear hee HST2
                            go_wp2_with fail
                            go_quiet (fail)
                            go_wp2
                            go_roundw
                            case rel => exact ⟨q + 1, by omega, by go_num, by rw [HN.out], Lib.hid (HR1.out.later (below_drewN (Below.refl _ _) _))⟩
                            case measure => simp [intOf]; omega
                      · have HN : Hid (madeF (netA m es) D s t (q + 1) = false) := Lib.hid (by rw [HST.out]; simp [htt])
                        have htb : ((to : Int) == (t : Int)) = false := by simp; omega
                        have htn : (to == t) = false := by simp [htt]
                        clear HST cf2 cf1 ct1 htt
                        go_wp2_with fail
                        go_quiet (fail)
                        go_wp2
                        go_roundw
                        case rel => exact ⟨q + 1, by omega, by go_num, by rw [HN.out], Lib.hid (HR1.out.later (below_drewN (Below.refl _ _) _))⟩
                        case measure => simp [intOf]; omega
                  · obtain rfl : q = j := by omega
                    have HMQ := HMT
                    rw [HMT.out]
                    go_wp2_with fail
                    go_roundw
                    case rel => exact ⟨t + 1, by omega, by go_num, HR⟩
                    case measure => simp [intOf]; omega
            · obtain rfl : t = m := by omega
              go_wp2_with fail
              go_ret
              exact ⟨rfl, HR.out.box.below⟩
  · have HH0 := Lib.hid h0
    have HNO : Hid (askF n es [s] ≠ 0) := Lib.hid (by rw [hx]; exact h0)
    have hx0 : (x != 0) = true := by simpa using h0
    clear hE hx h0
    go_enter Try.func6, Try.ntmps6
    go_wp2_with fail
    refine (far_bad n x A len cap es s _ (by exact HX.out.arcs) HV.out HH0.out).mono ?_
    rintro e w1 ⟨rfl, hB⟩
    have HX1 := Lib.hid (HX.out.next hB)
    clear k0 k1 hB
    have k0 := HX1.out.k0
    have k1 := HX1.out.k1
    go_wp2_with fail
    refine (keepNet_no n s A len cap es _ (by exact HX1.out.arcs) HNO.out).mono ?_
    rintro e w2 ⟨rfl, hB⟩
    have HX2 := Lib.hid (HX1.out.next hB)
    clear k0 k1 hB
    go_wp2_with fail
    go_ret
    exact ⟨rfl, HX2.out.below⟩
end Go.Proofs.Ytkpejmpnbdblbaa
