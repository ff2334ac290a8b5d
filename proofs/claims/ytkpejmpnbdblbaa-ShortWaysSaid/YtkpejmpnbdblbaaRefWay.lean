/- The reference's Way: the first shortest walk. -/
import Derived.Test.YtkpejmpnbdblbaaRefExact
import Derived.Test.YtkpejmpnbdblbaaRefSinks
import Derived.Test.YtkpejmpnbdblbaaWithGo
import Derived.Deep.RegionWith
namespace Go.Proofs.Ytkpejmpnbdblbaa
open Go.RowKit

theorem greedy_more {N : ArcsF} {t left at_ k : Nat} (hf : FirstA N t left at_ k) (hno : ∀ j, j < k → ¬ FirstA N t left at_ j) {r : List Nat} (hr : GreedyA N t left (N.to k) r) : GreedyA N t (left + 1) at_ (k :: r) := ⟨k, r, rfl, hf, hno, hr⟩
/-- Under way: so many arcs are left, from a node; those that were taken. -/
structure GrS (N : ArcsF) (t L s left at_ : Nat) (p : List Nat) : Prop where
  more : ∀ r, GreedyA N t left at_ r → GreedyA N t L s (p ++ r)
  some_ : ∃ c, exR N t left at_ = some c
  le : left ≤ L
theorem GrS.start {N : ArcsF} {t L s : Nat} (h : ∃ c, exR N t L s = some c) : GrS N t L s L s [] := ⟨fun _ hr => hr, h, Nat.le_refl _⟩
theorem GrS.take {N : ArcsF} {t L s left at_ k : Nat} {p : List Nat} (h : GrS N t L s (left + 1) at_ p) (hf : FirstA N t left at_ k) (hno : ∀ j, j < k → ¬ FirstA N t left at_ j) : GrS N t L s left (N.to k) (p ++ [k]) := by
  refine ⟨fun r hr => ?_, ?_, by have := h.le; omega⟩
  · rw [List.append_assoc]; exact h.more _ (greedy_more hf hno hr)
  · obtain ⟨_, _, h3, _⟩ := hf
    cases hx : exR N t left (N.to k) with
    | none => rw [hx] at h3; simp [encR] at h3
    | some c => exact ⟨c, rfl⟩
theorem GrS.done {N : ArcsF} {t L s at_ : Nat} {p : List Nat} (h : GrS N t L s 0 at_ p) : GreedyA N t L s p := by
  obtain ⟨c, hc⟩ := h.some_
  have e : at_ = t := by
    unfold exR at hc
    split at hc
    · assumption
    · cases hc
  have := h.more [] ⟨rfl, e⟩
  rwa [List.append_nil] at this
/-- What the reference tells. -/
def WayF (N : ArcsF) (m s t : Nat) (l : List Nat) : Prop := ∃ L, L ≤ 100 ∧ exV N t L s = reachV N s m t ∧ (∀ q, q < L → exV N t q s ≠ reachV N s m t) ∧ GreedyA N t L s l ∧ ∃ c, exR N t L s = some c
def WayRet (N : ArcsF) (m s t : Nat) (u : Bool) (e : Ending) (w' : World) : Prop :=
  ((u = true ∨ reachV N s m t = 1152921504606846976) ∧ e = .returned (.tuple #[.slice none 0 0, .bool false])) ∨ (u = false ∧ ∃ A1 n1 c1 l, e = .returned (.tuple #[.slice A1 n1 c1, .bool true]) ∧ IntsAt w' w'.heap.size A1 n1 (lI l) ∧ n1 ≤ 100 ∧ WayF N m s t l)
set_option maxRecDepth 100000 in
set_option maxHeartbeats 4000000 in
theorem refWay_any (m s t : Nat) (A : Option Addr) (len cap : Nat) (es : List A4) (u : Bool) (w : World) (hE : ArcsAt w w.heap.size A len es) (hG : GoodN (m : Int) es) (hF : FeeS es) (hs : s < m) (ht : t < m)
    (hu : u = true ↔ SinksP (netA m es) s) :
    Calls Try.prog 18 #[.agg #[.int .i64 (m : Int), .slice A len cap], .int .i64 (s : Int), .int .i64 (t : Int)] w fun e w' =>
      WayRet (netA m es) m s t u e w' ∧ Below w.heap.size w w' := by
  have hl30 : len ≤ 30 := by have := hG.len; have := hE.1; omega
  have hm10 : m ≤ 10 := by have := hG.n1; omega
  have HX := Lib.hid (FrN.start (w := w) (n := (m : Int)) (A := A) (len := len) (cap := cap))
  have HE := Lib.hid hE
  have HSI := Lib.hid (fun W (hW : FrN w (m : Int) A len cap W) => (sinks_v m s A len cap es u W (hW.arcs hE) hG hF hs hu).mono (R' := fun e w' => e = .returned (.bool u) ∧ FrN w (m : Int) A len cap w') (fun e w' h => ⟨h.1, hW.later h.2⟩))
  have HRE : Hid (∀ W, FrN w (m : Int) A len cap W → Calls Try.prog 25 #[.agg #[.int .i64 (m : Int), .slice A len cap], .int .i64 (s : Int), .int .i64 (m : Int)] W fun e w' => ∃ b off c, e = .returned (.slice (some ⟨b, off, none⟩) m c) ∧ w'.cell? ⟨b, off + t, none⟩ = some (.int .i64 (reachV (netA m es) s m t)) ∧ b < w'.heap.size ∧ FrN w (m : Int) A len cap w' ∧ Below W.heap.size W w') := Lib.hid fun W hW => by
    refine (refReach_any m s m A len cap es W (hW.arcs hE) hG hF hs (by omega)).mono ?_
    rintro e w' ⟨⟨A1, c1, rfl, hi⟩, hb⟩
    obtain ⟨b, off, z, rfl, hlt, hz, hc⟩ := hi.at_ ht
    rw [List.getElem?_map, List.getElem?_range ht] at hz
    injection hz with hz
    subst hz
    exact ⟨b, off, c1, rfl, hc, hlt, hW.later hb, hb⟩
  have HEX : Hid (∀ (a r : Nat) W, a < m → r ≤ 100 → FrN w (m : Int) A len cap W → Calls Try.prog 27 #[.agg #[.int .i64 (m : Int), .slice A len cap], .int .i64 (a : Int), .int .i64 (t : Int), .int .i64 (r : Int)] W fun e w' => e = .returned (.int .i64 (exV (netA m es) t r a)) ∧ FrN w (m : Int) A len cap w' ∧ Below W.heap.size W w') := Lib.hid fun a r W ha hr hW => (refExact_any m a t r A len cap es W (hW.arcs hE) hG hF ha hr).mono fun e w' h => ⟨h.1, hW.later h.2, h.2⟩
  have HFE := Lib.hid (netA_fee hG hF)
  have HLEAST : Hid (reachV (netA m es) s m t ≠ 1152921504606846976 → ∃ L, L ≤ m ∧ exV (netA m es) t L s = reachV (netA m es) s m t ∧ (∀ q, q < L → exV (netA m es) t q s ≠ reachV (netA m es) s m t) ∧ ∃ c, exR (netA m es) t L s = some c) := Lib.hid fun hne => by
    cases hb : bfR (netA m es) s m t with
    | none => exact absurd (by unfold reachV; rw [hb]; rfl) hne
    | some c =>
      obtain ⟨x, hx, hw⟩ := bf_sound m t c hb
      obtain ⟨c', h1, h2⟩ := ex_least x s c hw
      have h3 := bf_least x m t c' (ex_sound x s c' h1) hx
      obtain ⟨c2, h4, h5⟩ := h3
      rw [hb] at h4
      injection h4 with h4
      have he : exV (netA m es) t x s = reachV (netA m es) s m t := by
        unfold exV reachV
        rw [h1, hb]
        simp only [encR]; omega
      obtain ⟨L, h6, h7⟩ := nat_least (P := fun q => exV (netA m es) t q s = reachV (netA m es) s m t) ⟨x, he⟩
      refine ⟨L, by have := h7 x he; omega, h6, fun q hq hh => by have := h7 q hh; omega, ?_⟩
      cases hl : exR (netA m es) t L s with
      | none =>
        exfalso
        have : exV (netA m es) t L s = 1152921504606846976 := by unfold exV; rw [hl]; rfl
        exact hne (by rw [← h6, this])
      | some c3 => exact ⟨c3, rfl⟩
  have HG := Lib.hid hG
  have HKL : Hid ((netA m es).K = len) := Lib.hid hE.1
  have k0 := HX.out.k0
  have k1 := HX.out.k1
  have it0 : (0 : Int) ≤ (t : Int) := by omega
  have it1 : (t : Int) < (m : Int) := by omega
  clear hE hG hF hu
  go_enter Try.func18, Try.ntmps18
  go_wp2_with fail
  refine (HSI.out _ (by exact HX.out)).mono ?_
  rintro e w1 ⟨rfl, hx1⟩
  have HX1 := Lib.hid hx1
  clear k0 k1 hx1 HSI
  have k0 := HX1.out.k0
  have k1 := HX1.out.k1
  cases u with
  | true =>
    go_wp2_with fail
    go_ret2
    exact ⟨.inl ⟨.inl rfl, rfl⟩, HX1.out.below⟩
  | false =>
    go_wp2_with fail
    refine (HRE.out _ HX1.out).mono ?_
    rintro e w2 ⟨b, off, c, rfl, hc, hb, hx2, _⟩
    have HX2 := Lib.hid hx2
    clear k0 k1 hx2 hb
    by_cases hfar : reachV (netA m es) s m t = 1152921504606846976
    · have HF := Lib.hid hfar
      rw [hfar] at hc
      clear hfar
      go_wp2_with fail
      go_ret2
      exact ⟨.inl ⟨.inr HF.out, rfl⟩, HX2.out.below⟩
    · obtain ⟨L, hL, hL1, hL2, hL3⟩ := HLEAST.out hfar
      have hfb : (reachV (netA m es) s m t == 1152921504606846976) = false := by simpa using hfar
      have HL1 := Lib.hid hL1
      have HL2 := Lib.hid hL2
      have HL3 := Lib.hid hL3
      clear hL1 hL2 hL3 hfar HLEAST
      go_wp2_with fail
      clear hc hfb
      go_loopw [8] (fun x wr => ∃ q : Nat, q ≤ L ∧ x = .int .i64 q ∧ Hid (FrN w (m : Int) A len cap wr)) (fun x _ => L - (intOf x).toNat)
      case atStart => exact ⟨0, Nat.zero_le _, rfl, HX2⟩
      case round =>
        clear HX2
        obtain ⟨q, hq, rfl, HR⟩ := hrel
        have k0 := HR.out.k0
        have k1 := HR.out.k1
        have HEX1 : Hid (∀ W, FrN w (m : Int) A len cap W → Calls Try.prog 27 #[.agg #[.int .i64 (m : Int), .slice A len cap], .int .i64 (s : Int), .int .i64 (t : Int), .int .i64 (q : Int)] W fun e w' => e = .returned (.int .i64 (exV (netA m es) t q s)) ∧ FrN w (m : Int) A len cap w' ∧ Below W.heap.size W w') := Lib.hid fun W hW => HEX.out s q W hs (by omega) hW
        obtain ⟨nb, hnb⟩ : ∃ nb, (exV (netA m es) t q s != reachV (netA m es) s m t) = nb := ⟨_, rfl⟩
        have HNB := Lib.hid hnb
        have HY : Hid (∀ y1 y2, y1 = exV (netA m es) t q s → y2 = reachV (netA m es) s m t → (y1 != y2) = nb) := Lib.hid fun y1 y2 h1 h2 => by rw [h1, h2]; exact hnb
        clear hnb
        obtain ⟨y1, hy1⟩ : ∃ y1, y1 = exV (netA m es) t q s := ⟨_, rfl⟩
        obtain ⟨y2, hy2⟩ : ∃ y2, y2 = reachV (netA m es) s m t := ⟨_, rfl⟩
        have hne := HY.out y1 y2 hy1 hy2
        have HRE1 : Hid (∀ W, FrN w (m : Int) A len cap W → Calls Try.prog 25 #[.agg #[.int .i64 (m : Int), .slice A len cap], .int .i64 (s : Int), .int .i64 (m : Int)] W fun e w' => ∃ b off c, e = .returned (.slice (some ⟨b, off, none⟩) m c) ∧ w'.cell? ⟨b, off + t, none⟩ = some (.int .i64 y2) ∧ b < w'.heap.size ∧ FrN w (m : Int) A len cap w' ∧ Below W.heap.size W w') := Lib.hid fun W hW => by rw [hy2]; exact HRE.out W hW
        have HEX1 : Hid (∀ W, FrN w (m : Int) A len cap W → Calls Try.prog 27 #[.agg #[.int .i64 (m : Int), .slice A len cap], .int .i64 (s : Int), .int .i64 (t : Int), .int .i64 (q : Int)] W fun e w' => e = .returned (.int .i64 y1) ∧ FrN w (m : Int) A len cap w' ∧ Below W.heap.size W w') := Lib.hid fun W hW => by rw [hy1]; exact HEX.out s q W hs (by omega) hW
        rw [← hy2]
        clear hy1 hy2 HY
        go_wp2_with fail
        rename_i K1 hK1
        have TAIL : Hid (∀ (b4 off4 c4 : Nat) (W : World), FrN w (m : Int) A len cap W → K1 { tmps := #[.agg #[.int .i64 (m : Int), .slice A len cap], .int .i64 (s : Int), .int .i64 (t : Int), .pointer (some ⟨w.heap.size, 0, none⟩), undef, undef, .slice none 0 0, .bool false, .int .i64 (q : Int), undef, undef, undef, undef, undef, undef, .agg #[.int .i64 (m : Int), .slice A len cap], .int .i64 (s : Int), .bool false, .bool false, .agg #[.int .i64 (m : Int), .slice A len cap], .int .i64 (s : Int), .pointer (some ⟨w.heap.size, 0, none⟩), .int .i64 (m : Int), .slice (some ⟨b, off, none⟩) m c, .int .i64 (t : Int), .pointer (some ⟨b, off + t, none⟩), .int .i64 y2, .bool false, .bool false, .agg #[.int .i64 (m : Int), .slice A len cap], .int .i64 (s : Int), .int .i64 (t : Int), .int .i64 (q : Int), .int .i64 y1, .agg #[.int .i64 (m : Int), .slice A len cap], .int .i64 (s : Int), .pointer (some ⟨w.heap.size, 0, none⟩), .int .i64 (m : Int), .slice (some ⟨b4, off4, none⟩) m c4, .int .i64 (t : Int), .pointer (some ⟨b4, off4 + t, none⟩), .int .i64 y2, .bool nb, u43, u44, undef, undef, undef, undef, undef, undef, undef, undef, undef, undef, undef, undef, undef, undef, undef, undef, undef, undef, undef, undef, undef, undef, undef, undef, undef, undef, undef, undef, undef, undef, undef, undef, undef, undef, undef, undef, undef, undef, undef, undef, undef, undef, undef, undef, undef, undef, undef, undef, undef], defers := [] } W) := by
          refine Lib.hid fun b4 off4 c4 W hW => hK1 _ _ ?_
          have HW := Lib.hid hW
          clear hK1 hW k0 k1 hne
          by_cases hql : q < L
          · obtain rfl : nb = true := by rw [← HNB.out]; simpa using HL2.out q hql
            go_wp2_with fail
            go_roundw
            case rel => exact ⟨q + 1, by omega, by go_num, HW⟩
            case measure => simp [intOf]; omega
          · obtain rfl : q = L := by omega
            obtain rfl : nb = false := by rw [← HNB.out, HL1.out]; simp
            have k0 := HW.out.k0
            have k1 := HW.out.k1
            have HWF : Hid (∀ p, GreedyA (netA m es) t q s p → WayF (netA m es) m s t p) := Lib.hid fun p hp => ⟨q, by omega, HL1.out, HL2.out, hp, HL3.out⟩
            have HTY : Hid (50 ≠ 3) := Lib.hid (by decide)
            have HNIL : Hid (W.ownsRow W.heap.size 3 1 (.slice none 0 0) 0 (plV [])) := Lib.hid (World.ownsRow_nil ..)
            go_wp2_with fail
            have HG0 : Hid (GrS (netA m es) t q s q s []) := Lib.hid (.start HL3.out)
            have HXN : Hid (∀ (lf a : Nat), lf ≤ 100 → (∃ c, exR (netA m es) t (lf + 1) a = some c) → ∃ k, k < len ∧ FirstA (netA m es) t lf a k) := Lib.hid fun lf a hl ⟨c, hc⟩ => by
              obtain ⟨k, h1, _⟩ := first_some HFE.out (by unfold farE; omega) hc
              exact ⟨k, by rw [← HKL.out]; exact h1.1, h1⟩
            have hBW : w.heap.size + 1 ≤ W.heap.size := HW.out.lt
            have HB0 : Hid (FrN w (m : Int) A len cap W ∧ W.ownsRow W.heap.size 3 1 (.slice none 0 0) 0 (plV []) ∧ W.heap.size ≤ W.heap.size) := Lib.hid ⟨HW.out, HNIL.out, Nat.le_refl _⟩
            clear k0 k1 HNIL HW HL1 HL2 HL3 HNB HR HEX1 HRE1 HRE HX1 HX
            obtain ⟨B, hB⟩ : ∃ B, B = W.heap.size := ⟨_, rfl⟩
            rw [← hB] at hBW
            have HB1 : Hid (FrN w (m : Int) A len cap W ∧ W.ownsRow B 3 1 (.slice none 0 0) 0 (plV []) ∧ B ≤ W.heap.size) := Lib.hid (by rw [hB]; exact HB0.out)
            clear hB HB0
            go_loopw [8, 9, 10, 11, 12, 13, 14] (fun x y z _ _ _ _ wl => ∃ (left n a c : Nat) (A1 : Option Addr) (p : List Nat), x = .int .i64 left ∧ y = .slice A1 n c ∧ z = .int .i64 a ∧ a < m ∧ n + left = q ∧ Hid (GrS (netA m es) t q s left a p) ∧ Hid (FrN w (m : Int) A len cap wl ∧ wl.ownsRow B 3 1 (.slice A1 n c) n (plV p) ∧ B ≤ wl.heap.size)) (fun x _ _ _ _ _ _ _ => (intOf x).toNat)
            case atStart => exact ⟨q, 0, s, 0, none, [], rfl, rfl, rfl, hs, by omega, HG0, HB1⟩
            case round =>
              clear HG0 HB1
              obtain ⟨left, n, a, cn, A1, p, rfl, rfl, rfl, ha, hnl, HGR, HR⟩ := hrel
              have k0 := HR.out.1.k0
              have k1 := HR.out.1.k1
              by_cases h0 : left = 0
              · subst h0
                have HF : Hid (IntsAt wr wr.heap.size A1 n (lI p) ∧ WayF (netA m es) m s t p) := Lib.hid ⟨IntsAt.of_own HR.out.2.1 (Nat.le_refl _), HWF.out p HGR.out.done⟩
                have hn100 : n ≤ 100 := by omega
                go_wp2_with fail
                go_ret2
                exact ⟨.inr ⟨rfl, A1, n, cn, p, rfl, HF.out.1, hn100, HF.out.2⟩, HR.out.1.below⟩
              · obtain ⟨lf, hlf⟩ : ∃ lf, left = lf + 1 := ⟨left - 1, by omega⟩
                have hpos : (left : Int) > 0 := by omega
                have hpos2 : (0 : Int) < (left : Int) := by omega
                have hw1 : IntKind.i64.wrap ((left : Int) - 1) = (lf : Int) := by rw [show (left : Int) - 1 = (lf : Int) by omega]; exact IntWalk.i64_in _ (by omega)
                have HLF := Lib.hid hlf
                clear hlf
                go_wp2_with fail
                refine (HEX.out a left _ ha (by omega) HR.out.1).mono ?_
                rintro e w4 ⟨rfl, hx4, hb4⟩
                have HR4 : Hid (FrN w (m : Int) A len cap w4 ∧ w4.ownsRow B 3 1 (.slice A1 n cn) n (plV p) ∧ B ≤ w4.heap.size) := Lib.hid ⟨hx4, own_later HR.out.2.1 hb4, Nat.le_trans HR.out.2.2 hb4.size⟩
                obtain ⟨want, hwant⟩ : ∃ want, want = exV (netA m es) t left a := ⟨_, rfl⟩
                have HWT := Lib.hid hwant
                rw [← hwant]
                clear hx4 hb4 k0 k1 hwant
                have k1 := HR4.out.1.k1
                clear HR
                go_wp2_with fail
                clear k1
                go_loopw [9, 10, 12, 13, 14, 56] (fun x9 x10 _ _ _ y wk => ∃ k : Nat, k ≤ len ∧ x9 = .slice A1 n cn ∧ x10 = .int .i64 a ∧ y = .int .i64 k ∧ Hid (∀ j, j < k → ¬ FirstA (netA m es) t lf a j) ∧ Hid (FrN w (m : Int) A len cap wk ∧ wk.ownsRow B 3 1 (.slice A1 n cn) n (plV p) ∧ B ≤ wk.heap.size)) (fun _ _ _ _ _ y _ => len - (intOf y).toNat)
                case atStart => exact ⟨0, Nat.zero_le _, rfl, rfl, rfl, Lib.hid (fun j hj => by omega), HR4⟩
                case round =>
                  clear HR4
                  obtain ⟨k, hk, rfl, rfl, rfl, HNF, HR⟩ := hrel
                  by_cases hkl : k < len
                  · obtain ⟨bb, off2, ⟨x0, x1, x2, x3⟩, rfl, hbb, hx, hc0', hc1, hc2, hc3⟩ := (HR.out.1.arcs HE.out).at_ hkl
                    obtain ⟨e0, e1, e2, l0, l1, l2⟩ := netA_at HG.out hx
                    simp only at e0 e1 e2 hc0' hc1 hc2 hc3
                    subst e0 e1
                    obtain ⟨f1, f2⟩ := HFE.out k l2
                    rw [e2] at f1 f2
                    have HFI : Hid (FirstA (netA m es) t lf a k ↔ ((netA m es).fr k = a ∧ exV (netA m es) t lf ((netA m es).to k) < 1152921504606846976 ∧ exV (netA m es) t lf ((netA m es).to k) + x3 = want)) := Lib.hid (by
                      rw [HWT.out, HLF.out, ← e2]
                      exact ⟨fun h => h.2, fun h => ⟨l2, h⟩⟩)
                    have HTK : Hid (FirstA (netA m es) t lf a k → GrS (netA m es) t q s lf ((netA m es).to k) (p ++ [k])) := Lib.hid fun hf => by
                      have h := HGR.out
                      rw [HLF.out] at h
                      exact h.take hf HNF.out
                    have HBD : Hid (exV (netA m es) t lf ((netA m es).to k) ≤ 1152921504606846976 ∧ -1152921504606846976 ≤ exV (netA m es) t lf ((netA m es).to k)) := Lib.hid (by
                      have hlf := HLF.out
                      unfold exV
                      cases h : exR (netA m es) t lf ((netA m es).to k) with
                      | none => simp [encR, farE]
                      | some c => have := exR_abs HFE.out h; simp only [encR]; omega)
                    have HEX2 : Hid (∀ W, FrN w (m : Int) (some ⟨bb, off2, none⟩) len cap W → Calls Try.prog 27 #[.agg #[.int .i64 (m : Int), .slice (some ⟨bb, off2, none⟩) len cap], .int .i64 ((netA m es).to k : Int), .int .i64 (t : Int), .int .i64 (lf : Int)] W fun e w' => e = .returned (.int .i64 (exV (netA m es) t lf ((netA m es).to k))) ∧ FrN w (m : Int) (some ⟨bb, off2, none⟩) len cap w' ∧ Below W.heap.size W w') := Lib.hid fun W hW => HEX.out _ lf W l1 (by have := HLF.out; omega) hW
                    generalize hfr : (netA m es).fr k = fr at *
                    generalize hto : (netA m es).to k = to at *
                    generalize hrr : exV (netA m es) t lf to = rr at *
                    obtain ⟨b1, b2⟩ := HBD.out
                    clear hx e2 hfr hto hrr l2
                    have ik0 : (0 : Int) ≤ (k : Int) := by omega
                    have ik1 : (k : Int) < (len : Int) := by omega
                    have k0 := HR.out.1.k0
                    have k1 := HR.out.1.k1
                    have hlw := HR.out.1.lt
                    go_wp2_with fail
                    clear hc0' hc1 hc2 hc3 k0 k1 hlw
                    obtain ⟨W1, hW1⟩ : ∃ W1, W1 = wr.alloc (.cells #[.int .i64 fr, .int .i64 to, .int .i64 x2, .int .i64 x3] 50) := ⟨_, rfl⟩
                    rw [← hW1]
                    have hb1 : Below wr.heap.size wr W1 := by rw [hW1]; exact (Below.refl _ _).alloc (Nat.le_refl _) _
                    have HQ1 : Hid (W1.heap[wr.heap.size]? = some (.cells #[.int .i64 fr, .int .i64 to, .int .i64 x2, .int .i64 x3] 50 (0, 0)) ∧ wr.heap.size < W1.heap.size) := Lib.hid (by rw [hW1]; exact ⟨(MapKept.heap_alloc wr _).1, by simp⟩)
                    have HR1 : Hid (FrN w (m : Int) (some ⟨bb, off2, none⟩) len cap W1 ∧ W1.ownsRow B 3 1 (.slice A1 n cn) n (plV p) ∧ B ≤ wr.heap.size ∧ B ≤ W1.heap.size) := Lib.hid ⟨HR.out.1.later hb1, own_later HR.out.2.1 hb1, HR.out.2.2, Nat.le_trans HR.out.2.2 hb1.size⟩
                    clear hW1 hb1 HR
                    refine (HEX2.out W1 HR1.out.1).mono ?_
                    rintro e w6 ⟨rfl, hx6, hb6⟩
                    have HR6 : Hid (FrN w (m : Int) (some ⟨bb, off2, none⟩) len cap w6 ∧ w6.ownsRow B 3 1 (.slice A1 n cn) n (plV p) ∧ B ≤ wr.heap.size ∧ B ≤ w6.heap.size) := Lib.hid ⟨hx6, own_later HR1.out.2.1 hb6, HR1.out.2.2.1, Nat.le_trans HR1.out.2.2.2 hb6.size⟩
                    have HQ6 : Hid (w6.heap[wr.heap.size]? = some (.cells #[.int .i64 fr, .int .i64 to, .int .i64 x2, .int .i64 x3] 50 (0, 0)) ∧ wr.heap.size < w6.heap.size) := Lib.hid ⟨(hb6.block _ HQ1.out.2).trans HQ1.out.1, Nat.lt_of_lt_of_le HQ1.out.2 hb6.size⟩
                    clear hx6 hb6 HQ1 HR1 HEX2
                    have y0 : w6.cell? ⟨wr.heap.size, 0, none⟩ = some (.int .i64 fr) := by simp [World.cell?, HQ6.out.1]
                    have y1 : w6.cell? ⟨wr.heap.size, 1, none⟩ = some (.int .i64 to) := by simp [World.cell?, HQ6.out.1]
                    have y3 : w6.cell? ⟨wr.heap.size, 3, none⟩ = some (.int .i64 x3) := by simp [World.cell?, HQ6.out.1]
                    have HNO : Hid (¬ (fr = a ∧ rr < 1152921504606846976 ∧ rr + x3 = want) → ∀ j, j < k + 1 → ¬ FirstA (netA m es) t lf a j) := Lib.hid fun hno j hj => by
                      by_cases e : j = k
                      · subst e; exact fun h => hno (HFI.out.1 h)
                      · exact HNF.out j (by omega)
                    by_cases hfa : fr = a
                    · have htb : ((fr : Int) == (a : Int)) = true := by simp [hfa]
                      have htn : (fr == a) = true := by simp [hfa]
                      by_cases h1 : rr < 1152921504606846976
                      · have hw3 : IntKind.i64.wrap (rr + x3) = rr + x3 := IntWalk.i64_in _ (by omega)
                        have hw4 : wrap64 (rr + x3) = rr + x3 := by unfold wrap64; omega
                        have h1b : decide (rr < 1152921504606846976) = true := decide_eq_true h1
                        by_cases h2 : rr + x3 = want
                        · have h2b : (rr + x3 == want) = true := by simp [h2]
                          have HTT := Lib.hid (HTK.out (HFI.out.2 ⟨hfa, h1, h2⟩))
                          have HO1 : Hid ((w6.alloc (.cells #[.int .i64 k] 3)).ownsRow B 3 1 (.slice A1 n cn) n (plV p)) := Lib.hid (own_later HR6.out.2.1 ((Below.refl _ _).alloc (Nat.le_refl _) _))
                          have HH : Hid ((w6.alloc (.cells #[.int .i64 k] 3)).heap[w6.heap.size]? = some (.cells #[.int .i64 k] 3 (0, 0))) := Lib.hid (MapKept.heap_alloc w6 _).1
                          have hbs : B ≤ (w6.alloc (.cells #[.int .i64 k] 3)).heap.size := by have := HR6.out.2.2.2; simp; omega
                          have HAFT : Hid (∀ w7, (w6.alloc (.cells #[.int .i64 k] 3)).grownBy w7 (Value.slice A1 n cn).ownBlock → Below B (w6.alloc (.cells #[.int .i64 k] 3)) w7 → FrN w (m : Int) (some ⟨bb, off2, none⟩) len cap w7 ∧ B ≤ w7.heap.size ∧ w7.cell? ⟨wr.heap.size, 1, none⟩ = some (.int .i64 to)) := Lib.hid fun w7 hg hb => by
                            have h2 : Below B w6 w7 := ((Below.refl _ w6).alloc HR6.out.2.2.2 _).trans hb
                            refine ⟨HR6.out.1.trans (h2.mono (by omega)), Nat.le_trans HR6.out.2.2.2 h2.size, ?_⟩
                            have hne : some wr.heap.size ≠ (Value.slice A1 n cn).ownBlock := fun e => by
                              rcases HR6.out.2.1.2 with ⟨h0, _⟩ | ⟨g, cap', cur, hv, _, hgg, _⟩
                              · rw [h0] at e; cases e
                              · rw [hv] at e
                                have e2 : some wr.heap.size = some g := e
                                injection e2 with e2
                                rw [← e2, HQ6.out.1] at hgg
                                injection hgg with hgg
                                injection hgg with _ hgg
                                exact HTY.out hgg
                            have h3 : w7.heap[wr.heap.size]? = some (.cells #[.int .i64 fr, .int .i64 to, .int .i64 x2, .int .i64 x3] 50 (0, 0)) := (hg.block _ (by have := HQ6.out.2; simp; omega) hne).trans ((Below.heap_alloc _ _ _ HQ6.out.2).trans HQ6.out.1)
                            simp [World.cell?, h3]
                          clear HNO h1 h2 hfa
                          go_wp2_with (at_builtin; refine wpList_app_one infoInt rfl _ _ 42 rfl B Try.underlying42 rfl (by decide) rfl HO1.out rfl HH.out rfl (by omega) hbs ?_; intro A7 c7 w7 hown7 hb7 hs7 hg7; have HO7 := Lib.hid hown7; have HAA := Lib.hid (HAFT.out w7 hg7 hb7); have z1 := HAA.out.2.2; clear hown7 hb7 hs7 hg7 hbs HAFT)
                          go_roundw
                          case rel => exact ⟨lf, n + 1, to, c7, A7, p ++ [k], by go_num, rfl, rfl, l1, by have := HLF.out; omega, HTT, Lib.hid ⟨HAA.out.1, by have h := HO7.out; rwa [show plV p ++ [.int .i64 (k : Int)] = plV (p ++ [k]) by simp [plV, lI]] at h, HAA.out.2.1⟩⟩
                          case measure => have := HLF.out; simp [intOf]; omega
                        · have h2b : (rr + x3 == want) = false := by simpa using h2
                          have HN := Lib.hid (HNO.out fun h => h2 h.2.2)
                          clear HNO h1 h2 hfa
                          go_wp2_with fail
                          go_roundw
                          case rel => exact ⟨k + 1, by omega, rfl, rfl, by go_num, HN, Lib.hid ⟨HR6.out.1, HR6.out.2.1, HR6.out.2.2.2⟩⟩
                          case measure => simp [intOf]; omega
                      · have h1b : decide (rr < 1152921504606846976) = false := decide_eq_false h1
                        have HN := Lib.hid (HNO.out fun h => h1 h.2.1)
                        clear HNO h1 hfa
                        go_wp2_with fail
                        go_roundw
                        case rel => exact ⟨k + 1, by omega, rfl, rfl, by go_num, HN, Lib.hid ⟨HR6.out.1, HR6.out.2.1, HR6.out.2.2.2⟩⟩
                        case measure => simp [intOf]; omega
                    · have htb : ((fr : Int) == (a : Int)) = false := by simp; omega
                      have htn : (fr == a) = false := by simp [hfa]
                      have HN := Lib.hid (HNO.out fun h => hfa h.1)
                      clear HNO hfa
                      go_wp2_with fail
                      go_roundw
                      case rel => exact ⟨k + 1, by omega, rfl, rfl, by go_num, HN, Lib.hid ⟨HR6.out.1, HR6.out.2.1, HR6.out.2.2.2⟩⟩
                      case measure => simp [intOf]; omega
                  · obtain rfl : k = len := by omega
                    obtain ⟨k', h1, h2⟩ := HXN.out lf a (by have := HLF.out; omega) (by have h := HGR.out.some_; rwa [HLF.out] at h)
                    exact absurd h2 (HNF.out k' h1)
        go_region_with (first
          | (go_at_call 27; refine (HEX1.out _ ?_).mono ?_; exact HX4.out; rintro e w5 ⟨rfl, hx5, hb5⟩; have HX5 := Lib.hid hx5; have cR5 := (hb5.cell (p := ⟨b4, off4 + t, none⟩) hlt4).trans cR4; have k05 := hx5.k0; have k15 := hx5.k1; clear hx5 hb5)
          | (go_at_call 27; refine (HEX1.out _ ?_).mono ?_; (first | exact HR.out | exact HR.out.drew); rintro e w3 ⟨rfl, hx3, hb3⟩; have HX3 := Lib.hid hx3; have k03 := hx3.k0; have k13 := hx3.k1; clear hx3 hb3)
          | (go_at_call 25; refine (HRE1.out _ ?_).mono ?_; (first | exact HX3.out | exact HR.out | exact HR.out.drew); rintro e w4 ⟨b4, off4, c4, rfl, cR4, hlt4, hx4, hb4⟩; have HX4 := Lib.hid hx4; have k04 := hx4.k0; have k14 := hx4.k1; clear hx4 hb4))
        all_goals first | exact TAIL.out b4 off4 c4 w5 HX5.out | exact TAIL.out b4 off4 c4 w4 HX4.out
end Go.Proofs.Ytkpejmpnbdblbaa
