/- The reference's Longs and Sinks; the law's bools, nodeCheck and reach. -/
import Derived.Test.YtkpejmpnbdblbaaRefReach
import Derived.Test.YtkpejmpnbdblbaaNetV
import Derived.Deep.RegionHeld3
namespace Go.Proofs.Ytkpejmpnbdblbaa
open Go.RowKit

/-- A slice of bools reads as a list, below block B. -/
def BoolsAt (w : World) (B : Nat) (A : Option Addr) (n : Nat) (xs : List Bool) : Prop :=
  xs.length = n ∧ (0 < n → ∃ b off, A = some ⟨b, off, none⟩ ∧ b < B ∧ ∀ i x, xs[i]? = some x → w.cell? ⟨b, off + i, none⟩ = some (.bool x))
section
variable {w w' : World} {B B' n : Nat} {A : Option Addr} {xs : List Bool}
theorem BoolsAt.keep (h : BoolsAt w B A n xs) (hk : ∀ p : Addr, p.block < B → w'.cell? p = w.cell? p) : BoolsAt w' B A n xs :=
  ⟨h.1, fun hn => by
    obtain ⟨b, off, e, hb, hc⟩ := h.2 hn
    exact ⟨b, off, e, hb, fun i x hx => (hk _ hb).trans (hc i x hx)⟩⟩
theorem BoolsAt.more (h : BoolsAt w B A n xs) (hB : B ≤ B') : BoolsAt w B' A n xs :=
  ⟨h.1, fun hn => by
    obtain ⟨b, off, e, hb, hc⟩ := h.2 hn
    exact ⟨b, off, e, by omega, hc⟩⟩
theorem BoolsAt.go_ (h : BoolsAt w w.heap.size A n xs) (hb : Below w.heap.size w w') : BoolsAt w' w'.heap.size A n xs := (h.keep fun _ hp => hb.cell hp).more hb.size
theorem BoolsAt.at_ {k : Nat} (h : BoolsAt w B A n xs) (hk : k < n) : ∃ b off x, A = some ⟨b, off, none⟩ ∧ b < B ∧ xs[k]? = some x ∧ w.cell? ⟨b, off + k, none⟩ = some (.bool x) := by
  obtain ⟨b, off, e, hb, hc⟩ := h.2 (by omega)
  have hl : k < xs.length := by have := h.1; omega
  exact ⟨b, off, xs[k], e, hb, List.getElem?_eq_getElem hl, hc k _ (List.getElem?_eq_getElem hl)⟩
theorem BoolsAt.of_row {g : Nat} {t : TypeId} (h : RowOf w g t (xs.map Value.bool)) (hg : g < B) : BoolsAt w B (some ⟨g, 0, none⟩) xs.length xs :=
  ⟨rfl, fun _ => ⟨g, 0, rfl, hg, fun i x hx => by rw [Nat.zero_add]; exact h.cell (by simp [hx])⟩⟩
theorem BoolsAt.of_own {base : Nat} {t : TypeId} {cap : Nat} (h : w.ownsRow base t 1 (.slice A n cap) n (xs.map Value.bool)) (hB : w.heap.size ≤ B) : BoolsAt w B A n xs := by
  refine ⟨by have := h.1; simpa using this, fun hn => ?_⟩
  obtain ⟨g, rfl, _, hlt⟩ := own_some h hn
  refine ⟨g, 0, rfl, by omega, fun i x hx => ?_⟩
  rw [Nat.zero_add]
  exact (own_cell h (by simp [hx])).1
end
set_option maxRecDepth 100000 in
set_option maxHeartbeats 1000000 in
theorem longs_v (A1 A2 : Option Addr) (n1 n2 c1 c2 : Nat) (xs ys : List Int) (v : Bool) (w : World) (h1 : IntsAt w w.heap.size A1 n1 xs) (h2 : IntsAt w w.heap.size A2 n2 ys) (hn : n1 ≤ 4000000000) (hn2 : n2 ≤ 4000000000) (hv : v = true ↔ xs = ys) :
    Calls Try.prog 13 #[.slice A1 n1 c1, .slice A2 n2 c2] w fun e w' => e = .returned (.bool v) ∧ ∃ k, w' = w.drewN k := by
  have H1 := Lib.hid h1
  have H2 := Lib.hid h2
  have HV := Lib.hid hv
  clear h1 h2 hv
  by_cases hl : n1 = n2
  · subst hl
    go_enter Try.func13, Try.ntmps13
    go_wp2
    go_loopw [5] (fun j wr => ∃ k q : Nat, k ≤ n1 ∧ j = .int .i64 k ∧ Hid (∀ i, i < k → xs[i]? = ys[i]?) ∧ wr = w.drewN q) (fun j _ => n1 - (intOf j).toNat)
    case atStart => exact ⟨0, 0, Nat.zero_le _, rfl, Lib.hid (fun i hi => by omega), rfl⟩
    case round =>
      obtain ⟨k, q, hk, rfl, HS, rfl⟩ := hrel
      by_cases hlt : k < n1
      · obtain ⟨b, off, x, rfl, _, hx, hc⟩ := H1.out.at_ hlt
        obtain ⟨b', off', y, rfl, _, hy, hc'⟩ := H2.out.at_ hlt
        have hki : (k : Int) < (n1 : Int) := by omega
        have hk0 : (0 : Int) ≤ (k : Int) := by omega
        by_cases hxy : x = y
        · subst hxy
          have HS2 : Hid (∀ i, i < k + 1 → xs[i]? = ys[i]?) := Lib.hid fun i hi => by
            rcases Nat.lt_or_ge i k with h | h
            · exact HS.out i h
            · obtain rfl : i = k := by omega
              rw [hx, hy]
          clear hx hy
          go_wp2
          go_quiet (fail)
          go_wp2
          go_roundw
          case rel => exact ⟨k + 1, _, by omega, by go_num, HS2, rfl⟩
          case measure => simp [intOf]; omega
        · have hne : (x != y) = true := by simpa using hxy
          have HR : Hid (v = false) := Lib.hid (by
            rw [Bool.eq_false_iff]
            intro h
            have := HV.out.1 h
            subst this
            rw [hx] at hy
            injection hy with hy
            exact hxy hy)
          clear hx hy
          go_wp2
          go_quiet (fail)
          go_wp2
          go_ret
          exact ⟨ret_bool HR.out.symm, _, World.drewN_drewN _ _ _⟩
      · have HR : Hid (v = true) := Lib.hid (HV.out.2 (List.ext_getElem? fun i => by
          rcases Nat.lt_or_ge i n1 with h | h
          · exact HS.out i (by omega)
          · rw [List.getElem?_eq_none (by rw [H1.out.1]; exact h), List.getElem?_eq_none (by rw [H2.out.1]; exact h)]))
        go_wp2
        go_ret
        exact ⟨ret_bool HR.out.symm, q, rfl⟩
  · have HR : Hid (v = false) := Lib.hid (by
      rw [Bool.eq_false_iff]
      intro h
      have := HV.out.1 h
      subst this
      exact hl (H1.out.1.symm.trans H2.out.1))
    have hb1 : ((n1 : Int) != (n2 : Int)) = true := by simp; omega
    have hb2 : (n1 != n2) = true := by simpa using hl
    go_enter Try.func13, Try.ntmps13
    go_wp2
    go_ret
    exact ⟨ret_bool HR.out.symm, 0, rfl⟩
set_option maxRecDepth 100000 in
set_option maxHeartbeats 400000 in
theorem bools_same (A1 A2 : Option Addr) (n c1 c2 : Nat) (xs : List Bool) (w : World) (h1 : BoolsAt w w.heap.size A1 n xs) (h2 : BoolsAt w w.heap.size A2 n xs) (hn : n ≤ 4000000000) :
    Calls Try.prog 14 #[.slice A1 n c1, .slice A2 n c2] w fun e w' => e = .returned (.bool true) ∧ ∃ k, w' = w.drewN k := by
  have H1 := Lib.hid h1
  have H2 := Lib.hid h2
  clear h1 h2
  go_enter Try.func14, Try.ntmps14
  go_wp2
  go_loopw [5] (fun j wr => ∃ k q : Nat, k ≤ n ∧ j = .int .i64 k ∧ wr = w.drewN q) (fun j _ => n - (intOf j).toNat)
  case atStart => exact ⟨0, 0, Nat.zero_le _, rfl, rfl⟩
  case round =>
    obtain ⟨k, q, hk, rfl, rfl⟩ := hrel
    by_cases hlt : k < n
    · obtain ⟨b, off, x, rfl, _, hx, hc⟩ := H1.out.at_ hlt
      obtain ⟨b', off', x', rfl, _, hx', hc'⟩ := H2.out.at_ hlt
      obtain rfl : x = x' := by rw [hx] at hx'; injection hx'
      have hki : (k : Int) < (n : Int) := by omega
      have hk0 : (0 : Int) ≤ (k : Int) := by omega
      clear hx hx'
      have hxx : (x != x) = false := by cases x <;> rfl
      go_wp2
      go_quiet (fail)
      go_wp2
      go_roundw
      case rel => exact ⟨k + 1, _, by omega, by go_num, rfl⟩
      case measure => simp [intOf]; omega
    · go_wp2
      go_ret
      exact ⟨rfl, q, rfl⟩

/-- The table of least lengths. -/
def reachL (N : ArcsF) (s r m : Nat) : List Int := (List.range m).map (reachV N s r)
theorem sinks_lists {m s : Nat} {es : List A4} (hG : GoodN (m : Int) es) (hF : FeeS es) (hs : s < m) : reachL (netA m es) s m m = reachL (netA m es) s (m + 1) m ↔ ¬ SinksP (netA m es) s := by
  have hok := netA_ok hG
  have hfe := netA_fee hG hF
  have hm10 : m ≤ 10 := by have := hG.n1; omega
  have hlt : ∀ k, k ≤ 11 → ∀ t c, bfR (netA m es) s k t = some c → c < farE := fun k hk t c h => by
    have h1 := (bfR_abs hfe (by decide) h).2
    unfold farE; omega
  rw [sinks_iff hok (show s < (netA m es).n from hs)]
  constructor
  · rintro h ⟨t, ht, hne⟩
    apply hne
    have h2 : (reachL (netA m es) s m m)[t]? = (reachL (netA m es) s (m + 1) m)[t]? := by rw [h]
    have ht' : t < m := ht
    unfold reachL at h2
    rw [List.getElem?_map, List.getElem?_map, List.getElem?_range ht'] at h2
    simp only [Option.map_some, Option.some.injEq] at h2
    exact encR_inj (hlt m (by omega) t) (hlt (m + 1) (by omega) t) h2
  · intro h
    unfold reachL
    apply List.map_congr_left
    intro t ht
    unfold reachV
    congr 1
    exact Classical.byContradiction fun hne => h ⟨t, List.mem_range.1 ht, hne⟩
set_option maxRecDepth 100000 in
set_option maxHeartbeats 2000000 in
theorem sinks_v (m s : Nat) (A : Option Addr) (len cap : Nat) (es : List A4) (v : Bool) (w : World) (hE : ArcsAt w w.heap.size A len es) (hG : GoodN (m : Int) es) (hF : FeeS es) (hs : s < m) (hv : v = true ↔ SinksP (netA m es) s) :
    Calls Try.prog 11 #[.agg #[.int .i64 (m : Int), .slice A len cap], .int .i64 (s : Int)] w fun e w' => e = .returned (.bool v) ∧ Below w.heap.size w w' := by
  have hm10 : m ≤ 10 := by have := hG.n1; omega
  obtain ⟨u, hu⟩ : ∃ u : Bool, u = true ↔ reachL (netA m es) s m m = reachL (netA m es) s (m + 1) m := by
    classical
    exact ⟨decide (reachL (netA m es) s m m = reachL (netA m es) s (m + 1) m), decide_eq_true_iff⟩
  have HUV : Hid (v = !u) := Lib.hid (by
    have h : u = true ↔ ¬ v = true := by rw [hu, sinks_lists hG hF hs, hv]
    clear hu hv
    cases u <;> cases v <;> first | rfl | (exfalso; revert h; decide))
  have HU := Lib.hid hu
  have HE := Lib.hid hE
  have HRE1 : Hid (∀ (z : Int) W, z = (m : Int) → FrN w (m : Int) A len cap W → Calls Try.prog 25 #[.agg #[.int .i64 (m : Int), .slice A len cap], .int .i64 (s : Int), .int .i64 z] W fun e w' => (∃ A' c', e = .returned (.slice A' m c') ∧ IntsAt w' w'.heap.size A' m (reachL (netA m es) s m m)) ∧ Below W.heap.size W w' ∧ FrN w (m : Int) A len cap w') := Lib.hid fun z W hz hW => by rw [hz]; exact (refReach_any m s m A len cap es W (hW.arcs HE.out) hG hF hs (by omega)).mono fun e w' h => ⟨h.1, h.2, hW.later h.2⟩
  have HRE2 : Hid (∀ (z : Int) W, z = ((m + 1 : Nat) : Int) → FrN w (m : Int) A len cap W → Calls Try.prog 25 #[.agg #[.int .i64 (m : Int), .slice A len cap], .int .i64 (s : Int), .int .i64 z] W fun e w' => (∃ A' c', e = .returned (.slice A' m c') ∧ IntsAt w' w'.heap.size A' m (reachL (netA m es) s (m + 1) m)) ∧ Below W.heap.size W w' ∧ FrN w (m : Int) A len cap w') := Lib.hid fun z W hz hW => by rw [hz]; exact (refReach_any m s (m + 1) A len cap es W (hW.arcs HE.out) hG hF hs (by omega)).mono fun e w' h => ⟨h.1, h.2, hW.later h.2⟩
  have HX := Lib.hid (FrN.start (w := w) (n := (m : Int)) (A := A) (len := len) (cap := cap))
  have hw1 : IntKind.i64.wrap ((m : Int) + 1) = ((m + 1 : Nat) : Int) := by rw [show (m : Int) + 1 = ((m + 1 : Nat) : Int) by omega]; exact IntWalk.i64_in _ (by omega)
  have hw2 : wrap64 ((m : Int) + 1) = ((m + 1 : Nat) : Int) := by rw [show (m : Int) + 1 = ((m + 1 : Nat) : Int) by omega]; unfold wrap64; omega
  clear hE hG hF hs hv hu
  go_enter Try.func11, Try.ntmps11
  go_wp2_with fail
  obtain ⟨W0, hW0⟩ : ∃ W0, W0 = bxN w (m : Int) A len cap := ⟨_, rfl⟩
  have HX0 : Hid (FrN w (m : Int) A len cap W0) := Lib.hid (by rw [hW0]; exact HX.out)
  unfold bxN at hW0
  rw [← hW0]
  clear hW0 HX
  have q0 := HX0.out.k0
  have q1 := HX0.out.k1
  generalize hmm : ((m + 1 : Nat) : Int) = m1 at *
  go_region_held3 (fun W => W.cell? ⟨w.heap.size, 0, none⟩ = some (.int .i64 (m : Int)) ∧ W.cell? ⟨w.heap.size, 1, none⟩ = some (.slice A len cap))
    (first | exact ⟨q0, q1⟩ | exact hq1.out | exact hq2.out | go_keep)
    (first
      | (go_at_call 13; refine (longs_v A1 A2 m m c1 c2 _ _ u _ ?_ ?_ (by omega) (by omega) HU.out).mono ?_; (first | exact HI1.out | exact HI1.out.go_ HBY.out); (first | exact HI2.out | exact HI2.out.go_ HBX.out); rintro e w5 ⟨rfl, q5, rfl⟩)
      | (go_at_call 25; refine (HRE1.out _ _ ?_ ?_).mono ?_; exact rfl; (first | exact HX0.out | exact HX0.out.drew | exact HX2.out | exact HX2.out.drew); rintro e w1 ⟨⟨A1, c1, rfl, hi1⟩, hb1, hx1⟩; have HI1 := Lib.hid hi1; have HX1 := Lib.hid hx1; have HBX := Lib.hid hb1; have hq1 := Lib.hid (And.intro hx1.k0 hx1.k1); clear hi1 hb1 hx1)
      | (go_at_call 25; refine (HRE2.out _ _ ?_ ?_).mono ?_; exact rfl; (first | exact HX0.out | exact HX0.out.drew | exact HX1.out | exact HX1.out.drew); rintro e w2 ⟨⟨A2, c2, rfl, hi2⟩, hb2, hx2⟩; have HI2 := Lib.hid hi2; have HX2 := Lib.hid hx2; have HBY := Lib.hid hb2; have hq2 := Lib.hid (And.intro hx2.k0 hx2.k1); clear hi2 hb2 hx2))
  go_wp2
  go_ret
  exact ⟨by rw [HUV.out]; rfl, below_drewN HX2.out.below _⟩
end Go.Proofs.Ytkpejmpnbdblbaa
