/- ShortAlls, walked: All tells how far all are from all, or that it gets shorter for ever. -/
import Derived.Test.YtkpejmpnbdblbaaShortFars
import Derived.Test.YtkpejmpnbdblbaaAllGo
namespace Go.Proofs.Ytkpejmpnbdblbaa
open Go.RowKit

/-- The world of ShortAlls: the net's box, and what All told. -/
structure AllW (w : World) (m : Nat) (A : Option Addr) (len cap : Nat) (es : List A4) (F I : Nat) (fb ib : Nat → Nat) (w1 : World) : Prop where
  box : BoxN w (m : Int) A len cap es w1
  rowF : RowOf w1 F 25 (rowsV fb m m m)
  rowI : RowOf w1 I 26 (rowsV ib m m m)
  rows : ∀ j, j < m → RowOf w1 (fb j) 2 (farL (netA m es) (runD (netA m es) j m) m) ∧ RowOf w1 (ib j) 4 (isL (runD (netA m es) j m) m)
theorem AllW.later {w w1 w2 : World} {m : Nat} {A : Option Addr} {len cap : Nat} {es : List A4} {F I : Nat} {fb ib : Nat → Nat} (h : AllW w m A len cap es F I fb ib w1) (hb : Below w1.heap.size w1 w2) : AllW w m A len cap es F I fb ib w2 :=
  ⟨h.box.next hb, h.rowF.keep hb, h.rowI.keep hb, fun j hj => ⟨(h.rows j hj).1.keep hb, (h.rows j hj).2.keep hb⟩⟩
theorem AllW.drewN {w w1 : World} {m : Nat} {A : Option Addr} {len cap : Nat} {es : List A4} {F I : Nat} {fb ib : Nat → Nat} (h : AllW w m A len cap es F I fb ib w1) (q : Nat) : AllW w m A len cap es F I fb ib (w1.drewN q) := h.later (below_drewN (Below.refl _ _) q)
def NoneYet (N : ArcsF) (i : Nat) (z : Int) : Prop := z = 0 → ∀ j, j < i → ¬ SinksP N j
set_option maxRecDepth 100000 in
set_option maxHeartbeats 4000000 in
theorem shortAlls_any (n : Int) (A : Option Addr) (len cap : Nat) (es : List A4) (w : World) (hE : ArcsAt w w.heap.size A len es) (_ : len ≤ cap) (_ : ∀ e ∈ es, WfA e) (_ : (Lit.int .i64 n).wf = true) :
    Calls Try.prog 4 #[.agg #[.int .i64 n, .slice A len cap]] w fun e w' => e = .returned (.bool true) ∧ Below w.heap.size w w' := by
  have HX := Lib.hid (BoxN.start (n := n) (cap := cap) hE)
  obtain ⟨x, hx⟩ : ∃ x, netF n es = x := ⟨_, rfl⟩
  have HV := Lib.hid hx
  have k0 := HX.out.k0
  have k1 := HX.out.k1
  by_cases h0 : x = 0
  · subst h0
    have hG := good_of_netF hx
    obtain ⟨m, rfl⟩ := Int.eq_ofNat_of_zero_le hG.n0
    have hF := feeS_of_netF hx
    obtain ⟨v, hv⟩ : ∃ v : Bool, v = true ↔ ∃ s, s < m ∧ SinksP (netA m es) s := by
      classical
      exact ⟨decide (∃ s, s < m ∧ SinksP (netA m es) s), decide_eq_true_iff⟩
    have HAG := Lib.hid (fun W hW => all_good m A len cap es v W hW hx hv)
    have HSI := Lib.hid (fun s u W hs hW hu => sinks_v m s A len cap es u W hW hG hF hs hu)
    have HLR := Lib.hid (fun s W hs hW => lawReach_any m s A len cap es W hW hG hF hs)
    have HOF := Lib.hid (fun s hs hS => out_far (s := s) hG hF hs hS)
    have HVV := Lib.hid hv
    have hm10 : m ≤ 10 := by have := hG.n1; omega
    clear hE hx hG hv hF
    go_enter Try.func4, Try.ntmps4
    go_wp2_with fail
    refine (HAG.out _ HX.out.arcs).mono ?_
    cases v with
    | true =>
      have HEX : Hid (∃ s, s < m ∧ SinksP (netA m es) s) := Lib.hid (HVV.out.1 rfl)
      rintro e w1 ⟨h1, _, hB⟩
      obtain rfl := h1 rfl
      have HX1 := Lib.hid (HX.out.next hB)
      clear k0 k1 hB HAG HLR HOF
      have k0 := HX1.out.k0
      have k1 := HX1.out.k1
      go_wp2_with fail
      refine (netCheck_v (m : Int) 0 A len cap es _ (by exact HX1.out.arcs) HV.out).mono ?_
      rintro e w2 ⟨rfl, hB⟩
      have HX2 := Lib.hid (HX1.out.next hB)
      clear k0 k1 hB
      go_wp2_with fail
      go_loopw [6, 7] (fun x y wr => ∃ (i : Nat) (z : Int), i ≤ m ∧ x = .int .i64 z ∧ y = .int .i64 i ∧ (z = 0 ∨ z = 5) ∧ Hid (NoneYet (netA m es) i z) ∧ Hid (BoxN w (m : Int) A len cap es wr)) (fun _ y _ => m - (intOf y).toNat)
      case atStart => exact ⟨0, 0, Nat.zero_le _, rfl, rfl, .inl rfl, Lib.hid (fun _ j hj => by omega), HX2⟩
      case round =>
        clear HX2
        obtain ⟨i, z, hi, rfl, rfl, hz, HN, HR⟩ := hrel
        have k0 := HR.out.k0
        rcases hz with rfl | rfl
        · by_cases hlt : i < m
          · have k1 := HR.out.k1
            obtain ⟨u, hu⟩ := sinks_bool (netA m es) i
            have HU := Lib.hid hu
            clear hu
            go_wp2_with fail
            refine (HSI.out i u _ hlt HR.out.arcs HU.out).mono ?_
            rintro e w3 ⟨rfl, hB⟩
            have HX3 := Lib.hid (HR.out.next hB)
            clear k0 k1 hB
            cases u with
            | true =>
              go_wp2_with fail
              go_roundw
              case rel => exact ⟨i + 1, 5, by omega, rfl, by go_num, .inr rfl, Lib.hid (fun h => by cases h), HX3⟩
              case measure => simp [intOf]; omega
            | false =>
              have HN2 : Hid (NoneYet (netA m es) (i + 1) 0) := Lib.hid fun _ j hj => by
                by_cases e : j = i
                · subst e; exact fun h => by have := HU.out.2 h; cases this
                · exact HN.out rfl j (by omega)
              clear HN
              go_wp2_with fail
              go_roundw
              case rel => exact ⟨i + 1, 0, by omega, rfl, by go_num, .inl rfl, HN2, HX3⟩
              case measure => simp [intOf]; omega
          · obtain rfl : i = m := by omega
            obtain ⟨s, h1, h2⟩ := HEX.out
            exact absurd h2 (HN.out rfl s h1)
        · by_cases hlt : i < m
          · go_wp2_with fail
            go_ret
            exact ⟨rfl, HR.out.below⟩
          · go_wp2_with fail
            go_ret
            exact ⟨rfl, HR.out.below⟩
    | false =>
      rintro e w1 ⟨_, h2, hB⟩
      obtain ⟨F, I, fb, ib, rfl, hr1, hr2, hr3⟩ := h2 rfl
      have HX1 : Hid (AllW w m A len cap es F I fb ib w1) := Lib.hid ⟨HX.out.next hB, hr1, hr2, hr3⟩
      have HNS : Hid (∀ s, s < m → ¬ SinksP (netA m es) s) := Lib.hid fun s hs h => by have := HVV.out.2 ⟨s, hs, h⟩; cases this
      clear k0 k1 hB HAG hr1 hr2 hr3
      have k0 := HX1.out.box.k0
      have k1 := HX1.out.box.k1
      go_wp2_with fail
      refine (netCheck_v (m : Int) 0 A len cap es _ (by exact HX1.out.box.arcs) HV.out).mono ?_
      rintro e w2 ⟨rfl, hB⟩
      have HX2 := Lib.hid (HX1.out.later hB)
      clear k0 k1 hB
      go_wp2_with fail
      go_loopw [6, 7] (fun x y wr => ∃ i : Nat, i ≤ m ∧ x = .int .i64 0 ∧ y = .int .i64 i ∧ Hid (AllW w m A len cap es F I fb ib wr)) (fun _ y _ => m - (intOf y).toNat)
      case atStart => exact ⟨0, Nat.zero_le _, rfl, rfl, HX2⟩
      case round =>
        clear HX2
        obtain ⟨i, hi, rfl, rfl, HR⟩ := hrel
        have k0 := HR.out.box.k0
        by_cases hlt : i < m
        · have k1 := HR.out.box.k1
          have HU : Hid (false = true ↔ SinksP (netA m es) i) := Lib.hid ⟨(fun h => by cases h), fun h => absurd h (HNS.out i hlt)⟩
          go_wp2_with fail
          refine (HSI.out i false _ hlt HR.out.box.arcs ⟨(fun h => by cases h), fun h => absurd h (HNS.out i hlt)⟩).mono ?_
          rintro e w3 ⟨rfl, hB⟩
          have HX3 := Lib.hid (HR.out.later hB)
          clear k0 k1 hB
          go_wp2_with fail
          go_roundw
          case rel => exact ⟨i + 1, by omega, rfl, by go_num, HX3⟩
          case measure => simp [intOf]; omega
        · obtain rfl : i = m := by omega
          go_wp2_with fail
          clear k0
          go_loopw [8, 9, 10] (fun y _ _ ws => ∃ s : Nat, s ≤ i ∧ y = .int .i64 s ∧ Hid (AllW w i A len cap es F I fb ib ws)) (fun y _ _ _ => i - (intOf y).toNat)
          case atStart => exact ⟨0, Nat.zero_le _, rfl, HR⟩
          case round =>
            clear HR
            obtain ⟨s, hs, rfl, HR⟩ := hrel
            have k0 := HR.out.box.k0
            by_cases hsi : s < i
            · have k1 := HR.out.box.k1
              have is0 : (0 : Int) ≤ (s : Int) := by omega
              have is1 : (s : Int) < (i : Int) := by omega
              go_wp2_with fail
              refine (HLR.out s _ hsi HR.out.box.arcs).mono ?_
              rintro e w4 ⟨⟨A1, c1, A2, c2, rfl, hi1, hi2⟩, hB⟩
              have HX4 := Lib.hid (HR.out.later hB)
              have HI1 := Lib.hid hi1
              have HI2 := Lib.hid hi2
              have HOO := Lib.hid (HOF.out s hsi (HNS.out s hsi))
              have cF : w4.cell? ⟨F, s, none⟩ = some (.slice (some ⟨fb s, 0, none⟩) i i) := HX4.out.rowF.cell (by simp [rowsV, hsi])
              have cI : w4.cell? ⟨I, s, none⟩ = some (.slice (some ⟨ib s, 0, none⟩) i i) := HX4.out.rowI.cell (by simp [rowsV, hsi])
              clear k0 k1 hB hi1 hi2 HR
              go_wp2_with fail
              refine (longs_v _ A1 i i i c1 _ _ true w4 (far_ints (HX4.out.rows s hsi).1) HI1.out (by omega) (by omega) ⟨fun _ => List.map_congr_left fun t _ => (HOO.out t).1.symm, fun _ => rfl⟩).mono ?_
              rintro e w5 ⟨rfl, q5, rfl⟩
              have HI3 : Hid (BoolsAt (w4.drewN q5) (w4.drewN q5).heap.size A2 i ((List.range i).map fun t => (runD (netA i es) s i t).isSome)) := Lib.hid (by
                have h := HI2.out.go_ (below_drewN (Below.refl _ _) q5)
                rwa [List.map_congr_left (g := fun t => (runD (netA i es) s i t).isSome) fun t _ => (HOO.out t).2] at h)
              have HI4 : Hid (BoolsAt (w4.drewN q5) (w4.drewN q5).heap.size (some ⟨ib s, 0, none⟩) i ((List.range i).map fun t => (runD (netA i es) s i t).isSome)) := Lib.hid ((is_bools (HX4.out.rows s hsi).2).go_ (below_drewN (Below.refl _ _) q5))
              go_wp2_with fail
              refine (bools_same _ A2 i i c2 _ _ HI4.out HI3.out (by omega)).mono ?_
              rintro e w6 ⟨rfl, q6, rfl⟩
              go_wp2_with fail
              go_roundw
              case rel => exact ⟨s + 1, by omega, by go_num, Lib.hid (HX4.out.drewN _)⟩
              case measure => simp [intOf]; omega
            · obtain rfl : s = i := by omega
              go_wp2_with fail
              go_ret
              exact ⟨rfl, HR.out.box.below⟩
  · have HH0 := Lib.hid h0
    have hx0 : (x != 0) = true := by simpa using h0
    have hx1 : (x == 0) = false := by simpa using h0
    clear hE hx h0
    go_enter Try.func4, Try.ntmps4
    go_wp2_with fail
    refine (all_bad n x A len cap es _ (by exact HX.out.arcs) HV.out HH0.out).mono ?_
    rintro e w1 ⟨rfl, hB⟩
    have HX1 := Lib.hid (HX.out.next hB)
    clear k0 k1 hB
    have k0 := HX1.out.k0
    have k1 := HX1.out.k1
    go_wp2_with fail
    refine (netCheck_v n x A len cap es _ (by exact HX1.out.arcs) HV.out).mono ?_
    rintro e w2 ⟨rfl, hB⟩
    have HX2 := Lib.hid (HX1.out.next hB)
    clear k0 k1 hB
    have k0 := HX2.out.k0
    go_wp2_with fail
    clear k0
    go_loop [6, 7] (fun v y => v = .int .i64 x ∧ y = .int .i64 0) (fun _ _ => 0)
    case atStart => exact ⟨rfl, rfl⟩
    case round =>
      obtain ⟨rfl, rfl⟩ := hrel
      have k0 := HX2.out.k0
      by_cases hn : 0 < n
      · have hnb : decide (0 < n) = true := decide_eq_true hn
        go_wp2_with fail
        go_ret
        exact ⟨rfl, HX2.out.below⟩
      · have hnb : decide (0 < n) = false := decide_eq_false hn
        clear hn
        go_wp2_with fail
        go_ret
        exact ⟨rfl, HX2.out.below⟩
end Go.Proofs.Ytkpejmpnbdblbaa
