/- The reference's WayWall: the first of the smallest walls. No conditions. -/
import Derived.Test.YtmelemjngnadpaaDoorZRefParted
namespace Go.Proofs.YtmelemjngnadpaaDoor
open Go.RowKit

/-- What has been found among the words below k: none yet, or the first of those with the fewest members. -/
structure LeastW (P : Nat → Prop) (f : Nat → Nat) (k bl : Nat) (fd : Bool) : Prop where
  none : fd = false → bl = 0 ∧ ∀ j, j < k → ¬ P j
  some : fd = true → bl < k ∧ P bl ∧ (∀ j, j < k → P j → f bl ≤ f j) ∧ ∀ j, j < bl → P j → f bl < f j
section
variable {P : Nat → Prop} {f : Nat → Nat} {k bl : Nat} {fd : Bool}
theorem LeastW.start (P : Nat → Prop) (f : Nat → Nat) : LeastW P f 0 0 false := ⟨fun _ => ⟨rfl, fun j hj => absurd hj (Nat.not_lt_zero j)⟩, fun h => by cases h⟩
theorem LeastW.skip (h : LeastW P f k bl fd) (hk : ¬ P k) : LeastW P f (k + 1) bl fd := by
  refine ⟨fun e => ⟨(h.none e).1, fun j hj hp => ?_⟩, fun e => ?_⟩
  · by_cases ej : j = k
    · subst ej; exact hk hp
    · exact (h.none e).2 j (by omega) hp
  · obtain ⟨h1, h2, h3, h4⟩ := h.some e
    refine ⟨by omega, h2, fun j hj hp => ?_, h4⟩
    by_cases ej : j = k
    · subst ej; exact absurd hp hk
    · exact h3 j (by omega) hp
theorem LeastW.take (h : LeastW P f k bl fd) (hk : P k) (hl : fd = false ∨ f k < f bl) : LeastW P f (k + 1) k true := by
  have hj : ∀ j, j < k → P j → f k < f j := fun j hj hp => by
    cases hfd : fd with
    | false => exact absurd hp ((h.none hfd).2 j hj)
    | true =>
      have h1 := (h.some hfd).2.2.1 j hj hp
      rcases hl with e | e
      · rw [e] at hfd; cases hfd
      · omega
  refine ⟨fun e => (by cases e), fun _ => ⟨by omega, hk, fun j hjk hp => ?_, hj⟩⟩
  by_cases ej : j = k
  · subst ej; exact Nat.le_refl _
  · exact Nat.le_of_lt (hj j (by omega) hp)
theorem LeastW.keep (h : LeastW P f k bl true) (hl : f bl ≤ f k) : LeastW P f (k + 1) bl true := by
  obtain ⟨h1, h2, h3, h4⟩ := h.some rfl
  refine ⟨fun e => (by cases e), fun _ => ⟨by omega, h2, fun j hj hp => ?_, h4⟩⟩
  by_cases ej : j = k
  · subst ej; exact hl
  · exact h3 j (by omega) hp
end
/-- Does a word part the two, and has neither of them? -/
def OkW (es : List E3) (a b u : Nat) : Prop := u.testBit a = false ∧ u.testBit b = false ∧ partedB es a b u = true
set_option maxRecDepth 100000 in
set_option maxHeartbeats 4000000 in
theorem wayWall_any (m a b : Nat) (A : Option Addr) (len cap : Nat) (es : List E3) (w : World) (hE : EdgesAt w w.heap.size A len es) (hm10 : m ≤ 10) (hlen : len ≤ 45) (hin : InE m es) (ha : a < m) (hb : b < m) :
    Calls Tryd.prog 7 #[.agg #[.int .i64 m, .slice A len cap], .int .i64 a, .int .i64 b] w fun e w' => (∃ (bl : Nat) (fd : Bool), LeastW (OkW es a b) sizeW (2 ^ m) bl fd ∧ e = .returned (.int .u32 bl)) ∧ Below w.heap.size w w' := by
  have HX := Lib.hid (BoxG.start (n := (m : Int)) (cap := cap) hE)
  have HPA := Lib.hid (fun (u : Nat) (res : Bool) (W : World) (hu : u < 1024) (h : EdgesAt W W.heap.size A len es) (hr : partedB es a b u = res) => parted_any m u a b res A len cap es W h hm10 hlen hin (by omega) ha hb hr)
  have HBA := Lib.hid (fun (u : Nat) (r : Bool) (W : World) (hu : u < 1024) (h : u.testBit a = r) => bit_nat u a r (by omega) (by omega) h W)
  have HBB := Lib.hid (fun (u : Nat) (r : Bool) (W : World) (hu : u < 1024) (h : u.testBit b = r) => bit_nat u b r (by omega) (by omega) h W)
  have HSZ := Lib.hid (fun (u : Nat) (z : Int) (W : World) (hu : u < 1024) (h : (sizeW u : Int) = z) => size_v u z (by omega) h W)
  have hpos := Nat.two_pow_pos m
  have h1024 : 2 ^ m ≤ 1024 := by rw [show 1024 = 2 ^ 10 from rfl]; exact Nat.pow_le_pow_right (by decide) hm10
  obtain ⟨Q, hQ⟩ : ∃ Q, 2 ^ m = Q + 1 := ⟨2 ^ m - 1, by omega⟩
  have HQ := Lib.hid hQ
  have hq1 : (2 : Int) ^ m % 4294967296 = (Q : Int) + 1 := by
    have h := pow_mod m (by omega)
    rw [hQ] at h
    rw [h]; omega
  have hq2 : IntKind.u32.wrap ((2 : Int) ^ m) = (Q : Int) + 1 := by rw [wrap_u32n, hq1]
  have hQ10 : Q < 1024 := by omega
  have HZ := Lib.hid (LeastW.start (OkW es a b) sizeW)
  clear hE hin hQ hpos h1024
  go_enter Tryd.func7, Tryd.ntmps7
  go_wp2
  go_loopw [7, 8, 9] (fun best fd c wr => ∃ (k bl : Nat) (fb : Bool), k ≤ Q + 1 ∧ bl < 1024 ∧ c = .int .u32 k ∧ best = .int .u32 bl ∧ fd = .bool fb ∧ Hid (LeastW (OkW es a b) sizeW k bl fb) ∧ Hid (BoxG w m A len cap es wr)) (fun _ _ c _ => Q + 1 - (intOf c).toNat)
  case atStart => exact ⟨0, 0, false, by omega, by omega, rfl, rfl, rfl, HZ, HX⟩
  case round =>
    clear HZ HX
    obtain ⟨k, bl, fb, hk, hbl, rfl, rfl, rfl, HF, HXr⟩ := hrel
    have hbx := HXr.out.c0
    have hbx1 := HXr.out.c1
    have hbxl := HXr.out.lt
    by_cases hlt : k < Q + 1
    · have hk1 : k < 1024 := by omega
      by_cases h1 : k.testBit a = true
      · have HN := Lib.hid (HF.out.skip (show ¬ OkW es a b k from fun h => by rw [h.1] at h1; cases h1))
        have H1 := Lib.hid (fun W => HBA.out k true W hk1 h1)
        clear h1 HF
        go_wp2_with fail
        refine (H1.out _).mono ?_
        rintro e w1 ⟨rfl, rfl⟩
        go_wp2_with fail
        go_roundw
        case rel => exact ⟨k + 1, bl, fb, by omega, hbl, by go_num, rfl, rfl, HN, HXr⟩
        case measure => simp [intOf]; omega
      · have H1 := Lib.hid (fun W => HBA.out k false W hk1 (by simpa using h1))
        by_cases h2 : k.testBit b = true
        · have HN := Lib.hid (HF.out.skip (show ¬ OkW es a b k from fun h => by rw [h.2.1] at h2; cases h2))
          have H2 := Lib.hid (fun W => HBB.out k true W hk1 h2)
          clear h1 h2 HF
          go_wp2_with fail
          refine (H1.out _).mono ?_
          rintro e w1 ⟨rfl, rfl⟩
          go_wp2_with fail
          refine (H2.out _).mono ?_
          rintro e w1 ⟨rfl, rfl⟩
          go_wp2_with fail
          go_roundw
          case rel => exact ⟨k + 1, bl, fb, by omega, hbl, by go_num, rfl, rfl, HN, HXr⟩
          case measure => simp [intOf]; omega
        · have H2 := Lib.hid (fun W => HBB.out k false W hk1 (by simpa using h2))
          cases h3 : partedB es a b k with
          | false =>
            have HN := Lib.hid (HF.out.skip (show ¬ OkW es a b k from fun h => by rw [h.2.2] at h3; cases h3))
            have H3 := Lib.hid (HPA.out k false wr hk1 HXr.out.edges h3)
            clear h1 h2 h3 HF
            go_wp2_with fail
            refine (H1.out _).mono ?_
            rintro e w1 ⟨rfl, rfl⟩
            go_wp2_with fail
            refine (H2.out _).mono ?_
            rintro e w1 ⟨rfl, rfl⟩
            go_wp2_with fail
            refine H3.out.mono ?_
            rintro e w2 ⟨rfl, hb2⟩
            have HX2 := Lib.hid (HXr.out.next hb2)
            clear hb2
            go_wp2_with fail
            go_roundw
            case rel => exact ⟨k + 1, bl, fb, by omega, hbl, by go_num, rfl, rfl, HN, HX2⟩
            case measure => simp [intOf]; omega
          | true =>
            have H3 := Lib.hid (HPA.out k true wr hk1 HXr.out.edges h3)
            have hok : OkW es a b k := ⟨by simpa using h1, by simpa using h2, h3⟩
            cases fb with
            | false =>
              have HN := Lib.hid (HF.out.take hok (.inl rfl))
              clear h1 h2 h3 HF hok
              go_wp2_with fail
              refine (H1.out _).mono ?_
              rintro e w1 ⟨rfl, rfl⟩
              go_wp2_with fail
              refine (H2.out _).mono ?_
              rintro e w1 ⟨rfl, rfl⟩
              go_wp2_with fail
              refine H3.out.mono ?_
              rintro e w2 ⟨rfl, hb2⟩
              have HX2 := Lib.hid (HXr.out.next hb2)
              clear hb2
              go_wp2_with fail
              go_roundw
              case rel => exact ⟨k + 1, k, true, by omega, hk1, by go_num, rfl, rfl, HN, HX2⟩
              case measure => simp [intOf]; omega
            | true =>
              obtain ⟨z1, hz1⟩ : ∃ z : Int, (sizeW k : Int) = z := ⟨_, rfl⟩
              obtain ⟨z2, hz2⟩ : ∃ z : Int, (sizeW bl : Int) = z := ⟨_, rfl⟩
              have HS1 := Lib.hid (fun W => HSZ.out k z1 W hk1 hz1)
              have HS2 := Lib.hid (fun W => HSZ.out bl z2 W hbl hz2)
              by_cases hc : z1 < z2
              · have hd : decide (z1 < z2) = true := decide_eq_true hc
                have HN := Lib.hid (HF.out.take hok (.inr (by omega)))
                clear h1 h2 h3 HF hok hz1 hz2 hc
                go_wp2_with fail
                refine (H1.out _).mono ?_
                rintro e w1 ⟨rfl, rfl⟩
                go_wp2_with fail
                refine (H2.out _).mono ?_
                rintro e w1 ⟨rfl, rfl⟩
                go_wp2_with fail
                refine H3.out.mono ?_
                rintro e w2 ⟨rfl, hb2⟩
                have HX2 := Lib.hid (HXr.out.next hb2)
                clear hb2
                go_wp2_with fail
                refine (HS1.out _).mono ?_
                rintro e w3 ⟨rfl, rfl⟩
                go_wp2_with fail
                refine (HS2.out _).mono ?_
                rintro e w3 ⟨rfl, rfl⟩
                go_wp2_with fail
                go_roundw
                case rel => exact ⟨k + 1, k, true, by omega, hk1, by go_num, rfl, rfl, HN, HX2⟩
                case measure => simp [intOf]; omega
              · have hd : decide (z1 < z2) = false := decide_eq_false hc
                have HN := Lib.hid (HF.out.keep (by omega))
                clear h1 h2 h3 HF hok hz1 hz2 hc
                go_wp2_with fail
                refine (H1.out _).mono ?_
                rintro e w1 ⟨rfl, rfl⟩
                go_wp2_with fail
                refine (H2.out _).mono ?_
                rintro e w1 ⟨rfl, rfl⟩
                go_wp2_with fail
                refine H3.out.mono ?_
                rintro e w2 ⟨rfl, hb2⟩
                have HX2 := Lib.hid (HXr.out.next hb2)
                clear hb2
                go_wp2_with fail
                refine (HS1.out _).mono ?_
                rintro e w3 ⟨rfl, rfl⟩
                go_wp2_with fail
                refine (HS2.out _).mono ?_
                rintro e w3 ⟨rfl, rfl⟩
                go_wp2_with fail
                go_roundw
                case rel => exact ⟨k + 1, bl, true, by omega, hbl, by go_num, rfl, rfl, HN, HX2⟩
                case measure => simp [intOf]; omega
    · obtain rfl : k = Q + 1 := by omega
      have HEE : Hid (LeastW (OkW es a b) sizeW (2 ^ m) bl fb) := Lib.hid (by rw [HQ.out]; exact HF.out)
      clear HF
      go_wp2_with fail
      go_ret
      exact ⟨⟨bl, fb, HEE.out, rfl⟩, HXr.out.below⟩
end Go.Proofs.YtmelemjngnadpaaDoor
