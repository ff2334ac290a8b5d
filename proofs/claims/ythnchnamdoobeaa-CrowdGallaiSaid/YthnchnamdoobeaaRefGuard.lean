/- The reference's Guard. Conditions: at most ten nodes, 45 edges among them. -/
import Derived.Test.YthnchnamdoobeaaRestW
import Derived.Test.YthnchnamdoobeaaBitSize
import Derived.Test.YthnchnamdoobeaaRefLoose
import Derived.Test.YthnchnamdoobeaaWordsAt
namespace Go.Proofs.Ythnchnamdoobeaa
open Go.RowKit

set_option maxRecDepth 100000 in
set_option maxHeartbeats 4000000 in
theorem refGuard_any (m : Nat) (A : Option Addr) (len cap : Nat) (es : List E3) (w : World) (hE : EdgesAt w w.heap.size A len es) (hm10 : m ≤ 10) (hlen : len ≤ 45) (hI : InE m es) :
    Calls Try.prog 16 #[.agg #[.int .i64 (m : Int), .slice A len cap]] w fun e w' => (∃ b : Nat, FewW (GuardW es m) sizeW (2 ^ m - 1) (2 ^ m) b ∧ e = .returned (.int .u32 (b : Int))) ∧ Below w.heap.size w w' := by
  have HX := Lib.hid (BoxG.start (n := (m : Int)) (cap := cap) hE)
  have HLO := Lib.hid (fun (u : Nat) (r : Bool) (W : World) (hu : u < 1024) (h : EdgesAt W W.heap.size A len es) (hr : looseE es u = r) => loose_v (m : Int) A len cap es u m r W h hlen hm10 hI (by omega) hr)
  have HSZ := Lib.hid (fun (u : Nat) (z : Int) (W : World) (hu : u < 1024) (h : (sizeW u : Int) = z) => size_v u z (by omega) h W)
  have hpos := Nat.two_pow_pos m
  have h1024 : 2 ^ m ≤ 1024 := by rw [show 1024 = 2 ^ 10 from rfl]; exact Nat.pow_le_pow_right (by decide) hm10
  obtain ⟨Q, hQ⟩ : ∃ Q, 2 ^ m = Q + 1 := ⟨2 ^ m - 1, by omega⟩
  have HQ := Lib.hid hQ
  have hq1 : (2 : Int) ^ m % 4294967296 = (Q : Int) + 1 := by
    have h := pow_mod m (by omega)
    rw [hQ] at h
    rw [h]; omega
  have hq2 : IntKind.u32.wrap ((2 : Int) ^ m) = (Q : Int) + 1 := by rw [wrap_u32n, hq1]
  have hQ10 : Q < 1024 := by omega
  have HRE : Hid (∀ k, k < Q + 1 → bits .andNot .u32 (Q : Int) (k : Int) = ((restW m k : Nat) : Int) ∧ restW m k < 1024) := Lib.hid (fun k hk => by
    have h := andNot_u32 Q k (by omega) (by omega)
    have e : Q = 2 ^ m - 1 := by omega
    have hr := rest_lt (m := m) (w := k) (by omega)
    rw [h, e, diff_rest hm10 (by omega)]
    exact ⟨rfl, by omega⟩)
  obtain ⟨P, hP⟩ : ∃ P : Nat → Prop, P = GuardW es m := ⟨_, rfl⟩
  have HPE : Hid (∀ k, P k ↔ looseE es (restW m k) = true) := Lib.hid fun k => by rw [hP]; exact Iff.rfl
  have HZ : Hid (FewW P sizeW Q 0 Q) := Lib.hid (FewW.start (by rw [hP, show Q = 2 ^ m - 1 by omega]; exact guard_all es m))
  have HAL : Hid (∀ j, j < Q → sizeW j < sizeW Q) := Lib.hid (by
    have h := all_most (m := m) (by omega)
    rw [show 2 ^ m - 1 = Q by omega] at h
    exact h)
  have e1 : 2 ^ m - 1 = Q := by omega
  rw [← hP, e1]
  clear hE hQ hpos h1024 hP hI e1
  go_enter Try.func16, Try.ntmps16
  have k0 := HX.out.c0
  have k1 := HX.out.c1
  go_wp2_with fail
  clear k0 k1
  go_loopw [3, 4] (fun best c wr => ∃ (k bl : Nat), k ≤ Q + 1 ∧ bl < 1024 ∧ c = .int .u32 k ∧ best = .int .u32 bl ∧ Hid (FewW P sizeW Q k bl) ∧ Hid (BoxG w m A len cap es wr)) (fun _ c _ => Q + 1 - (intOf c).toNat)
  case atStart => exact ⟨0, Q, by omega, by omega, rfl, rfl, HZ, HX⟩
  case round =>
    clear HZ HX
    obtain ⟨k, bl, hk, hbl, rfl, rfl, HF, HXr⟩ := hrel
    have hbx := HXr.out.c0
    have hbx1 := HXr.out.c1
    by_cases hlt : k < Q + 1
    · have hk1 : k < 1024 := by omega
      obtain ⟨z1, hz1⟩ : ∃ z : Int, (sizeW k : Int) = z := ⟨_, rfl⟩
      obtain ⟨z2, hz2⟩ : ∃ z : Int, (sizeW bl : Int) = z := ⟨_, rfl⟩
      have HS1 := Lib.hid (fun W => HSZ.out k z1 W hk1 hz1)
      have HS2 := Lib.hid (fun W => HSZ.out bl z2 W hbl hz2)
      by_cases hc : z1 < z2
      · have hd : decide (z1 < z2) = true := decide_eq_true hc
        have hre := (HRE.out k hlt).1
        have hrl := (HRE.out k hlt).2
        by_cases hp : P k
        · have H3 := Lib.hid (HLO.out (restW m k) true wr hrl HXr.out.edges ((HPE.out k).1 hp))
          have HN := Lib.hid (HF.out.take hp (by omega))
          generalize restW m k = y at hre hrl H3
          clear HF hz1 hz2 hc hp
          go_wp2_with fail
          refine (HS1.out _).mono ?_
          rintro e w3 ⟨rfl, rfl⟩
          go_wp2_with fail
          refine (HS2.out _).mono ?_
          rintro e w3 ⟨rfl, rfl⟩
          go_wp2_with fail
          refine H3.out.mono ?_
          rintro e w2 ⟨rfl, hb2⟩
          have HX2 := Lib.hid (HXr.out.next hb2)
          clear hb2 hbx hbx1
          go_wp2_with fail
          go_roundw
          case rel => exact ⟨k + 1, k, by omega, hk1, by go_num, rfl, HN, HX2⟩
          case measure => simp [intOf]; omega
        · have H3 := Lib.hid (HLO.out (restW m k) false wr hrl HXr.out.edges (by
            cases hq : looseE es (restW m k) with
            | false => rfl
            | true => exact absurd ((HPE.out k).2 hq) hp))
          have HN := Lib.hid (HF.out.skip hp)
          generalize restW m k = y at hre hrl H3
          clear HF hz1 hz2 hc hp
          go_wp2_with fail
          refine (HS1.out _).mono ?_
          rintro e w3 ⟨rfl, rfl⟩
          go_wp2_with fail
          refine (HS2.out _).mono ?_
          rintro e w3 ⟨rfl, rfl⟩
          go_wp2_with fail
          refine H3.out.mono ?_
          rintro e w2 ⟨rfl, hb2⟩
          have HX2 := Lib.hid (HXr.out.next hb2)
          clear hb2 hbx hbx1
          go_wp2_with fail
          go_roundw
          case rel => exact ⟨k + 1, bl, by omega, hbl, by go_num, rfl, HN, HX2⟩
          case measure => simp [intOf]; omega
      · have hd : decide (z1 < z2) = false := decide_eq_false hc
        have HN := Lib.hid (HF.out.keep HAL.out (by omega))
        clear HF hz1 hz2 hc
        go_wp2_with fail
        refine (HS1.out _).mono ?_
        rintro e w3 ⟨rfl, rfl⟩
        go_wp2_with fail
        refine (HS2.out _).mono ?_
        rintro e w3 ⟨rfl, rfl⟩
        go_wp2_with fail
        go_roundw
        case rel => exact ⟨k + 1, bl, by omega, hbl, by go_num, rfl, HN, HXr⟩
        case measure => simp [intOf]; omega
    · obtain rfl : k = Q + 1 := by omega
      have HEE : Hid (FewW P sizeW Q (2 ^ m) bl) := Lib.hid (by rw [HQ.out]; exact HF.out)
      clear HF
      go_wp2_with fail
      go_ret
      exact ⟨⟨bl, HEE.out, rfl⟩, HXr.out.below⟩
end Go.Proofs.Ythnchnamdoobeaa
