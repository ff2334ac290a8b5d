/- crowd.Cover: what it tells of any graph. -/
import Derived.Test.YthnchnamdoobeaaCrowdGo
import Derived.Test.YthnchnamdoobeaaCrowdTop
import Derived.Test.YthnchnamdoobeaaNeigh
namespace Go.Proofs.Ythnchnamdoobeaa
open Go.RowKit

set_option maxRecDepth 100000 in
set_option maxHeartbeats 4000000 in
theorem coverTop_any (n : Int) (A : Option Addr) (len cap : Nat) (es : List E3) (w : World) (hE : EdgesAt w w.heap.size A len es) :
    Calls Try.prog 15 #[.agg #[.int .i64 n, .slice A len cap]] w (CoverTop w n es) := by
  have HX := Lib.hid (BoxG.start (n := n) (cap := cap) hE)
  have k0 := HX.out.c0
  have k1 := HX.out.c1
  obtain ⟨x, hx⟩ : ∃ x, gcheck n es = x := ⟨_, rfl⟩
  by_cases h0 : x = 0
  · subst h0
    obtain ⟨hn0, hn1, hl, hg⟩ := good_of_gcheck hx
    obtain ⟨m, rfl⟩ := Int.eq_ofNat_of_zero_le hn0
    have hm10 : m ≤ 10 := by omega
    have HNB := Lib.hid (fun W hW => neighbours_any m A len cap es W hW hx)
    have HXX := Lib.hid hx
    have HA := Lib.hid (fun B W => allOf_any m m B W hm10)
    have h1 : 1 ≤ 2 ^ m := Nat.two_pow_pos m
    have h2 : 2 ^ m ≤ 1024 := by rw [show 1024 = 2 ^ 10 from rfl]; exact Nat.pow_le_pow_right (by decide) hm10
    obtain ⟨M, hM⟩ : ∃ M, 2 ^ m = M + 1 := ⟨2 ^ m - 1, by omega⟩
    have HME := Lib.hid hM
    have HON := Lib.hid (fun (x : Nat) (hx : x < 1024) W => ones_any x W hx)
    have HAP := Lib.hid (fun g s r W hW hs (hr : r = true ↔ ApartL (nbL m es) m s) => apartGo_any m m s (some ⟨g, 0, none⟩) (nbL m es) r W hW hm10 hs (fun i => by have := pow10 hm10 (nbL_words hg i); omega) hr)
    have HZ : Hid (FewW (GuardW es m) ones M 0 M) := Lib.hid (FewW.start (by have h := guard_all es m; rw [hM, Nat.add_sub_cancel] at h; exact h))
    have HAL : Hid (∀ j, j < M → ones j < ones M) := Lib.hid (fun j hj => by
      rw [ones_sizeP j (by omega), ones_sizeP M (by omega)]
      have h := all_most (m := m) (by omega) j (by omega)
      rw [hM, Nat.add_sub_cancel] at h
      exact h)
    have HGA : Hid (∀ k, k < M + 1 → (GuardW es m k ↔ ApartL (nbL m es) m (diffW M k))) := Lib.hid (fun k hk => by
      have h := diff_rest (m := m) hm10 (w := k) (by omega)
      rw [hM, Nat.add_sub_cancel] at h
      rw [h]
      exact guard_apart hg (by omega))
    have HDL : Hid (∀ k, k < M + 1 → diffW M k < 1024) := Lib.hid (fun k hk => by
      have h := diff_rest (m := m) hm10 (w := k) (by omega)
      rw [hM, Nat.add_sub_cancel] at h
      rw [h]
      have := rest_lt (m := m) (w := k) (by omega)
      omega)
    have HEND : Hid (∀ c, FewW (GuardW es m) ones M M c → FewW (GuardW es m) sizeW (2 ^ m - 1) (2 ^ m) c) := Lib.hid (fun c h => by
      rw [hM, Nat.add_sub_cancel]
      have h3 := h.last (by have h := guard_all es m; rw [hM, Nat.add_sub_cancel] at h; exact h) HAL.out
      have hc : c < M + 1 := by rcases h3.lt with e | e <;> omega
      exact ⟨h3.ok, fun j hj hp => by rw [← ones_sizeP j (by omega), ← ones_sizeP c (by omega)]; exact h3.le j hj hp, fun j hj hjc hp => by rw [← ones_sizeP j (by omega), ← ones_sizeP c (by omega)]; exact h3.first j hj hjc hp, h3.lt⟩)
    rw [hM, Nat.add_sub_cancel] at HA
    rw [hM] at h1 h2
    clear hE hx hn0 hn1 hl hM
    go_enter Try.func15, Try.ntmps15
    go_wp2_with fail
    refine (HNB.out _ HX.out.edges).mono ?_
    rintro e w1 ⟨g, rfl, hrow, hg0, hB⟩
    have HX1 := Lib.hid (HX.out.next hB)
    have HR : Hid (WordsAt w1 w1.heap.size (some ⟨g, 0, none⟩) m (nbL m es)) := Lib.hid (by
      have h := WordsAt.of_row (B := w1.heap.size) hrow hrow.lt
      rw [nbL_length] at h
      exact h)
    clear hB k0 k1 HNB hrow hg0
    go_wp2_with fail
    refine (HA.out _ _).mono ?_
    rintro e w2 ⟨rfl, rfl⟩
    go_wp2_with fail
    go_loopw [7, 21] (fun y j wr => ∃ k c : Nat, k ≤ M ∧ c < 1024 ∧ y = .int .u32 c ∧ j = .int .u32 k ∧ Hid (FewW (GuardW es m) ones M k c) ∧ Hid (BoxG w (m : Int) A len cap es wr) ∧ Hid (WordsAt wr wr.heap.size (some ⟨g, 0, none⟩) m (nbL m es))) (fun _ j _ => M - (intOf j).toNat)
    case atStart => exact ⟨0, M, Nat.zero_le _, by omega, rfl, rfl, HZ, HX1, HR⟩
    case round =>
      clear HX1 HR
      obtain ⟨k, c, hk, hc, rfl, rfl, HM, HXr, HRr⟩ := hrel
      by_cases hkn : k < M
      · have hkn' : (k : Int) < (M : Int) := by omega
        have hk1 : k < 1024 := by omega
        have H1 := Lib.hid (HON.out k hk1)
        have H2 := Lib.hid (HON.out c hc)
        have hwk : IntKind.u32.wrap ((k : Int) + 1) = (k : Int) + 1 := by rw [wrap_u32n]; omega
        have hd : bits .andNot .u32 (M : Int) (k : Int) = ((diffW M k : Nat) : Int) := andNot_u32 M k (by omega) (by omega)
        have hdl := HDL.out k (by omega)
        have hgk := HGA.out k (by omega)
        by_cases hlt : ones k < ones c
        · have hlt' : ((ones k : Nat) : Int) < ((ones c : Nat) : Int) := by omega
          by_cases hap : ApartL (nbL m es) m (diffW M k)
          · have H3 := Lib.hid (fun W hW => HAP.out g (diffW M k) true W hW hdl ⟨fun _ => hap, fun _ => rfl⟩)
            have HN := Lib.hid (HM.out.take (hgk.2 hap) hlt)
            clear hap HM hlt hgk
            generalize diffW M k = d at hd hdl H3
            generalize ones k = ok at H1 hlt'
            generalize ones c = oc at H2 hlt'
            go_wp2_with fail
            refine (H1.out _).mono ?_
            rintro e w2 ⟨rfl, q1, hq1⟩
            have HX2 := Lib.hid (show BoxG w (m : Int) A len cap es w2 from HXr.out.next (by rw [hq1]; exact below_drewN (Below.refl _ _) q1))
            have HR2 := Lib.hid (show WordsAt w2 w2.heap.size (some ⟨g, 0, none⟩) m (nbL m es) by rw [hq1]; exact HRr.out)
            clear hq1
            go_wp2_with fail
            refine (H2.out _).mono ?_
            rintro e w3 ⟨rfl, q2, hq2⟩
            have HX3 := Lib.hid (show BoxG w (m : Int) A len cap es w3 from HX2.out.next (by rw [hq2]; exact below_drewN (Below.refl _ _) q2))
            have HR3 := Lib.hid (show WordsAt w3 w3.heap.size (some ⟨g, 0, none⟩) m (nbL m es) by rw [hq2]; exact HR2.out)
            clear hq2
            go_wp2_with fail
            refine (H3.out _ HR3.out).mono ?_
            rintro e w4 ⟨rfl, rfl⟩
            go_wp2_with fail
            go_roundw
            case rel => exact ⟨k + 1, k, by omega, hk1, rfl, by go_num, HN, HX3, HR3⟩
            case measure => simp [intOf]; omega
          · have H3 := Lib.hid (fun W hW => HAP.out g (diffW M k) false W hW hdl ⟨(fun h => by cases h), fun h => absurd h hap⟩)
            have HN := Lib.hid (HM.out.skip fun h => hap (hgk.1 h))
            clear hap HM hlt hgk
            generalize diffW M k = d at hd hdl H3
            generalize ones k = ok at H1 hlt'
            generalize ones c = oc at H2 hlt'
            go_wp2_with fail
            refine (H1.out _).mono ?_
            rintro e w2 ⟨rfl, q1, hq1⟩
            have HX2 := Lib.hid (show BoxG w (m : Int) A len cap es w2 from HXr.out.next (by rw [hq1]; exact below_drewN (Below.refl _ _) q1))
            have HR2 := Lib.hid (show WordsAt w2 w2.heap.size (some ⟨g, 0, none⟩) m (nbL m es) by rw [hq1]; exact HRr.out)
            clear hq1
            go_wp2_with fail
            refine (H2.out _).mono ?_
            rintro e w3 ⟨rfl, q2, hq2⟩
            have HX3 := Lib.hid (show BoxG w (m : Int) A len cap es w3 from HX2.out.next (by rw [hq2]; exact below_drewN (Below.refl _ _) q2))
            have HR3 := Lib.hid (show WordsAt w3 w3.heap.size (some ⟨g, 0, none⟩) m (nbL m es) by rw [hq2]; exact HR2.out)
            clear hq2
            go_wp2_with fail
            refine (H3.out _ HR3.out).mono ?_
            rintro e w4 ⟨rfl, rfl⟩
            go_wp2_with fail
            go_roundw
            case rel => exact ⟨k + 1, c, by omega, hc, rfl, by go_num, HN, HX3, HR3⟩
            case measure => simp [intOf]; omega
        · have hlt' : ¬ ((ones k : Nat) : Int) < ((ones c : Nat) : Int) := by omega
          have HN := Lib.hid (HM.out.keep HAL.out (by omega))
          clear HM hlt hgk hd hdl
          generalize ones k = ok at H1 hlt'
          generalize ones c = oc at H2 hlt'
          go_wp2_with fail
          refine (H1.out _).mono ?_
          rintro e w2 ⟨rfl, q1, hq1⟩
          have HX2 := Lib.hid (show BoxG w (m : Int) A len cap es w2 from HXr.out.next (by rw [hq1]; exact below_drewN (Below.refl _ _) q1))
          have HR2 := Lib.hid (show WordsAt w2 w2.heap.size (some ⟨g, 0, none⟩) m (nbL m es) by rw [hq1]; exact HRr.out)
          clear hq1
          go_wp2_with fail
          refine (H2.out _).mono ?_
          rintro e w3 ⟨rfl, q2, hq2⟩
          have HX3 := Lib.hid (show BoxG w (m : Int) A len cap es w3 from HX2.out.next (by rw [hq2]; exact below_drewN (Below.refl _ _) q2))
          have HR3 := Lib.hid (show WordsAt w3 w3.heap.size (some ⟨g, 0, none⟩) m (nbL m es) by rw [hq2]; exact HR2.out)
          clear hq2
          go_wp2_with fail
          go_roundw
          case rel => exact ⟨k + 1, c, by omega, hc, rfl, by go_num, HN, HX3, HR3⟩
          case measure => simp [intOf]; omega
      · obtain rfl : k = M := by omega
        have HE := Lib.hid (HEND.out c HM.out)
        clear HM
        go_wp2_with fail
        go_ret2
        exact ⟨fun h => absurd HXX.out h, fun _ => ⟨c, HE.out, rfl⟩, HXr.out.below⟩
  · have hx1 : (x != 0) = true := by simpa using h0
    have HNB := Lib.hid (fun W hW => neighbours_bad n A len cap es x W hW hx h0)
    have HXX := Lib.hid (show gcheck n es ≠ 0 by rw [hx]; exact h0)
    have HXE := Lib.hid hx
    clear hE hx h0
    go_enter Try.func15, Try.ntmps15
    go_wp2_with fail
    refine (HNB.out _ HX.out.edges).mono ?_
    rintro e w1 ⟨rfl, hB⟩
    have HX1 := Lib.hid (HX.out.next hB)
    clear hB k0 k1 HNB
    go_wp2_with fail
    go_ret2
    exact ⟨fun _ => by rw [HXE.out]; rfl, fun h => absurd h HXX.out, HX1.out.below⟩
end Go.Proofs.Ythnchnamdoobeaa
