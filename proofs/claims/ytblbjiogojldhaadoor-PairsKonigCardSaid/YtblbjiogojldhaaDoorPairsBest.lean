/- The law PairsBest, walked: no pairing has more pairs than what is told. -/
import Derived.Test.YtblbjiogojldhaaDoorMostGo
import Derived.Test.YtblbjiogojldhaaDoorPairingR
namespace Go.Proofs.YtblbjiogojldhaaDoor
open Go.RowKit

theorem best_ok (xs : List Nat) : okP (nearF xs) 8 0 (cT 0) (bestW xs) := (bestP_ok xs.length 0 (cT 0)).1
theorem best_pairL {xs : List Nat} (hx : W8 xs) : PairL xs (bestW xs) := (pairL_ok hx).2 ⟨bestW_len xs, best_ok xs⟩
theorem best_cnt {xs : List Nat} {len : Nat} (hl : xs.length = len) : cntZ (bestW xs) len = mxR (nearF xs) 8 len 0 (fun _ => 1) := by
  have h := cntZ_paired (best_ok xs)
  rw [bestW_len, hl] at h
  rw [h, ← cT_zero, ← hl]
  exact (bestP_ok xs.length 0 (cT 0)).2
theorem best_ints {w : World} {g : Nat} {xs : List Nat} {len : Nat} (hl : xs.length = len) (h : RowOf w g 3 ((bestW xs).map (Value.int .i64))) : IntsAt w w.heap.size (some ⟨g, 0, none⟩) len (bestW xs) := by
  have := IntsAt.of_row h h.lt
  rwa [bestW_len, hl] at this

set_option maxRecDepth 100000 in
set_option maxHeartbeats 2000000 in
theorem pairsBest_any (A : Option Addr) (len cap : Nat) (xs : List Nat) (A2 : Option Addr) (n2 cap2 : Nat) (ys : List Int) (w : World) (hA : WordsAt w w.heap.size A len xs) (hcap : len ≤ cap) (hm : cap ≤ maxLen) (hx : ∀ x ∈ xs, x < 4294967296)
    (hI : IntsAt w w.heap.size A2 n2 ys) (hcap2 : n2 ≤ cap2) (hm2 : cap2 ≤ maxLen) (hT : Tab w) :
    Calls Tryd.prog 6 #[.slice A len cap, .slice A2 n2 cap2] w fun e w' => e = .returned (.bool true) ∧ Below w.heap.size w w' := by
  have hml : len ≤ maxLen := by omega
  by_cases hv : pcheck xs = 0
  · obtain ⟨hl, hw8⟩ := of_pcheck hv
    have hlen := hA.1
    have hll : len ≤ 8 := by omega
    have HG := Lib.hid (mostGo_good len cap A xs w hA hcap hm hll hw8 hT)
    have HA := Lib.hid hA
    have HI := Lib.hid hI
    have HW := Lib.hid (fun (W : World) (h : WordsAt W W.heap.size A len xs) => words_v len cap A xs true W h hml hx (by rw [hv]; rfl))
    have HBI := Lib.hid (fun (W : World) (g : Nat) (h : RowOf W g 3 ((bestW xs).map (Value.int .i64))) => best_ints hlen h)
    have HP1 := Lib.hid (fun (W : World) (B : Option Addr) (h : WordsAt W W.heap.size A len xs) (h2 : IntsAt W W.heap.size B len (bestW xs)) => pairing_v len cap len len A B xs (bestW xs) true W h hll hw8 h2 (Nat.le_refl _) hml ⟨fun _ => best_pairL hw8, fun _ => rfl⟩)
    have HP2 := Lib.hid (fun (W : World) (v : Bool) (hvv : v = true ↔ PairL xs ys) (h : WordsAt W W.heap.size A len xs) (h2 : IntsAt W W.heap.size A2 n2 ys) => pairing_v len cap n2 cap2 A A2 xs ys v W h hll hw8 h2 hcap2 hm2 hvv)
    have HCB := Lib.hid (best_cnt hlen)
    have HL : Hid (xs.length = len) := Lib.hid hlen
    have HYL : Hid (ys.length = n2) := Lib.hid hI.1
    have HCY : Hid (PairL xs ys → n2 = len ∧ cntZ ys n2 ≤ mxR (nearF xs) 8 len 0 (fun _ => 1)) := Lib.hid fun h => by
      obtain ⟨h1, h2⟩ := (pairL_ok hw8).1 h
      have h3 := cntZ_paired h2
      have h4 := okP_le _ _ _ h2
      rw [cT_zero, h1, HL.out] at h4
      rw [HYL.out] at h3
      have h5 := HYL.out
      rw [h3]
      exact ⟨by omega, h4⟩
    clear hA hI hw8 hv hx hl hlen hT
    go_enter Tryd.func6, Tryd.ntmps6
    go_wp2_with fail
    refine HG.out.mono ?_
    rintro e w1 ⟨g, rfl, hR, hg, hb⟩
    have HB := Lib.hid hb
    have HA1 := Lib.hid (HA.out.go_ hb)
    have HI1 := Lib.hid (HI.out.go_ hb)
    have HR1 := Lib.hid (HBI.out w1 g hR)
    clear hR hg hb
    have HW1 := Lib.hid (HW.out w1 HA1.out)
    have HP := Lib.hid (HP1.out w1 (some ⟨g, 0, none⟩) HA1.out HR1.out)
    by_cases hp : PairL xs ys
    · have HQ := Lib.hid (HP2.out w1 true ⟨fun _ => hp, fun _ => rfl⟩ HA1.out HI1.out)
      obtain ⟨hnl, hcy⟩ := HCY.out hp
      have HPA := Lib.hid (paired_any n2 cap2 A2 ys w1 HI1.out (by omega))
      have HPB := Lib.hid (paired_any len len (some ⟨g, 0, none⟩) (bestW xs) w1 HR1.out (by omega))
      rw [HCB.out] at HPB
      have c1 := cntZ_le ys n2
      have c2 := mxR_le_len (near := nearF xs) (n := 8) len 0 (fun _ => 1)
      generalize cntZ ys n2 = y at HPA hcy c1
      generalize mxR (nearF xs) 8 len 0 (fun _ => 1) = M at HPB hcy c2
      have hd : decide ((y : Int) ≤ (M : Int)) = true := decide_eq_true (by omega)
      have hd2 : decide (y ≤ M) = true := decide_eq_true hcy
      have HM := Lib.hid (show (∀ B k c v, ((B = A2 ∧ k = n2 ∧ c = cap2 ∧ v = y) ∨ (B = some ⟨g, 0, none⟩ ∧ k = len ∧ c = len ∧ v = M)) → Calls Tryd.prog 15 #[.slice B k c] w1 fun e w' => e = .returned (.int .i64 (v : Nat)) ∧ w1 = w') from fun B k c v h => by
        rcases h with ⟨rfl, rfl, rfl, rfl⟩ | ⟨rfl, rfl, rfl, rfl⟩
        · exact HPA.out
        · exact HPB.out)
      have HPQ := Lib.hid (show (∀ B k c, ((B = A2 ∧ k = n2 ∧ c = cap2) ∨ (B = some ⟨g, 0, none⟩ ∧ k = len ∧ c = len)) → Calls Tryd.prog 13 #[.slice A len cap, .slice B k c] w1 fun e w' => e = .returned (.bool true) ∧ w1 = w') from fun B k c h => by
        rcases h with ⟨rfl, rfl, rfl⟩ | ⟨rfl, rfl, rfl⟩
        · exact HQ.out
        · exact HP.out)
      clear hp hnl hcy HG HP HQ HPA HPB
      go_wp2_with (first
        | (go_at_call 12; refine HW1.out.mono ?_; rintro e w2 ⟨rfl, rfl⟩)
        | (go_at_call 13; refine (HPQ.out _ _ _ (by first | exact Or.inr ⟨rfl, rfl, rfl⟩ | exact Or.inl ⟨rfl, rfl, rfl⟩)).mono ?_; rintro e w2 ⟨rfl, rfl⟩)
        | (go_at_call 15; refine (HM.out _ _ _ _ (by first | exact Or.inr ⟨rfl, rfl, rfl, rfl⟩ | exact Or.inl ⟨rfl, rfl, rfl, rfl⟩)).mono ?_; rintro e w2 ⟨rfl, rfl⟩))
      go_ret
      exact ⟨rfl, HB.out⟩
    · have HQ := Lib.hid (HP2.out w1 false ⟨(fun h => by cases h), fun h => absurd h hp⟩ HA1.out HI1.out)
      have HPQ := Lib.hid (show (∀ B k c v, ((B = some ⟨g, 0, none⟩ ∧ k = len ∧ c = len ∧ v = true) ∨ (B = A2 ∧ k = n2 ∧ c = cap2 ∧ v = false)) → Calls Tryd.prog 13 #[.slice A len cap, .slice B k c] w1 fun e w' => e = .returned (.bool v) ∧ w1 = w') from fun B k c v h => by
        rcases h with ⟨rfl, rfl, rfl, rfl⟩ | ⟨rfl, rfl, rfl, rfl⟩
        · exact HP.out
        · exact HQ.out)
      clear hp HG
      go_wp2_with fail
      refine HW1.out.mono ?_
      rintro e w2 ⟨rfl, rfl⟩
      go_wp2_with fail
      refine HP.out.mono ?_
      rintro e w2 ⟨rfl, rfl⟩
      go_wp2_with fail
      refine HQ.out.mono ?_
      rintro e w2 ⟨rfl, rfl⟩
      go_wp2_with fail
      go_ret
      exact ⟨rfl, HB.out⟩
  · have hv0 : pcheck xs ≠ 0 := hv
    obtain ⟨v, hve⟩ : ∃ v, pcheck xs = v := ⟨_, rfl⟩
    rw [hve] at hv0
    have hb0 : (v != 0) = true := by simpa using hv0
    have HG := Lib.hid (mostGo_bad len cap A xs v w hA hml hx hve hv0)
    have HW := Lib.hid (words_v len cap A xs false w hA hml hx (by rw [hve]; simpa using hv0))
    clear hA hI hv hx hml hm hcap hve hv0 hT
    go_enter Tryd.func6, Tryd.ntmps6
    go_wp2_with fail
    refine HG.out.mono ?_
    rintro e w1 ⟨rfl, rfl⟩
    go_wp2_with fail
    refine HW.out.mono ?_
    rintro e w2 ⟨rfl, rfl⟩
    go_wp2_with fail
    go_ret
    exact ⟨rfl, Below.refl _ _⟩
end Go.Proofs.YtblbjiogojldhaaDoor
