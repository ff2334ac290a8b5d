/- The law PairsMost, walked: the program and the reference tell the same pairing. -/
import Derived.Test.YtblbjiogojldhaaDoorRefPairsP
import Derived.Test.YtblbjiogojldhaaDoorIntsAny
namespace Go.Proofs.YtblbjiogojldhaaDoor
open Go.RowKit

set_option maxRecDepth 100000 in
set_option maxHeartbeats 2000000 in
theorem pairsMost_any (A : Option Addr) (len cap : Nat) (xs : List Nat) (w : World) (hA : WordsAt w w.heap.size A len xs) (hcap : len ≤ cap) (hm : cap ≤ maxLen) (hx : ∀ x ∈ xs, x < 4294967296) (hT : Tab w) :
    Calls Tryd.prog 3 #[.slice A len cap] w fun e w' => e = .returned (.bool true) ∧ Below w.heap.size w w' := by
  have hml : len ≤ maxLen := by omega
  by_cases hv : pcheck xs = 0
  · obtain ⟨hl, hw8⟩ := of_pcheck hv
    have hlen := hA.1
    have hll : len ≤ 8 := by omega
    have HG := Lib.hid (mostGo_good len cap A xs w hA hcap hm hll hw8 hT)
    have HA := Lib.hid hA
    have HR := Lib.hid (fun (W : World) (h : WordsAt W W.heap.size A len xs) => refCheckP_v len cap A xs 0 W h hml hx hv)
    have HP := Lib.hid (fun (W : World) (h : WordsAt W W.heap.size A len xs) => refPairs_any len cap A xs W h hll hw8)
    have HBL : Hid ((bestW xs).length = len) := Lib.hid (by rw [bestW_len, hlen])
    clear hA hw8 hv hx hl hlen hT
    go_enter Tryd.func3, Tryd.ntmps3
    go_wp2_with fail
    refine HG.out.mono ?_
    rintro e w1 ⟨g, rfl, hR, hg, hb⟩
    have HB := Lib.hid hb
    have HA1 := Lib.hid (HA.out.go_ hb)
    have HR1 := Lib.hid hR
    clear hR hg hb
    go_wp2_with fail
    refine (HR.out w1 HA1.out).mono ?_
    rintro e w2 ⟨rfl, rfl⟩
    go_wp2_with fail
    refine (HP.out w1 HA1.out).mono ?_
    rintro e w2 ⟨⟨v, rfl, hO⟩, hb2⟩
    obtain ⟨A2, cap2, rfl⟩ := own_form hO
    have HI2 : Hid (IntsAt w2 w2.heap.size A2 len (bestW xs)) := Lib.hid (IntsAt.of_own hO (Nat.le_refl _))
    have HI1 : Hid (IntsAt w2 w2.heap.size (some ⟨g, 0, none⟩) len (bestW xs)) := Lib.hid (by
      have h := IntsAt.of_row (B := w2.heap.size) (HR1.out.keep hb2) ((HR1.out.keep hb2).lt)
      rwa [HBL.out] at h)
    have HB2 : Hid (Below w.heap.size w w2) := Lib.hid (HB.out.trans (hb2.mono HB.out.size))
    clear hO hb2
    go_wp2_with fail
    refine (ints_v (some ⟨g, 0, none⟩) A2 len len len cap2 (bestW xs) (bestW xs) true w2 HI1.out HI2.out (by omega) (by omega) ⟨fun _ => rfl, fun _ => rfl⟩).mono ?_
    rintro e w3 ⟨rfl, q, rfl⟩
    go_wp2_with fail
    go_ret
    exact ⟨rfl, below_drewN HB2.out _⟩
  · have hv0 : pcheck xs ≠ 0 := hv
    obtain ⟨v, hve⟩ : ∃ v, pcheck xs = v := ⟨_, rfl⟩
    rw [hve] at hv0
    have hb0 : (v != 0) = true := by simpa using hv0
    have HG := Lib.hid (mostGo_bad len cap A xs v w hA hml hx hve hv0)
    have HR := Lib.hid (refCheckP_v len cap A xs v w hA hml hx hve)
    clear hA hv hx hml hm hcap hve hv0 hT
    go_enter Tryd.func3, Tryd.ntmps3
    go_wp2_with fail
    refine HG.out.mono ?_
    rintro e w1 ⟨rfl, rfl⟩
    go_wp2_with fail
    refine HR.out.mono ?_
    rintro e w2 ⟨rfl, rfl⟩
    go_wp2_with fail
    go_ret
    exact ⟨rfl, Below.refl _ _⟩
end Go.Proofs.YtblbjiogojldhaaDoor
