/- The law PairsShort, walked: for any words the program and the reference tell the same set. -/
import Derived.Test.YtblbjiogojldhaaShortGoP
import Derived.Test.YtblbjiogojldhaaRefShortP
namespace Go.Proofs.Ytblbjiogojldhaa
open Go.RowKit

set_option maxRecDepth 100000 in
set_option maxHeartbeats 1000000 in
theorem pairsShort_any (A : Option Addr) (len cap : Nat) (xs : List Nat) (w : World) (hA : WordsAt w w.heap.size A len xs) (_hcap : len ≤ cap) (hm : cap ≤ maxLen) (hx : ∀ x ∈ xs, x < 4294967296) :
    Calls Try.prog 4 #[.slice A len cap] w fun e w' => e = .returned (.bool true) ∧ Below w.heap.size w w' := by
  have hml : len ≤ maxLen := by omega
  by_cases hv : pcheck xs = 0
  · obtain ⟨hl, hw8⟩ := of_pcheck hv
    have hll : len ≤ 8 := by have := hA.1; omega
    have HA := Lib.hid hA
    have HW := Lib.hid hw8
    have HR := Lib.hid (fun (W : World) (h : WordsAt W W.heap.size A len xs) => refCheckP_v len cap A xs 0 W h hml hx hv)
    have HG := Lib.hid (shortGo_good len cap A xs w hA hll hw8)
    have HF := Lib.hid (fun (W : World) (h : WordsAt W W.heap.size A len xs) => refShortP_any len cap A xs W h hll hw8)
    clear hA hw8 hv hx hl hml hm _hcap
    go_enter Try.func4, Try.ntmps4
    go_wp2_with fail
    refine HG.out.mono ?_
    rintro e w1 ⟨⟨a, ha, rfl⟩, k, rfl⟩
    have H1 := Lib.hid ha
    clear ha
    go_wp2_with fail
    refine (HR.out _ (by exact HA.out.drewN k)).mono ?_
    rintro e w2 ⟨rfl, rfl⟩
    go_wp2_with fail
    refine (HF.out _ (by exact HA.out.drewN k)).mono ?_
    rintro e w3 ⟨⟨b, hb, rfl⟩, rfl⟩
    obtain rfl : a = b := H1.out.eq hb
    clear hb
    go_wp2_with fail
    go_ret
    exact ⟨rfl, below_drewN (Below.refl _ _) _⟩
  · have hv0 : pcheck xs ≠ 0 := hv
    have HA := Lib.hid hA
    obtain ⟨v, hve⟩ : ∃ v, pcheck xs = v := ⟨_, rfl⟩
    rw [hve] at hv0
    have hb0 : (v != 0) = true := by simpa using hv0
    have hb1 : (v == 0) = false := by simpa using hv0
    have HG := Lib.hid (shortGo_bad len cap A xs v w hA hml hx hve hv0)
    have HR := Lib.hid (refCheckP_v len cap A xs v w hA hml hx hve)
    clear hA hv hx hml hm _hcap hve hv0
    go_enter Try.func4, Try.ntmps4
    go_wp2_with fail
    refine HG.out.mono ?_
    rintro e w1 ⟨rfl, rfl⟩
    go_wp2_with fail
    refine HR.out.mono ?_
    rintro e w2 ⟨rfl, rfl⟩
    go_wp2_with fail
    go_ret
    exact ⟨rfl, Below.refl _ _⟩
end Go.Proofs.Ytblbjiogojldhaa
