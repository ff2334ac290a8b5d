/- The law PairsKonig, walked: as many can be paired as a cover must have members; and the cover covers. -/
import Derived.Test.YtblbjiogojldhaaDoorPairsBest
import Derived.Test.YtblbjiogojldhaaDoorCoverGoP
import Derived.Test.YtblbjiogojldhaaDoorFriends
import Derived.IntWalk
namespace Go.Proofs.YtblbjiogojldhaaDoor
open Go.RowKit

set_option maxRecDepth 100000 in
set_option maxHeartbeats 2000000 in
theorem pairsKonig_any (A : Option Addr) (len cap : Nat) (xs : List Nat) (w : World) (hA : WordsAt w w.heap.size A len xs) (hcap : len ≤ cap) (hm : cap ≤ maxLen) (hx : ∀ x ∈ xs, x < 4294967296) (hT : Tab w) :
    Calls Tryd.prog 4 #[.slice A len cap] w fun e w' => e = .returned (.bool true) ∧ Below w.heap.size w w' := by
  have hml : len ≤ maxLen := by omega
  by_cases hv : pcheck xs = 0
  · obtain ⟨hl, hw8⟩ := of_pcheck hv
    have hlen := hA.1
    have hll : len ≤ 8 := by omega
    have HG := Lib.hid (mostGo_good len cap A xs w hA hcap hm hll hw8 hT)
    have HA := Lib.hid hA
    have HC := Lib.hid (fun (W : World) (h : WordsAt W W.heap.size A len xs) => coverGo_good len cap A xs W h hll hw8)
    have HW := Lib.hid (fun (W : World) (h : WordsAt W W.heap.size A len xs) => words_v len cap A xs true W h hml hx (by rw [hv]; rfl))
    have HBI := Lib.hid (fun (W : World) (g : Nat) (h : RowOf W g 3 ((bestW xs).map (Value.int .i64))) => best_ints hlen h)
    have HP1 := Lib.hid (fun (W : World) (B : Option Addr) (h : WordsAt W W.heap.size A len xs) (h2 : IntsAt W W.heap.size B len (bestW xs)) => pairing_v len cap len len A B xs (bestW xs) true W h hll hw8 h2 (Nat.le_refl _) hml ⟨fun _ => best_pairL hw8, fun _ => rfl⟩)
    have HCV := Lib.hid (fun (W : World) (a : Nat) (ha : a < 256) (h : WordsAt W W.heap.size A len xs) => covers_v len cap a (coverR xs len a) true A xs W h hll hw8 (by omega) (by have := coverR_lt (n := len) (bl := a) hw8; omega) ⟨fun _ => covW_reach hw8 hll ha, fun _ => rfl⟩)
    have HCB := Lib.hid (best_cnt hlen)
    have HK := Lib.hid (fun (a : Nat) (h : FirstMin (costW xs len) (2 ^ len) a) => cost_konig hw8 hll h)
    have HX := Lib.hid hw8
    have h8 := Lib.hid (pow8 hll)
    clear hA hw8 hv hx hl hlen hT
    go_enter Tryd.func4, Tryd.ntmps4
    go_wp2_with fail
    refine HG.out.mono ?_
    rintro e w1 ⟨g, rfl, hR, hg, hb⟩
    have HB := Lib.hid hb
    have HA1 := Lib.hid (HA.out.go_ hb)
    have HR1 := Lib.hid (HBI.out w1 g hR)
    clear hR hg hb
    go_wp2_with fail
    refine (HC.out w1 HA1.out).mono ?_
    rintro e w2 ⟨⟨a, ha, rfl⟩, kq, rfl⟩
    have hal : a < 256 := Nat.lt_of_lt_of_le ha.1 h8.out
    have hrl : coverR xs len a < 256 := coverR_lt HX.out
    have HKE : Hid (szS a + szS (coverR xs len a) = mxR (nearF xs) 8 len 0 (fun _ => 1)) := Lib.hid (HK.out a ha)
    have HWW := Lib.hid (HW.out (w1.drewN kq) (by exact HA1.out.drewN kq))
    have HP := Lib.hid (HP1.out (w1.drewN kq) (some ⟨g, 0, none⟩) (by exact HA1.out.drewN kq) (by exact HR1.out.drewN kq))
    have HCC := Lib.hid (HCV.out (w1.drewN kq) a hal (by exact HA1.out.drewN kq))
    have HPB := Lib.hid (paired_any len len (some ⟨g, 0, none⟩) (bestW xs) (w1.drewN kq) (by exact HR1.out.drewN kq) (by omega))
    rw [HCB.out] at HPB
    have c2 := mxR_le_len (near := nearF xs) (n := 8) len 0 (fun _ => 1)
    have hs1 := szS_le a
    have hs2 := szS_le (coverR xs len a)
    have HS := Lib.hid (fun (x : Nat) (W : World) (h : x < 256) => sizeR_any x W h)
    clear ha
    generalize mxR (nearF xs) 8 len 0 (fun _ => 1) = M at HPB HKE c2
    generalize coverR xs len a = r at hrl HKE HCC hs2
    have hd : ((M : Int) == (szS a : Int) + (szS r : Int)) = true := by
      have : (M : Int) = (szS a : Int) + (szS r : Int) := by have := HKE.out; omega
      simpa using this
    clear HG
    go_wp2_with (first
      | (go_at_call 12; refine HWW.out.mono ?_; rintro e w2 ⟨rfl, rfl⟩)
      | (go_at_call 13; refine HP.out.mono ?_; rintro e w2 ⟨rfl, rfl⟩)
      | (go_at_call 14; refine HCC.out.mono ?_; rintro e w2 ⟨rfl, rfl⟩)
      | (go_at_call 15; refine HPB.out.mono ?_; rintro e w2 ⟨rfl, rfl⟩)
      | (go_at_call 16; refine (HS.out _ _ (by omega)).mono ?_; rintro e w2 ⟨rfl, rfl⟩))
    go_ret
    exact ⟨rfl, below_drewN HB.out _⟩
  · have hv0 : pcheck xs ≠ 0 := hv
    obtain ⟨v, hve⟩ : ∃ v, pcheck xs = v := ⟨_, rfl⟩
    rw [hve] at hv0
    have hb0 : (v != 0) = true := by simpa using hv0
    have HG := Lib.hid (mostGo_bad len cap A xs v w hA hml hx hve hv0)
    have HC := Lib.hid (coverGo_bad len cap A xs v w hA hml hx hve hv0)
    have HW := Lib.hid (words_v len cap A xs false w hA hml hx (by rw [hve]; simpa using hv0))
    clear hA hv hx hml hm hcap hve hv0 hT
    go_enter Tryd.func4, Tryd.ntmps4
    go_wp2_with fail
    refine HG.out.mono ?_
    rintro e w1 ⟨rfl, rfl⟩
    go_wp2_with fail
    refine HC.out.mono ?_
    rintro e w1 ⟨rfl, rfl⟩
    go_wp2_with fail
    refine HW.out.mono ?_
    rintro e w2 ⟨rfl, rfl⟩
    go_wp2_with fail
    go_ret
    exact ⟨rfl, Below.refl _ _⟩
end Go.Proofs.YtblbjiogojldhaaDoor
