/- The reference's Wall: the first of the walls behind which the most are left over. No conditions. -/
import Derived.Test.YthfgbgmkiggjmacDoorRefOdd
import Derived.Test.YthfgbgmkiggjmacDoorPairW
namespace Go.Proofs.YthfgbgmkiggjmacDoor
open Go.RowKit

set_option maxRecDepth 100000 in
set_option maxHeartbeats 4000000 in
theorem refWall_any (m : Nat) (A : Option Addr) (len cap : Nat) (es : List E3) (w : World) (hE : EdgesAt w w.heap.size A len es) (hm10 : m ≤ 10) (hlen : len ≤ 45) (hin : InE m es) :
    Calls Tryd.prog 17 #[.agg #[.int .i64 m, .slice A len cap]] w fun e w' => (∃ a : Nat, FirstMax (overW m es) (2 ^ m) a ∧ e = .returned (.int .u32 a)) ∧ Below w.heap.size w w' := by
  have HX := Lib.hid (BoxG.start (n := (m : Int)) (cap := cap) hE)
  have HOD := Lib.hid (fun (u : Nat) (W : World) (hu : u < 4294967296) (h : EdgesAt W W.heap.size A len es) => refOdd_any m u A len cap es W h hm10 hlen hin hu)
  have HSZ := Lib.hid (fun (u : Nat) (W : World) (hu : u < 2 ^ m) => size_v u (szN m u : Int) (by have := pow10 hm10 hu; omega) (by rw [sizeW_szN hm10 hu]) W)
  have HOV : Hid (∀ u, overW m es u = (oddW m es u : Int) - (szN m u : Int)) := Lib.hid fun _ => rfl
  have HOL := Lib.hid (fun u => Nat.le_trans (oddW_le m es u) hm10)
  have HSL := Lib.hid (fun u => Nat.le_trans (szN_le m u) hm10)
  have hpos := Nat.two_pow_pos m
  have h1024 : 2 ^ m ≤ 1024 := by rw [show 1024 = 2 ^ 10 from rfl]; exact Nat.pow_le_pow_right (by decide) hm10
  obtain ⟨Q, hQ⟩ : ∃ Q, 2 ^ m = Q + 1 := ⟨2 ^ m - 1, by omega⟩
  have HQ := Lib.hid hQ
  have hq1 : (2 : Int) ^ m % 4294967296 = (Q : Int) + 1 := by
    have h := pow_mod m (by omega)
    rw [hQ] at h
    rw [h]; omega
  have hq2 : IntKind.u32.wrap ((2 : Int) ^ m) = (Q : Int) + 1 := by rw [wrap_u32n, hq1]
  have hQ10 : Q < 1024 := by omega
  have HZS : Hid (szN m 0 = 0) := Lib.hid (sizeP_none fun i _ => by simp)
  clear hE hin hQ hpos h1024
  go_enter Tryd.func17, Tryd.ntmps17
  go_wp2_with fail
  refine (HOD.out 0 _ (by omega) (by exact HX.out.edges)).mono ?_
  rintro e w1 ⟨rfl, hb1⟩
  have HX1 := Lib.hid (HX.out.next hb1)
  have HZ : Hid (FirstMax (overW m es) 1 0 ∧ overW m es 0 = ((oddW m es 0 : Nat) : Int)) := Lib.hid ⟨FirstMax.one _, by rw [HOV.out, HZS.out]; omega⟩
  have hz0 := HOL.out 0
  generalize oddW m es 0 = z0 at hz0 HZ ⊢
  clear hb1 HX HZS
  go_wp2_with fail
  go_loopw [3, 4, 5] (fun b z c wr => ∃ (k bl : Nat) (y : Int), 1 ≤ k ∧ k ≤ Q + 1 ∧ bl < 1024 ∧ -10 ≤ y ∧ y ≤ 10 ∧ c = .int .u32 k ∧ b = .int .u32 bl ∧ z = .int .i64 y ∧ Hid (FirstMax (overW m es) k bl ∧ overW m es bl = y) ∧ Hid (BoxG w m A len cap es wr)) (fun _ _ c _ => Q + 1 - (intOf c).toNat)
  case atStart => exact ⟨1, 0, (z0 : Int), by omega, by omega, by omega, by omega, by omega, rfl, rfl, rfl, HZ, HX1⟩
  case round =>
    clear HZ HX1
    obtain ⟨k, bl, y, hk1, hk, hbl, hy0, hy1, rfl, rfl, rfl, HF, HXr⟩ := hrel
    have hbx := HXr.out.c0
    have hbx1 := HXr.out.c1
    have hbxl := HXr.out.lt
    by_cases hlt : k < Q + 1
    · have HO := Lib.hid (HOD.out k wr (by omega) HXr.out.edges)
      have HS := Lib.hid (fun W => HSZ.out k W (by rw [HQ.out]; omega))
      have HCK := Lib.hid (HOV.out k)
      have l1 := HOL.out k
      have l2 := HSL.out k
      generalize oddW m es k = o1 at HO HCK l1
      generalize szN m k = o2 at HS HCK l2
      have ⟨d, hd⟩ : ∃ d : Int, (o1 : Int) - (o2 : Int) = d := ⟨_, rfl⟩
      have HLK : Hid (overW m es k = d) := Lib.hid (by rw [HCK.out, hd])
      have hd0 : -10 ≤ d := by omega
      have hd1 : d ≤ 10 := by omega
      have hdw : IntKind.i64.wrap ((o1 : Int) - (o2 : Int)) = d := by rw [hd]; exact IntWalk.i64_in _ (by omega)
      by_cases hc : y < d
      · have HN : Hid (FirstMax (overW m es) (k + 1) k ∧ overW m es k = d) := Lib.hid ⟨HF.out.1.take (by rw [HLK.out, HF.out.2]; exact hc), HLK.out⟩
        have hcI : decide (y < d) = true := decide_eq_true hc
        clear HF HCK hc
        go_wp2_with fail
        refine HO.out.mono ?_
        rintro e w2 ⟨rfl, hb2⟩
        have HX2 := Lib.hid (HXr.out.next hb2)
        clear hb2
        go_wp2_with fail
        refine (HS.out _).mono ?_
        rintro e w3 ⟨rfl, rfl⟩
        go_wp2_with fail
        go_roundw
        case rel => exact ⟨k + 1, k, d, by omega, by omega, by omega, hd0, hd1, by go_num, rfl, rfl, HN, HX2⟩
        case measure => simp [intOf]; omega
      · have HN : Hid (FirstMax (overW m es) (k + 1) bl ∧ overW m es bl = y) := Lib.hid ⟨HF.out.1.keep (by rw [HLK.out, HF.out.2]; omega), HF.out.2⟩
        have hcI : decide (y < d) = false := decide_eq_false hc
        clear HF HCK hc
        go_wp2_with fail
        refine HO.out.mono ?_
        rintro e w2 ⟨rfl, hb2⟩
        have HX2 := Lib.hid (HXr.out.next hb2)
        clear hb2
        go_wp2_with fail
        refine (HS.out _).mono ?_
        rintro e w3 ⟨rfl, rfl⟩
        go_wp2_with fail
        go_roundw
        case rel => exact ⟨k + 1, bl, y, by omega, by omega, by omega, hy0, hy1, by go_num, rfl, rfl, HN, HX2⟩
        case measure => simp [intOf]; omega
    · obtain rfl : k = Q + 1 := by omega
      have HEE : Hid (FirstMax (overW m es) (2 ^ m) bl) := Lib.hid (by rw [HQ.out]; exact HF.out.1)
      clear HF
      go_wp2_with fail
      go_ret
      exact ⟨⟨bl, HEE.out, rfl⟩, HXr.out.below⟩
end Go.Proofs.YthfgbgmkiggjmacDoor
