/- The reference's Loose: has no two of a set of nodes an edge? -/
import Derived.Test.YthnchnamdoobeaaBoxB
import Derived.Test.YthnchnamdoobeaaBit
import Derived.Test.YthnchnamdoobeaaInE
import Derived.Test.YthnchnamdoobeaaLooseE
namespace Go.Proofs.Ythnchnamdoobeaa
open Go.RowKit

set_option maxRecDepth 100000 in
set_option maxHeartbeats 1000000 in
theorem loose_v (n : Int) (A : Option Addr) (len cap : Nat) (es : List E3) (s m : Nat) (v : Bool) (w : World) (hE : EdgesAt w w.heap.size A len es) (hl : len ≤ 45) (hm : m ≤ 10) (hI : InE m es) (hs : s < 4294967296) (hv : looseE es s = v) :
    Calls Try.prog 18 #[.agg #[.int .i64 n, .slice A len cap], .int .u32 s] w fun e w' => e = .returned (.bool v) ∧ Below w.heap.size w w' := by
  have HX := Lib.hid (BoxG.start (n := n) (cap := cap) hE)
  have HI := Lib.hid hI
  have HV := Lib.hid hv
  have HLE : Hid (es.length = len) := Lib.hid hE.1
  have HB0 : Hid (Below w.heap.size w (bx w n A len cap)) := Lib.hid ((Below.refl _ _).alloc (Nat.le_refl _) _)
  clear hE hI hv
  have k0 := HX.out.c0
  have k1 := HX.out.c1
  go_enter Try.func18, Try.ntmps18
  go_wp2_with fail
  clear k0 k1
  go_loopw [10] (fun y wr => ∃ k : Nat, k ≤ len ∧ y = .int .i64 k ∧ Hid (looseE (es.take k) s = true) ∧ Hid (BoxG w n A len cap es wr)) (fun y _ => len - (intOf y).toNat)
  case atStart => exact ⟨0, Nat.zero_le _, rfl, Lib.hid (by simp [looseE]), HX⟩
  case round =>
    clear HX
    obtain ⟨k, hk, rfl, HL, HB⟩ := hrel
    by_cases hlt : k < len
    · obtain ⟨b', off, ⟨a0, a1, a2⟩, rfl, hb, hx, hc0, hc1, hc2⟩ := HB.out.edges.at_ hlt
      have ik0 : (0 : Int) ≤ (k : Int) := by omega
      have ik1 : (k : Int) < (len : Int) := by omega
      obtain ⟨p0, p1, p2, p3⟩ := HI.out _ (List.mem_of_getElem? hx)
      simp only at p0 p1 p2 p3 hc0 hc1 hc2
      obtain ⟨x, rfl⟩ := Int.eq_ofNat_of_zero_le p0
      obtain ⟨y, rfl⟩ := Int.eq_ofNat_of_zero_le p2
      have HBA : ∀ o, Hid (BoxG w n (some ⟨b', off, none⟩) len cap es (wr.alloc o)) := fun o => Lib.hid (HB.out.next ((Below.refl _ _).alloc (Nat.le_refl _) o))
      have HS : Hid (looseE (es.take (k + 1)) s = (looseE (es.take k) s && !(s.testBit x && s.testBit y))) := Lib.hid (by
        obtain ⟨h1, h2⟩ := List.getElem?_eq_some_iff.1 hx
        unfold looseE
        rw [List.take_succ_eq_append_getElem h1, h2, List.all_append]
        simp [bothE])
      have HBX := Lib.hid (fun b hb W => bit_nat s x b hs (by omega) hb W)
      have HBY := Lib.hid (fun b hb W => bit_nat s y b hs (by omega) hb W)
      have HM := Lib.hid (List.mem_of_getElem? hx)
      clear hx
      cases hbx : s.testBit x with
      | false =>
        have HN : Hid (looseE (es.take (k + 1)) s = true) := Lib.hid (by rw [HS.out, HL.out, hbx]; rfl)
        have HBF := Lib.hid (HBX.out false hbx)
        clear hbx HL HS HBX
        go_wp2_with fail
        refine (HBF.out _).mono ?_
        rintro e w1 ⟨rfl, rfl⟩
        go_wp2_with fail
        go_roundw
        case rel => exact ⟨k + 1, by omega, by go_num, HN, HBA _⟩
        case measure => simp [intOf]; omega
      | true =>
        have HBF := Lib.hid (HBX.out true hbx)
        cases hby : s.testBit y with
        | false =>
          have HN : Hid (looseE (es.take (k + 1)) s = true) := Lib.hid (by rw [HS.out, HL.out, hby, Bool.and_false]; rfl)
          have HBG := Lib.hid (HBY.out false hby)
          clear hbx hby HL HS HBX HBY
          go_wp2_with fail
          refine (HBF.out _).mono ?_
          rintro e w1 ⟨rfl, rfl⟩
          go_wp2_with fail
          refine (HBG.out _).mono ?_
          rintro e w1 ⟨rfl, rfl⟩
          go_wp2_with fail
          go_roundw
          case rel => exact ⟨k + 1, by omega, by go_num, HN, HBA _⟩
          case measure => simp [intOf]; omega
        | true =>
          have HN : Hid (v = false) := Lib.hid (by
            rw [← HV.out, Bool.eq_false_iff]
            unfold looseE
            intro h
            have := List.all_eq_true.1 h _ HM.out
            simp [bothE, hbx, hby] at this)
          have HBG := Lib.hid (HBY.out true hby)
          have HBW := Lib.hid ((HBA (.cells #[.int .i64 (x : Int), .int .i64 (y : Int), .int .i64 a2] 47)).out.below)
          clear hbx hby HL HS HBX HBY
          go_wp2_with fail
          refine (HBF.out _).mono ?_
          rintro e w1 ⟨rfl, rfl⟩
          go_wp2_with fail
          refine (HBG.out _).mono ?_
          rintro e w1 ⟨rfl, rfl⟩
          go_wp2_with fail
          go_ret
          exact ⟨by rw [HN.out]; first | done | rfl, HBW.out⟩
    · obtain rfl : k = len := by omega
      have HN : Hid (v = true) := Lib.hid (by
        rw [← HV.out]
        have h := HL.out
        rwa [List.take_of_length_le (by have := HLE.out; omega)] at h)
      have HBW := Lib.hid HB.out.below
      clear HL
      go_wp2_with fail
      go_ret
      exact ⟨by rw [HN.out]; first | done | rfl, HBW.out⟩
end Go.Proofs.Ythnchnamdoobeaa
