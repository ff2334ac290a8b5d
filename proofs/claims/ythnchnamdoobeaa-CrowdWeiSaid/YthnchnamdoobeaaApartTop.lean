/- crowd.Apart: what it tells of any graph. -/
import Derived.Test.YthnchnamdoobeaaCrowdLoop
import Derived.Test.YthnchnamdoobeaaCrowdTop
import Derived.Test.YthnchnamdoobeaaNeigh
namespace Go.Proofs.Ythnchnamdoobeaa
open Go.RowKit

set_option maxRecDepth 100000 in
set_option maxHeartbeats 2000000 in
theorem apartTop_any (n : Int) (A : Option Addr) (len cap : Nat) (es : List E3) (w : World) (hE : EdgesAt w w.heap.size A len es) :
    Calls Try.prog 14 #[.agg #[.int .i64 n, .slice A len cap]] w (CrowdTop true w n es) := by
  have HX := Lib.hid (BoxG.start (n := n) (cap := cap) hE)
  have k0 := HX.out.c0
  have k1 := HX.out.c1
  obtain ⟨x, hx⟩ : ∃ x, gcheck n es = x := ⟨_, rfl⟩
  by_cases h0 : x = 0
  · subst h0
    obtain ⟨hn0, hn1, hl, hg⟩ := good_of_gcheck hx
    obtain ⟨m, rfl⟩ := Int.eq_ofNat_of_zero_le hn0
    have hm10 : m ≤ 10 := by omega
    have HNB := Lib.hid (fun W hW => neighbours_any m A len cap es W hW hx)
    have HXX := Lib.hid hx
    have HMA := Lib.hid (fun g W hW => mostApart_any m m (some ⟨g, 0, none⟩) (nbL m es) W hW hm10 (fun i => by have := pow10 hm10 (nbL_words hg i); omega))
    clear hE hx hn0 hn1 hl
    go_enter Try.func14, Try.ntmps14
    go_wp2_with fail
    refine (HNB.out _ HX.out.edges).mono ?_
    rintro e w1 ⟨g, rfl, hrow, hg0, hB⟩
    have HX1 := Lib.hid (HX.out.next hB)
    have HR : Hid (WordsAt w1 w1.heap.size (some ⟨g, 0, none⟩) m (nbL m es)) := Lib.hid (by
      have h := WordsAt.of_row (B := w1.heap.size) hrow hrow.lt
      rw [nbL_length] at h
      exact h)
    clear hB k0 k1 HNB hrow
    go_wp2_with fail
    refine (HMA.out g _ HR.out).mono ?_
    rintro e w2 ⟨⟨b, hb, rfl⟩, hB⟩
    have HX2 := Lib.hid (HX1.out.next hB)
    have HBB := Lib.hid hb
    clear hB hb
    go_wp2_with fail
    go_ret2
    exact ⟨fun h => absurd HXX.out h, fun _ => ⟨b, HBB.out.congr (Nat.two_pow_pos m) (fun j hj => apart_nb hg hj) (fun j hj => ones_sizeP j (pow10 hm10 hj)), rfl⟩, HX2.out.below⟩
  · have hx1 : (x != 0) = true := by simpa using h0
    have HNB := Lib.hid (fun W hW => neighbours_bad n A len cap es x W hW hx h0)
    have HXX := Lib.hid (show gcheck n es ≠ 0 by rw [hx]; exact h0)
    have HXE := Lib.hid hx
    clear hE hx h0
    go_enter Try.func14, Try.ntmps14
    go_wp2_with fail
    refine (HNB.out _ HX.out.edges).mono ?_
    rintro e w1 ⟨rfl, hB⟩
    have HX1 := Lib.hid (HX.out.next hB)
    clear hB k0 k1 HNB
    go_wp2_with fail
    go_ret2
    exact ⟨fun _ => by rw [HXE.out]; rfl, fun h => absurd h HXX.out, HX1.out.below⟩
end Go.Proofs.Ythnchnamdoobeaa
