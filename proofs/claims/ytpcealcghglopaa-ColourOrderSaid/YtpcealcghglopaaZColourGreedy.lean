/- ColourGreedy, walked, over what Greedy tells. -/
import Derived.Test.YtpcealcghglopaaZColourTop
import Derived.Test.YtpcealcghglopaaZRefGreedy
import Derived.Test.YtpcealcghglopaaZIntsAny
namespace Go.Proofs.Ytpcealcghglopaa
open Go.RowKit

theorem each_nat {n : Nat} {xs : List Int} (h : EachP n xs) : ∃ o : List Nat, natG o = xs ∧ o.length = n ∧ o.Nodup ∧ ∀ i ∈ o, i < n := by
  obtain ⟨h1, h2, h3⟩ := h
  have e : natG (xs.map Int.toNat) = xs := by
    unfold natG
    rw [List.map_map]
    conv => rhs; rw [← List.map_id xs]
    refine List.map_congr_left fun x hx => ?_
    have := h3 x hx
    simp only [Function.comp_apply, id_eq]
    omega
  refine ⟨xs.map Int.toNat, e, by simp [h1], ?_, fun i hi => ?_⟩
  · rw [List.Nodup, List.pairwise_map]
    refine List.Pairwise.imp_of_mem (R := fun a b => a ≠ b) (fun ha hb hne => ?_) h2
    have := h3 _ ha
    have := h3 _ hb
    omega
  · obtain ⟨x, hx, rfl⟩ := List.mem_map.1 hi
    have := h3 x hx
    omega
theorem RowC.colR {w : World} {g n : Nat} {col : Nat → Nat} (h : RowC w g n (fun j => ((col j : Nat) : Int))) : IntsAt w w.heap.size (some ⟨g, 0, none⟩) n (colR n col) := by
  unfold Go.Proofs.Ytpcealcghglopaa.colR
  refine ⟨by simp, fun _ => ⟨g, 0, rfl, h.lt, fun i x hx => ?_⟩⟩
  have hi : i < n := by have := (List.getElem?_eq_some_iff.1 hx).1; simpa using this
  rw [List.getElem?_map, List.getElem?_range hi] at hx
  simp only [Option.map_some, Option.some.injEq] at hx
  rw [Nat.zero_add, h.cell hi, hx]
set_option maxRecDepth 100000 in
set_option maxHeartbeats 2000000 in
theorem colourGreedy_of (n : Int) (A : Option Addr) (len cap : Nat) (es : List E3) (A2 : Option Addr) (len2 cap2 : Nat) (xs : List Int) (w : World) (hE : EdgesAt w w.heap.size A len es) (hcap : len ≤ cap) (hI : IntsAt w w.heap.size A2 len2 xs) (hcap2 : len2 ≤ cap2) (hm2 : len2 ≤ 9223372036854775807)
    (HO : ∀ W, EdgesAt W W.heap.size A len es → IntsAt W W.heap.size A2 len2 xs → Calls Try.prog 19 #[.agg #[.int .i64 n, .slice A len cap], .slice A2 len2 cap2] W (GreedyTop W n es xs)) :
    Calls Try.prog 4 #[.agg #[.int .i64 n, .slice A len cap], .slice A2 len2 cap2] w fun e w' => e = .returned (.bool true) ∧ Below w.heap.size w w' := by
  have HX := Lib.hid (BoxG.start (n := n) (cap := cap) hE)
  have HI := Lib.hid (hI.go_ (show Below w.heap.size w (bx w n A len cap) from (Below.refl _ _).alloc (Nat.le_refl _) _))
  have HLX : Hid (xs.length = len2) := Lib.hid hI.1
  have HOO := Lib.hid HO
  obtain ⟨x, hx⟩ : ∃ x, gcheck n es = x := ⟨_, rfl⟩
  have HCX := Lib.hid hx
  have k0 := HX.out.c0
  have k1 := HX.out.c1
  have HCK := Lib.hid (fun W hW => check_v n A len cap es x W hW hcap hx)
  have HLE : Hid (es.length = len) := Lib.hid hE.1
  clear hE HO hI
  by_cases h0 : x = 0
  · subst h0
    obtain ⟨hn0, hn1, hl, hg⟩ := good_of_gcheck hx
    obtain ⟨m, rfl⟩ := Int.eq_ofNat_of_zero_le hn0
    have hm10 : m ≤ 10 := by omega
    have hlen : len ≤ 45 := by have := HLE.out; omega
    have HEV := Lib.hid (fun v W hW hv => each_v A2 len2 cap2 m xs v W hW hm2 (by omega) hcap2 hv)
    clear hx hg hl
    by_cases hp : EachP m xs
    · have HEV1 := Lib.hid (fun W hW => HEV.out true W hW ⟨fun _ => hp, fun _ => rfl⟩)
      obtain ⟨o, ho, hol, hond, holt⟩ := each_nat hp
      have hlm : len2 = m := by have := hp.1; have := HLX.out; omega
      subst hlm
      have HRG := Lib.hid (fun W hW hW2 => refGreedy_any len2 A len cap es A2 cap2 o W hW (by rw [ho]; exact hW2) hm10 hlen hcap2 hond holt)
      have HPP := Lib.hid hp
      have HOE := Lib.hid ho
      clear hp ho hol hond holt HEV
      go_enter Try.func4, Try.ntmps4
      go_wp2_with fail
      refine (HOO.out _ HX.out.edges HI.out).mono ?_
      rintro e w1 ⟨_, _, h3, hB⟩
      obtain ⟨col, A1, c1, hgl, rfl, hi, _⟩ := h3 HCX.out o HOE.out HPP.out
      have e0 : ((len2 : Int)).toNat = len2 := rfl
      rw [e0] at hgl hi
      rw [e0]
      have HGL := Lib.hid hgl
      have HX1 := Lib.hid (HX.out.next hB)
      have HI1 := Lib.hid (HI.out.go_ hB)
      have HA1 := Lib.hid hi
      have k0' := HX1.out.c0
      have k1' := HX1.out.c1
      clear h3 hB hi hgl HOO e0 k0 k1
      go_wp2_with fail
      refine (HCK.out _ HX1.out.edges).mono ?_
      rintro e w2 ⟨rfl, hB⟩
      have HX2 := Lib.hid (HX1.out.next hB)
      have HI2 := Lib.hid (HI1.out.go_ hB)
      have HA2 := Lib.hid (HA1.out.go_ hB)
      have q0 := HX2.out.c0
      have q1 := HX2.out.c1
      clear hB k0' k1'
      go_wp2_with fail
      refine (HEV1.out _ HI2.out).mono ?_
      rintro e w2b ⟨rfl, rfl⟩
      go_wp2_with fail
      refine (HRG.out _ HX2.out.edges HI2.out).mono ?_
      rintro e w3 ⟨g, col', rfl, hrow, hgl', _, hB⟩
      have HX3 := Lib.hid (HX2.out.next hB)
      have HA3 := Lib.hid (HA2.out.go_ hB)
      have HA4 := Lib.hid hrow.colR
      have HEQ : Hid (colR len2 col = colR len2 col') := Lib.hid (by
        unfold colR
        refine List.map_congr_left fun j _ => ?_
        rw [HGL.out.one hgl' j])
      clear hB hrow hgl' q0 q1
      go_wp2_with fail
      refine (ints_v A1 _ len2 len2 c1 len2 _ _ true _ HA3.out HA4.out (by omega) (by omega) ⟨fun _ => HEQ.out, fun _ => rfl⟩).mono ?_
      rintro e w4 ⟨rfl, q, rfl⟩
      go_wp2_with fail
      go_ret
      exact ⟨rfl, below_drewN HX3.out.below _⟩
    · have HEV1 := Lib.hid (fun W hW => HEV.out false W hW ⟨fun h => (by cases h), fun h => absurd h hp⟩)
      have HPP := Lib.hid hp
      clear hp HEV
      go_enter Try.func4, Try.ntmps4
      go_wp2_with fail
      refine (HOO.out _ HX.out.edges HI.out).mono ?_
      rintro e w1 ⟨_, h2, _, hB⟩
      obtain rfl := h2 HCX.out HPP.out
      have HX1 := Lib.hid (HX.out.next hB)
      have HI1 := Lib.hid (HI.out.go_ hB)
      have k0' := HX1.out.c0
      have k1' := HX1.out.c1
      clear h2 hB HOO k0 k1
      go_wp2_with fail
      refine (HCK.out _ HX1.out.edges).mono ?_
      rintro e w2 ⟨rfl, hB⟩
      have HX2 := Lib.hid (HX1.out.next hB)
      have HI2 := Lib.hid (HI1.out.go_ hB)
      have q0 := HX2.out.c0
      have q1 := HX2.out.c1
      clear hB k0' k1'
      go_wp2_with fail
      refine (HEV1.out _ HI2.out).mono ?_
      rintro e w2b ⟨rfl, rfl⟩
      go_wp2_with fail
      go_ret
      exact ⟨rfl, HX2.out.below⟩
  · have HH0 := Lib.hid h0
    have hx0 : (x != 0) = true := by simpa using h0
    have hx1 : (x == 0) = false := by simpa using h0
    clear hx h0
    go_enter Try.func4, Try.ntmps4
    go_wp2_with fail
    refine (HOO.out _ HX.out.edges HI.out).mono ?_
    rintro e w1 ⟨h1, _, _, hB⟩
    obtain rfl := h1 (by rw [HCX.out]; exact HH0.out)
    rw [HCX.out]
    have HX1 := Lib.hid (HX.out.next hB)
    have k0' := HX1.out.c0
    have k1' := HX1.out.c1
    clear h1 hB HOO k0 k1
    go_wp2_with fail
    refine (HCK.out _ HX1.out.edges).mono ?_
    rintro e w2 ⟨rfl, hB⟩
    have HX2 := Lib.hid (HX1.out.next hB)
    clear hB k0' k1'
    go_wp2_with fail
    go_ret
    exact ⟨rfl, HX2.out.below⟩
end Go.Proofs.Ytpcealcghglopaa
