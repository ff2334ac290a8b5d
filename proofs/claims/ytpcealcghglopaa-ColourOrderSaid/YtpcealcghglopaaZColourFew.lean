/- ColourFew, walked, over what Least tells. -/
import Derived.Test.YtpcealcghglopaaZColourTop
import Derived.Test.YtpcealcghglopaaZRight
import Derived.Test.YtpcealcghglopaaZUnlikeR
import Derived.Test.YtpcealcghglopaaZKeepGood
namespace Go.Proofs.Ytpcealcghglopaa
open Go.RowKit

theorem unlikeT_mono {xs : List Int} : ∀ {i j : Nat}, i ≤ j → unlikeT xs i ≤ unlikeT xs j := fun {i j} h => by
  obtain ⟨d, rfl⟩ : ∃ d, j = i + d := ⟨j - i, by omega⟩
  clear h
  induction d with
  | zero => exact Nat.le_refl _
  | succ d ih =>
    show _ ≤ unlikeT xs (i + d) + _
    omega
/-- The unlike members have as many numbers as there are. -/
theorem unlike_rank (xs : List Int) (n : Nat) (hn : xs.length = n) : ∃ f : Nat → Nat, (∀ i, i < n → f i < unlikeT xs n) ∧ ∀ i j, i < n → j < n → f i = f j → xs.getD i 0 = xs.getD j 0 := by
  have hfirst : ∀ i, i < n → ∃ t, t ≤ i ∧ xs.getD t 0 = xs.getD i 0 ∧ xs.getD t 0 ∉ xs.take t := fun i => by
    induction i using Nat.strongRecOn with
    | _ i ih =>
      intro hi
      by_cases hm : xs.getD i 0 ∈ xs.take i
      · obtain ⟨t, ht⟩ := List.getElem?_of_mem hm
        have hti : t < i := by
          have := (List.getElem?_eq_some_iff.1 ht).1
          rw [List.length_take] at this
          omega
        rw [List.getElem?_take, if_pos hti] at ht
        have e : xs.getD t 0 = xs.getD i 0 := by rw [List.getD_eq_getElem?_getD, ht]; rfl
        obtain ⟨s, h1, h2, h3⟩ := ih t hti (by omega)
        exact ⟨s, by omega, h2.trans e, h3⟩
      · exact ⟨i, Nat.le_refl _, rfl, hm⟩
  have hstep : ∀ t, xs.getD t 0 ∉ xs.take t → unlikeT xs (t + 1) = unlikeT xs t + 1 := fun t h => by
    show unlikeT xs t + _ = _
    rw [if_neg h]
  have hch : ∀ i, ∃ t, i < n → (t ≤ i ∧ xs.getD t 0 = xs.getD i 0 ∧ xs.getD t 0 ∉ xs.take t) := fun i => by
    by_cases hi : i < n
    · obtain ⟨t, h⟩ := hfirst i hi
      exact ⟨t, fun _ => h⟩
    · exact ⟨0, fun h => absurd h hi⟩
  obtain ⟨F, hF⟩ := Classical.axiomOfChoice hch
  refine ⟨fun i => unlikeT xs (F i), fun i hi => ?_, fun i j hi hj e => ?_⟩
  · obtain ⟨h1, h2, h3⟩ := hF i hi
    have h4 := hstep _ h3
    have h5 := unlikeT_mono (xs := xs) (show F i + 1 ≤ n by omega)
    show unlikeT xs (F i) < _
    omega
  · obtain ⟨h1, h2, h3⟩ := hF i hi
    obtain ⟨g1, g2, g3⟩ := hF j hj
    have e' : unlikeT xs (F i) = unlikeT xs (F j) := e
    rcases Nat.lt_trichotomy (F i) (F j) with h | h | h
    · have h5 := unlikeT_mono (xs := xs) (show F i + 1 ≤ F j by omega)
      rw [hstep _ h3] at h5
      omega
    · rw [← h2, ← g2, h]
    · have h5 := unlikeT_mono (xs := xs) (show F j + 1 ≤ F i by omega)
      rw [hstep _ g3] at h5
      omega
theorem adj_right {n : Nat} {es : List E3} {k : Int} {xs : List Int} (h : RightL n es k xs) (hI : InE n es) {i j : Nat} (ha : adjE es i j = true) : xs.getD i 0 ≠ xs.getD j 0 := by
  unfold adjE at ha
  rw [List.any_eq_true] at ha
  obtain ⟨e, he, hb⟩ := ha
  have h1 := h.2.2 e he
  have h2 := hI e he
  simp only [Bool.or_eq_true, Bool.and_eq_true, beq_iff_eq] at hb
  rcases hb with ⟨a, b⟩ | ⟨a, b⟩
  · rw [a, b] at h1; exact h1
  · rw [a, b] at h1; exact fun e => h1 e.symm
theorem right_of_part {n k : Nat} {es : List E3} {l : List Nat} (h : PartL (adjE es) k l) (hl : l.length = n) (hg : goodE n es) : RightL n es k (natG l) := by
  have hget : ∀ i, i < n → (natG l).getD i 0 = (l.getD i 0 : Nat) := fun i hi => by
    unfold natG
    rw [List.getD_eq_getElem?_getD, List.getElem?_map, List.getD_eq_getElem?_getD, List.getElem?_eq_getElem (by omega)]
    rfl
  refine ⟨by unfold natG; simp [hl], fun x hx => ?_, fun e he => ?_⟩
  · obtain ⟨i, hi⟩ := List.getElem?_of_mem hx
    obtain ⟨c, hc, rfl⟩ := natG_get hi
    have hil := (List.getElem?_eq_some_iff.1 hc).1
    have := h.lt i hil
    rw [List.getD_eq_getElem?_getD, hc] at this
    simp only [Option.getD_some] at this
    omega
  · obtain ⟨p0, p1, p2, p3⟩ := InE.of_good hg e he
    obtain ⟨x, hx⟩ := Int.eq_ofNat_of_zero_le p0
    obtain ⟨y, hy⟩ := Int.eq_ofNat_of_zero_le p2
    have ha : adjE es x y = true := by
      unfold adjE
      rw [List.any_eq_true]
      exact ⟨e, he, by simp [hx, hy]⟩
    have hxy := (adjE_lt hg ha).2.2
    rw [hx, hy]
    simp only [Int.toNat_natCast]
    rw [hget x (by omega), hget y (by omega)]
    intro e2
    rcases Nat.lt_or_gt_of_ne hxy with h1 | h1
    · exact h.ne y x (by omega) h1 ha (by omega)
    · exact h.ne x y (by omega) h1 (by rw [adjE_symm]; exact ha) (by omega)
set_option maxRecDepth 100000 in
set_option maxHeartbeats 2000000 in
theorem colourFew_of (n : Int) (A : Option Addr) (len cap : Nat) (es : List E3) (A2 : Option Addr) (len2 cap2 : Nat) (xs : List Int) (w : World) (hE : EdgesAt w w.heap.size A len es) (hcap : len ≤ cap) (hI : IntsAt w w.heap.size A2 len2 xs) (hcap2 : len2 ≤ cap2) (hm2 : len2 ≤ 9223372036854775807)
    (HO : ∀ W, EdgesAt W W.heap.size A len es → Calls Try.prog 15 #[.agg #[.int .i64 n, .slice A len cap]] W (LeastTop W n es)) :
    Calls Try.prog 7 #[.agg #[.int .i64 n, .slice A len cap], .slice A2 len2 cap2] w fun e w' => e = .returned (.bool true) ∧ Below w.heap.size w w' := by
  have HX := Lib.hid (BoxG.start (n := n) (cap := cap) hE)
  have HI := Lib.hid (hI.go_ (show Below w.heap.size w (bx w n A len cap) from (Below.refl _ _).alloc (Nat.le_refl _) _))
  have HLX : Hid (xs.length = len2) := Lib.hid hI.1
  have HOO := Lib.hid HO
  obtain ⟨x, hx⟩ : ∃ x, gcheck n es = x := ⟨_, rfl⟩
  have HCX := Lib.hid hx
  have k0 := HX.out.c0
  have k1 := HX.out.c1
  have HLE : Hid (es.length = len) := Lib.hid hE.1
  clear hE HO hI
  by_cases h0 : x = 0
  · subst h0
    obtain ⟨hn0, hn1, hl, hg⟩ := good_of_gcheck hx
    obtain ⟨m, rfl⟩ := Int.eq_ofNat_of_zero_le hn0
    have hm10 : m ≤ 10 := by omega
    have hlen : len ≤ 45 := by have := HLE.out; omega
    have HG := Lib.hid hg
    have HCK := Lib.hid (fun W hW => good_v (m : Int) A len cap es true W hW hcap (by rw [hx]; rfl))
    have HRV := Lib.hid (fun k A3 len3 c3 ys v W hW h2 h3 hv => right_v m A len cap es k A3 len3 c3 ys v W hW hlen (InE.of_good hg) h2 h3 hm10 hv)
    clear hx hg hl
    obtain ⟨u, hu⟩ : ∃ u : Bool, u = true ↔ RightL m es 12 xs := by
      by_cases h : RightL m es 12 xs
      · exact ⟨true, fun _ => h, fun _ => rfl⟩
      · exact ⟨false, fun h => (by cases h), fun h' => absurd h' h⟩
    have HU := Lib.hid hu
    clear hu
    go_enter Try.func7, Try.ntmps7
    go_wp2_with fail
    refine (HOO.out _ HX.out.edges).mono ?_
    rintro e w1 ⟨_, h2, hB⟩
    obtain ⟨k, l, A1, c1, hL, rfl, hi, _⟩ := h2 HCX.out
    have e0 : ((m : Int)).toNat = m := rfl
    rw [e0] at hL hi
    rw [e0]
    have HLC := Lib.hid hL
    have HX1 := Lib.hid (HX.out.next hB)
    have HI1 := Lib.hid (HI.out.go_ hB)
    have HA1 := Lib.hid hi
    have k0' := HX1.out.c0
    have k1' := HX1.out.c1
    clear h2 hB hi hL HOO e0 k0 k1
    go_wp2_with fail
    refine (HCK.out _ HX1.out.edges).mono ?_
    rintro e w2 ⟨rfl, hB⟩
    have HX2 := Lib.hid (HX1.out.next hB)
    have HI2 := Lib.hid (HI1.out.go_ hB)
    have HA2 := Lib.hid (HA1.out.go_ hB)
    have q0 := HX2.out.c0
    have q1 := HX2.out.c1
    clear hB k0' k1'
    go_wp2_with fail
    refine (HRV.out (k : Int) A1 m c1 (natG l) true _ HX2.out.edges HA2.out (by omega) ⟨fun _ => right_of_part HLC.out.part.1 HLC.out.part.2 HG.out, fun _ => rfl⟩).mono ?_
    rintro e w3 ⟨rfl, hB⟩
    have HX3 := Lib.hid (HX2.out.next hB)
    have HI3 := Lib.hid (HI2.out.go_ hB)
    have r0 := HX3.out.c0
    have r1 := HX3.out.c1
    clear hB q0 q1
    go_wp2_with fail
    refine (HRV.out 12 A2 len2 cap2 xs u _ HX3.out.edges HI3.out hm2 HU.out).mono ?_
    rintro e w4 ⟨rfl, hB⟩
    have HX4 := Lib.hid (HX3.out.next hB)
    have HI4 := Lib.hid (HI3.out.go_ hB)
    clear hB r0 r1
    cases u with
    | false =>
      go_wp2_with fail
      go_ret
      exact ⟨rfl, HX4.out.below⟩
    | true =>
      have hle : (k : Int) ≤ (unlikeT xs len2 : Int) := by
        have hr := HU.out.1 rfl
        have hlm : len2 = m := by have := hr.1; have := HLX.out; omega
        subst hlm
        obtain ⟨f, h1, h2⟩ := unlike_rank xs len2 HLX.out
        have := HLC.out.le (col := f) h1 fun i j hi hj ha e => adj_right hr (InE.of_good HG.out) ha (h2 j i (by omega) hi e)
        omega
      go_wp2_with fail
      refine (unlikeT_any A2 len2 cap2 xs _ HI4.out hm2 hcap2).mono ?_
      rintro e w5 ⟨rfl, rfl⟩
      go_wp2_with fail
      go_ret
      exact ⟨rfl, HX4.out.below⟩
  · have HH0 := Lib.hid h0
    have hx0 : (x != 0) = true := by simpa using h0
    have HCK := Lib.hid (fun W hW => good_v n A len cap es false W hW hcap (by rw [hx]; simpa using h0))
    clear hx h0
    go_enter Try.func7, Try.ntmps7
    go_wp2_with fail
    refine (HOO.out _ HX.out.edges).mono ?_
    rintro e w1 ⟨h1, _, hB⟩
    obtain rfl := h1 (by rw [HCX.out]; exact HH0.out)
    rw [HCX.out]
    have HX1 := Lib.hid (HX.out.next hB)
    have k0' := HX1.out.c0
    have k1' := HX1.out.c1
    clear h1 hB HOO k0 k1
    go_wp2_with fail
    refine (HCK.out _ HX1.out.edges).mono ?_
    rintro e w2 ⟨rfl, hB⟩
    have HX2 := Lib.hid (HX1.out.next hB)
    clear hB k0' k1'
    go_wp2_with fail
    go_ret
    exact ⟨rfl, HX2.out.below⟩
end Go.Proofs.Ytpcealcghglopaa
