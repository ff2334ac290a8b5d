/- The keepers' forest: is a list of places a forest? -/
import Derived.Test.YthfgbgmkiggjmaaWeighs
import Derived.Test.YthfgbgmkiggjmaaRefPartsR
import Derived.Test.YthfgbgmkiggjmaaUnlikeR
import Derived.Test.YthfgbgmkiggjmaaInside
import Derived.Test.YthfgbgmkiggjmaaIntsAny
import Derived.Deep.RegionHeld3
namespace Go.Proofs.Ythfgbgmkiggjmaa
open Go.RowKit

/-- What is asked of a forest. -/
def ForestP (m : Nat) (es : List E3) (xs : List Int) : Prop := xs.all (isIn (es.length : Int)) = true ∧ xs.Nodup ∧ partsR m (eg es (xs.map Int.toNat)) = partsR m es ∧ (xs.length : Int) = (m : Int) - (rootsN m es : Int)
theorem intsL_back {es : List E3} {xs : List Int} (h : xs.all (isIn (es.length : Int)) = true) : xs = intsL (xs.map Int.toNat) ∧ ∀ i ∈ xs.map Int.toNat, i < es.length := by
  have h1 : ∀ y ∈ xs, 0 ≤ y ∧ y < (es.length : Int) := fun y hy => by
    have := List.all_eq_true.1 h y hy
    simpa [isIn] using this
  refine ⟨?_, fun i hi => ?_⟩
  · unfold intsL
    rw [List.map_map]
    refine (List.map_id xs).symm.trans (List.map_congr_left fun y hy => ?_)
    have := h1 y hy
    show y = ((y.toNat : Nat) : Int)
    omega
  · obtain ⟨y, hy, rfl⟩ := List.mem_map.1 hi
    have := h1 y hy
    omega
theorem intsL_nodup {L : List Nat} (h : (intsL L).Nodup) : L.Nodup := by
  unfold intsL at h
  rw [List.nodup_iff_pairwise_ne, List.pairwise_map] at h
  rw [List.nodup_iff_pairwise_ne]
  exact h.imp fun h1 h2 => h1 (by rw [h2])

/-- An operation that is not wanted is passed over. -/
theorem take_un {P : Program} {ops : Array Oper} {Q : Exit → Act → World → Prop} {md : Region.Mode} {i : Nat} {oi : Oper} {fuel : Nat} {listed : Array Bool} {a : Act} {w : World} (hi : ops[i]? = some oi) (hs : Region.noSelect ops = true) (hf : Region.free md ops listed i = true) (hr : (Region.ready md ops listed).contains i = true)
    (hQ : ∀ c a w, Q (.panic c) (a.put oi.dst undef) w → Q (.panic c) a w) (hw : Region.wanted oi (yielded ops a.tmps) = false) (ha : a.put oi.dst undef = a) (h : wpAny P md ops Q fuel (listed.setIfInBounds i true) a w) : wpAny P md ops Q (fuel + 1) listed a w :=
  wpAny_take (v := undef) hi hs hf hr hQ (Or.inr ⟨hw, rfl⟩) (by rw [ha]; exact h)
set_option maxRecDepth 100000 in
theorem partsR_v (m : Nat) (A : Option Addr) (len cap : Nat) (es : List E3) (w : World) (hE : EdgesAt w w.heap.size A len es) (hm10 : m ≤ 10) (hlen : len ≤ 45) (hin : InE m es) :
    Calls Try.prog 49 #[.agg #[.int .i64 m, .slice A len cap]] w fun e w' => ∃ A3 c3, e = .returned (.slice A3 m c3) ∧ IntsAt w' w'.heap.size A3 m (partsR m es) ∧ m ≤ c3 ∧ Below w.heap.size w w' := by
  refine (refPartsR_any m A len cap es w hE hm10 hlen hin).mono fun e w' ⟨⟨v, h1, h2⟩, h3⟩ => ?_
  obtain ⟨A3, c3, rfl⟩ := own_form h2
  refine ⟨A3, c3, h1, IntsAt.of_own h2 (Nat.le_refl _), ?_, h3⟩
  rcases h2.2 with ⟨h4, h5⟩ | ⟨g, cap', cur, h4, _, _, h5, _⟩
  · rw [h5]; exact Nat.zero_le _
  · injection h4 with _ _ h6
    omega
set_option maxRecDepth 100000 in
theorem some_v (m n : Nat) (A B : Option Addr) (len cap cp : Nat) (es : List E3) (L : List Nat) (w : World) (hE : EdgesAt w w.heap.size A len es) (hn : n = L.length) (hI : IntsAt w w.heap.size B n (intsL L)) (hL : ∀ i ∈ L, i < len) (hl : n ≤ 45) :
    Calls Try.prog 50 #[.agg #[.int .i64 m, .slice A len cap], .slice B n cp] w fun e w' => ∃ A3 c3, e = .returned (.agg #[.int .i64 m, .slice A3 n c3]) ∧ EdgesAt w' w'.heap.size A3 n (eg es L) ∧ Below w.heap.size w w' := by
  refine (some_any m n A B len cap cp es L w hE hn hI hL hl).mono fun e w' ⟨⟨A3, c3, h1, h2, _⟩, h3⟩ => ?_
  rw [eg_len, ← hn] at h1 h2
  exact ⟨A3, c3, h1, h2, h3⟩
set_option maxRecDepth 100000 in
set_option maxHeartbeats 1000000 in
theorem forest_out (m n : Nat) (A B : Option Addr) (len cap cp : Nat) (es : List E3) (xs : List Int) (w : World) (hE : EdgesAt w w.heap.size A len es) (hI : IntsAt w w.heap.size B n xs) (hn : n ≤ 9223372036854775807) (hx : xs.all (isIn (len : Int)) = false) :
    Calls Try.prog 26 #[.agg #[.int .i64 m, .slice A len cap], .slice B n cp] w fun e w' => e = .returned (.bool false) ∧ Below w.heap.size w w' := by
  have HX := Lib.hid (BoxG.start (n := m) (cap := cap) hE)
  have HI := Lib.hid (hI.go_ ((Below.refl _ _).alloc (Nat.le_refl _) (.cells #[.int .i64 m, .slice A len cap] 24)))
  have HA := Lib.hid hx
  clear hE hI hx
  go_enter Try.func26, Try.ntmps26
  go_wp2_with (go_at_call 29; refine (inside_v (len : Int) B n cp xs false _ (by exact HI.out) hn HA.out).mono ?_; rintro e w1 ⟨rfl, rfl⟩)
  go_ret
  exact ⟨rfl, HX.out.below⟩

set_option maxRecDepth 100000 in
set_option maxHeartbeats 1000000 in
theorem forest_twice (m n : Nat) (A B : Option Addr) (len cap cp : Nat) (es : List E3) (xs : List Int) (w : World) (hE : EdgesAt w w.heap.size A len es) (hI : IntsAt w w.heap.size B n xs) (hn : n ≤ 9223372036854775807) (hnc : n ≤ cp) (hx : xs.all (isIn (len : Int)) = true) (ho : onceB xs = false) :
    Calls Try.prog 26 #[.agg #[.int .i64 m, .slice A len cap], .slice B n cp] w fun e w' => e = .returned (.bool false) ∧ Below w.heap.size w w' := by
  have HX := Lib.hid (BoxG.start (n := m) (cap := cap) hE)
  have HI := Lib.hid (hI.go_ ((Below.refl _ _).alloc (Nat.le_refl _) (.cells #[.int .i64 m, .slice A len cap] 24)))
  have HA := Lib.hid hx
  have HO := Lib.hid ho
  clear hE hI hx ho
  go_enter Try.func26, Try.ntmps26
  go_wp2_with (first
    | (go_at_call 29; refine (inside_v (len : Int) B n cp xs true _ (by exact HI.out) hn HA.out).mono ?_; rintro e w1 ⟨rfl, rfl⟩)
    | (go_at_call 48; refine (once_v B n cp xs false _ (by exact HI.out) hn hnc HO.out).mono ?_; rintro e w1 ⟨rfl, rfl⟩))
  go_ret
  exact ⟨rfl, HX.out.below⟩

set_option maxRecDepth 100000 in
set_option maxHeartbeats 4000000 in
theorem forest_good (m n : Nat) (A B : Option Addr) (len cap cp : Nat) (es : List E3) (L : List Nat) (p q : Bool) (w : World) (hE : EdgesAt w w.heap.size A len es) (hI : IntsAt w w.heap.size B n (intsL L)) (hN : n = L.length) (hnc : n ≤ cp) (hm10 : m ≤ 10) (hlen : len ≤ 45) (hin : InE m es) (hx : (intsL L).all (isIn (len : Int)) = true) (ho : onceB (intsL L) = true) (hL : ∀ i ∈ L, i < len) (hl : n ≤ 45)
    (hp : p = true ↔ partsR m (eg es L) = partsR m es) (hq : q = ((n : Int) == (m : Int) - (rootsN m es : Int))) :
    Calls Try.prog 26 #[.agg #[.int .i64 m, .slice A len cap], .slice B n cp] w fun e w' => e = .returned (.bool (p && q)) ∧ Below w.heap.size w w' := by
  have HX := Lib.hid (BoxG.start (n := m) (cap := cap) hE)
  have HI : Hid (IntsAt (bx w m A len cap) (bx w m A len cap).heap.size B n (intsL L)) := Lib.hid (hI.go_ ((Below.refl _ _).alloc (Nat.le_refl _) _))
  have HA := Lib.hid hx
  have HO := Lib.hid ho
  have HL := Lib.hid hL
  have HN := Lib.hid hN
  have HII : Hid (∀ (A4 Ap : Option Addr) (c4 capp : Nat) (w : World), IntsAt w w.heap.size A4 m (partsR m (eg es L)) → IntsAt w w.heap.size Ap m (partsR m es) → Calls Try.prog 19 #[.slice A4 m c4, .slice Ap m capp] w fun e w' => e = .returned (.bool p) ∧ ∃ k, w' = w.drewN k) := Lib.hid fun A4 Ap c4 capp w h1 h2 => ints_v A4 Ap m m c4 capp _ _ p w h1 h2 (by omega) (by omega) hp
  have HIN := Lib.hid hin
  have HLE : Hid (es.length = len) := Lib.hid hE.1
  have HIL : Hid (InE m (eg es L)) := Lib.hid (eg_in hin fun i hi => by rw [hE.1]; exact hL i hi)
  have HEL : Hid ((eg es L).length = n) := Lib.hid (by rw [eg_len, hN])
  have HUN : Hid (unlikeT (partsR m es) m = rootsN m es) := Lib.hid (unlike_partsR m (Nat.le_refl _))
  have hrm := rootsN_le m es
  clear hE hI hx ho hL hN hp hin
  generalize rootsN m es = r at *
  have hsub : IntKind.i64.wrap ((m : Int) - (r : Int)) = (m : Int) - (r : Int) := IntWalk.i64_in _ (by omega)
  go_enter Try.func26, Try.ntmps26
  go_wp2_with (first
    | (go_at_call 29; refine (inside_v (len : Int) B n cp (intsL L) true _ (by exact HI.out) (by omega) HA.out).mono ?_; rintro e w1 ⟨rfl, rfl⟩)
    | (go_at_call 48; refine (once_v B n cp (intsL L) true _ (by exact HI.out) (by omega) hnc HO.out).mono ?_; rintro e w1 ⟨rfl, rfl⟩)
    | (go_at_call 49; refine (partsR_v m A len cap es _ (by exact HX.out.edges) hm10 hlen HIN.out).mono ?_; rintro e w2 ⟨Ap, capp, rfl, hip, hmc, hb2⟩; have HX2 := Lib.hid (HX.out.next hb2); have HPI := Lib.hid hip; have HI2 := Lib.hid (HI.out.go_ hb2); have c0 := HX2.out.c0; have c1 := HX2.out.c1; have hwl := HX2.out.lt; clear hip hb2))
  cases p
  · go_region_with
      (first
        | (go_at_call 50; refine (some_v m n A B len cap cp es L _ (by exact HX2.out.edges) HN.out (by exact HI2.out) HL.out hl).mono ?_; rintro e w3 ⟨A3, c3, rfl, he3, hb3⟩; have HX3 := Lib.hid (HX2.out.next (by first | exact hb3 | exact (Below.refl _ _).drew.trans hb3)); have HE3 := Lib.hid he3; have HPI3 := Lib.hid (HPI.out.go_ (by first | exact hb3 | exact (Below.refl _ _).drew.trans hb3)); have d0 := HX3.out.c0; have d1 := HX3.out.c1; clear he3 hb3)
        | (go_at_call 49; refine (partsR_v m A3 n c3 (eg es L) _ (by exact HE3.out) hm10 hl HIL.out).mono ?_; rintro e w4 ⟨A4, c4, rfl, hi4, hm4, hb4⟩; have HX4 := Lib.hid (HX3.out.next (by first | exact hb4 | exact (Below.refl _ _).drew.trans hb4)); have HQI := Lib.hid hi4; have HPI4 := Lib.hid (HPI3.out.go_ (by first | exact hb4 | exact (Below.refl _ _).drew.trans hb4)); have e0 := HX4.out.c0; have e1 := HX4.out.c1; clear hi4 hb4)
        | (go_at_call 19; refine (HII.out A4 Ap c4 capp _ (by exact HQI.out) (by exact HPI4.out)).mono ?_; rintro e w5 ⟨rfl, q5, hw5⟩; have HB5 : Hid (Below w4.heap.size w4 w5) := Lib.hid (by rw [hw5]; first | exact below_drewN (Below.refl _ _) _ | exact below_drewN (Below.refl _ _).drew _); have HX5 := Lib.hid (HX4.out.next HB5.out); have HPI5 := Lib.hid (HPI4.out.go_ HB5.out); have f0 := HX5.out.c0; have f1 := HX5.out.c1; clear hw5; go_wp2; refine wpAny_take (i := 6) (v := .bool false) rfl (by kernel_rfl) (by kernel_rfl) (by kernel_rfl) (fun _ _ _ h => h) (Or.inl ⟨by kernel_rfl, fun w => by go_simp⟩) ?_; refine take_un (i := 7) rfl (by kernel_rfl) (by kernel_rfl) (by kernel_rfl) (fun _ _ _ h => h) (by kernel_rfl) (by kernel_rfl) ?_; refine take_un (i := 8) rfl (by kernel_rfl) (by kernel_rfl) (by kernel_rfl) (fun _ _ _ h => h) (by kernel_rfl) (by kernel_rfl) ?_; refine take_un (i := 9) rfl (by kernel_rfl) (by kernel_rfl) (by kernel_rfl) (fun _ _ _ h => h) (by kernel_rfl) (by kernel_rfl) ?_; refine take_un (i := 10) rfl (by kernel_rfl) (by kernel_rfl) (by kernel_rfl) (fun _ _ _ h => h) (by kernel_rfl) (by kernel_rfl) ?_; refine take_un (i := 11) rfl (by kernel_rfl) (by kernel_rfl) (by kernel_rfl) (fun _ _ _ h => h) (by kernel_rfl) (by kernel_rfl) ?_; refine take_un (i := 12) rfl (by kernel_rfl) (by kernel_rfl) (by kernel_rfl) (fun _ _ _ h => h) (by kernel_rfl) (by kernel_rfl) ?_; refine take_un (i := 13) rfl (by kernel_rfl) (by kernel_rfl) (by kernel_rfl) (fun _ _ _ h => h) (by kernel_rfl) (by kernel_rfl) ?_; refine take_un (i := 14) rfl (by kernel_rfl) (by kernel_rfl) (by kernel_rfl) (fun _ _ _ h => h) (by kernel_rfl) (by kernel_rfl) ?_))
    all_goals
      go_wp2
      go_ret
      exact ⟨rfl, HX5.out.below⟩
  · obtain ⟨qq, hqq⟩ : ∃ qq, ((n : Int) == (m : Int) - (r : Int)) = qq := ⟨_, rfl⟩
    go_region_with
      (first
        | (go_at_call 50; refine (some_v m n A B len cap cp es L _ (by exact HX2.out.edges) HN.out (by exact HI2.out) HL.out hl).mono ?_; rintro e w3 ⟨A3, c3, rfl, he3, hb3⟩; have HX3 := Lib.hid (HX2.out.next (by first | exact hb3 | exact (Below.refl _ _).drew.trans hb3)); have HE3 := Lib.hid he3; have HPI3 := Lib.hid (HPI.out.go_ (by first | exact hb3 | exact (Below.refl _ _).drew.trans hb3)); have d0 := HX3.out.c0; have d1 := HX3.out.c1; clear he3 hb3)
        | (go_at_call 49; refine (partsR_v m A3 n c3 (eg es L) _ (by exact HE3.out) hm10 hl HIL.out).mono ?_; rintro e w4 ⟨A4, c4, rfl, hi4, hm4, hb4⟩; have HX4 := Lib.hid (HX3.out.next (by first | exact hb4 | exact (Below.refl _ _).drew.trans hb4)); have HQI := Lib.hid hi4; have HPI4 := Lib.hid (HPI3.out.go_ (by first | exact hb4 | exact (Below.refl _ _).drew.trans hb4)); have e0 := HX4.out.c0; have e1 := HX4.out.c1; clear hi4 hb4)
        | (go_at_call 19; refine (HII.out A4 Ap c4 capp _ (by exact HQI.out) (by exact HPI4.out)).mono ?_; rintro e w5 ⟨rfl, q5, hw5⟩; have HB5 : Hid (Below w4.heap.size w4 w5) := Lib.hid (by rw [hw5]; first | exact below_drewN (Below.refl _ _) _ | exact below_drewN (Below.refl _ _).drew _); have HX5 := Lib.hid (HX4.out.next HB5.out); have HPI5 := Lib.hid (HPI4.out.go_ HB5.out); have f0 := HX5.out.c0; have f1 := HX5.out.c1; clear hw5)
        | (go_at_call 51; refine (unlikeT_any Ap m capp (partsR m es) _ (by exact HPI5.out) (by omega) hmc).mono ?_; rintro e w6 ⟨rfl, hw6⟩; rw [HUN.out]; have g0 := f0; have g1 := f1; rw [hw6] at g0 g1; have HX6 := Lib.hid (show BoxG w m A len cap es w6 by rw [← hw6]; first | exact HX5.out | exact HX5.out.next (Below.refl _ _).drew); clear hw6))
    all_goals
      go_wp2
      go_ret
      exact ⟨by rw [hq, hqq]; rfl, HX6.out.below⟩
end Go.Proofs.Ythfgbgmkiggjmaa
