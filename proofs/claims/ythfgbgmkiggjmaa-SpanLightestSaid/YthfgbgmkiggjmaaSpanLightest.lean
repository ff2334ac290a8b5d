/- KRUSKAL, PRIM: what span.Least tells is a forest, and no other one weighs less. -/
import Derived.Test.YthfgbgmkiggjmaaForest
import Derived.Test.YthfgbgmkiggjmaaLeast
import Derived.Test.YthfgbgmkiggjmaaKeepGood
import Derived.Test.YthfgbgmkiggjmaaOpen
import Derived.Test.YthfgbgmkiggjmaaOpenInts
namespace Go.Proofs.Ythfgbgmkiggjmaa
open Go.RowKit

theorem weight_ok {n : Int} {pre : List E3} {e : E3} (h : edgeErr n pre e = 0) : -1048576 ≤ e.2.2 ∧ e.2.2 ≤ 1048576 := by
  unfold edgeErr at h
  split at h
  · omega
  · split at h
    · omega
    · split at h
      · omega
      · rename_i h1
        simp at h1
        omega
set_option maxRecDepth 100000 in
/-- What the keepers' forest answers, whatever the list. -/
theorem forest_all (m n : Nat) (len : Nat) (es : List E3) (xs : List Int) (hm10 : m ≤ 10) (hlen : len ≤ 45) (hel : es.length = len) (hin : InE m es) (hxn : xs.length = n) (hn : n ≤ 9223372036854775807) :
    ∃ b : Bool, (∀ (w : World) (A B : Option Addr) (cap cp : Nat), EdgesAt w w.heap.size A len es → IntsAt w w.heap.size B n xs → n ≤ cp → Calls Try.prog 26 #[.agg #[.int .i64 m, .slice A len cap], .slice B n cp] w fun e w' => e = .returned (.bool b) ∧ Below w.heap.size w w') ∧
      (b = true → ∃ L : List Nat, xs = intsL L ∧ (∀ i ∈ L, i < len) ∧ n = L.length ∧ n ≤ 45 ∧ rootsN m (eg es L) + n = m ∧ rootsN m (eg es L) = rootsN m es) ∧
      (∀ L : List Nat, xs = intsL L → (∀ i ∈ L, i < len) → L.Nodup → partsR m (eg es L) = partsR m es → rootsN m es + n = m → b = true) := by
  cases hx : xs.all (isIn (len : Int)) with
  | false =>
    refine ⟨false, fun w A B cap cp hE hI _ => forest_out m n A B len cap cp es xs w hE hI hn hx, fun h => (by cases h), fun L h1 h2 _ _ _ => ?_⟩
    have : xs.all (isIn (len : Int)) = true := by
      rw [List.all_eq_true]
      intro y hy
      rw [h1] at hy
      obtain ⟨i, hi, rfl⟩ := List.mem_map.1 hy
      have := h2 i hi
      simp [isIn]
      omega
    rw [this] at hx
    cases hx
  | true =>
    rw [← hel] at hx
    obtain ⟨hb, hL⟩ := intsL_back hx
    rw [hel] at hx
    obtain ⟨L, hLx⟩ : ∃ L, L = xs.map Int.toNat := ⟨_, rfl⟩
    rw [← hLx] at hb hL
    rw [hel] at hL
    have hLu : ∀ L' : List Nat, xs = intsL L' → L' = L := fun L' h => by
      rw [hLx, h]
      unfold intsL
      rw [List.map_map]
      exact (List.map_id L').symm.trans (List.map_congr_left fun y _ => by simp)
    cases ho : onceB xs with
    | false =>
      refine ⟨false, fun w A B cap cp hE hI hc => forest_twice m n A B len cap cp es xs w hE hI hn hc hx ho, fun h => (by cases h), fun L' h1 _ h3 _ _ => ?_⟩
      obtain rfl := hLu L' h1
      have : onceB xs = true := by
        unfold onceB
        rw [decide_eq_true_iff, h1]
        unfold intsL
        rw [List.nodup_iff_pairwise_ne, List.pairwise_map]
        rw [List.nodup_iff_pairwise_ne] at h3
        exact h3.imp fun h4 h5 => h4 (by omega)
      rw [this] at ho
      cases ho
    | true =>
      have hnd : L.Nodup := intsL_nodup (by rw [← hb]; unfold onceB at ho; exact of_decide_eq_true ho)
      have hnL : n = L.length := by rw [← hxn, hb, intsL_len]
      have hn45 : n ≤ 45 := by
        have := nodup_bd len L hnd hL
        omega
      obtain ⟨p, hp⟩ : ∃ p : Bool, p = true ↔ partsR m (eg es L) = partsR m es := ⟨@decide (partsR m (eg es L) = partsR m es) (Classical.propDecidable _), by simp⟩
      have hrm := rootsN_le m es
      refine ⟨p && ((n : Int) == (m : Int) - (rootsN m es : Int)), fun w A B cap cp hE hI hc => ?_, fun h => ?_, fun L' h1 _ _ h4 h5 => ?_⟩
      · rw [hb] at hI hx ho
        exact forest_good m n A B len cap cp es L p _ w hE hI hnL hc hm10 hlen hin hx ho hL hn45 hp rfl
      · simp only [Bool.and_eq_true, beq_iff_eq] at h
        have h1 := rootsN_parts (hp.1 h.1)
        exact ⟨L, hb, hL, hnL, hn45, by omega, h1⟩
      · obtain rfl := hLu L' h1
        simp only [Bool.and_eq_true, beq_iff_eq]
        exact ⟨hp.2 h4, by omega⟩

set_option maxRecDepth 100000 in
set_option maxHeartbeats 400000 in
theorem spanLightest_bad (n : Int) (A B : Option Addr) (len cap k cp : Nat) (es : List E3) (v : Int) (w : World) (hE : EdgesAt w w.heap.size A len es) (hcap : len ≤ cap) (hv : gcheck n es = v) (hv0 : v ≠ 0) :
    Calls Try.prog 8 #[.agg #[.int .i64 n, .slice A len cap], .slice B k cp] w fun e w' => e = .returned (.bool true) ∧ Below w.heap.size w w' := by
  have HX := Lib.hid (BoxG.start (n := n) (cap := cap) hE)
  have HV := Lib.hid hv
  have HV0 := Lib.hid hv0
  have HG : Hid ((gcheck n es == 0) = false) := Lib.hid (by rw [hv]; simpa using hv0)
  have hb0 : (v != 0) = true := by simpa using hv0
  clear hE hv hv0
  go_enter Try.func8, Try.ntmps8
  go_wp2_with (first
    | (go_at_call 21; refine (least_bad n A len cap es v _ (by exact HX.out.edges) HV.out HV0.out).mono ?_; rintro e w1 ⟨rfl, hb1⟩; have HX1 := Lib.hid (HX.out.next hb1); have hc0 := HX1.out.c0; have hc1 := HX1.out.c1)
    | (go_at_call 20; refine (good_v n A len cap es false _ (by exact HX1.out.edges) hcap HG.out).mono ?_; rintro e w2 ⟨rfl, hb2⟩; have HX2 := Lib.hid (HX1.out.next hb2)))
  go_ret
  exact ⟨rfl, HX2.out.below⟩

set_option maxRecDepth 100000 in
set_option maxHeartbeats 4000000 in
theorem spanLightest_good (m k : Nat) (A B : Option Addr) (len cap cp : Nat) (es : List E3) (xs : List Int) (w : World) (hE : EdgesAt w w.heap.size A len es) (hcap : len ≤ cap) (hv : gcheck m es = 0) (hI : IntsAt w w.heap.size B k xs) (hkc : k ≤ cp) (hk : k ≤ 9223372036854775807) :
    Calls Try.prog 8 #[.agg #[.int .i64 m, .slice A len cap], .slice B k cp] w fun e w' => e = .returned (.bool true) ∧ Below w.heap.size w w' := by
  obtain ⟨_, hm10', hl45, hgood⟩ := good_of_gcheck hv
  have hm10 : m ≤ 10 := by omega
  have hlen : len ≤ 45 := by have := hE.1; omega
  have hin := InE.of_good hgood
  have hwb : ∀ e ∈ es, -1048576 ≤ e.2.2 ∧ e.2.2 ≤ 1048576 := fun e he => by
    obtain ⟨i, hi⟩ := List.getElem?_of_mem he
    exact weight_ok (hgood i e hi)
  have hkf := kept_forest hin
  have hkl : (keptS es).length ≤ 10 := by omega
  have HK : Hid (∀ i ∈ keptS es, i < len) := Lib.hid fun i hi => by have := keptS_lt hi; have := hE.1; omega
  obtain ⟨b1, HF1, _, HT1⟩ := forest_all m (keptS es).length len es (intsL (keptS es)) hm10 hlen hE.1 hin (intsL_len _) (by omega)
  have hb1 : b1 = true := HT1 _ rfl HK.out keptS_nodup (partsR_eq.2 fun i _ => minR_congr (kept_rch hin)) hkf
  subst hb1
  obtain ⟨b2, HF2, HO2, _⟩ := forest_all m k len es xs hm10 hlen hE.1 hin hI.1 hk
  have HF1 := Lib.hid HF1
  have HF2 := Lib.hid HF2
  have HLT : Hid (b2 = true → ∃ L : List Nat, xs = intsL L ∧ (∀ i ∈ L, i < len) ∧ k = L.length ∧ k ≤ 45 ∧ sumW es (keptS es) ≤ sumW es L) := Lib.hid fun h => by
    obtain ⟨L, h1, h2, h3, h4, h5, h6⟩ := HO2 h
    refine ⟨L, h1, h2, h3, h4, kept_lightest hin hwb (fun i hi => by have := h2 i hi; have := hE.1; omega) (by rw [← h3]; exact h5) (by omega)⟩
  have HX := Lib.hid (BoxG.start (n := m) (cap := cap) hE)
  have HI : Hid (IntsAt (bx w m A len cap) (bx w m A len cap).heap.size B k xs) := Lib.hid (hI.go_ ((Below.refl _ _).alloc (Nat.le_refl _) _))
  have HV := Lib.hid hv
  have HW := Lib.hid hwb
  have HG : Hid ((gcheck m es == 0) = true) := Lib.hid (by rw [hv]; rfl)
  obtain ⟨kn, hkn⟩ : ∃ kn, kn = (keptS es).length := ⟨_, rfl⟩
  have HKN := Lib.hid hkn
  have HLL : Hid (∀ w, EdgesAt w w.heap.size A len es → Calls Try.prog 21 #[.agg #[.int .i64 m, .slice A len cap]] w fun e w' => (∃ B cp, e = .returned (.tuple #[.slice B kn cp, .int .i64 0]) ∧ IntsAt w' w'.heap.size B kn (intsL (keptS es)) ∧ kn ≤ cp) ∧ Below w.heap.size w w') := Lib.hid fun w' hE' => by
    rw [hkn]
    exact (least_loopC m A len cap es w' hE' hv).mono fun e w2 h => h
  rw [← hkn] at HF1 hkl
  clear hE hv hl45 hgood hin hwb hkf hI HT1 HO2 hkn
  go_enter Try.func8, Try.ntmps8
  go_wp2_with (first
    | (go_at_call 21; refine (HLL.out _ (by exact HX.out.edges)).mono ?_; rintro e w1 ⟨⟨B1, p1, rfl, hr1, hp1⟩, hb1⟩; have HR1 := Lib.hid hr1; have HI1 := Lib.hid (HI.out.go_ hb1); have HX1 := Lib.hid (HX.out.next hb1); have hc0 := HX1.out.c0; have hc1 := HX1.out.c1; clear hr1 hb1)
    | (go_at_call 20; refine (good_v m A len cap es true _ (by exact HX1.out.edges) hcap HG.out).mono ?_; rintro e w2 ⟨rfl, hb2⟩; have HX2 := Lib.hid (HX1.out.next hb2); have HR2 := Lib.hid (HR1.out.go_ hb2); have HI2 := Lib.hid (HI1.out.go_ hb2); clear hb2 hc0 hc1; have hd0 := HX2.out.c0; have hd1 := HX2.out.c1)
    | (go_at_call 26; refine (HF1.out _ A B1 cap p1 (by exact HX2.out.edges) (by exact HR2.out) hp1).mono ?_; rintro e w3 ⟨rfl, hb3⟩; have HX3 := Lib.hid (HX2.out.next hb3); have HR3 := Lib.hid (HR2.out.go_ hb3); have HI3 := Lib.hid (HI2.out.go_ hb3); clear hb3; have he0 := HX3.out.c0; have he1 := HX3.out.c1))
  cases b2
  · clear HLT
    go_region_with (first
      | (go_at_call 26; refine (HF2.out _ A B cap cp (by exact HX3.out.edges) (by exact HI3.out) hkc).mono ?_; rintro e w4 ⟨rfl, hb4⟩; have HX4 := Lib.hid (HX3.out.next (by first | exact hb4 | exact (Below.refl _ _).drew.trans hb4)); have HR4 := Lib.hid (HR3.out.go_ (by first | exact hb4 | exact (Below.refl _ _).drew.trans hb4)); have HI4 := Lib.hid (HI3.out.go_ (by first | exact hb4 | exact (Below.refl _ _).drew.trans hb4)); have f0 := HX4.out.c0; have f1 := HX4.out.c1; clear hb4; go_wp2; refine wpAny_take (i := 3) (v := .bool true) rfl (by kernel_rfl) (by kernel_rfl) (by kernel_rfl) (fun _ _ _ h => h) (Or.inl ⟨by kernel_rfl, fun w => by go_simp⟩) ?_; refine wpAny_take (i := 4) (v := .bool true) rfl (by kernel_rfl) (by kernel_rfl) (by kernel_rfl) (fun _ _ _ h => h) (Or.inl ⟨by kernel_rfl, fun w => by go_simp⟩) ?_; refine take_un (i := 5) rfl (by kernel_rfl) (by kernel_rfl) (by kernel_rfl) (fun _ _ _ h => h) (by kernel_rfl) (by kernel_rfl) ?_; refine take_un (i := 6) rfl (by kernel_rfl) (by kernel_rfl) (by kernel_rfl) (fun _ _ _ h => h) (by kernel_rfl) (by kernel_rfl) ?_; refine take_un (i := 7) rfl (by kernel_rfl) (by kernel_rfl) (by kernel_rfl) (fun _ _ _ h => h) (by kernel_rfl) (by kernel_rfl) ?_; refine take_un (i := 8) rfl (by kernel_rfl) (by kernel_rfl) (by kernel_rfl) (fun _ _ _ h => h) (by kernel_rfl) (by kernel_rfl) ?_; refine take_un (i := 9) rfl (by kernel_rfl) (by kernel_rfl) (by kernel_rfl) (fun _ _ _ h => h) (by kernel_rfl) (by kernel_rfl) ?_; refine take_un (i := 10) rfl (by kernel_rfl) (by kernel_rfl) (by kernel_rfl) (fun _ _ _ h => h) (by kernel_rfl) (by kernel_rfl) ?_; refine take_un (i := 11) rfl (by kernel_rfl) (by kernel_rfl) (by kernel_rfl) (fun _ _ _ h => h) (by kernel_rfl) (by kernel_rfl) ?_))
    all_goals
      go_wp2
      go_ret
      exact ⟨rfl, HX4.out.below⟩
  · obtain ⟨L, S1, S2, hle, HW1, HW2⟩ : ∃ (L : List Nat) (S1 S2 : Int), S1 ≤ S2 ∧ Hid (∀ (w : World) (B1 : Option Addr) (p1 : Nat), EdgesAt w w.heap.size A len es → IntsAt w w.heap.size B1 kn (intsL (keptS es)) → Calls Try.prog 27 #[.agg #[.int .i64 m, .slice A len cap], .slice B1 kn p1] w fun e w' => e = .returned (.int .i64 S1) ∧ Below w.heap.size w w') ∧
        Hid (∀ (w : World), EdgesAt w w.heap.size A len es → IntsAt w w.heap.size B k xs → Calls Try.prog 27 #[.agg #[.int .i64 m, .slice A len cap], .slice B k cp] w fun e w' => e = .returned (.int .i64 S2) ∧ Below w.heap.size w w') := by
      obtain ⟨L, h1, h2, h3, h4, h5⟩ := HLT.out rfl
      refine ⟨L, _, _, h5, Lib.hid fun w' B1 p1 hE' hI' => weighs_any m kn A B1 len cap p1 es (keptS es) w' hE' HKN.out hI' HK.out (by omega) HW.out, Lib.hid fun w' hE' hI' => ?_⟩
      rw [h1] at hI'
      exact weighs_any m k A B len cap cp es L w' hE' h3 hI' h2 h4 HW.out
    have hled : decide (S1 ≤ S2) = true := decide_eq_true hle
    clear HLT
    go_region_with (first
      | (go_at_call 26; refine (HF2.out _ A B cap cp (by exact HX3.out.edges) (by exact HI3.out) hkc).mono ?_; rintro e w4 ⟨rfl, hb4⟩; have HX4 := Lib.hid (HX3.out.next (by first | exact hb4 | exact (Below.refl _ _).drew.trans hb4)); have HR4 := Lib.hid (HR3.out.go_ (by first | exact hb4 | exact (Below.refl _ _).drew.trans hb4)); have HI4 := Lib.hid (HI3.out.go_ (by first | exact hb4 | exact (Below.refl _ _).drew.trans hb4)); have f0 := HX4.out.c0; have f1 := HX4.out.c1; clear hb4)
      | (go_at_call 27; (with_reducible refine (HW1.out _ B1 p1 (by exact HX4.out.edges) (by exact HR4.out)).mono ?_); rintro e w5 ⟨rfl, hb5⟩; have HX5 := Lib.hid (HX4.out.next (by first | exact hb5 | exact (Below.refl _ _).drew.trans hb5)); have HI5 := Lib.hid (HI4.out.go_ (by first | exact hb5 | exact (Below.refl _ _).drew.trans hb5)); have g0 := HX5.out.c0; have g1 := HX5.out.c1; clear hb5)
      | (go_at_call 27; refine (HW2.out _ (by exact HX5.out.edges) (by exact HI5.out)).mono ?_; rintro e w6 ⟨rfl, hb6⟩; have HX6 := Lib.hid (HX5.out.next (by first | exact hb6 | exact (Below.refl _ _).drew.trans hb6)); clear hb6))
    all_goals
      go_wp2
      go_ret
      exact ⟨rfl, HX6.out.below⟩

set_option maxRecDepth 100000 in
theorem spanLightest_any (n : Int) (A : Option Addr) (len cap : Nat) (es : List E3) (B : Option Addr) (k cp : Nat) (xs : List Int) (w : World) (hE : EdgesAt w w.heap.size A len es) (hcap : len ≤ cap) (_ : ∀ e ∈ es, WfE e) (_ : (Lit.int .i64 n).wf = true) (hI : IntsAt w w.heap.size B k xs) (hkc : k ≤ cp) (hm : cp ≤ maxLen) :
    Calls Try.prog 8 #[.agg #[.int .i64 n, .slice A len cap], .slice B k cp] w fun e w' => e = .returned (.bool true) ∧ Below w.heap.size w w' := by
  by_cases h : gcheck n es = 0
  · obtain ⟨m, rfl⟩ := Int.eq_ofNat_of_zero_le (good_of_gcheck h).1
    exact spanLightest_good m k A B len cap cp es xs w hE hcap h hI hkc (by unfold maxLen at hm; omega)
  · exact spanLightest_bad n A B len cap k cp es _ w hE hcap rfl h
end Go.Proofs.Ythfgbgmkiggjmaa
