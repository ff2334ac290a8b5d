/- FeeDual, walked: numbers of both sides of which no two are more than the fee of both are together no more than the best costs. -/
import Derived.Test.YtmlmnmphmghdlaaDoorFeeAssigns
import Derived.Test.YtmlmnmphmghdlaaDoorOnce
import Derived.Test.YtmlmnmphmghdlaaDoorInside
namespace Go.Proofs.YtmlmnmphmghdlaaDoor
open Go.RowKit

theorem wrap_i64n (x : Int) (h1 : -9223372036854775808 ≤ x) (h2 : x ≤ 9223372036854775807) : IntKind.i64.wrap x = x := by
  simp [IntKind.wrap, IntKind.signed, IntKind.bits]
  omega
theorem costA_abs {fee : Nat → Nat → Int} {M : Int} (hM : ∀ i j, -M ≤ fee i j ∧ fee i j ≤ M) : ∀ (l : List Nat) i, -(l.length * M) ≤ costA fee i l ∧ costA fee i l ≤ l.length * M
  | [], _ => by simp [costA]
  | x :: l, i => by
    have ih := costA_abs hM l (i + 1)
    have h := hM i x
    have e : ((l.length + 1 : Nat) : Int) * M = l.length * M + M := by rw [Int.natCast_add, Int.add_mul]; simp
    rw [List.length_cons, e]
    simp only [costA]; omega
theorem costA_take {fee : Nat → Nat → Int} {l : List Nat} {k j : Nat} (h : l[k]? = some j) : costA fee 0 (l.take (k + 1)) = costA fee 0 (l.take k) + fee k j := by
  obtain ⟨hk, he⟩ := List.getElem?_eq_some_iff.1 h
  rw [List.take_succ_eq_append_getElem hk, costA_app, he, List.length_take, Nat.min_eq_left (by omega)]
  simp [costA]
structure FeeD (B : Nat) (A : Option Addr) (n c : Nat) (Ls : List (List Int)) (A2 A3 : Option Addr) (us vs : List Int) (wr : World) : Prop where
  side : SideAt wr B A n c Ls
  iu : IntsAt wr B A2 n us
  iv : IntsAt wr B A3 n vs
theorem FeeD.drewN {B : Nat} {A : Option Addr} {n c : Nat} {Ls : List (List Int)} {A2 A3 : Option Addr} {us vs : List Int} {wr : World} (h : FeeD B A n c Ls A2 A3 us vs wr) (q : Nat) : FeeD B A n c Ls A2 A3 us vs (wr.drewN q) := ⟨h.side.drewN q, h.iu, h.iv⟩
def numF (us : List Int) (t : Nat) : Int := us.getD t 0
theorem numF_at {us : List Int} {t : Nat} {x : Int} (h : us[t]? = some x) : numF us t = x := by unfold numF; rw [List.getD_eq_getElem?_getD, h]; rfl
/-- What is known of the first i, and of the first j of the next one. -/
structure DualS (us vs : List Int) (Ls : List (List Int)) (n i : Nat) (s : Int) : Prop where
  sum : s = sumI (fun t => numF us t + numF vs t) i
  lo : -(i * 2097152) ≤ s
  hi : s ≤ i * 2097152
  ru : ∀ t, t < i → -1048576 ≤ numF us t ∧ numF us t ≤ 1048576
  rv : ∀ t, t < i → -1048576 ≤ numF vs t ∧ numF vs t ≤ 1048576
  le : ∀ t j, t < i → j < n → IntKind.i64.wrap (numF us t + numF vs j) ≤ feeQ Ls t j
theorem DualS.next {us vs : List Int} {Ls : List (List Int)} {n i : Nat} {s x y : Int} (h : DualS us vs Ls n i s) (hx : numF us i = x) (hy : numF vs i = y) (h1 : -1048576 ≤ x ∧ x ≤ 1048576) (h2 : -1048576 ≤ y ∧ y ≤ 1048576)
    (hl : ∀ j, j < n → IntKind.i64.wrap (numF us i + numF vs j) ≤ feeQ Ls i j) : DualS us vs Ls n (i + 1) (s + x + y) := by
  have hlo := h.lo
  have hhi := h.hi
  refine ⟨by simp only [sumI]; rw [← h.sum, hx, hy]; omega, by omega, by omega, fun t ht => ?_, fun t ht => ?_, fun t j ht hj => ?_⟩
  · by_cases e : t = i
    · subst e; rw [hx]; exact h1
    · exact h.ru t (by omega)
  · by_cases e : t = i
    · subst e; rw [hy]; exact h2
    · exact h.rv t (by omega)
  · by_cases e : t = i
    · subst e; exact hl j hj
    · exact h.le t j (by omega) hj
theorem DualS.done {us vs : List Int} {Ls : List (List Int)} {n : Nat} {s : Int} (h : DualS us vs Ls n n s) : s ≤ (asgR (feeQ Ls) n n []).2 := by
  have h1 := egervary (fee := feeQ Ls) (n := n) (u := numF us) (v := numF vs) (fun i j hi hj => by
    have h2 := h.le i j hi hj
    have h3 := h.ru i hi
    have h4 := h.rv j hj
    rwa [wrap_i64n _ (by omega) (by omega)] at h2) (m := (asgR (feeQ Ls) n n []).1) asg_best.1.ext
  rw [asg_best.2] at h1
  rw [h.sum, sumI_add]
  exact h1
theorem intsOf_nodup {l : List Nat} (h : l.Nodup) : (intsOf l).Nodup := by
  induction l with
  | nil => simp [intsOf]
  | cons x l ih =>
    obtain ⟨h1, h2⟩ := List.nodup_cons.1 h
    show (((x : Int)) :: intsOf l).Nodup
    refine List.nodup_cons.2 ⟨fun hx => h1 ?_, ih h2⟩
    have := (has_intsOf l x).1 (hasI_iff.2 hx)
    exact this
set_option maxRecDepth 100000 in
set_option maxHeartbeats 8000000 in
theorem feeDual_any (A : Option Addr) (n c : Nat) (Ls : List (List Int)) (A2 : Option Addr) (l2 c2 : Nat) (us : List Int) (A3 : Option Addr) (l3 c3 : Nat) (vs : List Int) (w : World) (S : SideAt w w.heap.size A n c Ls)
    (hU : IntsAt w w.heap.size A2 l2 us) (_ : l2 ≤ c2) (hU2 : c2 ≤ maxLen) (hV : IntsAt w w.heap.size A3 l3 vs) (_ : l3 ≤ c3) (hV2 : c3 ≤ maxLen) (hT : Tab w) :
    Calls Tryd.prog 4 #[.slice A n c, .slice A2 l2 c2, .slice A3 l3 c3] w fun e w' => e = .returned (.bool true) ∧ Below w.heap.size w w' := by
  obtain ⟨x, hx⟩ : ∃ x, feesF Ls = x := ⟨_, rfl⟩
  have HS := Lib.hid S
  have HF := Lib.hid hx
  have HU := Lib.hid hU
  have HV := Lib.hid hV
  have hl2 : l2 ≤ 9223372036854775807 := by unfold maxLen at hU2; omega
  have hl3 : l3 ≤ 9223372036854775807 := by unfold maxLen at hV2; omega
  clear hU2 hV2
  by_cases h0 : x = 0
  · subst h0
    have HA := Lib.hid (assign_good A n c Ls w S hx hT)
    have hlen : (asgR (feeQ Ls) n n []).1.length = n := asg_best.1.ext.len
    obtain ⟨hn8, hsq, hrg⟩ := feesF_zero hx
    rw [S.len] at hn8
    have HL := Lib.hid hlen
    have HSQ := Lib.hid hsq
    have HRG := Lib.hid hrg
    clear S hx hT hlen hsq hrg hU hV
    obtain ⟨m, hm⟩ : ∃ m, m = (asgR (feeQ Ls) n n []).1 := ⟨_, rfl⟩
    obtain ⟨z, hz⟩ : ∃ z, z = (asgR (feeQ Ls) n n []).2 := ⟨_, rfl⟩
    have HBEST : Hid (ExtA n [] m ∧ costA (feeQ Ls) 0 m = z) := Lib.hid (by rw [hm, hz]; exact ⟨asg_best.1.ext, asg_best.2⟩)
    have HZ := Lib.hid hz
    unfold AssignOut at HA
    rw [← hm] at HL HA
    rw [← hz] at HA
    clear hm hz
    have hON : onceB (intsOf m) = true := by unfold onceB; exact decide_eq_true (intsOf_nodup HBEST.out.1.nd)
    have hIN : (intsOf m).all (isIn (n : Int)) = true := by
      rw [List.all_eq_true]
      intro y hy
      unfold intsOf at hy
      obtain ⟨j, hj, rfl⟩ := List.mem_map.1 hy
      have := HBEST.out.1.lt j hj
      unfold isIn
      rw [decide_eq_true (by omega : (0 : Int) ≤ (j : Int)), decide_eq_true (by omega : (j : Int) < (n : Int))]; rfl
    have HON := Lib.hid hON
    have HIN := Lib.hid hIN
    clear hON hIN
    go_enter Tryd.func4, Tryd.ntmps4
    go_wp2_with fail
    refine HA.out.mono ?_
    rintro e w1 ⟨g, rfl, hrow, hb1⟩
    have HR1 := Lib.hid (RowC.intsOf hrow HL.out)
    have HB1 := Lib.hid hb1
    clear HA hrow hb1
    go_wp2_with fail
    refine ((feesCheck_any A n c Ls w1 (HS.out.go_ HB1.out)).mono (R' := fun e w' => e = .returned (.int .i64 0) ∧ w' = w1) (fun e w' h => by rw [HF.out] at h; exact h)).mono ?_
    rintro e w2 ⟨rfl, rfl⟩
    go_wp2_with (first
      | (go_at_call 10; refine (once_v _ n n _ true _ HR1.out (by omega) (Nat.le_refl _) HON.out).mono ?_; rintro e w3 ⟨rfl, rfl⟩)
      | (go_at_call 11; refine (inside_v (n : Int) _ n n _ true _ HR1.out (by omega) HIN.out).mono ?_; rintro e w4 ⟨rfl, rfl⟩))
    have HML : Hid (m.length = n) := Lib.hid HL.out
    have hu32 : ∀ k j : Nat, m[k]? = some j → j < n := fun k j hj => HBEST.out.1.lt j (List.mem_of_getElem? hj)
    have HJ := Lib.hid hu32
    clear hu32
    go_loop [10, 50] (fun x y => ∃ (k : Nat) (cs : Int), x = .int .i64 cs ∧ y = .int .i64 k ∧ k ≤ n ∧ Hid (cs = costA (feeQ Ls) 0 (m.take k))) (fun _ y => n - (intOf y).toNat)
    case atStart => exact ⟨0, 0, rfl, rfl, Nat.zero_le _, Lib.hid (by simp [costA])⟩
    case round =>
      obtain ⟨k, cs, rfl, rfl, hk, HC⟩ := hrel
      by_cases hkn : k < n
      · obtain ⟨j, hj⟩ : ∃ j, m[k]? = some j := ⟨_, List.getElem?_eq_getElem (by have := HML.out; omega)⟩
        have hjn := HJ.out k j hj
        obtain ⟨b0, off0, y0, e0, _, hy0, hc0⟩ := HR1.out.at_ hkn
        have hyj : y0 = (j : Int) := by
          unfold intsOf at hy0
          rw [List.getElem?_map, hj] at hy0
          simpa using hy0.symm
        subst hyj
        injection e0 with e0
        injection e0 with e1 e2
        subst e1 e2
        have HS2 := Lib.hid (HS.out.go_ HB1.out)
        obtain ⟨bb, off, xs, A', c', rfl, _, hxs, hc, hI, _, _⟩ := HS2.out.get hkn
        have hxl : xs.length = n := by have := HSQ.out xs (List.mem_of_getElem? hxs); rw [this]; exact HS2.out.len
        obtain ⟨b', off', f, rfl, _, hff, hcf⟩ := hI.at_ (show j < xs.length by omega)
        have hfee := feeQ_at hxs hff
        obtain ⟨f1, f2⟩ := HRG.out xs (List.mem_of_getElem? hxs) f (List.mem_of_getElem? hff)
        rw [hxl] at hc
        have HN : Hid (cs + f = costA (feeQ Ls) 0 (m.take (k + 1))) := Lib.hid (by rw [costA_take hj, hfee, ← HC.out])
        have hcb : -8388608 ≤ cs ∧ cs ≤ 8388608 := by
          have h1 := costA_abs (fee := feeQ Ls) (feeQ_abs HRG.out) (m.take k) 0
          rw [← HC.out] at h1
          have h2 : ((m.take k).length : Int) * 1048576 ≤ 8 * 1048576 := Int.mul_le_mul_of_nonneg_right (by rw [List.length_take]; omega) (by decide)
          omega
        obtain ⟨cb1, cb2⟩ := hcb
        have ik0 : (0 : Int) ≤ (k : Int) := by omega
        have ik1 : (k : Int) < (n : Int) := by omega
        have ij0 : (0 : Int) ≤ (j : Int) := by omega
        have ij1 : (j : Int) < (n : Int) := by omega
        rw [Nat.zero_add] at hc0
        clear hxs hff hI hfee hj hy0 HC
        go_wp2_with fail
        go_round
        case rel => exact ⟨k + 1, cs + f, rfl, by go_num, by omega, HN⟩
        case measure => simp [intOf]; omega
      · obtain rfl : k = n := by omega
        have hcz : cs = z := by rw [HC.out, List.take_of_length_le (by have := HML.out; omega)]; exact HBEST.out.2
        subst hcz
        clear HC
        by_cases h2 : l2 = k
        · by_cases h3 : l3 = k
          · subst h2
            subst h3
            have HD : Hid (FeeD w2.heap.size A l3 c Ls A2 A3 us vs w2) := Lib.hid ⟨HS.out.go_ HB1.out, HU.out.go_ HB1.out, HV.out.go_ HB1.out⟩
            go_wp2_with fail
            go_loopw [13, 14] (fun x y wr => ∃ (i : Nat) (s : Int), x = .int .i64 s ∧ y = .int .i64 i ∧ i ≤ l3 ∧ Hid (DualS us vs Ls l3 i s) ∧ Hid (∃ q, wr = w2.drewN q)) (fun _ y _ => l3 - (intOf y).toNat)
            case atStart => exact ⟨0, 0, rfl, rfl, Nat.zero_le _, Lib.hid ⟨rfl, by simp, by simp, fun t ht => by omega, fun t ht => by omega, fun t j ht => by omega⟩, Lib.hid ⟨0, rfl⟩⟩
            case round =>
              obtain ⟨i, s, rfl, rfl, hi, HI, HW⟩ := hrel
              have HBw : Hid (Below w.heap.size w wr) := Lib.hid (by
                obtain ⟨q, hq⟩ := HW.out
                rw [hq]; exact below_drewN HB1.out _)
              by_cases hin : i < l3
              · have HDr : Hid (FeeD w2.heap.size A l3 c Ls A2 A3 us vs wr) := Lib.hid (by
                  obtain ⟨q, hq⟩ := HW.out
                  rw [hq]; exact HD.out.drewN q)
                obtain ⟨bu, ou, x, rfl, _, hx, hcu⟩ := HDr.out.iu.at_ hin
                obtain ⟨bv, ov, y, rfl, _, hy, hcv⟩ := HDr.out.iv.at_ hin
                have hxn := numF_at hx
                have hyn := numF_at hy
                have ii0 : (0 : Int) ≤ (i : Int) := by omega
                have ii1 : (i : Int) < (l3 : Int) := by omega
                have hs1 := HI.out.lo
                have hs2 := HI.out.hi
                have hsa : -16777216 ≤ s := by omega
                have hsb : s ≤ 16777216 := by omega
                clear hs1 hs2 hx hy
                by_cases c1 : x < -1048576
                · clear hxn hyn
                  go_wp2_with fail
                  go_ret
                  exact ⟨rfl, HBw.out⟩
                · by_cases c2 : 1048576 < x
                  · clear hxn hyn
                    go_wp2_with fail
                    go_ret
                    exact ⟨rfl, HBw.out⟩
                  · by_cases c3 : y < -1048576
                    · clear hxn hyn
                      go_wp2_with fail
                      go_ret
                      exact ⟨rfl, HBw.out⟩
                    · by_cases c4 : 1048576 < y
                      · clear hxn hyn
                        go_wp2_with fail
                        go_ret
                        exact ⟨rfl, HBw.out⟩
                      · have HX := Lib.hid (And.intro hxn hyn)
                        clear hxn hyn
                        have x1 : -1048576 ≤ x := by omega
                        have x2 : x ≤ 1048576 := by omega
                        have y1 : -1048576 ≤ y := by omega
                        have y2 : y ≤ 1048576 := by omega
                        go_wp2_with fail
                        go_quiet (fail)
                        obtain ⟨q1, hq1⟩ : ∃ q1, wr.drewN nq = w2.drewN q1 := by
                          obtain ⟨q, hq⟩ := HW.out
                          exact ⟨q + nq, by rw [hq, World.drewN_drewN]⟩
                        have HW1 : Hid (∃ q, wr.drewN nq = w2.drewN q) := Lib.hid ⟨q1, hq1⟩
                        clear hq1 hcu hcv
                        obtain ⟨wo, hwo⟩ : ∃ wo, wo = wr.drewN nq := ⟨_, rfl⟩
                        rw [← hwo] at HW1 ⊢
                        clear hwo HBw HDr HW
                        go_wp2_with fail
                        go_loopw [15] (fun jj wr => ∃ j : Nat, jj = .int .i64 j ∧ j ≤ l3 ∧ Hid (∀ t, t < j → IntKind.i64.wrap (numF us i + numF vs t) ≤ feeQ Ls i t) ∧ Hid (∃ q, wr = w2.drewN q)) (fun jj _ => l3 - (intOf jj).toNat)
                        case atStart => exact ⟨0, rfl, Nat.zero_le _, Lib.hid (fun t ht => by omega), HW1.out⟩
                        case round =>
                          clear HW1
                          obtain ⟨j, rfl, hj, HJ3, HW3⟩ := hrel
                          have HBr : Hid (∀ p, Below w.heap.size w (wr.drewN p)) := Lib.hid (fun p => by
                            obtain ⟨q, hq⟩ := HW3.out
                            rw [hq]; exact below_drewN (below_drewN HB1.out _) _)
                          by_cases hjn : j < l3
                          · have HDr : Hid (FeeD w2.heap.size A l3 c Ls (some ⟨bu, ou, none⟩) (some ⟨bv, ov, none⟩) us vs wr) := Lib.hid (by
                              obtain ⟨q, hq⟩ := HW3.out
                              rw [hq]; exact HD.out.drewN q)
                            obtain ⟨_, _, x', e1, _, hx', hcu⟩ := HDr.out.iu.at_ hin
                            injection e1 with e1
                            injection e1 with e1 e2
                            subst e1 e2
                            have hxx : x' = x := by rw [← HX.out.1]; exact (numF_at hx').symm
                            subst hxx
                            obtain ⟨_, _, y', e1, _, hy', hcv⟩ := HDr.out.iv.at_ hjn
                            injection e1 with e1
                            injection e1 with e1 e2
                            subst e1 e2
                            have hyv := numF_at hy'
                            obtain ⟨bb, off, xs, A', c', rfl, _, hxs, hc, hI, _, _⟩ := HDr.out.side.get hin
                            have hxl : xs.length = l3 := by have := HSQ.out xs (List.mem_of_getElem? hxs); rw [this]; exact HDr.out.side.len
                            obtain ⟨b', off', f, rfl, _, hff, hcf⟩ := hI.at_ (show j < xs.length by omega)
                            have hfee := feeQ_at hxs hff
                            rw [hxl] at hc
                            have ij0 : (0 : Int) ≤ (j : Int) := by omega
                            have ij1 : (j : Int) < (l3 : Int) := by omega
                            obtain ⟨sw, hsw⟩ : ∃ sw, IntKind.i64.wrap (x' + y') = sw := ⟨_, rfl⟩
                            have HSW : Hid (IntKind.i64.wrap (numF us i + numF vs j) = sw ∧ feeQ Ls i j = f) := Lib.hid ⟨by rw [HX.out.1, hyv]; exact hsw, hfee⟩
                            clear hx' hy' hxs hff hI hfee hyv
                            by_cases hgt : f < sw
                            · go_wp2_with fail
                              go_quiet (fail)
                              go_wp2_with fail
                              go_ret
                              exact ⟨rfl, HBr.out _⟩
                            · have hgtb : decide (f < sw) = false := decide_eq_false hgt
                              have HN : Hid (∀ t, t < j + 1 → IntKind.i64.wrap (numF us i + numF vs t) ≤ feeQ Ls i t) := Lib.hid fun t ht => by
                                by_cases e : t = j
                                · subst e; rw [HSW.out.1, HSW.out.2]; omega
                                · exact HJ3.out t (by omega)
                              clear hgt
                              go_wp2_with fail
                              go_quiet (fail)
                              have HW4 : Hid (∃ q, wr.drewN nq = w2.drewN q) := Lib.hid (by
                                obtain ⟨q, hq⟩ := HW3.out
                                exact ⟨q + nq, by rw [hq, World.drewN_drewN]⟩)
                              go_wp2_with fail
                              go_roundw
                              case rel => exact ⟨j + 1, by go_num, by omega, HN, HW4⟩
                              case measure => simp [intOf]; omega
                          · obtain rfl : j = l3 := by omega
                            have HN : Hid (DualS us vs Ls j (i + 1) (s + x + y)) := Lib.hid (HI.out.next HX.out.1 HX.out.2 ⟨x1, x2⟩ ⟨y1, y2⟩ HJ3.out)
                            go_wp2_with fail
                            go_roundw
                            case rel => exact ⟨i + 1, s + x + y, rfl, by go_num, by omega, HN, HW3⟩
                            case measure => simp [intOf]; omega
              · obtain rfl : i = l3 := by omega
                have hle : s ≤ cs := by have := HI.out.done; rwa [← HZ.out] at this
                clear HI HD
                go_wp2_with fail
                go_ret
                exact ⟨rfl, HBw.out⟩
          · have h3b : ((l3 : Int) == (k : Int)) = false := by simp; omega
            have h3c : ¬ (l3 : Int) = (k : Int) := by omega
            subst h2
            clear h3
            go_wp2_with fail
            all_goals
              go_ret
              exact ⟨rfl, HB1.out⟩
        · have h2b : ((l2 : Int) == (k : Int)) = false := by simp; omega
          clear h2
          go_wp2_with fail
          go_ret
          exact ⟨rfl, HB1.out⟩
  · have HA := Lib.hid (assign_bad A n c Ls x w S hx h0)
    have hx0 : (x != 0) = true := by simpa using h0
    clear S hx hT h0 hU hV
    go_enter Tryd.func4, Tryd.ntmps4
    go_wp2_with fail
    refine HA.out.mono ?_
    rintro e w1 ⟨rfl, hb1⟩
    have HB1 := Lib.hid hb1
    clear HA hb1
    go_wp2_with fail
    refine ((feesCheck_any A n c Ls w1 (HS.out.go_ HB1.out)).mono (R' := fun e w' => e = .returned (.int .i64 x) ∧ w' = w1) (fun e w' h => by rw [HF.out] at h; exact h)).mono ?_
    rintro e w2 ⟨rfl, rfl⟩
    go_wp2_with fail
    go_ret
    exact ⟨rfl, HB1.out⟩
end Go.Proofs.YtmlmnmphmghdlaaDoor
