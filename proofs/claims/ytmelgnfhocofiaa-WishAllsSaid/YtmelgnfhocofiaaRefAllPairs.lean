/- The reference's pairings, AllPairings. -/
import Derived.Test.YtmelgnfhocofiaaAppRows
import Derived.Test.YtmelgnfhocofiaaLayP
import Derived.Test.YtmelgnfhocofiaaRefHolds
import Derived.Test.YtmelgnfhocofiaaLists
import Derived.Test.YtmelgnfhocofiaaConcat
import Derived.Deep.RegionHeld3
namespace Go.Proofs.Ytmelgnfhocofiaa
open Go.RowKit

section
variable {n : Nat} {Ls Rs : List (List Int)} {pre : List Int}
/-- One who was had, or is no wish of either, leads to none. -/
theorem all_skip {r j : Nat} (h : (j : Int) ∈ pre ∨ (j : Int) ∉ sd Ls pre.length ∨ (pre.length : Int) ∉ sd Rs j) : allP (holdB n (sd Ls) (sd Rs)) n r (pre ++ [(j : Int)]) = [] :=
  allP_none fun y hy => by
    cases hh : holdB n (sd Ls) (sd Rs) y with
    | false => rfl
    | true =>
      obtain ⟨h1, h2, h3⟩ := hold_taken (holdB_iff.1 hh) hy (by omega)
      rw [Int.toNat_natCast] at h3
      rcases h with h | h | h
      · exact absurd h h1
      · exact absurd h2 h
      · exact absurd h3 h
theorem rng_take {k : Nat} (hk : k ≤ n) {α : Type} (q : Int → List α) : ((rngJ n).take (k + 1)).flatMap q = ((rngJ n).take k).flatMap q ++ q ((k : Int) - 1) := by
  have : (rngJ n)[k]? = some ((k : Int) - 1) := by
    unfold rngJ
    rw [List.getElem?_map, List.getElem?_range (by omega)]; rfl
  rw [List.take_add_one, this, List.flatMap_append]
  simp
end
/-- What stands in a round: what lay there, and what was told. -/
structure PrW (w : World) (A1 : Option Addr) (n c1 : Nat) (A2 : Option Addr) (c2 : Nat) (v : Value) (us : List Value) (xss : List (List Int)) (wr : World) : Prop where
  low : Below (w.heap.size + 1) (bxS w A1 n c1 A2 n c2) wr
  out : RowsV wr (w.heap.size + 1) n v us xss
theorem bxS_size (w : World) (A1 : Option Addr) (n1 c1 : Nat) (A2 : Option Addr) (n2 c2 : Nat) : (bxS w A1 n1 c1 A2 n2 c2).heap.size = w.heap.size + 1 := by simp [bxS]
theorem BoxS.of_low {w W : World} {A1 A2 : Option Addr} {n1 c1 n2 c2 : Nat} {Ls Rs : List (List Int)} (S1 : SideAt w w.heap.size A1 n1 c1 Ls) (S2 : SideAt w w.heap.size A2 n2 c2 Rs) (h : Below (w.heap.size + 1) (bxS w A1 n1 c1 A2 n2 c2) W) : BoxS w A1 n1 c1 A2 n2 c2 Ls Rs W := by
  have hb : Below w.heap.size w W := ((Below.refl _ w).alloc (Nat.le_refl _) _).trans (h.mono (Nat.le_succ _))
  have hs := hb.size
  exact ⟨(S1.below hb).more hs, (S2.below hb).more hs, hb, by rw [bxS_size]; exact h⟩
set_option maxRecDepth 100000 in
set_option maxHeartbeats 16000000 in
theorem pairings_any (A1 A2 : Option Addr) (n c1 c2 : Nat) (Ls Rs : List (List Int)) (hn : n ≤ 8) (o1 : ∀ l ∈ Ls, eachB n l = true) (o2 : ∀ l ∈ Rs, eachB n l = true) :
    ∀ (r m : Nat) (A : Option Addr) (cap : Nat) (pre : List Int) (w : World), m + r = n → PreOK n pre → ArgAt w A m cap pre → SideAt w w.heap.size A1 n c1 Ls → SideAt w w.heap.size A2 n c2 Rs →
    Calls Try.prog 41 #[.agg #[.slice A1 n c1, .slice A2 n c2], .slice A m cap] w fun e w' => ∃ A' c', e = .returned (.slice A' (allP (holdB n (sd Ls) (sd Rs)) n r pre).length c') ∧ OutV w' w.heap.size n (.slice A' (allP (holdB n (sd Ls) (sd Rs)) n r pre).length c') (allP (holdB n (sd Ls) (sd Rs)) n r pre) ∧ Below w.heap.size w w' := by
  intro r
  induction r with
  | zero =>
    intro m A cap pre w hmr HP HA S1 S2
    obtain rfl : m = n := by omega
    have HX := Lib.hid (BoxS.start S1 S2)
    have hk0 := HX.out.k0
    have hk1 := HX.out.k1
    have HA0 := Lib.hid HA
    obtain ⟨q, hq⟩ : ∃ q, holdB m (sd Ls) (sd Rs) pre = q := ⟨_, rfl⟩
    have HH := Lib.hid (fun W (h1 : BoxS w A1 m c1 A2 m c2 Ls Rs W) (h2 : IntsAt W W.heap.size A m pre) => refHolds_any A1 A2 A m c1 c2 cap Ls Rs pre q W h1.left h1.right h2 hn (HP.full HA.1) o1 o2 (by rw [← hq, holdB_iff]))
    have hmm : ((m : Int) == (m : Int)) = true := by simp
    cases q with
    | false =>
      have HE : Hid (allP (holdB m (sd Ls) (sd Rs)) m 0 pre = []) := Lib.hid (by unfold allP; rw [hq]; rfl)
      clear HP HA S1 S2 o1 o2 hq
      go_enter Try.func41, Try.ntmps41
      go_wp2_with fail
      refine (HH.out _ (by exact HX.out) (by exact HA0.out.ints.go_ HX.out.below)).mono ?_
      rintro e w1 ⟨rfl, hb1⟩
      have HX1 := Lib.hid (HX.out.next hb1)
      clear hb1 HH
      go_wp2_with fail
      go_ret
      exact ⟨none, 0, by rw [HE.out]; rfl, by rw [HE.out]; exact ⟨[], RowsV.nil ..⟩, HX1.out.below⟩
    | true =>
      have HE : Hid (allP (holdB m (sd Ls) (sd Rs)) m 0 pre = [pre]) := Lib.hid (by unfold allP; rw [hq]; rfl)
      clear HP HA S1 S2 o1 o2 hq
      go_enter Try.func41, Try.ntmps41
      go_wp2_with fail
      refine (HH.out _ (by exact HX.out) (by exact HA0.out.ints.go_ HX.out.below)).mono ?_
      rintro e w1 ⟨rfl, hb1⟩
      have HX1 := Lib.hid (HX.out.next hb1)
      clear hb1 HH
      go_wp2_with fail
      go_ret
      have h5 := RowsV.one (HA0.out.keep HX1.out.below)
      refine ⟨some ⟨w1.heap.size, 0, none⟩, 1, by rw [HE.out]; rfl, ?_, HX1.out.below.alloc HX1.out.below.size _⟩
      rw [HE.out]
      exact ⟨_, h5.low HX1.out.below.size⟩
  | succ r IH =>
    intro m A cap pre w hmr HP HA S1 S2
    have hmn : m < n := by omega
    have hpl := HA.1
    have HIH := Lib.hid IH
    have HPO := Lib.hid HP
    have HX := Lib.hid (BoxS.start S1 S2)
    have hk0 := HX.out.k0
    have hk1 := HX.out.k1
    have HBOX := Lib.hid (fun W (h : Below (w.heap.size + 1) (bxS w A1 n c1 A2 n c2) W) => BoxS.of_low S1 S2 h)
    have HARW := Lib.hid (fun W (h : Below w.heap.size w W) => ArgAt.keep HA h)
    have HO1 := Lib.hid o1
    have HO2 := Lib.hid o2
    have hne : ((m : Int) == (n : Int)) = false := by simp; omega
    obtain ⟨q, hq⟩ : ∃ q : Int → List (List Int), q = fun x => allP (holdB n (sd Ls) (sd Rs)) n r (pre ++ [x]) := ⟨_, rfl⟩
    have HALL : Hid (allP (holdB n (sd Ls) (sd Rs)) n (r + 1) pre = ((rngJ n).take (n + 1)).flatMap q) := Lib.hid (by
      rw [List.take_of_length_le (by rw [rngJ_len]; exact Nat.le_refl _), hq]; rfl)
    have HQL : Hid (∀ k, k ≤ n + 1 → (((rngJ n).take k).flatMap q).length ≤ 9 * 43046721) := Lib.hid fun k hk => by
      have h1 := flat_len q 43046721 ((rngJ n).take k) fun x _ => by
        rw [hq]
        refine Nat.le_trans (allP_len hn r _) (Nat.le_trans (Nat.pow_le_pow_right (by decide) (by omega : r ≤ 8)) (by decide : 9 ^ 8 ≤ 43046721))
      have h2 : ((rngJ n).take k).length ≤ 9 := by
        rw [List.length_take, rngJ_len]
        omega
      exact Nat.le_trans h1 (Nat.mul_le_mul_right _ h2)
    have HQ := Lib.hid hq
    have HPL := Lib.hid hpl
    have HS0 : Hid (PrW w A1 n c1 A2 c2 (.slice none 0 0) [] (((rngJ n).take 0).flatMap q) (bxS w A1 n c1 A2 n c2)) := Lib.hid ⟨Below.refl _ _, RowsV.nil ..⟩
    have hl0 : (((rngJ n).take 0).flatMap q).length = 0 := rfl
    obtain ⟨i0, hi0, hz0, hz1, hz2⟩ := info_parts infoInt
    obtain ⟨i1, hi1, hy0, hy1, hy2⟩ := info_parts infoIntsC
    have HI0 := Lib.hid (And.intro hi0 (And.intro hz0 (And.intro hz1 hz2)))
    have HI1 := Lib.hid (And.intro hi1 (And.intro hy0 (And.intro hy1 hy2)))
    clear HP HA S1 S2 o1 o2 hq hi0 hz0 hz1 hz2 hi1 hy0 hy1 hy2 hpl IH hl0
    go_enter Try.func41, Try.ntmps41
    go_wp2_with fail
    clear hk0 hk1
    go_loopw [5, 6] (fun v t wr => ∃ (k : Nat) (Ao : Option Addr) (co cnt : Nat) (us : List Value), k ≤ n + 1 ∧ t = .int .i64 ((k : Int) - 1) ∧ v = .slice Ao cnt co ∧ Hid (cnt = (((rngJ n).take k).flatMap q).length ∧ PrW w A1 n c1 A2 c2 (.slice Ao cnt co) us (((rngJ n).take k).flatMap q) wr)) (fun _ t _ => n + 1 - (intOf t + 1).toNat)
    case atStart => exact ⟨0, none, 0, 0, [], by omega, rfl, rfl, Lib.hid ⟨rfl, HS0.out⟩⟩
    case round =>
      clear HS0 HX
      obtain ⟨k, Ao, co, cnt, us, hk, rfl, rfl, HR⟩ := hrel
      have HBX := Lib.hid (HBOX.out wr HR.out.2.low)
      have HARG := Lib.hid (HARW.out wr HBX.out.below)
      have k0 := HBX.out.k0
      have k1 := HBX.out.k1
      have hlt := HBX.out.lt
      rcases Nat.eq_zero_or_pos k with rfl | hkp
      · have hj0 : ((0 : Nat) : Int) - 1 = -1 := by decide
        rw [hj0]
        have hjl : (-1 : Int) < (n : Int) := by omega
        have HPN := Lib.hid (HPO.out.next (x := -1) (by rw [HPL.out]; exact hmn) (.inl rfl) (.inl rfl))
        have HNX := Lib.hid (rng_take (n := n) (Nat.zero_le n) q)
        rw [hj0] at HNX
        have HBN := Lib.hid (HQL.out (0 + 1) (by omega))
        have HB0 := Lib.hid (HQL.out 0 (by omega))
        go_wp2_with fail
        have HOU := Lib.hid HR.out.2
        have HCN := Lib.hid HR.out.1
        have hm8 : m ≤ 100000 := by omega
        have hmr2 : m + 1 + r = n := by omega
        have HCALL := Lib.hid (fun A5 c5 w5 (hb5 : Below wr.heap.size wr w5) (ha5 : ArgAt w5 A5 (m + 1) c5 (pre ++ [(-1)])) => HIH.out (m + 1) A5 c5 (pre ++ [(-1)]) w5 hmr2 HPN.out ha5 (HBX.out.next hb5).left (HBX.out.next hb5).right)
        have HQJ : Hid (allP (holdB n (sd Ls) (sd Rs)) n r (pre ++ [(-1)]) = q (-1)) := Lib.hid (by rw [HQ.out])
        rw [HQJ.out] at HCALL
        obtain ⟨xs6, hx6⟩ : ∃ xs6, xs6 = q (-1) := ⟨_, rfl⟩
        rw [← hx6] at HCALL
        obtain ⟨cnt6, hc6⟩ : ∃ cnt6, cnt6 = xs6.length := ⟨_, rfl⟩
        rw [← hc6] at HCALL
        have HX6 := Lib.hid hx6
        have HC6 := Lib.hid hc6
        have hsum : cnt + cnt6 ≤ 1000000000 := by
          have h1 := HBN.out
          rw [HNX.out, List.length_append, ← hx6, ← hc6, ← HCN.out] at h1
          omega
        clear HR hx6 hc6
        go_region_held3 (fun W => W.cell? ⟨w.heap.size, 0, none⟩ = some (.slice A1 n c1) ∧ W.cell? ⟨w.heap.size, 1, none⟩ = some (.slice A2 n c2))
          (first | exact ⟨k0, k1⟩ | exact keep_alloc (by assumption) | exact hq7.out | exact hq6.out | exact hq5.out | exact hq4.out)
          (first
            | (refine step_app_new rfl (.tmp 56) (.tmp 57) rfl wr wr.heap.size A m cap pre rfl rfl (by first | exact below_two wr _ _ | exact (Below.refl _ wr).drew.alloc (Nat.le_refl _) _) (Nat.le_refl _) (by first | exact heap_two_old wr.drew _ _ | exact heap_alloc_new wr.drew _) HARG.out hm8 ?_; intro A4 c4 w4 hown4 hb4 hs4 hk4; have HB4 := Lib.hid hb4; have HO4 := Lib.hid hown4; have HK4 := Lib.hid hk4; have HS4 := Lib.hid hs4; have hq4 := Lib.hid (And.intro ((HBX.out.next hb4).k0) ((HBX.out.next hb4).k1)); clear hown4 hb4 hs4 hk4)
            | (refine step_app_new rfl (.tmp 56) (.tmp 57) rfl wr (wr.heap.size + 1) A m cap pre rfl rfl (below_two wr _ _) (Nat.le_succ _) (heap_two_new wr.drew _ _) HARG.out hm8 ?_; intro A4 c4 w4 hown4 hb4 hs4 hk4; have HB4 := Lib.hid hb4; have HO4 := Lib.hid hown4; have HK4 := Lib.hid hk4; have HS4 := Lib.hid hs4; have hq4 := Lib.hid (And.intro ((HBX.out.next hb4).k0) ((HBX.out.next hb4).k1)); clear hown4 hb4 hs4 hk4)
            | (refine step_app_one rfl (.tmp 58) (.tmp 60) rfl wr w4.heap.size A4 m c4 pre (-1) rfl rfl (HB4.out.alloc HB4.out.size _) (HO4.out.alloc _) (heap_alloc_new w4 _) hm8 ?_; intro A5 c5 w5 ha5 hb5; have HA5 := Lib.hid ha5; have HB5 := Lib.hid hb5; have hq5 := Lib.hid (And.intro ((HBX.out.next hb5).k0) ((HBX.out.next hb5).k1)); clear ha5 hb5)
            | (refine step_app_one rfl (.tmp 58) (.tmp 60) rfl wr (wr.heap.size + 1) A4 m c4 pre (-1) rfl rfl HB4.out HO4.out ((HK4.out (wr.heap.size + 1) (by simp) (by omega)).trans (heap_two_new wr.drew _ _)) hm8 ?_; intro A5 c5 w5 ha5 hb5; have HA5 := Lib.hid ha5; have HB5 := Lib.hid hb5; have hq5 := Lib.hid (And.intro ((HBX.out.next hb5).k0) ((HBX.out.next hb5).k1)); clear ha5 hb5)
            | (refine step_app_one rfl (.tmp 58) (.tmp 60) rfl wr wr.heap.size A4 m c4 pre (-1) rfl rfl HB4.out HO4.out ((HK4.out wr.heap.size (by simp; omega) (by omega)).trans (heap_two_old wr.drew _ _)) hm8 ?_; intro A5 c5 w5 ha5 hb5; have HA5 := Lib.hid ha5; have HB5 := Lib.hid hb5; have hq5 := Lib.hid (And.intro ((HBX.out.next hb5).k0) ((HBX.out.next hb5).k1)); clear ha5 hb5)
            | (refine step_app_rows infoIntsC rfl (.tmp 54) (.tmp 62) rfl (w.heap.size + 1) w5.heap.size n cnt cnt6 co c6 Ao A6 us us6 _ xs6 rfl rfl HCN.out HC6.out (HOU.out.out.keep HB56.out) HR6.out hsum (by have := HB56.out.size; have := hlt; omega) ?_; intro A7 c7 w7 hr7 hg7; have HR7 := Lib.hid hr7; have HL7 : Hid (Below (w.heap.size + 1) (bxS w A1 n c1 A2 n c2) w7) := Lib.hid ((HOU.out.low.trans (HB56.out.mono hlt)).grown hg7 (by have := HB56.out.size; have := hlt; omega) (fun k hk => own_base HOU.out.out.own k hk)); have hq7 := Lib.hid (And.intro ((HBOX.out w7 HL7.out).k0) ((HBOX.out w7 HL7.out).k1)); clear hr7 hg7)
            | (go_at_call 41; refine (HCALL.out _ _ _ HB5.out HA5.out).mono ?_; rintro e w6 ⟨A6, c6, rfl, hr6, hb6⟩; obtain ⟨us6, hr6⟩ := hr6; have HR6 := Lib.hid hr6; have HB56 : Hid (Below wr.heap.size wr w6) := Lib.hid (HB5.out.trans (hb6.mono HB5.out.size)); have hq6 := Lib.hid (And.intro ((HBX.out.next HB56.out).k0) ((HBX.out.next HB56.out).k1)); clear hr6 hb6))
        all_goals
          have HN : Hid (cnt + cnt6 = (((rngJ n).take (0 + 1)).flatMap q).length ∧ PrW w A1 n c1 A2 c2 (.slice A7 (cnt + cnt6) c7) (us ++ us6) (((rngJ n).take (0 + 1)).flatMap q) w7) := Lib.hid (by
            rw [HNX.out, ← HX6.out]
            exact ⟨by rw [List.length_append, ← HCN.out, ← HC6.out], HL7.out, HR7.out⟩)
          clear HCALL HR7 HL7 HNX HBN HB0 HOU
          go_wp2_with fail
          go_roundw
          case rel => exact ⟨0 + 1, A7, c7, cnt + cnt6, us ++ us6, by omega, by go_num, rfl, HN⟩
          case measure => first | (simp [intOf]; done) | (simp [intOf]; omega)
      · obtain ⟨j, rfl⟩ : ∃ j, k = j + 1 := ⟨k - 1, by omega⟩
        have hjj : ((j + 1 : Nat) : Int) - 1 = (j : Int) := by omega
        rw [hjj]
        by_cases hjn : j < n
        · have hjl : (j : Int) < (n : Int) := by omega
          have hj0 : (j : Int) ≥ 0 := by omega
          have hm0 : (0 : Int) ≤ (m : Int) := by omega
          have hm1 : (m : Int) < (n : Int) := by omega
          obtain ⟨v1, hv1⟩ : ∃ v, hasI pre (j : Int) = v := ⟨_, rfl⟩
          have HH1 := Lib.hid (has_v m cap (j : Int) v1 A pre wr HARG.out.ints (by omega) hv1)
          have HNX := Lib.hid (rng_take (n := n) (k := j + 1) (by omega) q)
          rw [hjj] at HNX
          have HBN := Lib.hid (HQL.out (j + 1 + 1) (by omega))
          have HB0 := Lib.hid (HQL.out (j + 1) (by omega))
          have HSKIP : Hid (((j : Int) ∈ pre ∨ (j : Int) ∉ sd Ls m ∨ (m : Int) ∉ sd Rs j) → PrW w A1 n c1 A2 c2 (.slice Ao cnt co) us (((rngJ n).take (j + 1 + 1)).flatMap q) wr ∧ cnt = (((rngJ n).take (j + 1 + 1)).flatMap q).length) := Lib.hid fun h => by
            have e : q (j : Int) = [] := by rw [HQ.out]; exact all_skip (by rw [HPL.out]; exact h)
            rw [HNX.out, e, List.append_nil]
            exact ⟨HR.out.2, HR.out.1⟩
          have HJN := Lib.hid hjn
          cases v1 with
          | true =>
            have HN := Lib.hid (HSKIP.out (.inl (hasI_iff.1 hv1)))
            clear hv1 HR HNX HBN HB0 HSKIP
            go_wp2_with fail
            refine HH1.out.mono ?_
            rintro e w2 ⟨rfl, rfl⟩
            clear HH1
            go_wp2_with fail
            go_roundw
            case rel => exact ⟨j + 1 + 1, Ao, co, cnt, us, by have := HJN.out; omega, by go_num, rfl, Lib.hid ⟨HN.out.2, HN.out.1⟩⟩
            case measure => have := HJN.out; simp [intOf]; omega
          | false =>
            obtain ⟨b1, f1, l1, B1, d1, hA1, _, hl1, hc1, hB1, _, hd1⟩ := HBX.out.left.get hmn
            obtain ⟨b2, f2, l2, B2, d2, hA2, _, hl2, hc2, hB2, _, hd2⟩ := HBX.out.right.get hjn
            subst hA1 hA2
            have m1 : l1.length ≤ 8 := Nat.le_trans (len_le (eachB_iff.1 (HO1.out l1 (List.mem_of_getElem? hl1))).1 (eachB_iff.1 (HO1.out l1 (List.mem_of_getElem? hl1))).2) hn
            have m2 : l2.length ≤ 8 := Nat.le_trans (len_le (eachB_iff.1 (HO2.out l2 (List.mem_of_getElem? hl2))).1 (eachB_iff.1 (HO2.out l2 (List.mem_of_getElem? hl2))).2) hn
            obtain ⟨v2, hv2⟩ : ∃ v, hasI l1 (j : Int) = v := ⟨_, rfl⟩
            obtain ⟨v3, hv3⟩ : ∃ v, hasI l2 (m : Int) = v := ⟨_, rfl⟩
            have HH2 := Lib.hid (has_v l1.length d1 (j : Int) v2 B1 l1 wr hB1 (by omega) hv2)
            have HH3 := Lib.hid (has_v l2.length d2 (m : Int) v3 B2 l2 wr hB2 (by omega) hv3)
            have HM2 : Hid (v2 = true ↔ (j : Int) ∈ sd Ls m) := Lib.hid (by rw [sd_of hl1, ← hv2, hasI_iff])
            have HM3 : Hid (v3 = true ↔ (m : Int) ∈ sd Rs j) := Lib.hid (by rw [sd_of hl2, ← hv3, hasI_iff])
            have HV1 := Lib.hid hv1
            clear hv1 hv2 hv3 hl1 hl2 hB1 hB2
            cases v2 with
            | false =>
              have HN := Lib.hid (HSKIP.out (.inr (.inl fun h => by have := HM2.out.2 h; cases this)))
              clear HR HNX HBN HB0 HSKIP HM2 HM3 HH3
              go_wp2_with fail
              refine HH1.out.mono ?_
              rintro e w2 ⟨rfl, rfl⟩
              clear HH1
              go_wp2_with fail
              refine HH2.out.mono ?_
              rintro e w2 ⟨rfl, rfl⟩
              clear HH2
              go_wp2_with fail
              go_roundw
              case rel => exact ⟨j + 1 + 1, Ao, co, cnt, us, by have := HJN.out; omega, by go_num, rfl, Lib.hid ⟨HN.out.2, HN.out.1⟩⟩
              case measure => have := HJN.out; simp [intOf]; omega
            | true =>
              cases v3 with
              | false =>
                have HN := Lib.hid (HSKIP.out (.inr (.inr fun h => by have := HM3.out.2 h; cases this)))
                clear HR HNX HBN HB0 HSKIP HM2 HM3
                go_wp2_with fail
                refine HH1.out.mono ?_
                rintro e w2 ⟨rfl, rfl⟩
                clear HH1
                go_wp2_with fail
                refine HH2.out.mono ?_
                rintro e w2 ⟨rfl, rfl⟩
                clear HH2
                go_wp2_with fail
                refine HH3.out.mono ?_
                rintro e w2 ⟨rfl, rfl⟩
                clear HH3
                go_wp2_with fail
                go_roundw
                case rel => exact ⟨j + 1 + 1, Ao, co, cnt, us, by have := HJN.out; omega, by go_num, rfl, Lib.hid ⟨HN.out.2, HN.out.1⟩⟩
                case measure => have := HJN.out; simp [intOf]; omega
              | true =>
                have HPN := Lib.hid (HPO.out.next (x := (j : Int)) (by rw [HPL.out]; exact hmn) (.inr ⟨by omega, hjl⟩) (.inr fun h => by have := hasI_iff.2 h; rw [HV1.out] at this; cases this))
                clear HSKIP HM2 HM3
                go_wp2_with fail
                refine HH1.out.mono ?_
                rintro e w2 ⟨rfl, rfl⟩
                clear HH1
                go_wp2_with fail
                refine HH2.out.mono ?_
                rintro e w2 ⟨rfl, rfl⟩
                clear HH2
                go_wp2_with fail
                refine HH3.out.mono ?_
                rintro e w2 ⟨rfl, rfl⟩
                clear HH3
                go_wp2_with fail
                have HOU := Lib.hid HR.out.2
                have HCN := Lib.hid HR.out.1
                have hm8 : m ≤ 100000 := by omega
                have hmr2 : m + 1 + r = n := by omega
                have HCALL := Lib.hid (fun A5 c5 w5 (hb5 : Below wr.heap.size wr w5) (ha5 : ArgAt w5 A5 (m + 1) c5 (pre ++ [(j : Int)])) => HIH.out (m + 1) A5 c5 (pre ++ [(j : Int)]) w5 hmr2 HPN.out ha5 (HBX.out.next hb5).left (HBX.out.next hb5).right)
                have HQJ : Hid (allP (holdB n (sd Ls) (sd Rs)) n r (pre ++ [(j : Int)]) = q (j : Int)) := Lib.hid (by rw [HQ.out])
                rw [HQJ.out] at HCALL
                obtain ⟨xs6, hx6⟩ : ∃ xs6, xs6 = q (j : Int) := ⟨_, rfl⟩
                rw [← hx6] at HCALL
                obtain ⟨cnt6, hc6⟩ : ∃ cnt6, cnt6 = xs6.length := ⟨_, rfl⟩
                rw [← hc6] at HCALL
                have HX6 := Lib.hid hx6
                have HC6 := Lib.hid hc6
                have hsum : cnt + cnt6 ≤ 1000000000 := by
                  have h1 := HBN.out
                  rw [HNX.out, List.length_append, ← hx6, ← hc6, ← HCN.out] at h1
                  omega
                clear HR hx6 hc6
                go_region_held3 (fun W => W.cell? ⟨w.heap.size, 0, none⟩ = some (.slice (some ⟨b1, f1, none⟩) n c1) ∧ W.cell? ⟨w.heap.size, 1, none⟩ = some (.slice (some ⟨b2, f2, none⟩) n c2))
                  (first | exact ⟨k0, k1⟩ | exact keep_alloc (by assumption) | exact hq7.out | exact hq6.out | exact hq5.out | exact hq4.out)
                  (first
                    | (refine step_app_new rfl (.tmp 56) (.tmp 57) rfl wr wr.heap.size A m cap pre rfl rfl (by first | exact below_two wr _ _ | exact (Below.refl _ wr).drew.alloc (Nat.le_refl _) _) (Nat.le_refl _) (by first | exact heap_two_old wr.drew _ _ | exact heap_alloc_new wr.drew _) HARG.out hm8 ?_; intro A4 c4 w4 hown4 hb4 hs4 hk4; have HB4 := Lib.hid hb4; have HO4 := Lib.hid hown4; have HK4 := Lib.hid hk4; have HS4 := Lib.hid hs4; have hq4 := Lib.hid (And.intro ((HBX.out.next hb4).k0) ((HBX.out.next hb4).k1)); clear hown4 hb4 hs4 hk4)
                    | (refine step_app_new rfl (.tmp 56) (.tmp 57) rfl wr (wr.heap.size + 1) A m cap pre rfl rfl (below_two wr _ _) (Nat.le_succ _) (heap_two_new wr.drew _ _) HARG.out hm8 ?_; intro A4 c4 w4 hown4 hb4 hs4 hk4; have HB4 := Lib.hid hb4; have HO4 := Lib.hid hown4; have HK4 := Lib.hid hk4; have HS4 := Lib.hid hs4; have hq4 := Lib.hid (And.intro ((HBX.out.next hb4).k0) ((HBX.out.next hb4).k1)); clear hown4 hb4 hs4 hk4)
                    | (refine step_app_one rfl (.tmp 58) (.tmp 60) rfl wr w4.heap.size A4 m c4 pre (j : Int) rfl rfl (HB4.out.alloc HB4.out.size _) (HO4.out.alloc _) (heap_alloc_new w4 _) hm8 ?_; intro A5 c5 w5 ha5 hb5; have HA5 := Lib.hid ha5; have HB5 := Lib.hid hb5; have hq5 := Lib.hid (And.intro ((HBX.out.next hb5).k0) ((HBX.out.next hb5).k1)); clear ha5 hb5)
                    | (refine step_app_one rfl (.tmp 58) (.tmp 60) rfl wr (wr.heap.size + 1) A4 m c4 pre (j : Int) rfl rfl HB4.out HO4.out ((HK4.out (wr.heap.size + 1) (by simp) (by omega)).trans (heap_two_new wr.drew _ _)) hm8 ?_; intro A5 c5 w5 ha5 hb5; have HA5 := Lib.hid ha5; have HB5 := Lib.hid hb5; have hq5 := Lib.hid (And.intro ((HBX.out.next hb5).k0) ((HBX.out.next hb5).k1)); clear ha5 hb5)
                    | (refine step_app_one rfl (.tmp 58) (.tmp 60) rfl wr wr.heap.size A4 m c4 pre (j : Int) rfl rfl HB4.out HO4.out ((HK4.out wr.heap.size (by simp; omega) (by omega)).trans (heap_two_old wr.drew _ _)) hm8 ?_; intro A5 c5 w5 ha5 hb5; have HA5 := Lib.hid ha5; have HB5 := Lib.hid hb5; have hq5 := Lib.hid (And.intro ((HBX.out.next hb5).k0) ((HBX.out.next hb5).k1)); clear ha5 hb5)
                    | (refine step_app_rows infoIntsC rfl (.tmp 54) (.tmp 62) rfl (w.heap.size + 1) w5.heap.size n cnt cnt6 co c6 Ao A6 us us6 _ xs6 rfl rfl HCN.out HC6.out (HOU.out.out.keep HB56.out) HR6.out hsum (by have := HB56.out.size; have := hlt; omega) ?_; intro A7 c7 w7 hr7 hg7; have HR7 := Lib.hid hr7; have HL7 : Hid (Below (w.heap.size + 1) (bxS w (some ⟨b1, f1, none⟩) n c1 (some ⟨b2, f2, none⟩) n c2) w7) := Lib.hid ((HOU.out.low.trans (HB56.out.mono hlt)).grown hg7 (by have := HB56.out.size; have := hlt; omega) (fun k hk => own_base HOU.out.out.own k hk)); have hq7 := Lib.hid (And.intro ((HBOX.out w7 HL7.out).k0) ((HBOX.out w7 HL7.out).k1)); clear hr7 hg7)
                    | (go_at_call 41; refine (HCALL.out _ _ _ HB5.out HA5.out).mono ?_; rintro e w6 ⟨A6, c6, rfl, hr6, hb6⟩; obtain ⟨us6, hr6⟩ := hr6; have HR6 := Lib.hid hr6; have HB56 : Hid (Below wr.heap.size wr w6) := Lib.hid (HB5.out.trans (hb6.mono HB5.out.size)); have hq6 := Lib.hid (And.intro ((HBX.out.next HB56.out).k0) ((HBX.out.next HB56.out).k1)); clear hr6 hb6))
                all_goals
                  have HN : Hid (cnt + cnt6 = (((rngJ n).take ((j + 1) + 1)).flatMap q).length ∧ PrW w (some ⟨b1, f1, none⟩) n c1 (some ⟨b2, f2, none⟩) c2 (.slice A7 (cnt + cnt6) c7) (us ++ us6) (((rngJ n).take ((j + 1) + 1)).flatMap q) w7) := Lib.hid (by
                    rw [HNX.out, ← HX6.out]
                    exact ⟨by rw [List.length_append, ← HCN.out, ← HC6.out], HL7.out, HR7.out⟩)
                  clear HCALL HR7 HL7 HNX HBN HB0 HOU
                  go_wp2_with fail
                  go_roundw
                  case rel => exact ⟨(j + 1) + 1, A7, c7, cnt + cnt6, us ++ us6, by omega, by go_num, rfl, HN⟩
                  case measure => first | (simp [intOf]; done) | (simp [intOf]; omega)
        · obtain rfl : j = n := by omega
          have hjl : ¬ (j : Int) < (j : Int) := by omega
          have HE : Hid (cnt = (allP (holdB j (sd Ls) (sd Rs)) j (r + 1) pre).length ∧ OutV wr w.heap.size j (.slice Ao cnt co) (allP (holdB j (sd Ls) (sd Rs)) j (r + 1) pre) ∧ Below w.heap.size w wr) := Lib.hid (by
            rw [HALL.out]
            exact ⟨HR.out.1, ⟨us, HR.out.2.out.low (Nat.le_succ _)⟩, HBX.out.below⟩)
          clear HR HBX
          go_wp2_with fail
          go_ret
          exact ⟨Ao, co, by rw [← HE.out.1]; rfl, by rw [← HE.out.1]; exact HE.out.2.1, HE.out.2.2⟩
end Go.Proofs.Ytmelgnfhocofiaa
