/- LineCritical, walked, over what Times tells. -/
import Derived.Test.YthjhndbhebnmjaaTimesTop
import Derived.RegionTactic
namespace Go.Proofs.Ythjhndbhebnmjaa
open Go.RowKit

theorem IntsAt.fn_some {w : World} {B n b off k : Nat} {f : Nat → Int} (h : IntsAt w B (some ⟨b, off, none⟩) n ((List.range n).map f)) (hk : k < n) : w.cell? ⟨b, off + k, none⟩ = some (.int .i64 (f k)) := by
  obtain ⟨b', off', e, _, hc⟩ := h.2 (by omega)
  injection e with e
  injection e with e1 e2
  subst e1 e2
  exact hc k _ (by rw [List.getElem?_map, List.getElem?_range hk]; rfl)
theorem IntsAt.addr {w : World} {B n : Nat} {A : Option Addr} {xs : List Int} (h : IntsAt w B A n xs) (hn : 0 < n) : ∃ b off, A = some ⟨b, off, none⟩ := by
  obtain ⟨b, off, e, _⟩ := h.2 hn
  exact ⟨b, off, e⟩
def tightF (E L : Nat → Int) : Nat → Bool
  | 0 => false
  | k + 1 => tightF E L k || (E k == L k)
theorem tightF_at {E L : Nat → Int} : ∀ (n i : Nat), i < n → E i = L i → tightF E L n = true
  | 0, _, h, _ => absurd h (by omega)
  | n + 1, i, h, e => by
    show (tightF E L n || (E n == L n)) = true
    by_cases h1 : i = n
    · subst h1; simp [e]
    · rw [tightF_at n i (by omega) e]; rfl
structure CritP (js : List JobV) (n : Nat) (E L : Nat → Int) (z : Int) : Prop where
  bd : ∀ i, i < n → 0 ≤ E i ∧ E i ≤ L i ∧ L i + (js.getD i jobD).time ≤ z ∧ 0 ≤ (js.getD i jobD).time ∧ (js.getD i jobD).time ≤ 1048576
  zb : 0 ≤ z ∧ z ≤ 11534336
  aft : ∀ i k, i < n → k < n → hasI (js.getD i jobD).aft (k : Int) = true → E k + (js.getD k jobD).time ≤ E i ∧ L k + (js.getD k jobD).time ≤ L i
  tight : 0 < n → tightF E L n = true
  none : n = 0 → z = 0
theorem crit_all {js : List JobV} {n : Nat} (hn : js.length = n) (h : jobsF js = 0) {l : List Nat} (hl : ordF js js.length [] = some l) : CritP js n (earlyV js) (lateV js) (endV js) := by
  subst hn
  obtain ⟨rk, R⟩ := rank_ex h hl
  have hE := early_is R
  have hT := tail_is R
  have hEB := early_bound h R hE
  have h2 := (jobsF_zero h).2
  have hcrit : ∀ i, i < js.length → earlyV js i + tailV js i ≤ endV js := fun i hi => crit_le R hE hT (js.length - rk i + 1) i (Nat.lt_succ_self _) hi
  refine ⟨fun i hi => ?_, ⟨end_nonneg _ _, ?_⟩, fun i k hi hk ha => ?_, fun h0 => ?_, fun h0 => ?_⟩
  · have h3 := hcrit i hi
    have h4 : (js.getD i jobD).time ≤ tailV js i := t_own hT (i := i) hi
    have h5 := h2 _ (job_mem hi)
    have h6 := hEB i hi
    show 0 ≤ earlyV js i ∧ earlyV js i ≤ endV js - tailV js i ∧ endV js - tailV js i + _ ≤ endV js ∧ _
    omega
  · refine maxI_le (by decide) _ fun q hq => ?_
    have h5 := h2 _ (job_mem (show q < js.length from hq))
    have h6 := hEB q hq
    show earlyV js q + (js.getD q jobD).time ≤ _
    omega
  · have h3 : earlyV js k + (js.getD k jobD).time ≤ earlyV js i := e_after hE (i := i) (k := k) hi hk ha
    have h4 : tailV js i + (js.getD k jobD).time ≤ tailV js k := t_after hT (i := k) (k := i) hk hi ha
    show _ ∧ endV js - tailV js k + _ ≤ endV js - tailV js i
    omega
  · obtain ⟨i, hi, he⟩ := crit_tight R hE hT h0
    refine tightF_at _ i hi ?_
    have he' : earlyV js i + tailV js i = endV js := he
    show earlyV js i = endV js - tailV js i
    omega
  · show maxI (doneF js (earlyV js)) js.length = 0
    rw [h0]; rfl
set_option maxRecDepth 100000 in
set_option maxHeartbeats 4000000 in
theorem lineCritical_of (A : Option Addr) (n c : Nat) (js : List JobV) (w : World) (S : JobsAt w w.heap.size A n js)
    (HO : ∀ W, JobsAt W W.heap.size A n js → Calls Try.prog 11 #[.slice A n c] W (TimesTop W n js)) :
    Calls Try.prog 6 #[.slice A n c] w fun e w' => e = .returned (.bool true) ∧ Below w.heap.size w w' := by
  have HS := Lib.hid S
  have HOO := Lib.hid HO
  have HLN := Lib.hid S.len
  obtain ⟨x, hx⟩ : ∃ x, ordX js = x := ⟨_, rfl⟩
  by_cases h0 : x = 0
  · subst h0
    obtain ⟨hj0, l, hl⟩ := ordX_zero hx
    have hn10 : n ≤ 10 := by have := (jobsF_zero hj0).1; have := S.len; omega
    have HJ := Lib.hid (jobsF_zero hj0).2
    have HC := Lib.hid (crit_all S.len hj0 hl)
    have HX := Lib.hid hx
    clear hj0 hl hx S HO
    obtain ⟨E, hE⟩ : ∃ E, E = earlyV js := ⟨_, rfl⟩
    obtain ⟨L, hL⟩ : ∃ L, L = lateV js := ⟨_, rfl⟩
    obtain ⟨z, hz⟩ : ∃ z, endV js = z := ⟨_, rfl⟩
    have HZ := Lib.hid hz
    have HEE := Lib.hid (And.intro hE hL)
    rw [← hE, ← hL, hz] at HC
    clear hE hL hz
    obtain ⟨z0, z1⟩ := HC.out.zb
    by_cases hn : n = 0
    · subst hn
      have hzz : z = 0 := HC.out.none rfl
      subst hzz
      go_enter Try.func6, Try.ntmps6
      go_wp2_with fail
      refine (HOO.out _ HS.out).mono ?_
      rintro e w1 ⟨_, h2, hB⟩
      obtain ⟨A1, c1, A2, c2, rfl, _, _⟩ := h2 HX.out
      rw [HZ.out]
      have HB1 := Lib.hid hB
      clear h2 hB HOO
      go_wp2_with fail
      go_loop [7, 63] (fun a y => a = .bool true ∧ y = .int .i64 0) (fun _ _ => 0)
      case atStart => exact ⟨rfl, rfl⟩
      case round =>
        obtain ⟨rfl, rfl⟩ := hrel
        go_wp2_with fail
        go_ret
        exact ⟨rfl, HB1.out⟩
    · have hn0 : 0 < n := by omega
      have hnb : ((n : Int) == 0) = false := by simp; omega
      go_enter Try.func6, Try.ntmps6
      go_wp2_with fail
      refine (HOO.out _ HS.out).mono ?_
      rintro e w1 ⟨_, h2, hB⟩
      obtain ⟨A1, c1, A2, c2, rfl, hi1, hi2⟩ := h2 HX.out
      rw [HZ.out]
      rw [← HEE.out.1] at hi1
      rw [← HEE.out.2] at hi2
      obtain ⟨b1, o1, rfl⟩ := hi1.addr hn0
      obtain ⟨b2, o2, rfl⟩ := hi2.addr hn0
      obtain ⟨b, off, _, _, _, rfl, _⟩ := HS.out.get hn0
      have HB1 := Lib.hid hB
      have HI1 := Lib.hid hi1
      have HI2 := Lib.hid hi2
      have HS1 := Lib.hid (HS.out.go_ hB)
      clear h2 hB HOO hi1 hi2
      go_wp2_with fail
      go_loopw [7, 63] (fun a y wr => ∃ i : Nat, i ≤ n ∧ a = .bool (tightF E L i) ∧ y = .int .i64 i ∧ Hid (Below w1.heap.size w1 wr)) (fun _ y _ => n - (intOf y).toNat)
      case atStart => exact ⟨0, Nat.zero_le _, rfl, rfl, Lib.hid (Below.refl _ _)⟩
      case round =>
        obtain ⟨i, hi, rfl, rfl, HB⟩ := hrel
        by_cases hin : i < n
        · obtain ⟨j, A', c', _, hx, hc0, hc1, hc2, hc3, hIa, _, _⟩ := (HS1.out.go_ HB.out).get_some hin
          have HJX : Hid (js.getD i jobD = j) := Lib.hid (job_at hx)
          have hl10 : j.aft.length ≤ 10 := (HJ.out j (List.mem_of_getElem? hx)).1
          have HRA := Lib.hid (HJ.out j (List.mem_of_getElem? hx)).2.2.2
          have HIA := Lib.hid hIa
          have ii0 : (0 : Int) ≤ (i : Int) := by omega
          have ii1 : (i : Int) < (n : Int) := by omega
          obtain ⟨e0, e1, e2, t0, t1⟩ := HC.out.bd i hin
          rw [HJX.out] at e2 t0 t1
          clear hx hIa
          go_wp2
          clear hc0 hc1 hc2 hc3
          obtain ⟨W1, hW1⟩ : ∃ W1, W1 = wr.alloc (.cells #[.int .i64 j.time, .slice A' j.aft.length c', .int .i64 j.due, .int .i64 j.worth] 40) := ⟨_, rfl⟩
          rw [← hW1]
          have HQ1 : Hid (RowOf W1 wr.heap.size 40 [.int .i64 j.time, .slice A' j.aft.length c', .int .i64 j.due, .int .i64 j.worth]) := Lib.hid (by rw [hW1]; exact (MapKept.heap_alloc wr _).1)
          have HBr : Hid (Below wr.heap.size wr W1) := Lib.hid (by rw [hW1]; exact (Below.refl _ _).alloc (Nat.le_refl _) _)
          have HB1' : Hid (Below w1.heap.size w1 W1) := Lib.hid (HB.out.trans (HBr.out.mono HB.out.size))
          have HIA1 := Lib.hid (HIA.out.go_ HBr.out)
          clear hW1
          have y0 : W1.cell? ⟨wr.heap.size, 0, none⟩ = some (.int .i64 j.time) := HQ1.out.cell rfl
          have y1 : W1.cell? ⟨wr.heap.size, 1, none⟩ = some (.slice A' j.aft.length c') := HQ1.out.cell rfl
          have ce := (HI1.out.go_ HB1'.out).fn_some hin
          have cl := (HI2.out.go_ HB1'.out).fn_some hin
          have HTS : Hid (tightF E L (i + 1) = (tightF E L i || (E i == L i))) := Lib.hid rfl
          have HEI := Lib.hid (fun k hk ha => HC.out.aft i k hin hk ha)
          obtain ⟨ei, hei⟩ : ∃ ei, E i = ei := ⟨_, rfl⟩
          obtain ⟨li, hli⟩ : ∃ li, L i = li := ⟨_, rfl⟩
          rw [hei] at ce e0 e1 HTS
          rw [hli] at cl e1 e2 HTS
          have HEL := Lib.hid (And.intro hei hli)
          clear hei hli
          generalize tightF E L i = tf at *
          have d1 : decide (ei < 0) = false := decide_eq_false (by omega)
          have d2 : decide (li < ei) = false := decide_eq_false (by omega)
          have hw1 : IntKind.i64.wrap (li + j.time) = li + j.time := IntWalk.i64_in _ (by omega)
          have d3 : decide (z < li + j.time) = false := decide_eq_false (by omega)
          go_quiet (fail)
          obtain ⟨nt, hnt⟩ : ∃ nt, tightF E L (i + 1) = nt := ⟨_, rfl⟩
          have HNT := Lib.hid hnt
          have hcase : (tf = true ∧ nt = true) ∨ (tf = false ∧ (ei == li) = true ∧ nt = true) ∨ (tf = false ∧ (ei == li) = false ∧ nt = false) := by
            rw [HTS.out] at hnt
            cases tf with
            | true => exact .inl ⟨rfl, by rw [← hnt]; rfl⟩
            | false =>
              cases hq : (ei == li) with
              | true => exact .inr (.inl ⟨rfl, rfl, by rw [← hnt, hq]; rfl⟩)
              | false => exact .inr (.inr ⟨rfl, rfl, by rw [← hnt, hq]; rfl⟩)
          clear hnt HTS
          rcases hcase with ⟨rfl, rfl⟩ | ⟨rfl, hd4, rfl⟩ | ⟨rfl, hd4, rfl⟩
          all_goals
            go_wp2_with fail
            go_quiet (fail)
            go_wp2_with fail
            clear d1 d2 d3 hw1
            go_loopw [110] (fun y wi => ∃ t q : Nat, t ≤ j.aft.length ∧ y = .int .i64 t ∧ wi = W1.drewN q) (fun y _ => j.aft.length - (intOf y).toNat)
            case atStart => exact ⟨0, _, Nat.zero_le _, rfl, rfl⟩
            case round =>
              obtain ⟨t, q, ht, rfl, rfl⟩ := hrel
              by_cases htl : t < j.aft.length
              · obtain ⟨b', off', z', rfl, _, hz, hcz⟩ := HIA1.out.at_ htl
                obtain ⟨g0, g1⟩ := HRA.out z' (List.mem_of_getElem? hz)
                rw [HLN.out] at g1
                obtain ⟨k, rfl⟩ := Int.eq_ofNat_of_zero_le g0
                have hkn : k < n := by omega
                obtain ⟨jk, _, _, _, hxk, htk, _⟩ := (HS1.out.go_ HB1'.out).get_some hkn
                have hjk : js.getD k jobD = jk := job_at hxk
                obtain ⟨r1, r2⟩ := HEI.out k hkn (by rw [HJX.out]; exact hasI_iff.2 (List.mem_of_getElem? hz))
                obtain ⟨s0, s1, s2, s3, s4⟩ := HC.out.bd k hkn
                rw [hjk] at r1 r2 s2 s3 s4
                rw [HEL.out.1] at r1
                rw [HEL.out.2] at r2
                have cek := (HI1.out.go_ HB1'.out).fn_some hkn
                have clk := (HI2.out.go_ HB1'.out).fn_some hkn
                obtain ⟨ek, hek⟩ : ∃ ek, E k = ek := ⟨_, rfl⟩
                obtain ⟨lk, hlk⟩ : ∃ lk, L k = lk := ⟨_, rfl⟩
                rw [hek] at cek s0 s1 r1
                rw [hlk] at clk s1 s2 r2
                have ik0 : (0 : Int) ≤ (k : Int) := by omega
                have ik1 : (k : Int) < (n : Int) := by omega
                have it0 : (0 : Int) ≤ (t : Int) := by omega
                have it1 : (t : Int) < (j.aft.length : Int) := by omega
                have hw2 : IntKind.i64.wrap (ek + jk.time) = ek + jk.time := IntWalk.i64_in _ (by omega)
                have hw3 : IntKind.i64.wrap (lk + jk.time) = lk + jk.time := IntWalk.i64_in _ (by omega)
                have d5 : decide (ei < ek + jk.time) = false := decide_eq_false (by omega)
                have d6 : decide (li < lk + jk.time) = false := decide_eq_false (by omega)
                clear hz hxk hjk hek hlk g0 g1
                go_wp2_with fail
                go_quiet (fail)
                go_wp2
                go_roundw
                case rel => exact ⟨t + 1, _, by omega, by go_num, rfl⟩
                case measure => simp [intOf]; omega
              · obtain rfl : t = j.aft.length := by omega
                go_wp2_with fail
                go_roundw
                case rel => exact ⟨i + 1, by omega, by rw [HNT.out], by go_num, Lib.hid (below_drewN HB1'.out _)⟩
                case measure => simp [intOf]; omega
        · obtain rfl : i = n := by omega
          rw [HC.out.tight hn0]
          have HBE : Hid (Below w.heap.size w wr) := Lib.hid (HB1.out.trans (HB.out.mono HB1.out.size))
          go_wp2_with fail
          go_ret
          exact ⟨rfl, HBE.out⟩
  · have hx0 : (x != 0) = true := by simpa using h0
    have HX := Lib.hid hx
    have HH0 := Lib.hid h0
    clear S HO hx h0
    go_enter Try.func6, Try.ntmps6
    go_wp2_with fail
    refine (HOO.out _ HS.out).mono ?_
    rintro e w1 ⟨h1, _, hB⟩
    obtain rfl := h1 (by rw [HX.out]; exact HH0.out)
    rw [HX.out]
    have HB1 := Lib.hid hB
    clear h1 hB HOO
    go_wp2_with fail
    all_goals go_ret
    all_goals exact ⟨rfl, HB1.out⟩
end Go.Proofs.Ythjhndbhebnmjaa
