/- The reference's tail: how long it takes from a job's beginning to the end of all that hangs on it. Conditions: jobs without fault, ranked. -/
import Derived.Test.YthjhndbhebnmjaaRefEarly
namespace Go.Proofs.Ythjhndbhebnmjaa
open Go.RowKit

/-- What those that wait for i take. -/
def tailF (js : List JobV) (T : Nat → Int) (i k : Nat) : Int := if (jobsP js).aft k i = true then T k else 0
theorem t_le {J : JobsP} {rk : Nat → Nat} {T : Nat → Int} (R : RankP J rk) (h : IsT J T) {B : Int} (hB : ∀ i, i < J.n → J.time i ≤ B) (hB0 : 0 ≤ B) : ∀ m i, J.n - rk i ≤ m → i < J.n → T i ≤ m * B
  | 0, i, hm, hi => absurd (R.lt i hi) (by omega)
  | m + 1, i, hm, hi => by
    have h1 : maxI (fun k => if J.aft k i = true then T k else 0) J.n ≤ m * B := maxI_le (Int.mul_nonneg (by omega) hB0) _ fun k hk => by
      show (if J.aft k i = true then T k else 0) ≤ m * B
      by_cases ha : J.aft k i = true
      · rw [if_pos ha]
        have h2 := (R.up k i hk ha).2
        exact t_le R h hB hB0 m k (by omega) hk
      · rw [if_neg ha]; exact Int.mul_nonneg (by omega) hB0
    have h2 := hB i hi
    rw [h i hi]
    have h3 : ((m + 1 : Nat) : Int) * B = m * B + B := by rw [Int.natCast_add, Int.add_mul]; simp
    omega
theorem tail_bound {js : List JobV} {rk : Nat → Nat} {T : Nat → Int} (hz : jobsF js = 0) (R : RankP (jobsP js) rk) (hT : IsT (jobsP js) T) : ∀ i, i < js.length → 0 ≤ T i ∧ T i ≤ 10485760 := fun i hi => by
  obtain ⟨h1, h2⟩ := jobsF_zero hz
  have hb : ∀ k, k < (jobsP js).n → 0 ≤ (jobsP js).time k ∧ (jobsP js).time k ≤ 1048576 := fun k hk => by
    have hk' : k < js.length := hk
    show 0 ≤ (js.getD k jobD).time ∧ (js.getD k jobD).time ≤ _
    rw [List.getD_eq_getElem?_getD, List.getElem?_eq_getElem hk']
    exact ⟨(h2 _ (List.getElem_mem _)).2.1, (h2 _ (List.getElem_mem _)).2.2.1⟩
  have h3 := t_le R hT (fun k hk => (hb k hk).2) (by decide) 10 i (by show js.length - rk i ≤ 10; omega) hi
  have h4 := t_own hT (i := i) hi
  have h5 := (hb i hi).1
  omega
set_option maxRecDepth 100000 in
set_option maxHeartbeats 4000000 in
theorem refTail_any (A : Option Addr) (n c : Nat) (js : List JobV) (rk : Nat → Nat) (T : Nat → Int) (w : World) (S : JobsAt w w.heap.size A n js) (hz : jobsF js = 0) (hR : RankP (jobsP js) rk) (hT : IsT (jobsP js) T) : ∀ (m i : Nat), n - rk i < m → i < n →
    Calls Try.prog 19 #[.slice A n c, .int .i64 (i : Int)] w fun e w' => e = .returned (.int .i64 (T i)) ∧ w = w'
  | 0, _, hm, _ => absurd hm (by omega)
  | m + 1, i, hm, hin => by
    have HS := Lib.hid S
    have HLN := Lib.hid S.len
    obtain ⟨hl, hj⟩ := jobsF_zero hz
    have hn10 : n ≤ 10 := by have := S.len; omega
    have HJ := Lib.hid hj
    have HTB := Lib.hid (tail_bound hz hR hT)
    have HIH := Lib.hid (fun k hk (ha : (jobsP js).aft k i = true) => refTail_any A n c js rk T w S hz hR hT m k (by have h1 := (hR.up k i (show k < js.length by have := S.len; omega) ha).2; have h2 : rk k < js.length := hR.lt k (show k < js.length by have := S.len; omega); have := S.len; omega) hk)
    have HTI : Hid (T i = maxI (tailF js T i) n + (js.getD i jobD).time) := Lib.hid (by
      have h := hT i (by show i < js.length; have := S.len; omega)
      have e : (jobsP js).n = n := S.len
      rw [e] at h
      exact h)
    obtain ⟨b, off, j, A', c', rfl, _, hx, hct, _⟩ := S.get hin
    have HJX := Lib.hid (job_at hx)
    obtain ⟨t0, t1⟩ : 0 ≤ j.time ∧ j.time ≤ 1048576 := by have h := (hj j (List.mem_of_getElem? hx)).2; exact ⟨h.1, h.2.1⟩
    have HM0 : Hid (∀ k, k ≤ n → 0 ≤ maxI (tailF js T i) k ∧ maxI (tailF js T i) k ≤ 10485760) := Lib.hid fun k hk => ⟨maxI_nonneg _ _, maxI_le (by decide) _ fun q hq => by
      show (if (jobsP js).aft q i = true then T q else 0) ≤ _
      split
      · exact (HTB.out q (by have := S.len; omega)).2
      · decide⟩
    have ii0 : (0 : Int) ≤ (i : Int) := by omega
    have ii1 : (i : Int) < (n : Int) := by omega
    clear hl hj hz hR hT S hx
    go_enter Try.func19, Try.ntmps19
    go_wp2_with fail
    go_loop [5, 6] (fun y z => ∃ k : Nat, k ≤ n ∧ y = .int .i64 (maxI (tailF js T i) k) ∧ z = .int .i64 k) (fun _ z => n - (intOf z).toNat)
    case atStart => exact ⟨0, Nat.zero_le _, rfl, rfl⟩
    case round =>
      obtain ⟨k, hk, rfl, rfl⟩ := hrel
      by_cases hkn : k < n
      · obtain ⟨jk, A2, c2, _, hxk, _, hca, _, _, hI, _, _⟩ := HS.out.get_some hkn
        have HI := Lib.hid hI
        have HJK := Lib.hid (job_at hxk)
        have hl10 : jk.aft.length ≤ 10 := (HJ.out jk (List.mem_of_getElem? hxk)).1
        obtain ⟨q, hq⟩ : ∃ q, hasI jk.aft (i : Int) = q := ⟨_, rfl⟩
        have HQ := Lib.hid hq
        have HAF : Hid ((jobsP js).aft k i = q) := Lib.hid (by show hasI (js.getD k jobD).aft (i : Int) = q; rw [HJK.out]; exact hq)
        have HST : Hid (maxI (tailF js T i) (k + 1) = if maxI (tailF js T i) k < (if q = true then T k else 0) then (if q = true then T k else 0) else maxI (tailF js T i) k) := Lib.hid (by
          show (if maxI (tailF js T i) k < tailF js T i k then tailF js T i k else maxI (tailF js T i) k) = _
          unfold tailF
          rw [HAF.out])
        obtain ⟨m0, _⟩ := HM0.out k hk
        have ik0 : (0 : Int) ≤ (k : Int) := by omega
        have ik1 : (k : Int) < (n : Int) := by omega
        clear hxk hI hq
        generalize maxI (tailF js T i) k = mx at *
        cases q with
        | false =>
          have HN : Hid (maxI (tailF js T i) (k + 1) = mx) := Lib.hid (by rw [HST.out]; simp; omega)
          clear HST
          go_wp2_with fail
          refine (has_v jk.aft.length c2 (i : Int) false A2 jk.aft w (by exact HI.out) (by omega) HQ.out).mono ?_
          rintro e w2 ⟨rfl, rfl⟩
          go_wp2_with fail
          go_round
          case rel => exact ⟨k + 1, by omega, by rw [HN.out], by go_num⟩
          case measure => simp [intOf]; omega
        | true =>
          have HC := Lib.hid (HIH.out k hkn HAF.out)
          obtain ⟨tk, htk⟩ : ∃ tk, T k = tk := ⟨_, rfl⟩
          rw [htk] at HST HC
          by_cases hlt : mx < tk
          · have HN : Hid (maxI (tailF js T i) (k + 1) = tk) := Lib.hid (by rw [HST.out]; simp [hlt])
            clear HST htk HIH
            go_wp2_with fail
            refine (has_v jk.aft.length c2 (i : Int) true A2 jk.aft w (by exact HI.out) (by omega) HQ.out).mono ?_
            rintro e w2 ⟨rfl, rfl⟩
            go_wp2_with fail
            refine HC.out.mono ?_
            rintro e w2 ⟨rfl, rfl⟩
            go_wp2_with fail
            refine HC.out.mono ?_
            rintro e w2 ⟨rfl, rfl⟩
            go_wp2_with fail
            go_round
            case rel => exact ⟨k + 1, by omega, by rw [HN.out], by go_num⟩
            case measure => simp [intOf]; omega
          · have HN : Hid (maxI (tailF js T i) (k + 1) = mx) := Lib.hid (by rw [HST.out]; simp; omega)
            clear HST htk HIH
            go_wp2_with fail
            refine (has_v jk.aft.length c2 (i : Int) true A2 jk.aft w (by exact HI.out) (by omega) HQ.out).mono ?_
            rintro e w2 ⟨rfl, rfl⟩
            go_wp2_with fail
            refine HC.out.mono ?_
            rintro e w2 ⟨rfl, rfl⟩
            go_wp2_with fail
            go_round
            case rel => exact ⟨k + 1, by omega, by rw [HN.out], by go_num⟩
            case measure => simp [intOf]; omega
      · obtain rfl : k = n := by omega
        obtain ⟨m0, m1⟩ := HM0.out k hk
        have HRT : Hid (maxI (tailF js T i) k + j.time = T i) := Lib.hid (by rw [HTI.out, HJX.out])
        generalize maxI (tailF js T i) k = mx at *
        have hw1 : IntKind.i64.wrap (mx + j.time) = mx + j.time := IntWalk.i64_in _ (by omega)
        go_wp2_with fail
        go_ret
        exact ⟨by rw [← HRT.out]; rfl, rfl⟩
end Go.Proofs.Ythjhndbhebnmjaa
