/- The reference's Times. Conditions: jobs without fault, ranked. -/
import Derived.Test.YthjhndbhebnmjaaRefTail
import Derived.Deep.AppendLies
import Derived.Laws.OwnMore
namespace Go.Proofs.Ythjhndbhebnmjaa
open Go.RowKit

set_option maxRecDepth 100000 in
theorem infoI64L : (Try.prog.info? 2).map (fun i => (i.zero, i.size, i.bytes)) = some (some (.int .i64 0), 1, 8) := by kernel_rfl
/-- When a job is done, if it begins as early as it may. -/
def doneF (js : List JobV) (E : Nat → Int) (i : Nat) : Int := E i + (js.getD i jobD).time
theorem endP_eq {js : List JobV} {E : Nat → Int} : endP (jobsP js) E = maxI (doneF js E) js.length := rfl
theorem RowQ.ints {w : World} {g n : Nat} {f : Nat → Int} (h : RowQ w g n f) : IntsAt w w.heap.size (some ⟨g, 0, none⟩) n ((List.range n).map f) :=
  ⟨by simp, fun _ => ⟨g, 0, rfl, h.lt, fun i x hx => by
    have hi : i < n := by have := (List.getElem?_eq_some_iff.1 hx).1; simpa using this
    rw [List.getElem?_map, List.getElem?_range hi] at hx
    simp only [Option.map_some, Option.some.injEq] at hx
    rw [Nat.zero_add, h.cell hi, hx]⟩⟩
/-- What Times tells. -/
def TimesOut (w : World) (n : Nat) (E L : Nat → Int) (z : Int) (e : Ending) (w' : World) : Prop :=
  ∃ A1 c1 A2 c2, e = .returned (.tuple #[.slice A1 n c1, .slice A2 n c2, .int .i64 z]) ∧ IntsAt w' w'.heap.size A1 n ((List.range n).map E) ∧ IntsAt w' w'.heap.size A2 n ((List.range n).map L) ∧ Below w.heap.size w w'
theorem late_push (f : Nat → Int) (k : Nat) (x : Int) (hx : f k = x) : ((List.range (k + 1)).map f).map (Value.int .i64) = ((List.range k).map f).map (Value.int .i64) ++ [.int .i64 x] := by
  rw [List.range_succ, List.map_append, List.map_append, ← hx]; rfl
set_option maxRecDepth 100000 in
set_option maxHeartbeats 4000000 in
theorem refTimes_any (A : Option Addr) (n c : Nat) (js : List JobV) (rk : Nat → Nat) (E T : Nat → Int) (z : Int) (w : World) (S : JobsAt w w.heap.size A n js) (hz : jobsF js = 0) (hR : RankP (jobsP js) rk) (hE : IsE (jobsP js) E) (hT : IsT (jobsP js) T) (hz2 : endP (jobsP js) E = z) :
    Calls Try.prog 12 #[.slice A n c] w (TimesOut w n E (fun i => z - T i) z) := by
  have HS := Lib.hid S
  have HLN := Lib.hid S.len
  obtain ⟨hl, hj⟩ := jobsF_zero hz
  have hn10 : n ≤ 10 := by have := S.len; omega
  have HJ := Lib.hid hj
  have HEB := Lib.hid (early_bound hz hR hE)
  have HTB := Lib.hid (tail_bound hz hR hT)
  have HEA := Lib.hid (fun W hW => refEarly_any A n c js rk E W hW hz hR hE)
  have HTA := Lib.hid (fun W hW i hi => refTail_any A n c js rk T W hW hz hR hT (n - rk i + 1) i (Nat.lt_succ_self _) hi)
  have HZ : Hid (maxI (doneF js E) n = z) := Lib.hid (by rw [← hz2, endP_eq, S.len])
  have HM0 : Hid (∀ k, k ≤ n → 0 ≤ maxI (doneF js E) k ∧ maxI (doneF js E) k ≤ 11534336) := Lib.hid fun k hk => ⟨maxI_nonneg _ _, maxI_le (by decide) _ fun q hq => by
    have hq' : q < js.length := by have := S.len; omega
    have h1 := (HEB.out q hq').2
    have h2 : (js.getD q jobD).time ≤ 1048576 := by
      rw [List.getD_eq_getElem?_getD, List.getElem?_eq_getElem hq']
      exact (hj _ (List.getElem_mem _)).2.2.1
    show E q + (js.getD q jobD).time ≤ _
    omega⟩
  obtain ⟨i0, hi, hi0, hi1, hi2⟩ := info_parts infoI64L
  have HI := Lib.hid hi
  have HI0 := Lib.hid hi0
  have HI1 := Lib.hid hi1
  have HI2 := Lib.hid hi2
  clear hl hj hz hR hE hT S hz2 hi hi0 hi1 hi2
  go_enter Try.func12, Try.ntmps12
  go_wp2_with fail
  refine (HEA.out w HS.out).mono ?_
  rintro e w1 ⟨g, rfl, hrow, hg, hB⟩
  have HR1 := Lib.hid hrow
  have HB1 := Lib.hid hB
  clear hrow hB HEA
  go_wp2_with fail
  go_loopw [5, 7] (fun y y2 wr => ∃ k : Nat, k ≤ n ∧ y = .int .i64 (maxI (doneF js E) k) ∧ y2 = .int .i64 k ∧ Hid (RowQ wr g n E) ∧ Hid (Below w.heap.size w wr)) (fun _ y2 _ => n - (intOf y2).toNat)
  case atStart => exact ⟨0, Nat.zero_le _, rfl, rfl, HR1, HB1⟩
  case round =>
    clear HR1 HB1
    obtain ⟨k, hk, rfl, rfl, HR, HB⟩ := hrel
    by_cases hkn : k < n
    · obtain ⟨b, off, j, A', c', rfl, hbB, hx, ht, _⟩ := HS.out.get hkn
      have hct := (HB.out.cell (p := ⟨b, off + k * 4, none⟩) hbB).trans ht
      have HJK := Lib.hid (job_at hx)
      obtain ⟨t0, t1⟩ : 0 ≤ j.time ∧ j.time ≤ 1048576 := by have h := (HJ.out j (List.mem_of_getElem? hx)).2; exact ⟨h.1, h.2.1⟩
      have hce := HR.out.cell hkn
      obtain ⟨e0, e1⟩ := HEB.out k (by have := HLN.out; omega)
      obtain ⟨m0, m1⟩ := HM0.out k hk
      have HST : Hid (maxI (doneF js E) (k + 1) = if maxI (doneF js E) k < E k + j.time then E k + j.time else maxI (doneF js E) k) := Lib.hid (by
        show (if maxI (doneF js E) k < doneF js E k then doneF js E k else maxI (doneF js E) k) = _
        unfold doneF
        rw [HJK.out])
      have ik0 : (0 : Int) ≤ (k : Int) := by omega
      have ik1 : (k : Int) < (n : Int) := by omega
      clear hx ht
      generalize maxI (doneF js E) k = mx at *
      generalize E k = ek at *
      generalize j.time = tk at *
      have hw1 : IntKind.i64.wrap (ek + tk) = ek + tk := IntWalk.i64_in _ (by omega)
      by_cases hlt : mx < ek + tk
      · have HN : Hid (maxI (doneF js E) (k + 1) = ek + tk) := Lib.hid (by rw [HST.out, if_pos hlt])
        have hd : decide (mx < ek + tk) = true := decide_eq_true hlt
        clear HST hlt
        go_wp2_with fail
        go_quiet (fail)
        go_wp2_with fail
        go_quiet (fail)
        go_wp2
        go_roundw
        case rel => exact ⟨k + 1, by omega, by rw [HN.out], by go_num, Lib.hid (HR.out.of_block rfl), Lib.hid (below_drewN HB.out _)⟩
        case measure => simp [intOf]; omega
      · have HN : Hid (maxI (doneF js E) (k + 1) = mx) := Lib.hid (by rw [HST.out, if_neg hlt])
        have hd : decide (mx < ek + tk) = false := decide_eq_false hlt
        clear HST hlt
        go_wp2_with fail
        go_quiet (fail)
        go_wp2
        go_roundw
        case rel => exact ⟨k + 1, by omega, by rw [HN.out], by go_num, Lib.hid (HR.out.of_block rfl), Lib.hid (below_drewN HB.out _)⟩
        case measure => simp [intOf]; omega
    · obtain rfl : k = n := by omega
      obtain ⟨m0, m1⟩ := HM0.out k hk
      rw [HZ.out] at m0 m1 ⊢
      obtain ⟨wo, rfl⟩ : ∃ wo : World, wo = wr := ⟨_, rfl⟩
      go_wp2_with fail
      go_loopw [8, 9] (fun y y2 wr => ∃ (q c3 : Nat) (A3 : Option Addr), q ≤ k ∧ y = .slice A3 q c3 ∧ y2 = .int .i64 q ∧ Hid (wr.ownsRow wo.heap.size 2 1 (.slice A3 q c3) q (((List.range q).map fun i => z - T i).map (Value.int .i64))) ∧ Hid (Below wo.heap.size wo wr)) (fun _ y2 _ => k - (intOf y2).toNat)
      case atStart => exact ⟨0, 0, none, Nat.zero_le _, rfl, rfl, Lib.hid (World.ownsRow_nil ..), Lib.hid (Below.refl _ _)⟩
      case round =>
        obtain ⟨q, c3, A3, hq, rfl, rfl, HO, HBi⟩ := hrel
        by_cases hqk : q < k
        · have HC := Lib.hid (HTA.out wr ((HS.out.go_ HB.out).go_ HBi.out) q hqk)
          obtain ⟨t0, t1⟩ := HTB.out q (by have := HLN.out; omega)
          have HP := Lib.hid (late_push (fun i => z - T i) q _ rfl)
          obtain ⟨tq, htq⟩ : ∃ tq, T q = tq := ⟨_, rfl⟩
          rw [htq] at HC HP t0 t1
          have hw1 : IntKind.i64.wrap (z - tq) = z - tq := IntWalk.i64_in _ (by omega)
          clear htq
          go_wp2_with fail
          refine HC.out.mono ?_
          rintro e w3 ⟨rfl, rfl⟩
          go_wp2_with (at_builtin; refine wpList_append_own _ rfl _ _ 32 rfl wo.heap.size 2 i0 (.int .i64 0) 1 8 Try.underlying32 HI.out HI0.out HI1.out HI2.out rfl (by decide) _ _ _ rfl (HO.out.alloc _) ⟨wr.heap.size, 0, none⟩ 1 1 [.int .i64 (z - tq)] rfl rfl ?c1 ?c2 ?c3 ?c4 ?c5 ?_)
          try (case c1 => exact cell_one_new _ _ _)
          case c2 => simp [Value.oneCell']
          case c3 => unfold maxLen; omega
          case c4 => omega
          case c5 => have := HBi.out.size; simp; omega
          intro v' w3 hown' hgrow _
          obtain ⟨A4, c4, rfl⟩ := own_form hown'
          have HO' : Hid (w3.ownsRow wo.heap.size 2 1 (.slice A4 (q + 1) c4) (q + 1) (((List.range (q + 1)).map fun i => z - T i).map (Value.int .i64))) := Lib.hid (by rw [HP.out, List.map_map]; exact hown')
          have HB3 : Hid (Below wo.heap.size wo w3) := Lib.hid ((HBi.out.alloc HBi.out.size _).grown hgrow (by have := HBi.out.size; simp; omega) (own_base HO.out))
          clear hown' hgrow
          go_wp2
          go_roundw
          case rel => exact ⟨q + 1, c4, A4, by omega, rfl, by go_num, HO', HB3⟩
          case measure => simp [intOf]; omega
        · obtain rfl : q = k := by omega
          have HRET : Hid (∀ e, e = Ending.returned (.tuple #[.slice (some ⟨g, 0, none⟩) q q, .slice A3 q c3, .int .i64 z]) → TimesOut w q E (fun i => z - T i) z e wr) := Lib.hid fun e he =>
            ⟨some ⟨g, 0, none⟩, q, A3, c3, he, HR.out.ints.go_ HBi.out, IntsAt.of_own HO.out (Nat.le_refl _), HB.out.trans (HBi.out.mono HB.out.size)⟩
          go_wp2_with fail
          go_ret3
          exact HRET.out _ rfl
end Go.Proofs.Ythjhndbhebnmjaa
