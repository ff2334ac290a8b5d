/- line.Times: what it tells. No conditions. -/
import Derived.Test.YthjhndbhebnmjaaLineUp
import Derived.Test.YthjhndbhebnmjaaLatest
namespace Go.Proofs.Ythjhndbhebnmjaa
open Go.RowKit Go.Maps

theorem results_tmp4 {fn : Func} {t u v x : Tmp} (h : fn.results = #[.tmp t, .tmp u, .tmp v, .tmp x]) (tmps : Array Value) (P : Program) (w : World) :
    (results fn tmps).run P w = .ok (.tuple #[tmps.getD t undef, tmps.getD u undef, tmps.getD v undef, tmps.getD x undef]) w := by
  simp [results, h]
set_option maxRecDepth 100000 in
set_option maxHeartbeats 4000000 in
theorem lineTimesTop_any (A : Option Addr) (n c : Nat) (js : List JobV) (w : World) (S : JobsAt w w.heap.size A n js) :
    Calls Try.prog 11 #[.slice A n c] w (TimesTop w n js) := by
  have HS := Lib.hid S
  have HU := Lib.hid (lineUp_any A n c js w S)
  have HLN := Lib.hid S.len
  obtain ⟨x, hx⟩ : ∃ x, ordX js = x := ⟨_, rfl⟩
  have HX := Lib.hid hx
  clear S
  by_cases h0 : x = 0
  · subst h0
    obtain ⟨hz, l0, hl0⟩ := ordX_zero hx
    have HZ := Lib.hid hz
    have hn10 : n ≤ 10 := by have := (jobsF_zero hz).1; have := HLN.out; omega
    obtain ⟨ho, hol⟩ := ord_ok (fun j hj => ((jobsF_zero hz).2 j hj).2.2.2) js.length [] l0 (OrderP.nil _) hl0
    have hlen : l0.length = js.length := by rw [hol]; simp
    obtain ⟨rk, hrk⟩ := rank_ex hz hl0
    have HRK := Lib.hid hrk
    have HOR := Lib.hid ho
    have HLL := Lib.hid hlen
    have HL0 := Lib.hid hl0
    have HOA : Hid (OrdAll js (tailV js) l0) := Lib.hid ⟨ho, hlen, tail_is hrk⟩
    have HTB := Lib.hid (tail_bound hz hrk (tail_is hrk))
    have HEB := Lib.hid (early_bound hz hrk (early_is hrk))
    have hmk := fun W => run_make_row' (P := Try.prog) 32 2 (.int .i64 0) 8 Try.underlying32 (by kernel_rfl) rfl .i64 .i64 n (by omega) (by omega) W
    clear hx hz hl0 ho hol hlen hrk
    go_enter Try.func11, Try.ntmps11
    go_wp2_with fail
    refine HU.out.mono ?_
    rintro e w1 ⟨_, h2, hB⟩
    obtain ⟨l, A', c', g, v, a1, rfl, a3, _, a5, a6⟩ := h2 HX.out
    obtain rfl : l = l0 := by
      have h := HL0.out
      rw [a1] at h
      injection h
    have HB1 := Lib.hid hB
    have HI1 := Lib.hid a3
    have HD1 := Lib.hid a5
    have HV := Lib.hid a6
    clear h2 hB a1 a3 a5 a6 HU
    go_wp2_with fail
    clear hmk
    obtain ⟨W0, hW0⟩ : ∃ W0, W0 = w1.alloc (.cells (madeCells #[.int .i64 0] n) 2) := ⟨_, rfl⟩
    rw [← hW0]
    have HR0 : Hid (∃ f, RowQ W0 w1.heap.size n f ∧ ∀ i, i < 0 → f i = earlyV js i) := Lib.hid (by
      rw [hW0]
      exact ⟨fun _ => 0, ⟨madeCells #[.int .i64 0] n, (MapKept.heap_alloc w1 _).1, fun j hj => by simp [madeCells, Nat.mod_one, hj]⟩, fun i hi => absurd hi (by omega)⟩)
    have HB0 : Hid (Below w1.heap.size w1 W0) := Lib.hid (by rw [hW0]; exact (Below.refl _ _).alloc (Nat.le_refl _) _)
    clear hW0
    go_loopw [10, 27] (fun a y wr => ∃ k : Nat, k ≤ n ∧ a = .int .i64 (maxI v k) ∧ y = .int .i64 k ∧ Hid (∃ f, RowQ wr w1.heap.size n f ∧ ∀ i, i < k → f i = earlyV js i) ∧ Hid (Below w1.heap.size w1 wr)) (fun _ y _ => n - (intOf y).toNat)
    case atStart => exact ⟨0, Nat.zero_le _, rfl, rfl, HR0, HB0⟩
    case round =>
      clear HR0 HB0
      obtain ⟨k, hk, rfl, rfl, HR, HB⟩ := hrel
      have HBW : Hid (Below w.heap.size w wr) := Lib.hid (HB1.out.trans (HB.out.mono HB1.out.size))
      by_cases hkn : k < n
      · obtain ⟨b, off, j, A2, c2, rfl, _, hjx, hc0, hc1, hc2, hc3, _, _, _⟩ := (HS.out.go_ HBW.out).get hkn
        obtain ⟨f, hrow, hf⟩ := HR.out
        have HRO := Lib.hid hrow
        have HF := Lib.hid hf
        have hkj : k < js.length := by have := HLN.out; omega
        have hkl := ord_all HOR.out HLL.out k hkj
        have HKL := Lib.hid hkl
        have hJ : js.getD k jobD = j := job_at hjx
        have hEV := HV.out.is_early HRK.out HZ.out HOR.out HLL.out hkj
        rw [hJ] at hEV
        obtain ⟨v0, v1⟩ := HV.out.bound k hkl
        have hll : l.length ≤ 10 := by have := HLL.out; have := HLN.out; omega
        obtain ⟨e0, e1⟩ := HEB.out k hkj
        have hmx : maxI v (k + 1) = if maxI v k < v k then v k else maxI v k := rfl
        have HMX := Lib.hid hmx
        have cr := hrow.cell hkn
        have cf := hrow.frozen k
        have wf := wf_natL (t := k) (by omega)
        obtain ⟨z, hz⟩ : ∃ z, v k = z := ⟨_, rfl⟩
        rw [hz] at v0 v1 HMX hEV
        have HVZ := Lib.hid hz
        have hw : IntKind.i64.wrap (z - j.time) = z - j.time := IntWalk.i64_in _ (by omega)
        have HEV := Lib.hid hEV
        have ik0 : (0 : Int) ≤ (k : Int) := by omega
        have ik1 : (k : Int) < (n : Int) := by omega
        have hrlt : w1.heap.size < wr.heap.size := hrow.lt
        have hba : ∀ o, Below w1.heap.size w1 (wr.alloc o) := fun o => HB.out.alloc HB.out.size o
        have HMA : ∀ o, Hid (DMap l v (wr.alloc o) g n) := fun o => Lib.hid (HD1.out.keep (hba o))
        have hgl := HD1.out.lt
        have hbs : ∀ o q, Below w1.heap.size w1 ((wr.setCell ⟨w1.heap.size, k, none⟩ q).alloc o) := fun o q => (HB.out.setCell (p := ⟨w1.heap.size, k, none⟩) (Nat.le_refl _) q).alloc (by simpa using HB.out.size) o
        have HMB : ∀ o q, Hid (DMap l v ((wr.setCell ⟨w1.heap.size, k, none⟩ q).alloc o) g n) := fun o q => Lib.hid (HD1.out.keep (hbs o q))
        have HRA : ∀ o q, Hid (RowQ ((wr.setCell ⟨w1.heap.size, k, none⟩ (.int .i64 q)).alloc o) w1.heap.size n (updQ f k q)) := fun o q => Lib.hid ((hrow.set_ k q).of_block (Below.heap_alloc _ _ _ (by simpa using hrlt)))
        have HBA : ∀ o q, Hid (Below w1.heap.size w1 ((wr.setCell ⟨w1.heap.size, k, none⟩ q).alloc o)) := fun o q => Lib.hid (hbs o q)
        generalize maxI v k = mx at HMX
        clear hjx hkl hJ hEV hmx hz hrow hf hba hbs
        go_wp2_with (first
          | (at_lookup; refine look_done rfl _ _ rfl rfl (HMA _).out wf rfl HKL.out ?_; rw [HVZ.out])
          | (at_lookup; refine look_done rfl _ _ rfl rfl (HMB _ _).out wf rfl HKL.out ?_; rw [HVZ.out]))
        go_roundw
        case rel =>
          refine ⟨k + 1, by omega, by rw [HMX.out]; exact congrArg (Value.int .i64) (by split <;> omega), by go_num, Lib.hid ⟨updQ f k (z - j.time), (HRA _ _).out, fun i hi => ?_⟩, HBA _ _⟩
          unfold updQ
          by_cases e : i = k
          · subst e; rw [if_pos rfl]; exact HEV.out
          · rw [if_neg e]; exact HF.out i (by omega)
        case measure => simp [intOf]; omega
      · obtain rfl : k = n := by omega
        have HEN : Hid (maxI v k = endV js) := Lib.hid (by
          unfold endV
          rw [endP_eq, HLN.out]
          refine maxI_congr _ fun i hi => ?_
          have hij : i < js.length := by have := HLN.out; omega
          have := HV.out.is_early HRK.out HZ.out HOR.out HLL.out hij
          unfold doneF
          omega)
        obtain ⟨z, hz⟩ : ∃ z, endV js = z := ⟨_, rfl⟩
        have HEZ := Lib.hid hz
        have hzb : 0 ≤ z ∧ z ≤ 11534336 := by
          rw [← hz]
          unfold endV
          rw [endP_eq]
          refine ⟨maxI_nonneg _ _, maxI_le (by decide) _ fun q hq => ?_⟩
          have h1 := (HEB.out q hq).2
          have h2 := (right_at HZ.out hq).2.2.1
          unfold doneF
          omega
        rw [HEN.out, hz]
        obtain ⟨f, hrow, hf⟩ := HR.out
        have HRW := Lib.hid (hrow.congr hf)
        have HLT := Lib.hid (latest_any k c c' A A' js l (tailV js) z wr (HS.out.go_ HBW.out) (HI1.out.go_ HB.out) HZ.out HOA.out HTB.out hzb.1 hzb.2)
        clear hrow hf HR hz HEN
        go_wp2_with fail
        refine HLT.out.mono ?_
        rintro e w3 ⟨g3, rfl, hr3, hb3⟩
        have HRET : Hid (∀ e, e = Ending.returned (.tuple #[.slice (some ⟨w1.heap.size, 0, none⟩) k k, .slice (some ⟨g3, 0, none⟩) k k, .int .i64 z, .int .i64 0]) → TimesTop w k js e w3) := Lib.hid fun e he =>
          ⟨fun h => absurd HX.out h, fun _ => ⟨_, _, _, _, by rw [HEZ.out]; exact he, ((HRW.out.of_block (hb3.block _ HRW.out.lt)).ints), (by
            have h := hr3.ints
            rw [show (fun i => z - tailV js i) = lateV js from funext fun i => by unfold lateV; rw [HEZ.out]] at h
            exact h)⟩, HBW.out.trans (hb3.mono HBW.out.size)⟩
        clear hr3 hb3 HLT
        go_wp2_with fail
        try simp only [Exit.inBlock, Exit.then]
        refine bodyPost_ret (results_tmp4 rfl _ _ _) rfl ?_
        exact HRET.out _ rfl
  · have HH := Lib.hid h0
    have hx0 : (x != 0) = true := by simpa using h0
    have HRET : Hid (∀ W, Below w.heap.size w W → ∀ e, e = Ending.returned (.tuple #[.slice none 0 0, .slice none 0 0, .int .i64 0, .int .i64 x]) → TimesTop w n js e W) := Lib.hid fun W hb e he => ⟨fun _ => by rw [HX.out]; exact he, fun h => absurd (HX.out.symm.trans h) h0, hb⟩
    clear h0 hx
    go_enter Try.func11, Try.ntmps11
    go_wp2_with fail
    refine HU.out.mono ?_
    rintro e w1 ⟨h1, _, hB⟩
    obtain rfl := h1 (by rw [HX.out]; exact HH.out)
    rw [HX.out]
    have HB1 := Lib.hid hB
    clear h1 hB HU
    go_wp2_with fail
    try simp only [Exit.inBlock, Exit.then]
    refine bodyPost_ret (results_tmp4 rfl _ _ _) rfl ?_
    exact HRET.out _ HB1.out _ rfl
end Go.Proofs.Ythjhndbhebnmjaa
