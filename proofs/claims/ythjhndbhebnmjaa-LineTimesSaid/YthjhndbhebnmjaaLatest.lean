/- line.latest: how late each job may begin. Conditions: jobs without fault, all in order. -/
import Derived.Test.YthjhndbhebnmjaaLateP
import Derived.Test.YthjhndbhebnmjaaBackward
import Derived.Test.YthjhndbhebnmjaaStillIn
import Derived.Test.YthjhndbhebnmjaaRepeatZ
import Derived.BigQuiet
import Derived.RangeFuncBox
import Derived.RangeFuncWrites
namespace Go.Proofs.Ythjhndbhebnmjaa
open Go.RowKit Go.Shelf
attribute [local go_sem] Oper.semAt_some

set_option maxRecDepth 100000 in
theorem backwardF_any (n c : Nat) (A : Option Addr) (w : World) :
    Calls Try.prog 25 #[.slice A n c] w fun e w' => e = .returned (.func (.func 31) #[] #[.pointer (some ⟨w.heap.size, 0, none⟩)]) ∧ w' = w.alloc (.cells #[.slice A n c] 23) := by
  go_enter Try.func25, Try.ntmps25
  go_wp2
  go_ret
  exact ⟨rfl, rfl⟩
theorem boxed_put {W : World} {B : Nat} {t : TypeId} {v : Value} {p : Addr} (h : Boxed W B t v) (hne : B ≠ p.block) (u : Value) : Boxed (W.setCell p u) B t v := (Below.heap_setCell W p u B hne).trans h
/-- In the middle of it: the boxes lie as they lay; the row of moments. -/
structure LatW (w : World) (n c c2 : Nat) (A A2 : Option Addr) (g x : Nat) (b : Nat → Int) (W : World) : Prop where
  jobs : Boxed W w.heap.size 22 (.slice A n c)
  row : RowQ W g n b
  box : Boxed W x 32 (.slice (some ⟨g, 0, none⟩) n n)
  back : Boxed W (x + 1) 23 (.slice A2 n c2)
  below : Below w.heap.size w W
  lo : w.heap.size < g
  hi : g < x
theorem LatW.next {w : World} {n c c2 : Nat} {A A2 : Option Addr} {g x : Nat} {b : Nat → Int} {W W' : World} (h : LatW w n c c2 A A2 g x b W) (hb : Below W.heap.size W W') : LatW w n c c2 A A2 g x b W' := by
  have h1 := h.back.lt
  have h2 := h.lo
  have h3 := h.hi
  exact ⟨(hb.block _ (by omega)).trans h.jobs, h.row.of_block (hb.block _ (by omega)), (hb.block _ (by omega)).trans h.box, (hb.block _ (by omega)).trans h.back, h.below.trans (hb.mono h.below.size), h2, h3⟩
theorem LatW.keep {w : World} {n c c2 : Nat} {A A2 : Option Addr} {g x B : Nat} {b : Nat → Int} {W W' : World} (h : LatW w n c c2 A A2 g x b W) (hb : Below B W W') (hB : x + 1 < B) : LatW w n c c2 A A2 g x b W' := by
  have h2 := h.lo
  have h3 := h.hi
  exact ⟨(hb.block _ (by omega)).trans h.jobs, h.row.of_block (hb.block _ (by omega)), (hb.block _ (by omega)).trans h.box, (hb.block _ (by omega)).trans h.back, h.below.trans (hb.mono (by omega)), h2, h3⟩
theorem LatW.put {w : World} {n c c2 : Nat} {A A2 : Option Addr} {g x : Nat} {b : Nat → Int} {W : World} (h : LatW w n c c2 A A2 g x b W) (j : Nat) (v : Int) : LatW w n c c2 A A2 g x (updQ b j v) (W.setCell ⟨g, j, none⟩ (.int .i64 v)) := by
  have h2 := h.lo
  have h3 := h.hi
  exact ⟨boxed_put h.jobs (by show w.heap.size ≠ g; omega) _, h.row.set_ j v, boxed_put h.box (by show x ≠ g; omega) _, boxed_put h.back (by show x + 1 ≠ g; omega) _, h.below.setCell (p := ⟨g, j, none⟩) (by show w.heap.size ≤ g; omega) _, h2, h3⟩
def GoneI (w : World) (n c c2 : Nat) (A A2 : Option Addr) (g x : Nat) (js : List JobV) (T : Nat → Int) (z : Int) (l : List Nat) (pre : List Nat) (W : World) : Prop := ∃ i b, pre = downTo n i ∧ i ≤ n ∧ LatW w n c c2 A A2 g x b W ∧ LateI js T z l i b
theorem downTo_len {n i j : Nat} (h : downTo n i = downTo n j) (hi : i ≤ n) (hj : j ≤ n) : i = j := by
  have h1 := congrArg List.length h
  unfold downTo at h1
  rw [List.length_reverse, List.length_reverse, List.length_range', List.length_range'] at h1
  omega
set_option maxRecDepth 100000 in
set_option maxHeartbeats 4000000 in
theorem latest_any (n c c2 : Nat) (A A2 : Option Addr) (js : List JobV) (l : List Nat) (T : Nat → Int) (z : Int) (w : World) (S : JobsAt w w.heap.size A n js) (O : IntsAt w w.heap.size A2 n (natI l)) (hz : jobsF js = 0) (hO : OrdAll js T l)
    (hT : ∀ q, q < js.length → 0 ≤ T q ∧ T q ≤ 10485760) (z0 : 0 ≤ z) (z1 : z ≤ 11534336) :
    Calls Try.prog 17 #[.slice A n c, .slice A2 n c2, .int .i64 z] w fun e w' => ∃ g, e = .returned (.slice (some ⟨g, 0, none⟩) n n) ∧ RowQ w' g n (fun i => z - T i) ∧ Below w.heap.size w w' := by
  have HS := Lib.hid S
  have HO2 := Lib.hid O
  have HA := Lib.hid hO
  have HT := Lib.hid hT
  have HZ := Lib.hid hz
  have HLN := Lib.hid S.len
  have hn10 : n ≤ 10 := by have := (jobsF_zero hz).1; have := S.len; omega
  clear S O hz hO hT
  refine (callsIn_wide (n := 10)).1 ?_
  refine callsIn_of_wp_marks Try.func17 rfl trivial ?_ rfl
  simp only [Try.ntmps17, List.size_toArray, List.length_cons, List.length_nil, Nat.reduceAdd, Nat.reduceSub, Array.replicate_succ, Array.replicate_zero, List.push_toArray, List.append_toArray, List.nil_append, List.cons_append]
  gi_wp2_with fail
  refine ⟨trivial, ?_⟩
  refine (callsIn_wide.2 (repeatZ_any (w.heap.size + 1) n z _ (by simp [go_sem]) (by simp) hn10)).mono ?_
  rintro e w1 ⟨g, rfl, hg, hrow, hb⟩
  have hb1 : Below w.heap.size w w1 := (((Below.refl _ _).alloc (Nat.le_refl _) _).alloc (by simp) _).trans (hb.mono (by simp; omega))
  have hbx : Boxed w1 w.heap.size 22 (.slice A n c) := (hb.block _ (by simp; omega)).trans ((Boxed.new w 22 (.slice A n c)).alloc _)
  have hlo : w.heap.size < g := by simp at hg; omega
  have hhi := hrow.lt
  clear hg hb
  gi_wp2_with fail
  refine ⟨trivial, ?_⟩
  refine (callsIn_wide.2 (backwardF_any n c2 A2 _)).mono ?_
  rintro e w2 ⟨rfl, hw2⟩
  have HW2 : Hid (LatW w n c c2 A A2 g w1.heap.size (fun _ => z) w2) := Lib.hid (by
    rw [hw2]
    have hB : ∀ o1 o2, Below w1.heap.size w1 ((w1.alloc o1).alloc o2) := fun o1 o2 => ((Below.refl _ _).alloc (Nat.le_refl _) o1).alloc (by simp) o2
    refine ⟨((hB _ _).block _ (by omega)).trans hbx, hrow.of_block ((hB _ _).block _ hhi), (Boxed.new w1 32 (.slice (some ⟨g, 0, none⟩) n n)).alloc _, ?_, hb1.trans ((hB _ _).mono hb1.size), hlo, hhi⟩
    have := Boxed.new (w1.alloc (.cells #[.slice (some ⟨g, 0, none⟩) n n] 32)) 23 (.slice A2 n c2)
    rwa [World.size_alloc] at this)
  rw [World.size_alloc]
  clear hw2 hrow hbx
  gi_wp2_with fail
  have hx2 := HW2.out.back.lt
  refine rangeCap (gf := 31) (lb := #[.pointer (some ⟨w1.heap.size + 1, 0, none⟩)]) rfl (enters_of Try.func31 (by kernel_rfl) rfl) (encD (natI l)) (fun pre x => x < n ∧ pre = downTo n (x + 1)) (downTo n 0) (fun b => b = g) (fun b hb => by rw [hb]; omega) (fun x => rfl)
    (GoneI w n c c2 A A2 g w1.heap.size js T z l)
    (fun pre W W' h _ hb => by
      obtain ⟨i, b, h1, h2, h3, h4⟩ := h
      exact ⟨i, b, h1, h2, h3.keep hb hx2, h4⟩)
    (fun lp J W hs hB hJ hY h0 => by
      have h := HW2.out.next hB
      exact backward_any 8 n c2 (w1.heap.size + 1) w.heap.size A2 (natI l) lp (fun b => b = g) J W (by omega) h.back.cell h.back.lt (by omega) (HO2.out.below h.below) h.below.size (fun b hb => by rw [hb]; omega) hY h0)
    ⟨n, _, (downTo_all n).symm, Nat.le_refl _, HW2.out, by rw [← HLN.out]; exact LateI.start (HA.out.len)⟩
    (fun x a' W => a' = { tmps := #[.slice A n c, .slice A2 n c2, .int .i64 z, .pointer (some ⟨w.heap.size, 0, none⟩), undef, undef, .slice none 0 0, .pointer (some ⟨w1.heap.size, 0, none⟩), undef, .int .i64 ((natI l).getD x 0), undef, undef, .int .i64 z, .slice (some ⟨w.heap.size + 1, 0, none⟩) 1 1, .slice A n c, .int .i64 n, .slice (some ⟨g, 0, none⟩) n n, .slice A2 n c2, .func (.func 31) #[] #[.pointer (some ⟨w1.heap.size + 1, 0, none⟩)], .int .i64 x, .int .i64 ((natI l).getD x 0), undef, undef, undef, undef, undef, undef, undef, undef, undef, undef, undef, undef, undef, undef, undef, undef, undef, undef, undef, undef, undef, undef, undef, undef, undef, undef, undef, undef, undef, undef, undef, undef, undef, undef, undef], defers := [] })
    (fun x a' W lp r o h hl => h)
    ?assign ?body ?done
  case assign =>
    intro lp pre x W K hok hi hsW hK
    simp only [encD]
    gi_wp2
    exact hK _ _ (But.refl _ _) hi rfl
  case body =>
    rintro lp pre x a' W ⟨hxn, hpre⟩ hsW ⟨i, b, h1, h2, h3, h4⟩ rfl
    obtain rfl : i = x + 1 := downTo_len (h1.symm.trans hpre) h2 (by omega)
    have HW := Lib.hid h3
    have HPRE := Lib.hid hpre
    obtain ⟨k, hk⟩ : ∃ k, l[x]? = some k := ⟨_, List.getElem?_eq_getElem (by have := HA.out.len; have := HLN.out; omega)⟩
    have HK := Lib.hid hk
    have hgk : (natI l).getD x 0 = (k : Int) := by
      unfold natI
      rw [List.getD_eq_getElem?_getD, List.getElem?_map, hk]; rfl
    rw [hgk]
    have hkn : k < n := by have := (HA.out.at_ hk).1; have := HLN.out; omega
    have HKN : Hid (k < js.length) := Lib.hid (HA.out.at_ hk).1
    have HL := Lib.hid h4
    have hbb := h4.bound (B := 10485760) (by decide) HT.out k HKN.out
    have hown := h4.own HA.out hk
    have HM := Lib.hid (h4.mid HA.out hk)
    obtain ⟨bj, off, j, A', c', rfl, hjB, hjx, ht, hac, _, _, hI, _, _⟩ := (HS.out.below h3.below).get hkn
    have HJ : Hid (js.getD k jobD = j) := Lib.hid (job_at hjx)
    obtain ⟨hl10, t0, t1, hra⟩ := right_at HZ.out HKN.out
    rw [HJ.out] at hown hl10 t0 t1 hra
    have HRA := Lib.hid hra
    have HI := Lib.hid hI
    have cj := h3.jobs.cell
    have cb := h3.box.cell
    have cr := h3.row.cell hkn
    have cf := h3.row.frozen k
    have ik0 : (0 : Int) ≤ (k : Int) := by omega
    have ik1 : (k : Int) < (n : Int) := by omega
    have hTk := HT.out k HKN.out
    generalize b k = bk at hown hbb cr
    generalize hzt : z - T k = zt at hown HM
    have HZT := Lib.hid hzt
    obtain ⟨tk, htk⟩ : ∃ tk, j.time = tk := ⟨_, rfl⟩
    rw [htk] at hown ht t0 t1
    have hwr : IntKind.i64.wrap (bk - tk) = zt := by rw [hown]; exact IntWalk.i64_in _ (by omega)
    have hac2 : Hid (W.cell? ⟨bj, off + k * 4 + 1, none⟩ = some (.slice A' j.aft.length c')) := Lib.hid hac
    clear h1 h2 h3 h4 hpre hk hgk hjx hI hra hown htk hzt hTk
    gi_wp2_with fail
    refine wpIn_region_still_tail 11 (by kernel_rfl) (by kernel_rfl) (by kernel_rfl) ?_
    simp only [List.take_succ_cons, List.take_zero, List.drop_succ_cons, List.drop_zero]
    still_step
    still_step
    still_step
    still_step
    still_step
    still_step
    still_step
    still_step
    still_step
    still_step
    still_step
    refine wpStill_nil ?_
    change wpListIn _ _ _ _ _ _ _ W.drew
    gi_wp2_with fail
    obtain ⟨W1, hW1⟩ : ∃ W1, W1 = (W.setCell ⟨g, k, none⟩ (.int .i64 zt)).drew := ⟨_, rfl⟩
    rw [← hW1]
    have HR1 : Hid (∃ b', LatW w n c c2 (some ⟨bj, off, none⟩) A2 g w1.heap.size b' W1 ∧ LateM js T z l x k 0 b' ∧ But (fun b => b = g) W W1) := Lib.hid (by
      rw [hW1]
      exact ⟨_, (HW.out.put k zt).next (Below.refl _ _).drew, HM.out, (But.set_ (S := fun b => b = g) (But.refl _ _) (p := ⟨g, k, none⟩) rfl _).drew⟩)
    clear hW1 cj cb cr cf ht hac hbb hwr HM
    gi_loopw [38] (fun y wr => ∃ t : Nat, t ≤ j.aft.length ∧ y = .int .i64 t ∧ Hid (∃ b', LatW w n c c2 (some ⟨bj, off, none⟩) A2 g w1.heap.size b' wr ∧ LateM js T z l x k t b' ∧ But (fun b => b = g) W wr)) (fun y _ => j.aft.length - (intOf y).toNat)
    case atStart => exact ⟨0, Nat.zero_le _, rfl, HR1⟩
    case round =>
      clear HR1
      obtain ⟨t, ht, rfl, HR⟩ := hrel
      by_cases htl : t < j.aft.length
      · obtain ⟨b', h1, h2, h3⟩ := HR.out
        have hI2 : IntsAt wr w.heap.size A' j.aft.length j.aft := HI.out.keep fun p hp => (h1.below.cell hp).trans (HW.out.below.cell hp).symm
        obtain ⟨b2, off2, y, rfl, hb2, hy, hcy⟩ := hI2.at_ htl
        obtain ⟨q, rfl, hqn⟩ := nat_of_right HRA.out (List.mem_of_getElem? hy)
        have hqn2 : q < n := by have := HLN.out; omega
        have H1 := Lib.hid h1
        have H3 := Lib.hid h3
        have hstep := h2.step HA.out HK.out (y := q) (by rw [HJ.out]; exact hy) hqn
        have hown := h2.own HA.out HK.out
        rw [HZT.out] at hstep hown
        have HST := Lib.hid hstep
        have cb := h1.box.cell
        have cq := h1.row.cell hqn2
        have ck := h1.row.cell hkn
        have cf := h1.row.frozen q
        rw [hown] at ck
        have it0 : (0 : Int) ≤ (t : Int) := by omega
        have it1 : (t : Int) < (j.aft.length : Int) := by omega
        have iq0 : (0 : Int) ≤ (q : Int) := by omega
        have iq1 : (q : Int) < (n : Int) := by omega
        generalize hbq : b' q = bq at cq HST
        clear h1 h2 h3 hI2 hy hstep hown hbq hqn HR
        gi_wp2_with fail
        refine wpIn_region_still_tail 12 (by kernel_rfl) (by kernel_rfl) (by kernel_rfl) ?_
        simp only [List.take_succ_cons, List.take_zero, List.drop_succ_cons, List.drop_zero]
        still_step
        still_step
        still_step
        still_step
        still_step
        still_step
        still_step
        still_step
        still_step
        still_step
        still_step
        still_step
        refine wpStill_nil ?_
        change wpListIn _ _ _ _ _ _ _ wr.drew
        gi_wp2_with fail
        have hmin : min bq zt = if zt < bq then zt else bq := by split <;> omega
        refine ⟨⟨t + 1, by omega, by go_num, Lib.hid ⟨updQ b' q (min bq zt), (H1.out.put q (min bq zt)).next (Below.refl _ _).drew, by rw [hmin]; exact HST.out, (But.set_ (S := fun b => b = g) H3.out (p := ⟨g, q, none⟩) rfl _).drew⟩⟩, ?_⟩
        simp [intOf]; omega
      · obtain rfl : t = j.aft.length := by omega
        have HEND : Hid (But (fun b => b = g) W wr ∧ GoneI w n c c2 (some ⟨bj, off, none⟩) A2 g w1.heap.size js T z l (pre ++ [x]) wr) := Lib.hid (by
          obtain ⟨b', h1, h2, h3⟩ := HR.out
          refine ⟨h3, x, b', ?_, by omega, h1, ?_⟩
          · rw [HPRE.out, downTo_next hxn]
          · rw [← HJ.out] at h2
            exact h2.done HA.out HK.out)
        clear HR
        gi_wp2_with fail
        exact HEND.out
  case done =>
    rintro D W hD ⟨i, b, h1, h2, h3, h4⟩ hK
    obtain rfl : 0 = i := downTo_len h1 (Nat.zero_le _) h2
    have cb := h3.box.cell
    have HW := Lib.hid h3
    have hE := h4.end_ HA.out
    have HRW := Lib.hid (h3.row.congr fun q hq => hE q (by have := HLN.out; omega))
    have hxd := h3.row.lt
    have HK := Lib.hid hK
    clear h1 h2 h3 h4 hE hK
    gi_wp2_with fail
    refine ⟨by simp, .inl ⟨_, _, rfl, run_takeDeferred HK.out, ?_⟩⟩
    have hb : Below w.heap.size w (W.putObj D (.deferred none)) := HW.out.below.trans ((below_put W D _).mono (by have := HW2.out.below.size; omega))
    exact ⟨_, results_tmp rfl _ _ _, g, rfl, HRW.out.of_block (World.putObj_heap_other (by omega)), hb⟩
end Go.Proofs.Ythjhndbhebnmjaa
