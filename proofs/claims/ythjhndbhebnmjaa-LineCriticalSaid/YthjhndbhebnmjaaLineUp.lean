/- line.lineUp: the first order, and when each job is done. No conditions. -/
import Derived.Test.YthjhndbhebnmjaaDoneMap
import Derived.Test.YthjhndbhebnmjaaLineCheckTop
import Derived.Maps.AppendAt
import Derived.StillTailTactics
import Derived.StillTail
namespace Go.Proofs.Ythjhndbhebnmjaa
open Go.RowKit Go.Maps

theorem lineCheck_v (A : Option Addr) (n c : Nat) (js : List JobV) (x : Int) (w : World) (S : JobsAt w w.heap.size A n js) (hx : jobsF js = x) :
    Calls Try.prog 20 #[.slice A n c] w fun e w' => e = .returned (.int .i64 x) ∧ Below w.heap.size w w' := by
  subst hx; exact lineCheck_any A n c js w S
/-- What lineUp tells. -/
def LineUpOut (w : World) (n : Nat) (js : List JobV) (e : Ending) (w' : World) : Prop :=
  (ordX js ≠ 0 → e = .returned (.tuple #[.slice none 0 0, .map none, .int .i64 (ordX js)])) ∧
  (ordX js = 0 → ∃ l A' c' g v, ordF js js.length [] = some l ∧ e = .returned (.tuple #[.slice A' n c', .map (some g), .int .i64 0]) ∧ IntsAt w' w'.heap.size A' n (natI l) ∧ n ≤ c' ∧ DMap l v w' g n ∧ DoneV js l v) ∧ Below w.heap.size w w'
theorem WaitL.grown {l : List Nat} {v : Nat → Int} {w w' : World} {b g cnt : Nat} {row : Option Nat} (h : WaitL l v w b g cnt) (hg : w.grownBy w' row) (h1 : some b ≠ row) (h2 : some g ≠ row) : WaitL l v w' b g cnt :=
  ⟨(World.cell?_of_block (w := w) (hg.block b h.lt h1)).trans h.box, Nat.lt_of_lt_of_le h.lt hg.size, h.map.grown hg h2⟩
theorem JobsAt.grown {w w' : World} {B n : Nat} {A : Option Addr} {js : List JobV} {row : Option Nat} (h : JobsAt w B A n js) (hg : w.grownBy w' row) (hB : B ≤ w.heap.size) (hr : ∀ q, row = some q → B ≤ q) : JobsAt w' B A n js :=
  h.keep fun p hp => World.cell?_of_block (w := w) (hg.block p.block (by omega) (fun e => by have := hr _ e.symm; omega))
theorem LineUpOut.drewN {w : World} {n : Nat} {js : List JobV} {e : Ending} {w' : World} (h : LineUpOut w n js e w') (q : Nat) : LineUpOut w n js e (w'.drewN q) := by
  obtain ⟨h1, h2, h3⟩ := h
  refine ⟨h1, fun h0 => ?_, below_drewN h3 q⟩
  obtain ⟨l, A', c', g, v, a1, a2, a3, a4, a5, a6⟩ := h2 h0
  exact ⟨l, A', c', g, v, a1, a2, a3.go_ (below_drewN (Below.refl _ _) q), a4, a5.keep (below_drewN (Below.refl _ _) q), a6⟩
/-- In the middle of it: l is in order. -/
structure UpI (w : World) (s n k : Nat) (js : List JobV) (A1 : Option Addr) (c1 : Nat) (l : List Nat) (v : Nat → Int) (wr : World) : Prop where
  own : wr.ownsRow w.heap.size 3 1 (.slice A1 k c1) k ((natI l).map (Value.int .i64))
  ne : ∀ a, A1 = some a → a.block ≠ s ∧ a.block ≠ s + 1
  wait : WaitL l v wr (s + 1) s k
  done : DoneV js l v
  ord : OrderP (jobsP js) l
  below : Below w.heap.size w wr
  lo : w.heap.size ≤ s
set_option maxRecDepth 100000 in
set_option maxHeartbeats 4000000 in
theorem lineUp_any (A : Option Addr) (n c : Nat) (js : List JobV) (w : World) (S : JobsAt w w.heap.size A n js) :
    Calls Try.prog 16 #[.slice A n c] w (LineUpOut w n js) := by
  have HS := Lib.hid S
  obtain ⟨x, hx⟩ : ∃ x, jobsF js = x := ⟨_, rfl⟩
  have HX := Lib.hid hx
  have HLN := Lib.hid S.len
  have HCK := Lib.hid (lineCheck_v A n c js x w S hx)
  by_cases h0 : x = 0
  · subst h0
    obtain ⟨hl, hj⟩ := jobsF_zero hx
    have hn10 : n ≤ 10 := by have := S.len; omega
    have HJ := Lib.hid hj
    obtain ⟨vv, hv⟩ : ∃ v, ordF js n [] = v := ⟨_, rfl⟩
    have HV := Lib.hid hv
    have HY : Hid (ordX js = if vv = none then 5 else 0) := Lib.hid (by unfold ordX; rw [if_pos hx, HLN.out, hv])
    obtain ⟨i0, hi, hz0, hz1, hz2⟩ := info_parts infoInt
    have HI := Lib.hid hi
    have HI0 := Lib.hid hz0
    have HI1 := Lib.hid hz1
    have HI2 := Lib.hid hz2
    have hmm := @run_makeMap Try.prog
    clear hx S hl hj hv hi hz0 hz1 hz2
    go_enter Try.func16, Try.ntmps16
    go_wp2_with fail
    refine HCK.out.mono ?_
    rintro e w1 ⟨rfl, hb⟩
    have HB1 := Lib.hid hb
    have hs1 := hb.size
    clear hb HCK
    go_wp2_with (at_make; refine wpList_make_own _ rfl _ _ 23 rfl w.heap.size 3 i0 (.int .i64 0) 1 Try.underlying23 HI.out HI0.out HI1.out _ _ _ n rfl rfl rfl ?b1 ?b2 ?b3 ?_)
    case b1 => have h : i0.bytes = 8 := HI2.out
               rw [h]; omega
    case b2 => unfold maxLen; omega
    case b3 => exact hs1
    intro w2 hown2 hgrow2
    have hs2 := hgrow2.size
    have hB2 : Below w.heap.size w w2 := HB1.out.grown hgrow2 hs1 (fun q hq => by cases hq)
    obtain ⟨s, hs⟩ : ∃ s, w2.heap.size = s := ⟨_, rfl⟩
    obtain ⟨W0, hW0⟩ : ∃ W0, (w2.alloc (.map #[] 0)).alloc (.cells #[.map (some s)] 42) = W0 := ⟨_, rfl⟩
    have HU0 : Hid (UpI w s n 0 js (some ⟨w1.heap.size, 0, none⟩) n [] (fun _ => 0) W0) := Lib.hid (by
      have hb : ∀ o1 o2, Below w2.heap.size w2 ((w2.alloc o1).alloc o2) := fun o1 o2 => ((Below.refl _ _).alloc (Nat.le_refl _) o1).alloc (by simp) o2
      have h1 := hown2.lt w1.heap.size rfl
      rw [← hW0]
      subst hs
      refine ⟨?_, fun a ha => ?_, ⟨?_, ?_, ?_⟩, DoneV.nil _, OrderP.nil _, hB2.trans ((hb _ _).mono (by omega)), by omega⟩
      · exact hown2.kept (grown_of_below (hb _ _) none) (.inr (by simp [Value.ownBlock]))
      · injection ha with ha
        subst ha
        simp only
        omega
      · simp [go_sem]
      · simp
      · exact (DMap.start _ w2).keep ((Below.refl _ _).alloc (Nat.le_refl _) _))
    clear hown2 hgrow2 hB2
    go_wp2_with fail
    try simp only [hs, hW0]
    clear hW0 hmm hs
    go_loopw [6, 22] (fun a y wr => ∃ (k c1 : Nat) (A1 : Option Addr), a = .slice A1 k c1 ∧ y = .int .i64 k ∧ k ≤ n ∧ Hid (∃ l v, UpI w s n k js A1 c1 l v wr ∧ ordF js (n - k) l = vv)) (fun _ y _ => n - (intOf y).toNat)
    case atStart => exact ⟨0, n, _, rfl, rfl, Nat.zero_le _, Lib.hid ⟨[], _, HU0.out, HV.out⟩⟩
    case round =>
      clear HU0
      obtain ⟨k, c1, A1, rfl, rfl, hk, HH⟩ := hrel
      by_cases hkn : k < n
      · obtain ⟨l, v, hu, hd⟩ := HH.out
        have HU := Lib.hid hu
        have HD := Lib.hid hd
        obtain ⟨r, hr⟩ : ∃ r, nextF (readyB js l) n 0 = r := ⟨_, rfl⟩
        have HNX := Lib.hid (nextOf_any n c (s + 1) s k l v A js r wr (HS.out.go_ HU.out.below) HX.out HU.out.wait hr)
        clear hu hd HH
        cases r with
        | none =>
          have HY5 : Hid (ordX js = 5) := Lib.hid (by
            have hvn : vv = none := by
              rw [← HD.out, show n - k = (n - k - 1) + 1 by omega]
              exact ordF_stuck (by rw [HLN.out]; exact hr)
            rw [HY.out, hvn]; rfl)
          clear hr
          rw [show nxI none = -1 from rfl] at HNX
          go_wp2_with fail
          refine HNX.out.mono ?_
          rintro e w3 ⟨rfl, hb⟩
          have HB3 : Hid (Below w.heap.size w w3) := Lib.hid (HU.out.below.trans (hb.mono HU.out.below.size))
          have HRET : Hid (∀ e, e = Ending.returned (.tuple #[.slice none 0 0, .map none, .int .i64 5]) → LineUpOut w n js e w3) := Lib.hid fun e he => ⟨fun _ => by rw [HY5.out]; exact he, fun h => absurd h (by rw [HY5.out]; decide), HB3.out⟩
          clear hb HNX
          go_wp2_with fail
          go_ret3
          exact HRET.out _ rfl
        | some x =>
          obtain ⟨_, hxn, hxr⟩ := nextF_some hr
          have HRD : Hid (readyP (jobsP js) l x) := Lib.hid ((readyB_iff (fun j hj => (HJ.out j hj).2.2.2) (by have := HLN.out; omega)).1 hxr)
          have HD2 : Hid (ordF js (n - (k + 1)) (l ++ [x]) = vv) := Lib.hid (by
            rw [← HD.out, show n - k = (n - (k + 1)) + 1 by omega]
            exact (ordF_step (by rw [HLN.out]; exact hr)).symm)
          have HSN := Lib.hid (natI_snoc l x)
          have hx0 : (0 : Int) ≤ (x : Int) := by omega
          have hx1 : (x : Int) < (n : Int) := by omega
          rw [show nxI (some x) = (x : Int) from rfl] at HNX
          clear hr hxr
          go_wp2_with fail
          refine HNX.out.mono ?_
          rintro e w3 ⟨rfl, hb⟩
          have HB3 := Lib.hid hb
          clear hb HNX
          have HO3 : Hid (w3.ownsRow w.heap.size 3 1 (.slice A1 k c1) k ((natI l).map (Value.int .i64))) := Lib.hid (HU.out.own.kept (grown_of_below HB3.out none) (by
            cases A1 with
            | none => exact .inl rfl
            | some a => exact .inr (by simp [Value.ownBlock])))
          go_wp2_with (at_builtin; refine wpList_append_own_at _ rfl _ _ 23 rfl w.heap.size 3 i0 (.int .i64 0) 1 8 Try.underlying23 HI.out HI0.out HI1.out HI2.out rfl (by decide) _ _ _ rfl (HO3.out.alloc _) ⟨w3.heap.size, 0, none⟩ 1 1 [.int .i64 (x : Int)] rfl rfl ?c1 ?c2 ?c3 ?c4 ?c5 ?_)
          try (case c1 => exact cell_one_new _ _ _)
          case c2 => simp [Value.oneCell']
          case c3 => unfold maxLen; omega
          case c4 => omega
          case c5 => have := HU.out.below.size; have := HB3.out.size; simp; omega
          intro v' w4 hown' hgrow _ hat
          obtain ⟨A3, c3, rfl⟩ := own_form hown'
          have hrow : ∀ q, (Value.slice A1 k c1).ownBlock = some q → w.heap.size ≤ q ∧ q ≠ s ∧ q ≠ s + 1 := fun q hq => by
            refine ⟨own_base HU.out.own q hq, ?_⟩
            cases A1 with
            | none => cases hq
            | some a =>
              have h1 := HU.out.ne a rfl
              simp only [Value.ownBlock, Option.some.injEq] at hq
              rw [← hq]; exact h1
          have hb3a : ∀ o, Below wr.heap.size wr (w3.alloc o) := fun o => HB3.out.alloc HB3.out.size o
          have hba : ∀ o, Below w.heap.size w (w3.alloc o) := fun o => HU.out.below.trans ((hb3a o).mono HU.out.below.size)
          have hne1 : some (s + 1) ≠ (Value.slice A1 k c1).ownBlock := fun e => (hrow _ e.symm).2.2 rfl
          have hne2 : some s ≠ (Value.slice A1 k c1).ownBlock := fun e => (hrow _ e.symm).2.1 rfl
          have HW4 : Hid (WaitL l v w4 (s + 1) s k) := Lib.hid ((HU.out.wait.keep (hb3a _)).grown hgrow hne1 hne2)
          have HS4 : Hid (JobsAt w4 w.heap.size A n js) := Lib.hid ((HS.out.below (hba _)).grown hgrow (hba _).size (fun q hq => (hrow q hq).1))
          have HB4 : Hid (Below w.heap.size w w4) := Lib.hid ((hba _).grown hgrow (hba _).size (fun q hq => (hrow q hq).1))
          have HNE : Hid (∀ a, A3 = some a → a.block ≠ s ∧ a.block ≠ s + 1) := Lib.hid fun a ha => by
            subst ha
            simp only [Value.ownBlock] at hat
            rcases hat with h | h
            · have := hrow a.block (by simpa [Value.ownBlock] using h.symm)
              exact this.2
            · injection h with h
              have h1 := (HU.out.wait.keep HB3.out).lt
              have h2 : (w3.alloc (.cells #[.int .i64 (x : Int)] 3)).heap.size = w3.heap.size + 1 := by simp
              have h3 : a.block = w3.heap.size + 1 := by rw [h]; first | done | exact h2
              omega
          have HO4 : Hid (w4.ownsRow w.heap.size 3 1 (.slice A3 (k + 1) c3) (k + 1) ((natI (l ++ [x])).map (Value.int .i64))) := Lib.hid (by rw [HSN.out]; exact hown')
          obtain ⟨b, off, j, A', c', rfl, _, hjx, ht, hac, _, _, hI, _, _⟩ := HS4.out.get hxn
          have HJX : Hid (js.getD x jobD = j) := Lib.hid (job_at hjx)
          obtain ⟨hl10, t0, t1, hra⟩ := HJ.out j (List.mem_of_getElem? hjx)
          have hbx := HW4.out.box
          have HAL : Hid (∀ y ∈ j.aft, ∃ q : Nat, y = (q : Int) ∧ q ∈ l ∧ q < 4294967296) := Lib.hid fun y hy => by
            obtain ⟨q, rfl, hq⟩ := nat_of_right hra hy
            have := HRD.out.2.2 q (by show hasI (js.getD x jobD).aft (q : Int) = true; rw [HJX.out]; exact hasI_iff.2 hy)
            exact ⟨q, rfl, this, by have := HU.out.ord.lt q this; have h2 : q < js.length := this; have := HLN.out; omega⟩
          obtain ⟨m, hm⟩ : ∃ m, maxL v j.aft 0 = m := ⟨_, rfl⟩
          obtain ⟨m0, m1⟩ := HU.out.done.maxB (a := j.aft) (fun y hy => by obtain ⟨q, h1, h2, _⟩ := HAL.out y hy; exact ⟨q, h1, h2⟩)
          rw [hm] at m0 m1
          have hll : l.length = k := by have := HU.out.own.1; simpa [natI] using this
          have HLO := Lib.hid (lastOf_any j.aft.length c' s k l v A' j.aft m w4.drew ((hI.more HB4.out.size).below (Below.refl _ _).drew) (by omega) HAL.out HW4.out.map.drew hm)
          have HDS := Lib.hid (DoneV.step HX.out HU.out.ord HU.out.done (by have := HLN.out; omega) HRD.out)
          rw [HJX.out, hm] at HDS
          have HM4 := Lib.hid HW4.out.map.drew
          have HNL : Hid (x ∉ l) := Lib.hid HRD.out.2.1
          have wf := wf_natL (t := x) (by omega)
          generalize j.time = tx at *
          have hmb : m ≤ 10485760 := by rw [hll] at m1; omega
          have hw : IntKind.i64.wrap (m + tx) = m + tx := IntWalk.i64_in _ (by omega)
          have HZB : Hid (0 ≤ m + tx ∧ m + tx ≤ 4294967296) := Lib.hid (by omega)
          clear hown' hgrow hat hrow hb3a hba hne1 hne2 hjx hI hra HAL hm m1 hll
          go_wp2_with fail
          refine wp_region_still_tail 15 (by kernel_rfl) (by kernel_rfl) ?_
          simp only [List.take_succ_cons, List.take_zero, List.drop_succ_cons, List.drop_zero]
          still_step
          still_step
          still_step
          still_step
          still_step
          still_step
          still_step
          still_step
          still_call HLO.out
          still_step
          still_step
          still_step
          still_step
          still_step
          still_step
          refine wpStill_nil ?_
          change wpList _ _ _ _ _ w4.drew
          go_wp2_with (at_mapUpdate; refine store_done rfl _ _ _ rfl rfl HM4.out (by omega) wf rfl HNL.out HZB.out rfl ?_; intro w5 hm5 hg5)
          have HU5 : Hid (UpI w s n (k + 1) js A3 c3 (l ++ [x]) (updV v x (m + tx)) w5) := Lib.hid ⟨HO4.out.kept (row := some s) ⟨hg5.os, hg5.tape, hg5.output, hg5.size, hg5.block⟩ (by
              cases A3 with
              | none => exact .inl rfl
              | some a => exact .inr (by simp only [Value.ownBlock]; intro e; injection e with e; exact (HNE.out a rfl).1 e)), HNE.out,
            ⟨(World.cell?_of_block (w := w4.drew) (hg5.block (s + 1) HW4.out.lt (fun e => by injection e; omega))).trans HW4.out.box, Nat.lt_of_lt_of_le HW4.out.lt hg5.size, hm5⟩, HDS.out, HU.out.ord.snoc HRD.out,
            HB4.out.drew.grown hg5 HB4.out.size (fun q hq => by injection hq with hq; rw [← hq]; exact HU.out.lo), HU.out.lo⟩
          clear hm5 hg5 HM4 HLO HZB hw hmb hbx ht hac
          go_wp2_with fail
          go_roundw
          case rel => exact ⟨k + 1, c3, A3, rfl, by go_num, by omega, Lib.hid ⟨_, _, HU5.out, HD2.out⟩⟩
          case measure => simp [intOf]; omega
      · obtain rfl : k = n := by omega
        have HRET : Hid (∀ e, e = Ending.returned (.tuple #[.slice A1 k c1, .map (some s), .int .i64 0]) → LineUpOut w k js e wr) := Lib.hid fun e he => by
          obtain ⟨l, v, hu, hd⟩ := HH.out
          rw [Nat.sub_self] at hd
          have hd' : some l = vv := hd
          have HY0 : ordX js = 0 := by rw [HY.out, ← hd']; rfl
          have hV := HV.out
          rw [← hd', ← HLN.out] at hV
          exact ⟨fun h => absurd HY0 h, fun _ => ⟨l, A1, c1, s, v, hV, he, IntsAt.of_own hu.own (Nat.le_refl _), own_room hu.own, hu.wait.map, hu.done⟩, hu.below⟩
        obtain ⟨l, v, hu, hd⟩ := HH.out
        have hbx := hu.wait.box
        clear hu hd HH
        go_wp2_with fail
        go_quiet (fail)
        go_wp2_with fail
        go_ret3
        exact (HRET.out _ rfl).drewN _
  · have HX2 : Hid (ordX js = x) := Lib.hid (by unfold ordX; rw [if_neg (by rw [hx]; exact h0), hx])
    have hx0 : (x != 0) = true := by simpa using h0
    have HRET : Hid (∀ W, Below w.heap.size w W → ∀ e, e = Ending.returned (.tuple #[.slice none 0 0, .map none, .int .i64 x]) → LineUpOut w n js e W) := Lib.hid fun W hb e he => ⟨fun _ => by rw [HX2.out]; exact he, fun h => absurd (HX2.out.symm.trans h) h0, hb⟩
    clear hx S h0
    go_enter Try.func16, Try.ntmps16
    go_wp2_with fail
    refine HCK.out.mono ?_
    rintro e w1 ⟨rfl, hb⟩
    have HB1 := Lib.hid hb
    clear hb HCK
    go_wp2_with fail
    go_ret3
    exact HRET.out _ HB1.out _ rfl
end Go.Proofs.Ythjhndbhebnmjaa
