/- The map of the moments at which jobs are done: how it reads; the laws at its operations; line.lineUp's function waits. -/
import Derived.Test.YthjhndbhebnmjaaLineV
import Derived.Maps.OwnOps
import Derived.Maps.OwnSet
namespace Go.Proofs.Ythjhndbhebnmjaa
open Go.RowKit Go.Maps

set_option maxRecDepth 100000 in
theorem keyedL : Keyed Try.prog 3 := int_keyed Try.underlying3
set_option maxRecDepth 100000 in
theorem zeroL (w : World) : (zeroValue 2).run Try.prog w = .ok (.int .i64 0) w := by kernel_rfl
structure ReadL (l : List Nat) (v : Nat → Int) (D : DataW Unit) : Prop where
  isMap : IsMap D
  has : ∀ k : Nat, Maps.has D (.int .i64 (k : Int)) = hasI (natI l) (k : Int)
  val : ∀ k ∈ l, D.atKey (.int .i64 (k : Int)) (.lit (.int .i64 0)) = .lit (.int .i64 (v k))
def DMap (l : List Nat) (v : Nat → Int) (w : World) (g cnt : Nat) : Prop := ∃ D : DataW Unit, w.ownsMap Try.prog 3 (plainElem Try.prog 2) g cnt D ∧ ReadL l v D
theorem grown_none {w w' : World} (h : Below w.heap.size w w') (row : Option Nat) : w.grownBy w' row := ⟨h.os, h.tape, h.output, h.size, fun i hi _ => h.block i hi⟩
section
variable {l : List Nat} {v : Nat → Int} {w w' : World} {g cnt cnt' : Nat}
theorem DMap.more (h : DMap l v w g cnt) (hc : cnt ≤ cnt') : DMap l v w g cnt' := by obtain ⟨D, h1, h2⟩ := h; exact ⟨D, h1.mono hc, h2⟩
theorem DMap.lt (h : DMap l v w g cnt) : g < w.heap.size := by obtain ⟨D, h1, _⟩ := h; exact h1.lt
theorem DMap.keep (h : DMap l v w g cnt) (hb : Below w.heap.size w w') : DMap l v w' g cnt := by obtain ⟨D, h1, h2⟩ := h; exact ⟨D, h1.kept (grown_none hb none) (by simp), h2⟩
theorem DMap.grown (h : DMap l v w g cnt) {row : Option Nat} (hg : w.grownBy w' row) (hr : some g ≠ row) : DMap l v w' g cnt := by obtain ⟨D, h1, h2⟩ := h; exact ⟨D, h1.kept hg hr, h2⟩
theorem DMap.drew (h : DMap l v w g cnt) : DMap l v w.drew g cnt := h.keep (Below.refl _ _).drew
theorem DMap.start (v : Nat → Int) (w : World) : DMap [] v (w.alloc (.map #[] 0)) w.heap.size 0 := ⟨.map [], World.ownsMap_made _ _ _ _, ⟨isMap_empty, fun _ => rfl, fun _ h => (by cases h)⟩⟩
theorem keyL_is (x : Int) : WideAt.IsKeyLit (.int .i64 x) := trivial
theorem keyL_ne {s t : Nat} (h : s ≠ t) : (Lit.int .i64 (s : Int)) ≠ Lit.int .i64 (t : Int) := fun e => h (by injection e; omega)
theorem natI_has_snoc (l : List Nat) (k x : Nat) : hasI (natI (l ++ [x])) (k : Int) = (hasI (natI l) (k : Int) || decide (k = x)) := by
  rw [Bool.eq_iff_iff, Bool.or_eq_true, decide_eq_true_iff, hasI_nat, hasI_nat, List.mem_append, List.mem_singleton]
theorem ReadL.put {D : DataW Unit} (h : ReadL l v D) {x : Nat} (hx : x ∉ l) (z : Int) : ReadL (l ++ [x]) (updV v x z) (D.put (.int .i64 (x : Int)) (.lit (.int .i64 z))) := by
  refine ⟨h.isMap.put _ _, fun k => ?_, fun k hk => ?_⟩
  · rw [natI_has_snoc]
    by_cases e : k = x
    · subst e
      rw [has_put_same h.isMap (keyL_is _), decide_eq_true rfl, Bool.or_true]
    · rw [has_put_other (keyL_ne e), h.has, decide_eq_false e, Bool.or_false]
  · rcases List.mem_append.1 hk with hk | hk
    · have e : k ≠ x := fun e => hx (e ▸ hk)
      rw [atKey_put_other (keyL_ne e), updV_other _ e]
      exact h.val k hk
    · rw [List.mem_singleton.1 hk, atKey_put_same h.isMap (keyL_is _), updV_same]
end
theorem wf_natL {t : Nat} (h : t < 4294967296) : (Lit.int .i64 (t : Int)).wf = true := WalkArith.wf_i64 (by omega)
/-! At the operations. -/
section
variable {l : List Nat} {v : Nat → Int} {g cnt : Nat} {w : World} {ops : Array Oper} {rest : List Oper} {o : Oper} {a : Act} {Q : Exit → Act → World → Prop}
set_option maxRecDepth 100000 in
theorem look_done (hg : o.guard = none) (m x : Operand) (hop : o.op = Op.lookup 42 m x false) (hm : a.eval m = .map (some g)) (h : DMap l v w g cnt) {k : Nat} (ht : (Lit.int .i64 (k : Int)).wf = true) (hx : a.eval x = .int .i64 (k : Int)) (hk : k ∈ l)
    (hK : wpList Try.prog ops Q rest (a.put o.dst (.int .i64 (v k))) w) :
    wpList Try.prog ops Q (o :: rest) a w := by
  obtain ⟨D, h1, h2⟩ := h
  refine wpList_lookup_own_int w hg m x 42 hop 3 2 .i64 keyedL Try.underlying42 Try.underlying2 (zeroL w) g cnt D hm h1 _ (.int .i64 (k : Int)) hx (keyOf_int_mk Try.underlying3 ht) (fun c hat _ => ?_)
  rw [h2.val k hk] at hat
  injection hat with hat
  injection hat with _ hat
  rw [← hat]
  exact hK
set_option maxRecDepth 100000 in
theorem look_is (hg : o.guard = none) (m x : Operand) (hop : o.op = Op.lookup 42 m x true) (hm : a.eval m = .map (some g)) (h : DMap l v w g cnt) {k : Nat} (ht : (Lit.int .i64 (k : Int)).wf = true) (hx : a.eval x = .int .i64 (k : Int)) (b : Bool) (hb : hasI (natI l) (k : Int) = b)
    (hK : ∀ c : Int, wpList Try.prog ops Q rest (a.put o.dst (.tuple #[.int .i64 c, .bool b])) w) :
    wpList Try.prog ops Q (o :: rest) a w := by
  obtain ⟨D, h1, h2⟩ := h
  refine wpList_lookup_own_ok_int w hg m x 42 hop 3 2 .i64 keyedL Try.underlying42 Try.underlying2 (zeroL w) g cnt D hm h1 _ (.int .i64 (k : Int)) hx (keyOf_int_mk Try.underlying3 ht) (fun c _ _ => ?_)
  rw [h2.has, hb]
  exact hK c
set_option maxRecDepth 100000 in
theorem store_done (hg : o.guard = none) (m x y : Operand) (hop : o.op = Op.mapUpdate 42 m x y) (hm : a.eval m = .map (some g)) (h : DMap l v w g cnt) (hc : cnt < 1000000) {k : Nat} (ht : (Lit.int .i64 (k : Int)).wf = true) (hx : a.eval x = .int .i64 (k : Int)) (hk : k ∉ l) {z : Int}
    (hz : 0 ≤ z ∧ z ≤ 4294967296) (hv : a.eval y = .int .i64 z)
    (hK : ∀ w', DMap (l ++ [k]) (updV v k z) w' g (cnt + 1) → w.grownBy w' (some g) → wpList Try.prog ops Q rest (a.put o.dst undef) w') :
    wpList Try.prog ops Q (o :: rest) a w := by
  obtain ⟨D, h1, h2⟩ := h
  exact wpList_mapUpdate_own w hg m x y 42 hop 3 2 keyedL Try.underlying42 (plainElem Try.prog 2) g cnt D hm h1 (by unfold maxLen; omega) _ _ (.int .i64 (k : Int)) hx hv (keyOf_int_mk Try.underlying3 ht) _ _
    (plainElem_int Try.underlying2 (WalkArith.wf_i64 (by omega))) (fun w' h3 h4 => hK w' ⟨_, h3, h2.put hk z⟩ h4)
end
/-- What waits has captured. -/
structure WaitL (l : List Nat) (v : Nat → Int) (w : World) (b g cnt : Nat) : Prop where
  box : w.cell? ⟨b, 0, none⟩ = some (.map (some g))
  lt : b < w.heap.size
  map : DMap l v w g cnt
theorem WaitL.keep {l : List Nat} {v : Nat → Int} {w w' : World} {b g cnt : Nat} (h : WaitL l v w b g cnt) (hb : Below w.heap.size w w') : WaitL l v w' b g cnt :=
  ⟨(hb.cell (p := ⟨b, 0, none⟩) h.lt).trans h.box, Nat.lt_of_lt_of_le h.lt hb.size, h.map.keep hb⟩
set_option maxRecDepth 100000 in
theorem waits_v (l : List Nat) (v : Nat → Int) (b g cnt k : Nat) (q : Bool) (w : World) (H : WaitL l v w b g cnt) (hk : k < 4294967296) (hq : hasI (natI l) (k : Int) = !q) :
    Calls Try.prog 21 #[.int .i64 (k : Int), .pointer (some ⟨b, 0, none⟩)] w fun e w' => e = .returned (.bool q) ∧ w' = w := by
  have hbx := H.box
  have HM := Lib.hid H.map
  have HQ := Lib.hid hq
  have wf := wf_natL hk
  clear H hq
  cases q with
  | true =>
    go_enter Try.func21, Try.ntmps21
    go_wp2_with (at_lookup; refine look_is rfl _ _ rfl rfl HM.out wf rfl false (by exact HQ.out) ?_; intro c)
    go_ret
    exact ⟨rfl, rfl⟩
  | false =>
    go_enter Try.func21, Try.ntmps21
    go_wp2_with (at_lookup; refine look_is rfl _ _ rfl rfl HM.out wf rfl true (by exact HQ.out) ?_; intro c)
    go_ret
    exact ⟨rfl, rfl⟩
/-- Some of a list wait. -/
def SomeWait (l : List Nat) (xs : List Int) : Prop := ∃ x ∈ xs, hasI (natI l) x = false
set_option maxRecDepth 100000 in
set_option maxHeartbeats 1000000 in
theorem indexWait_any (n cap b g cnt : Nat) (l : List Nat) (v : Nat → Int) (A : Option Addr) (xs : List Int) (w : World) (hA : IntsAt w w.heap.size A n xs) (hn : n ≤ 1000000) (hx : ∀ x ∈ xs, 0 ≤ x ∧ x < 4294967296) (H : WaitL l v w b g cnt) :
    Calls Try.prog 33 #[.slice A n cap, .func (.func 21) #[] #[.pointer (some ⟨b, 0, none⟩)]] w fun e w' => ∃ z, e = .returned (.int .i64 z) ∧ (0 ≤ z ↔ SomeWait l xs) ∧ w' = w := by
  have HA := Lib.hid hA
  have HC := Lib.hid (fun k q hk hq => waits_v l v b g cnt k q w H hk hq)
  have HXS := Lib.hid hx
  clear hA H hx
  go_enter Try.func33, Try.ntmps33
  go_wp2
  go_loop [8] (fun j => ∃ k : Nat, k ≤ n ∧ j = .int .i64 k ∧ Hid (∀ x ∈ xs.take k, hasI (natI l) x = true)) (fun j => n - (intOf j).toNat)
  case atStart => exact ⟨0, Nat.zero_le _, rfl, Lib.hid (fun x hx => by simp at hx)⟩
  case round =>
    obtain ⟨k, hk, rfl, HP⟩ := hrel
    by_cases hlt : k < n
    · obtain ⟨bb, off, x, rfl, _, hx, hcx⟩ := HA.out.at_ hlt
      have ik0 : (0 : Int) ≤ (k : Int) := by omega
      have ik1 : (k : Int) < (n : Int) := by omega
      have HX := Lib.hid hx
      obtain ⟨x0, x1⟩ := HXS.out x (List.mem_of_getElem? hx)
      obtain ⟨y, rfl⟩ := Int.eq_ofNat_of_zero_le x0
      have hy : y < 4294967296 := by omega
      clear hx x0 x1
      cases h : hasI (natI l) (y : Int) with
      | false =>
        have HR : Hid (SomeWait l xs) := Lib.hid ⟨_, List.mem_of_getElem? HX.out, h⟩
        have HO := Lib.hid (HC.out y true hy (by rw [h]; rfl))
        clear h
        go_wp2_with (go_at_call 21; refine HO.out.mono ?_; rintro e w1 ⟨rfl, rfl⟩)
        go_ret
        exact ⟨_, rfl, ⟨fun _ => HR.out, fun _ => by omega⟩, rfl⟩
      | true =>
        have HP2 : Hid (∀ x ∈ xs.take (k + 1), hasI (natI l) x = true) := Lib.hid (by
          obtain ⟨h1, h2⟩ := List.getElem?_eq_some_iff.1 HX.out
          intro z hz
          rw [List.take_succ_eq_append_getElem h1, h2, List.mem_append, List.mem_singleton] at hz
          rcases hz with hz | rfl
          · exact HP.out z hz
          · exact h)
        have HO := Lib.hid (HC.out y false hy (by rw [h]; rfl))
        clear h
        go_wp2_with (go_at_call 21; refine HO.out.mono ?_; rintro e w1 ⟨rfl, rfl⟩)
        go_round
        case rel => exact ⟨k + 1, by omega, by go_num, HP2⟩
        case measure => simp [intOf]; omega
    · have HR : Hid (¬ SomeWait l xs) := Lib.hid (by
        rintro ⟨x, hx, h⟩
        have := HP.out
        rw [List.take_of_length_le (by have := HA.out.1; omega)] at this
        rw [this x hx] at h
        cases h)
      go_wp2
      go_ret
      exact ⟨-1, rfl, ⟨fun h => by omega, fun h => absurd h HR.out⟩, rfl⟩
set_option maxRecDepth 100000 in
theorem containsWait_v (n cap b g cnt : Nat) (l : List Nat) (v : Nat → Int) (A : Option Addr) (xs : List Int) (q : Bool) (w : World) (hA : IntsAt w w.heap.size A n xs) (hn : n ≤ 1000000) (hx : ∀ x ∈ xs, 0 ≤ x ∧ x < 4294967296) (H : WaitL l v w b g cnt) (hq : q = true ↔ SomeWait l xs) :
    Calls Try.prog 29 #[.slice A n cap, .func (.func 21) #[] #[.pointer (some ⟨b, 0, none⟩)]] w fun e w' => e = .returned (.bool q) ∧ w' = w := by
  have HI := Lib.hid (indexWait_any n cap b g cnt l v A xs w hA hn hx H)
  have HV := Lib.hid hq
  clear hA hq hx H
  go_enter Try.func29, Try.ntmps29
  go_wp2_with fail
  refine HI.out.mono ?_
  rintro e w1 ⟨z, rfl, hz, rfl⟩
  have HZ := Lib.hid hz
  clear hz
  cases q with
  | true =>
    have hz0 : decide (0 ≤ z) = true := decide_eq_true (HZ.out.2 (HV.out.1 rfl))
    go_wp2
    go_ret
    exact ⟨rfl, rfl⟩
  | false =>
    have hz0 : decide (0 ≤ z) = false := decide_eq_false fun h => by have := HV.out.2 (HZ.out.1 h); cases this
    go_wp2
    go_ret
    exact ⟨rfl, rfl⟩
theorem someWait_iff {js : List JobV} {l : List Nat} {i : Nat} : (hasI (natI l) (i : Int) = false ∧ ¬ SomeWait l (js.getD i jobD).aft) ↔ readyB js l i = true := by
  unfold readyB SomeWait
  rw [Bool.and_eq_true, Bool.not_eq_true', List.all_eq_true]
  constructor
  · rintro ⟨h1, h2⟩
    exact ⟨h1, fun x hx => by
      cases h : hasI (natI l) x with
      | true => rfl
      | false => exact absurd ⟨x, hx, h⟩ h2⟩
  · rintro ⟨h1, h2⟩
    exact ⟨h1, fun ⟨x, hx, h⟩ => by rw [h2 x hx] at h; cases h⟩
set_option maxRecDepth 100000 in
set_option maxHeartbeats 2000000 in
/-- line.nextOf. -/
theorem nextOf_any (n c b g cnt : Nat) (l : List Nat) (v : Nat → Int) (A : Option Addr) (js : List JobV) (r : Option Nat) (w : World) (S : JobsAt w w.heap.size A n js) (hz : jobsF js = 0) (H : WaitL l v w b g cnt) (hr : nextF (readyB js l) n 0 = r) :
    Calls Try.prog 22 #[.slice A n c, .func (.func 21) #[] #[.pointer (some ⟨b, 0, none⟩)]] w fun e w' => e = .returned (.int .i64 (nxI r)) ∧ Below w.heap.size w w' := by
  have HS := Lib.hid S
  have HW := Lib.hid H
  have HR := Lib.hid hr
  have HZ := Lib.hid hz
  have HLN := Lib.hid S.len
  have hn10 : n ≤ 10 := by have := (jobsF_zero hz).1; have := S.len; omega
  clear S H hr hz
  go_enter Try.func22, Try.ntmps22
  go_wp2
  go_loopw [9] (fun y wr => ∃ k : Nat, k ≤ n ∧ y = .int .i64 k ∧ Hid (nextF (readyB js l) n k = r) ∧ Hid (Below w.heap.size w wr)) (fun y _ => n - (intOf y).toNat)
  case atStart => exact ⟨0, Nat.zero_le _, rfl, HR, Lib.hid (Below.refl _ _)⟩
  case round =>
    clear HR
    obtain ⟨k, hk, rfl, HR, HB⟩ := hrel
    by_cases hkn : k < n
    · obtain ⟨bb, off, j, A', c', rfl, _, hx, hc0, hc1, hc2, hc3, hI, _, _⟩ := (HS.out.go_ HB.out).get hkn
      have ik0 : (0 : Int) ≤ (k : Int) := by omega
      have ik1 : (k : Int) < (n : Int) := by omega
      have HBA : ∀ o, Hid (Below wr.heap.size wr (wr.alloc o)) := fun o => Lib.hid ((Below.refl _ _).alloc (Nat.le_refl _) o)
      have HBB : ∀ o, Hid (Below w.heap.size w (wr.alloc o)) := fun o => Lib.hid (HB.out.trans ((HBA o).out.mono HB.out.size))
      have HI : ∀ o, Hid (IntsAt (wr.alloc o) (wr.alloc o).heap.size A' j.aft.length j.aft) := fun o => Lib.hid (hI.go_ (HBA o).out)
      have HWW : ∀ o, Hid (WaitL l v (wr.alloc o) b g cnt) := fun o => Lib.hid (HW.out.keep (HBB o).out)
      have HJ : Hid (js.getD k jobD = j) := Lib.hid (job_at hx)
      have hra := right_at HZ.out (i := k) (by have := HLN.out; omega)
      rw [HJ.out] at hra
      have hla : j.aft.length ≤ 10 := hra.1
      have HRA : Hid (∀ x ∈ j.aft, 0 ≤ x ∧ x < 4294967296) := Lib.hid fun x hx => by have := hra.2.2.2 x hx; have := HLN.out; omega
      have HRB := Lib.hid (someWait_iff (js := js) (l := l) (i := k))
      rw [HJ.out] at HRB
      have HNS := Lib.hid (nextF_step (f := readyB js l) (n := n) (i := k) hkn)
      clear hra hx hI
      cases hh : hasI (natI l) (k : Int) with
      | true =>
        have HN : Hid (nextF (readyB js l) n (k + 1) = r) := Lib.hid (by
          rw [← HR.out, HNS.out, if_neg]
          intro h
          have := (HRB.out.2 h).1
          rw [hh] at this; cases this)
        have HV := Lib.hid (fun o => waits_v l v b g cnt k false (wr.alloc o) (HWW o).out (by omega) (by rw [hh]; rfl))
        clear hh HR HRB HNS
        go_wp2_with fail
        refine (HV.out _).mono ?_
        rintro e w1 ⟨rfl, rfl⟩
        go_wp2
        go_roundw
        case rel => exact ⟨k + 1, by omega, by go_num, HN, HBB _⟩
        case measure => simp [intOf]; omega
      | false =>
        have HV := Lib.hid (fun o => waits_v l v b g cnt k true (wr.alloc o) (HWW o).out (by omega) (by rw [hh]; rfl))
        have HH := Lib.hid hh
        clear hh
        by_cases hs : SomeWait l j.aft
        · have HN : Hid (nextF (readyB js l) n (k + 1) = r) := Lib.hid (by
            rw [← HR.out, HNS.out, if_neg]
            intro h
            exact (HRB.out.2 h).2 hs)
          have HC := Lib.hid (fun o => containsWait_v j.aft.length c' b g cnt l v A' j.aft true (wr.alloc o) (HI o).out (by omega) HRA.out (HWW o).out ⟨fun _ => hs, fun _ => rfl⟩)
          clear hs HR HRB HNS
          go_wp2_with fail
          refine (HV.out _).mono ?_
          rintro e w1 ⟨rfl, rfl⟩
          go_wp2_with fail
          refine (HC.out _).mono ?_
          rintro e w1 ⟨rfl, rfl⟩
          go_wp2
          go_roundw
          case rel => exact ⟨k + 1, by omega, by go_num, HN, HBB _⟩
          case measure => simp [intOf]; omega
        · have HN : Hid (r = some k) := Lib.hid (by
            rw [← HR.out, HNS.out, if_pos]
            exact HRB.out.1 ⟨HH.out, hs⟩)
          have HC := Lib.hid (fun o => containsWait_v j.aft.length c' b g cnt l v A' j.aft false (wr.alloc o) (HI o).out (by omega) HRA.out (HWW o).out ⟨fun h => (by cases h), fun h => absurd h hs⟩)
          clear hs HR HRB HNS
          go_wp2_with fail
          refine (HV.out _).mono ?_
          rintro e w1 ⟨rfl, rfl⟩
          go_wp2_with fail
          refine (HC.out _).mono ?_
          rintro e w1 ⟨rfl, rfl⟩
          go_wp2
          go_ret
          exact ⟨by rw [HN.out]; rfl, (HBB _).out⟩
    · obtain rfl : k = n := by omega
      have HN : Hid (r = none) := Lib.hid (by rw [← HR.out, nextF_end])
      clear HR
      go_wp2
      go_ret
      exact ⟨by rw [HN.out]; rfl, HB.out⟩
set_option maxRecDepth 100000 in
set_option maxHeartbeats 1000000 in
/-- line.lastOf. -/
theorem lastOf_any (n c g cnt : Nat) (l : List Nat) (v : Nat → Int) (A : Option Addr) (xs : List Int) (z : Int) (w : World) (hA : IntsAt w w.heap.size A n xs) (hn : n ≤ 1000000) (hx : ∀ x ∈ xs, ∃ k : Nat, x = (k : Int) ∧ k ∈ l ∧ k < 4294967296) (H : DMap l v w g cnt) (hz : maxL v xs 0 = z) :
    Calls Try.prog 23 #[.slice A n c, .map (some g)] w fun e w' => e = .returned (.int .i64 z) ∧ w' = w := by
  have HA := Lib.hid hA
  have HM := Lib.hid H
  have HX := Lib.hid hx
  have HZ := Lib.hid hz
  clear hA H hx hz
  go_enter Try.func23, Try.ntmps23
  go_wp2
  go_loop [5, 10] (fun y j => ∃ k : Nat, k ≤ n ∧ y = .int .i64 (maxL v (xs.take k) 0) ∧ j = .int .i64 k) (fun _ j => n - (intOf j).toNat)
  case atStart => exact ⟨0, Nat.zero_le _, rfl, rfl⟩
  case round =>
    obtain ⟨k, hk, rfl, rfl⟩ := hrel
    by_cases hlt : k < n
    · obtain ⟨bb, off, x, rfl, _, hx, hcx⟩ := HA.out.at_ hlt
      have ik0 : (0 : Int) ≤ (k : Int) := by omega
      have ik1 : (k : Int) < (n : Int) := by omega
      obtain ⟨y, rfl, hy, hy2⟩ := HX.out x (List.mem_of_getElem? hx)
      have HT := Lib.hid (maxL_take (v := v) (m := 0) hx)
      have wf := wf_natL hy2
      have HY := Lib.hid hy
      clear hx hy
      rw [show ((y : Int)).toNat = y from rfl] at HT
      generalize maxL v (xs.take k) 0 = m at HT
      obtain ⟨u, hu⟩ : ∃ u, v y = u := ⟨_, rfl⟩
      have HU := Lib.hid hu
      rw [hu] at HT
      clear hu
      go_wp2_with (at_lookup; refine look_done rfl _ _ rfl rfl HM.out wf rfl HY.out ?_; rw [HU.out])
      go_round
      case rel => exact ⟨k + 1, by omega, by rw [HT.out], by go_num⟩
      case measure => simp [intOf]; omega
    · obtain rfl : k = n := by omega
      have HR : Hid (maxL v (xs.take k) 0 = z) := Lib.hid (by rw [List.take_of_length_le (by have := HA.out.1; omega)]; exact HZ.out)
      go_wp2
      go_ret
      exact ⟨by rw [HR.out]; first | done | rfl, rfl⟩
end Go.Proofs.Ythjhndbhebnmjaa
