/- The reference's assign, Assign: the recursion that tries all. No conditions. -/
import Derived.Test.YtmlmnmphmghdlaaDoorAppStep
import Derived.Test.YtmlmnmphmghdlaaDoorRefFees
import Derived.Test.YtmlmnmphmghdlaaDoorHas
import Derived.Test.YtmlmnmphmghdlaaDoorDealGo
namespace Go.Proofs.YtmlmnmphmghdlaaDoor
open Go.RowKit

theorem wp_of_step {P : Program} {ops : Array Oper} {o : Oper} {a : Act} {w : World} {K : Act → World → Prop} {Q : Exit → Act → World → Prop} {E : Prop} (hgd : o.guard = none) (h : if Region.wanted o (yielded ops a.tmps) = true then Oper.wp P o a w K Q else E) : Oper.wp P o a w K Q := by
  have hw : Region.wanted o (yielded ops a.tmps) = true := by simp [Region.wanted, hgd]
  rwa [if_pos hw] at h
section
variable {ops : Array Oper} {rest : List Oper} {o : Oper} {a : Act} {w : World} {Q : Exit → Act → World → Prop}
set_option maxRecDepth 100000 in
theorem list_app_new (hgd : o.guard = none) (s x : Operand) (ho : o.op = .call { callee := .builtin .append, args := #[s, x], argTypes := #[23, 23] })
    (w0 : World) (z : Nat) (A : Option Addr) (m c : Nat) (pre : List Int) (hs : a.eval s = .slice (some ⟨z, 0, none⟩) 0 0) (hx : a.eval x = .slice A m c) (hb : Below w0.heap.size w0 w) (hz0 : w0.heap.size ≤ z) (hz : w.heap[z]? = some (.cells #[] 3 (0, 0)))
    (hA : ArgAt w0 A m c pre) (hm : m ≤ 100000)
    (h : ∀ A' c' w', w'.ownsRow w0.heap.size 3 1 (.slice A' m c') m (pre.map (Value.int .i64)) → Below w0.heap.size w0 w' → wpList Tryd.prog ops Q rest (a.put o.dst (.slice A' m c')) w') : wpList Tryd.prog ops Q (o :: rest) a w :=
  wpList_plain hgd fun _ hK => wp_of_step (ops := ops) (E := True) hgd (step_app_new hgd s x ho w0 z A m c pre hs hx hb hz0 hz hA hm fun A' c' w' h1 h2 _ _ => hK _ _ (h A' c' w' h1 h2))
set_option maxRecDepth 100000 in
theorem list_app_one (hgd : o.guard = none) (s x : Operand) (ho : o.op = .call { callee := .builtin .append, args := #[s, x], argTypes := #[23, 23] })
    (w0 : World) (y : Nat) (A : Option Addr) (m c : Nat) (pre : List Int) (j : Int) (hs : a.eval s = .slice A m c) (hx : a.eval x = .slice (some ⟨y, 0, none⟩) 1 1) (hb : Below w0.heap.size w0 w) (hown : w.ownsRow w0.heap.size 3 1 (.slice A m c) m (pre.map (Value.int .i64)))
    (hy : w.heap[y]? = some (.cells #[.int .i64 j] 3 (0, 0))) (hm : m ≤ 100000)
    (h : ∀ A' c' w', ArgAt w' A' (m + 1) c' (pre ++ [j]) → Below w0.heap.size w0 w' → wpList Tryd.prog ops Q rest (a.put o.dst (.slice A' (m + 1) c')) w') : wpList Tryd.prog ops Q (o :: rest) a w :=
  wpList_plain hgd fun _ hK => wp_of_step (ops := ops) (E := True) hgd (step_app_one hgd s x ho w0 y A m c pre j hs hx hb hown hy hm fun A' c' w' h1 h2 => hK _ _ (h A' c' w' h1 h2))
end
theorem word_of : ∀ l : List Nat, ∃ t, IsW t l
  | [] => ⟨0, IsW.nil⟩
  | j :: l => by
    obtain ⟨t, ht⟩ := word_of l
    refine ⟨t ||| 2 ^ j, fun i => ?_⟩
    rw [Nat.testBit_or, ht i, Nat.testBit_two_pow]
    by_cases h1 : i ∈ l <;> by_cases h2 : j = i <;> simp [h1, h2] <;> omega
def intsOf (l : List Nat) : List Int := l.map fun j : Nat => (j : Int)
theorem has_intsOf (l : List Nat) (j : Nat) : hasI (intsOf l) (j : Int) = true ↔ j ∈ l := by
  rw [hasI_iff]
  unfold intsOf
  rw [List.mem_map]
  constructor
  · rintro ⟨x, hx, he⟩
    have : x = j := by omega
    rw [← this]; exact hx
  · exact fun h => ⟨j, h, rfl⟩
theorem asgR_abs {fee : Nat → Nat → Int} {n : Nat} {M : Int} (hM : ∀ i j, -M ≤ fee i j ∧ fee i j ≤ M) (hM0 : 0 ≤ M) {r : Nat} {l : List Nat} (h : l.length + r = n) : -(r * M) ≤ (asgR fee n r l).2 ∧ (asgR fee n r l).2 ≤ r * M := by
  obtain ⟨t, ht⟩ := word_of l
  rw [deal_asg r l t ht h]
  exact deal_abs hM hM0 r t
/-- What stands in a round. -/
def AsgS (w : World) (b : Option (List Nat × Int)) (n : Nat) (Ab : Option Addr) (mb cb : Nat) (lv : Int) (wr : World) : Prop :=
  Below w.heap.size w wr ∧ match b with
  | none => Ab = none ∧ mb = 0 ∧ cb = 0 ∧ lv = 1152921504606846976
  | some b => mb = n ∧ lv = b.2 ∧ ArgAt wr Ab n cb (intsOf b.1)
theorem AsgS.next {w wr W : World} {b : Option (List Nat × Int)} {n : Nat} {Ab : Option Addr} {mb cb : Nat} {lv : Int} (h : AsgS w b n Ab mb cb lv wr) (hb : Below wr.heap.size wr W) : AsgS w b n Ab mb cb lv W := by
  refine ⟨h.1.trans (hb.mono h.1.size), ?_⟩
  have h2 := h.2
  cases b with
  | none => exact h2
  | some b => exact ⟨h2.1, h2.2.1, h2.2.2.keep hb⟩
set_option maxRecDepth 100000 in
set_option maxHeartbeats 4000000 in
theorem refAssign_rec (A : Option Addr) (n c : Nat) (Ls : List (List Int)) (hn : n ≤ 8) (hs : SquareF Ls) (hr : ∀ r, r ∈ Ls → InRow r) :
    ∀ (r m : Nat) (A2 : Option Addr) (cap : Nat) (pre : List Nat) (w : World), m + r = n → pre.Nodup → (∀ x ∈ pre, x < n) → ArgAt w A2 m cap (intsOf pre) → SideAt w w.heap.size A n c Ls →
    Calls Tryd.prog 16 #[.slice A n c, .slice A2 m cap] w fun e w' => ∃ A' c', e = .returned (.tuple #[.slice A' n c', .int .i64 (asgR (feeQ Ls) n r pre).2]) ∧ ArgAt w' A' n c' (intsOf (asgR (feeQ Ls) n r pre).1) ∧ Below w.heap.size w w' := by
  intro r
  induction r with
  | zero =>
    intro m A2 cap pre w hmr _ _ HA _
    obtain rfl : m = n := by omega
    have HA0 := Lib.hid HA
    have hmm : ((m : Int) == (m : Int)) = true := by simp
    clear HA hs hr
    go_enter Tryd.func16, Tryd.ntmps16
    go_wp2_with fail
    go_ret2
    exact ⟨A2, cap, rfl, HA0.out, Below.refl _ _⟩
  | succ r IH =>
    intro m A2 cap pre w hmr hnd hlt HA S
    have hmn : m < n := by omega
    have hpl : pre.length = m := by have := HA.1; simpa [intsOf] using this
    have HIH := Lib.hid IH
    have HS := Lib.hid S
    have HARW := Lib.hid HA
    have HSQ := Lib.hid hs
    have HRG := Lib.hid hr
    have HND := Lib.hid (And.intro hnd hlt)
    have HPL := Lib.hid hpl
    have hne : ((m : Int) == (n : Int)) = false := by simp; omega
    obtain ⟨rec_, hrec⟩ : ∃ rec_ : Nat → List Nat × Int, rec_ = fun j => asgR (feeQ Ls) n r (pre ++ [j]) := ⟨_, rfl⟩
    have HREC := Lib.hid hrec
    have HALL : Hid (∀ b, asgTo rec_ (feeQ Ls m) pre n = some b → asgR (feeQ Ls) n (r + 1) pre = b) := Lib.hid fun b hb => by
      simp only [asgR]; rw [hpl, ← hrec, hb]; rfl
    have HSOME : Hid (∀ (_ : asgTo rec_ (feeQ Ls m) pre n = none), False) := Lib.hid fun h => by
      have h1 := (asgR_ok (fee := feeQ Ls) (n := n) (r + 1) pre (by omega) hnd hlt).1.ext.len
      have h2 : asgR (feeQ Ls) n (r + 1) pre = ([], 0) := by simp only [asgR]; rw [hpl, ← hrec, h]; rfl
      rw [h2] at h1
      simp at h1
      omega
    obtain ⟨i0, hi0, hz0, hz1, hz2⟩ := info_parts infoInt
    clear HA S hs hr hnd hlt hpl IH hrec hi0 hz0 hz1 hz2 i0
    go_enter Tryd.func16, Tryd.ntmps16
    go_wp2_with fail
    go_loopw [7, 8, 9] (fun x y z wr => ∃ (k : Nat) (Ab : Option Addr) (mb cb : Nat) (lv : Int), k ≤ n ∧ x = .slice Ab mb cb ∧ y = .int .i64 lv ∧ z = .int .i64 k ∧ Hid (AsgS w (asgTo rec_ (feeQ Ls m) pre k) n Ab mb cb lv wr)) (fun _ _ z _ => n - (intOf z).toNat)
    case atStart => exact ⟨0, none, 0, 0, _, Nat.zero_le _, rfl, rfl, rfl, Lib.hid ⟨Below.refl _ _, rfl, rfl, rfl, rfl⟩⟩
    case round =>
      obtain ⟨k, Ab, mb, cb, lv, hk, rfl, rfl, rfl, HI⟩ := hrel
      by_cases hkn : k < n
      · have ik0 : (0 : Int) ≤ (k : Int) := by omega
        have ik1 : (k : Int) < (n : Int) := by omega
        have HAR := Lib.hid ((show ArgAt wr A2 m cap (intsOf pre) from by
          have hb := HI.out.1
          exact HARW.out.keep hb))
        obtain ⟨v1, hv1⟩ : ∃ v, hasI (intsOf pre) (k : Int) = v := ⟨_, rfl⟩
        have HH1 := Lib.hid (has_v m cap (k : Int) v1 A2 (intsOf pre) wr HAR.out.ints (by omega) hv1)
        have HV1 := Lib.hid hv1
        clear hv1
        cases v1 with
        | true =>
          have HN : Hid (AsgS w (asgTo rec_ (feeQ Ls m) pre (k + 1)) n Ab mb cb lv wr) := Lib.hid (by
            have e : asgTo rec_ (feeQ Ls m) pre (k + 1) = asgTo rec_ (feeQ Ls m) pre k := by simp only [asgTo]; rw [if_pos ((has_intsOf pre k).1 HV1.out)]
            rw [e]; exact HI.out)
          go_wp2_with fail
          refine HH1.out.mono ?_
          rintro e w2 ⟨rfl, rfl⟩
          go_wp2_with fail
          go_roundw
          case rel => exact ⟨k + 1, Ab, mb, cb, lv, by omega, rfl, rfl, by go_num, HN⟩
          case measure => simp [intOf]; omega
        | false =>
          have hnk : k ∉ pre := fun h => by have := (has_intsOf pre k).2 h; rw [HV1.out] at this; cases this
          have HNK := Lib.hid hnk
          have hm8 : m ≤ 100000 := by omega
          have HCALL : Hid (∀ A5 c5 w5, Below wr.heap.size wr w5 → ArgAt w5 A5 (m + 1) c5 (intsOf pre ++ [(k : Int)]) → Calls Tryd.prog 16 #[.slice A n c, .slice A5 ((m + 1 : Nat)) c5] w5 fun e w' => ∃ A' c', e = .returned (.tuple #[.slice A' n c', .int .i64 (rec_ k).2]) ∧ ArgAt w' A' n c' (intsOf (rec_ k).1) ∧ Below w5.heap.size w5 w') := Lib.hid fun A5 c5 w5 hb5 ha5 => by
            have hs5 : SideAt w5 w5.heap.size A n c Ls := (HS.out.go_ HI.out.1).go_ hb5
            have h := HIH.out (m + 1) A5 c5 (pre ++ [k]) w5 (by omega) (by
              rw [List.nodup_append]
              refine ⟨HND.out.1, by simp, fun a ha b hb => ?_⟩
              rw [List.mem_singleton.1 hb]
              rintro rfl
              exact hnk ha) (fun x hx => by
              rcases List.mem_append.1 hx with hx | hx
              · exact HND.out.2 x hx
              · rw [List.mem_singleton.1 hx]; exact hkn) (by simpa [intsOf] using ha5) hs5
            rw [HREC.out]
            exact h
          clear hnk
          have hx1 : -8388608 ≤ (rec_ k).2 ∧ (rec_ k).2 ≤ 8388608 := by
            have h := asgR_abs (fee := feeQ Ls) (n := n) (M := 1048576) (feeQ_abs HRG.out) (by decide) (r := r) (l := pre ++ [k]) (by simp; have := HPL.out; omega)
            rw [HREC.out]
            have h2 : (r : Int) * 1048576 ≤ 8 * 1048576 := Int.mul_le_mul_of_nonneg_right (by omega) (by decide)
            show -8388608 ≤ (asgR (feeQ Ls) n r (pre ++ [k])).2 ∧ (asgR (feeQ Ls) n r (pre ++ [k])).2 ≤ 8388608
            omega
          obtain ⟨x, hxe⟩ : ∃ x, x = (rec_ k).2 := ⟨_, rfl⟩
          rw [← hxe] at HCALL hx1
          have HX := Lib.hid hxe
          obtain ⟨hx0, hx2⟩ := hx1
          clear hxe
          go_wp2_with fail
          refine HH1.out.mono ?_
          rintro e w2 ⟨rfl, rfl⟩
          clear HH1
          go_wp2_with (at_builtin; refine list_app_new rfl _ _ rfl wr wr.heap.size A2 m cap (intsOf pre) rfl rfl ((Below.refl _ _).alloc (Nat.le_refl _) _) (Nat.le_refl _) (heap_alloc_new wr _) HAR.out hm8 ?_)
          intro A4 c4 w4 hown4 hb4
          have HB4 := Lib.hid hb4
          have HO4 := Lib.hid hown4
          clear hown4 hb4
          go_wp2_with (at_builtin; refine list_app_one rfl _ _ rfl wr w4.heap.size A4 m c4 (intsOf pre) (k : Int) rfl rfl (HB4.out.alloc HB4.out.size _) (HO4.out.alloc _) (heap_alloc_new w4 _) hm8 ?_)
          intro A5 c5 w5 ha5 hb5
          have HA5 := Lib.hid ha5
          have HB5 := Lib.hid hb5
          clear ha5 hb5
          go_wp2_with fail
          refine (HCALL.out _ _ _ (by exact HB5.out) (by exact HA5.out)).mono ?_
          rintro e w6 ⟨A6, c6, rfl, ha6, hb6⟩
          have HA6 := Lib.hid ha6
          have HB6 : Hid (Below wr.heap.size wr w6) := Lib.hid (HB5.out.trans (hb6.mono HB5.out.size))
          clear ha6 hb6 HCALL
          have HS6 := Lib.hid ((HS.out.go_ HI.out.1).go_ HB6.out)
          obtain ⟨bb, off, xs, A', c', rfl, _, hxs, hc, hI, _, _⟩ := HS6.out.get hmn
          have hxl : xs.length = n := by have := HSQ.out xs (List.mem_of_getElem? hxs); rw [this]; exact HS6.out.len
          obtain ⟨b', off', z, rfl, _, hzz, hcz⟩ := hI.at_ (show k < xs.length by omega)
          have hfee := feeQ_at hxs hzz
          obtain ⟨z1, z2⟩ := HRG.out xs (List.mem_of_getElem? hxs) z (List.mem_of_getElem? hzz)
          rw [hxl] at hc
          have HF := Lib.hid hfee
          have im0 : (0 : Int) ≤ (m : Int) := by omega
          have im1 : (m : Int) < (n : Int) := by omega
          clear hxs hzz hI hfee
          have HKEY : Hid (asgTo rec_ (feeQ Ls m) pre (k + 1) = match asgTo rec_ (feeQ Ls m) pre k with
            | none => some ((rec_ k).1, x + z)
            | some b => if x + z < b.2 then some ((rec_ k).1, x + z) else some b) := Lib.hid (by
            simp only [asgTo]; rw [if_neg HNK.out, ← HX.out, HF.out]; cases asgTo rec_ (feeQ Ls m) pre k <;> rfl)
          by_cases hlt : x + z < lv
          · have HN : Hid (AsgS w (asgTo rec_ (feeQ Ls m) pre (k + 1)) n A6 n c6 (x + z) w6) := Lib.hid (by
              have h := HI.out
              have h2 := h.2
              have e : asgTo rec_ (feeQ Ls m) pre (k + 1) = some ((rec_ k).1, x + z) := by
                rw [HKEY.out]
                cases hq : asgTo rec_ (feeQ Ls m) pre k with
                | none => rfl
                | some b =>
                  rw [hq] at h2
                  exact if_pos (by rw [← h2.2.1]; exact hlt)
              rw [e]
              exact ⟨h.1.trans (HB6.out.mono h.1.size), rfl, rfl, HA6.out⟩)
            clear HI
            go_wp2_with fail
            go_roundw
            case rel => exact ⟨k + 1, A6, n, c6, x + z, by omega, rfl, rfl, by go_num, HN⟩
            case measure => simp [intOf]; omega
          · have HN : Hid (AsgS w (asgTo rec_ (feeQ Ls m) pre (k + 1)) n Ab mb cb lv w6) := Lib.hid (by
              have h := HI.out.next HB6.out
              have e : asgTo rec_ (feeQ Ls m) pre (k + 1) = asgTo rec_ (feeQ Ls m) pre k := by
                rw [HKEY.out]
                have h2 := h.2
                cases hq : asgTo rec_ (feeQ Ls m) pre k with
                | none =>
                  rw [hq] at h2
                  obtain ⟨_, _, _, h3⟩ := h2
                  omega
                | some b =>
                  rw [hq] at h2
                  exact if_neg (by rw [← h2.2.1]; exact hlt)
              rw [e]; exact h)
            have hltb : decide (x + z < lv) = false := decide_eq_false hlt
            clear HI hlt
            go_wp2_with fail
            go_roundw
            case rel => exact ⟨k + 1, Ab, mb, cb, lv, by omega, rfl, rfl, by go_num, HN⟩
            case measure => simp [intOf]; omega
      · obtain rfl : k = n := by omega
        obtain ⟨b, HB⟩ : ∃ b, Hid (asgTo rec_ (feeQ Ls m) pre k = some b) := by
          cases hq : asgTo rec_ (feeQ Ls m) pre k with
          | none => exact (HSOME.out hq).elim
          | some b => exact ⟨b, Lib.hid rfl⟩
        have HE := Lib.hid (HALL.out b HB.out)
        have HI2 : Hid (Below w.heap.size w wr ∧ mb = k ∧ lv = b.2 ∧ ArgAt wr Ab k cb (intsOf b.1)) := Lib.hid (by
          have h := HI.out
          rw [HB.out] at h
          exact ⟨h.1, h.2⟩)
        clear HI HSOME HALL
        go_wp2_with fail
        go_ret2
        exact ⟨Ab, cb, by rw [HE.out, ← HI2.out.2.1, ← HI2.out.2.2.1]; rfl, by rw [HE.out]; exact HI2.out.2.2.2, HI2.out.1⟩
set_option maxRecDepth 100000 in
theorem refAssign_any (A : Option Addr) (n c : Nat) (Ls : List (List Int)) (w : World) (S : SideAt w w.heap.size A n c Ls) (hx : feesF Ls = 0) :
    Calls Tryd.prog 8 #[.slice A n c] w fun e w' => ∃ A' c', e = .returned (.tuple #[.slice A' n c', .int .i64 (asgR (feeQ Ls) n n []).2]) ∧ ArgAt w' A' n c' (intsOf (asgR (feeQ Ls) n n []).1) ∧ Below w.heap.size w w' := by
  obtain ⟨hn8, hs, hr⟩ := feesF_zero hx
  rw [S.len] at hn8
  have HC := Lib.hid (refAssign_rec A n c Ls hn8 hs hr n 0 none 0 [] w (Nat.zero_add n) (by simp) (by simp) (ArgAt.nil w) S)
  clear S hx hs hr
  go_enter Tryd.func8, Tryd.ntmps8
  go_wp2_with fail
  refine HC.out.mono ?_
  rintro e w1 ⟨A', c', rfl, h1, h2⟩
  have H1 := Lib.hid (And.intro h1 h2)
  clear h1 h2 HC
  go_wp2
  go_ret2
  exact ⟨A', c', rfl, H1.out⟩
end Go.Proofs.YtmlmnmphmghdlaaDoor
