/- The statement ColourFewSaid, out of the law's walk. No conditions. -/
import Derived.Test.YtpcealcghglopaaBoxB
import Derived.Test.YtpcealcghglopaaInsideV
import Derived.Test.YtpcealcghglopaaRefDist
import Derived.Test.YtpcealcghglopaaHas
import Derived.Test.YtpcealcghglopaaAdj
import Derived.Test.YtpcealcghglopaaCheckGo
import Derived.Test.YtpcealcghglopaaColourTop
import Derived.Test.YtpcealcghglopaaMem
import Derived.Test.YtpcealcghglopaaRows2
import Derived.Test.YtpcealcghglopaaLeastTop
import Derived.BigQuiet
import Derived.Test.YtpcealcghglopaaRows
import Derived.ProofKit
import Derived.Deep.Slices
import Derived.Deep.Strs
import Derived.Lib.SmallJoins
namespace Go.Proofs.Ytpcealcghglopaa
open Go.RowKit

def RightL (n : Nat) (es : List E3) (k : Int) (xs : List Int) : Prop := xs.length = n ∧ (∀ x ∈ xs, 0 ≤ x ∧ x < k) ∧ ∀ e ∈ es, xs.getD e.1.toNat 0 ≠ xs.getD e.2.1.toNat 0
theorem allIn_iff {k : Int} {xs : List Int} : xs.all (isIn k) = true ↔ ∀ x ∈ xs, 0 ≤ x ∧ x < k := by
  rw [List.all_eq_true]
  constructor
  · intro h x hx; simpa [isIn] using h x hx
  · intro h x hx; have := h x hx; simp [isIn]; omega
set_option maxRecDepth 100000 in
set_option maxHeartbeats 2000000 in
theorem right_v (n : Nat) (A : Option Addr) (len cap : Nat) (es : List E3) (k : Int) (A2 : Option Addr) (len2 c2 : Nat) (xs : List Int) (v : Bool) (w : World) (hE : EdgesAt w w.heap.size A len es) (hl : len ≤ 45) (hI : InE n es) (h2 : IntsAt w w.heap.size A2 len2 xs) (hn2 : len2 ≤ 9223372036854775807) (hn : n ≤ 10) (hv : v = true ↔ RightL n es k xs) :
    Calls Try.prog 26 #[.agg #[.int .i64 (n : Int), .slice A len cap], .int .i64 k, .slice A2 len2 c2] w fun e w' => e = .returned (.bool v) ∧ Below w.heap.size w w' := by
  have HX := Lib.hid (BoxG.start (n := (n : Int)) (cap := cap) hE)
  have H2 := Lib.hid (h2.go_ (show Below w.heap.size w (bx w n A len cap) from (Below.refl _ _).alloc (Nat.le_refl _) _))
  have HI := Lib.hid hI
  have HV := Lib.hid hv
  have HL : Hid (xs.length = len2) := Lib.hid h2.1
  have HLE : Hid (es.length = len) := Lib.hid hE.1
  have HF : Hid (¬ RightL n es k xs → v = false) := Lib.hid fun h => by
    cases v with
    | false => rfl
    | true => exact absurd (hv.1 rfl) h
  have k0 := HX.out.c0
  have k1 := HX.out.c1
  have HBW := Lib.hid HX.out.below
  clear hE hI h2 hv
  by_cases hlen : len2 = n
  · subst hlen
    obtain ⟨u, hu⟩ : ∃ u, xs.all (isIn k) = u := ⟨_, rfl⟩
    have HU := Lib.hid hu
    have HIN := Lib.hid (fun W hW => inside_v k A2 len2 c2 xs u W hW hn2 hu)
    clear hu
    cases u with
    | false =>
      have HN : Hid (v = false) := Lib.hid (HF.out fun h => by
        have := allIn_iff.2 h.2.1
        rw [HU.out] at this; cases this)
      go_enter Try.func26, Try.ntmps26
      go_wp2_with fail
      refine (HIN.out _ H2.out).mono ?_
      rintro e w1 ⟨rfl, rfl⟩
      go_wp2_with fail
      go_ret
      exact ⟨by rw [HN.out]; first | done | rfl, HBW.out⟩
    | true =>
      go_enter Try.func26, Try.ntmps26
      go_wp2_with fail
      refine (HIN.out _ H2.out).mono ?_
      rintro e w1 ⟨rfl, rfl⟩
      go_wp2_with fail
      clear k0 k1
      go_loopw [23] (fun y wr => ∃ q : Nat, q ≤ len ∧ y = .int .i64 q ∧ Hid (∀ e ∈ es.take q, xs.getD e.1.toNat 0 ≠ xs.getD e.2.1.toNat 0) ∧ Hid (BoxG w (len2 : Int) A len cap es wr)) (fun y _ => len - (intOf y).toNat)
      case atStart => exact ⟨0, Nat.zero_le _, rfl, Lib.hid (fun e he => by simp at he), HX⟩
      case round =>
        obtain ⟨q, hq, rfl, HP, HB⟩ := hrel
        by_cases hlt : q < len
        · obtain ⟨b', off, ⟨a0, a1, a2⟩, rfl, hb, hx, hc0, hc1, hc2⟩ := HB.out.edges.at_ hlt
          have ik0 : (0 : Int) ≤ (q : Int) := by omega
          have ik1 : (q : Int) < (len : Int) := by omega
          obtain ⟨p0, p1, p2, p3⟩ := HI.out _ (List.mem_of_getElem? hx)
          simp only at p0 p1 p2 p3 hc0 hc1 hc2
          obtain ⟨x, rfl⟩ := Int.eq_ofNat_of_zero_le p0
          obtain ⟨y, rfl⟩ := Int.eq_ofNat_of_zero_le p2
          have hxn : x < len2 := by omega
          have hyn : y < len2 := by omega
          have HBA : ∀ o, Hid (BoxG w (len2 : Int) (some ⟨b', off, none⟩) len cap es (wr.alloc o)) := fun o => Lib.hid (HB.out.next ((Below.refl _ _).alloc (Nat.le_refl _) o))
          have h2w : ∀ o, IntsAt (wr.alloc o) (wr.alloc o).heap.size A2 len2 xs := fun o => (H2.out.below (HB.out.box.alloc HB.out.box.size o)).more (HB.out.box.alloc HB.out.box.size o).size
          obtain ⟨o2, ho2⟩ : ∃ o2, o2 = Obj.cells #[.int .i64 (x : Int), .int .i64 (y : Int), .int .i64 a2] 61 (0, 0) := ⟨_, rfl⟩
          obtain ⟨bb, oo, u, rfl, _, hu, hcu⟩ := (h2w o2).at_ hxn
          obtain ⟨v', hv', hcv⟩ : ∃ v', xs[y]? = some v' ∧ (wr.alloc o2).cell? ⟨bb, oo + y, none⟩ = some (.int .i64 v') := by
            obtain ⟨bb', oo', v', e, _, h5, h6⟩ := (h2w o2).at_ hyn
            injection e with e
            injection e with e1 e2
            subst e1 e2
            exact ⟨v', h5, h6⟩
          rw [ho2] at hcu hcv
          have HGU : Hid (xs.getD x 0 = u) := Lib.hid (by rw [List.getD_eq_getElem?_getD, hu]; rfl)
          have HGV : Hid (xs.getD y 0 = v') := Lib.hid (by rw [List.getD_eq_getElem?_getD, hv']; rfl)
          have HM := Lib.hid (List.mem_of_getElem? hx)
          have HS : Hid (es.take (q + 1) = es.take q ++ [((x : Int), (y : Int), a2)]) := Lib.hid (by
            obtain ⟨h3, h4⟩ := List.getElem?_eq_some_iff.1 hx
            rw [List.take_succ_eq_append_getElem h3, h4])
          clear hx hu hv' h2w ho2
          by_cases huv : u = v'
          · have HN : Hid (v = false) := Lib.hid (HF.out fun h => by
              have := h.2.2 _ HM.out
              simp only [Int.toNat_natCast] at this
              rw [HGU.out, HGV.out] at this
              exact this huv)
            have hb2 : (u == v') = true := by simpa using huv
            clear huv HP
            go_wp2_with fail
            go_quiet (fail)
            go_wp2_with fail
            go_ret
            exact ⟨by rw [HN.out]; first | done | rfl, below_drewN ((HBA _).out.below) _⟩
          · have HP2 : Hid (∀ e ∈ es.take (q + 1), xs.getD e.1.toNat 0 ≠ xs.getD e.2.1.toNat 0) := Lib.hid fun e he => by
              rw [HS.out] at he
              rcases List.mem_append.1 he with he | he
              · exact HP.out e he
              · rw [List.mem_singleton.1 he]
                simp only [Int.toNat_natCast]
                rw [HGU.out, HGV.out]
                exact huv
            have hb2 : (u == v') = false := by simpa using huv
            clear huv HP
            go_wp2_with fail
            go_quiet (fail)
            go_wp2_with fail
            go_roundw
            case rel => exact ⟨q + 1, by omega, by go_num, HP2, Lib.hid ((HBA _).out.next (below_drewN (Below.refl _ _) _))⟩
            case measure => simp [intOf]; omega
        · obtain rfl : q = len := by omega
          have HN : Hid (v = true) := Lib.hid (HV.out.2 ⟨HL.out, allIn_iff.1 HU.out, by
            have h := HP.out
            rwa [List.take_of_length_le (by have := HLE.out; omega)] at h⟩)
          clear HP
          go_wp2_with fail
          go_ret
          exact ⟨by rw [HN.out]; first | done | rfl, HB.out.below⟩
  · have HN : Hid (v = false) := Lib.hid (HF.out fun h => hlen (HL.out.symm.trans h.1))
    have hb : ((len2 : Int) != (n : Int)) = true := by simp; omega
    clear hlen
    go_enter Try.func26, Try.ntmps26
    go_wp2_with fail
    go_ret
    exact ⟨by rw [HN.out]; first | done | rfl, HBW.out⟩
end Go.Proofs.Ytpcealcghglopaa

namespace Go.Proofs.Ytpcealcghglopaa
open Go.RowKit

theorem IntsAt.take_ {w : World} {B n k : Nat} {A : Option Addr} {xs : List Int} (h : IntsAt w B A n xs) (hk : k ≤ n) : IntsAt w B A k (xs.take k) :=
  ⟨by rw [List.length_take, h.1]; omega, fun hk0 => by
    obtain ⟨b, off, e, hb, hc⟩ := h.2 (by omega)
    exact ⟨b, off, e, hb, fun i x hx => hc i x (by rw [List.getElem?_take] at hx; split at hx <;> simp_all)⟩⟩
end Go.Proofs.Ytpcealcghglopaa

namespace Go.Proofs.Ytpcealcghglopaa

/-- Is there a way? -/
def Rch (es : List E3) (i j : Nat) : Prop := ∃ k, wk (adjE es) k i j
theorem Rch.refl (es : List E3) (i : Nat) : Rch es i i := ⟨0, rfl⟩
theorem Rch.symm {es : List E3} {i j : Nat} (h : Rch es i j) : Rch es j i := by obtain ⟨k, hk⟩ := h; exact ⟨k, wk_symm (adjE_symm es) hk⟩
theorem Rch.trans {es : List E3} {i j x : Nat} (h : Rch es i x) (h2 : Rch es x j) : Rch es i j := by
  obtain ⟨k, hk⟩ := h
  obtain ⟨l, hl⟩ := h2
  exact ⟨k + l, wk_trans hk hl⟩
theorem Rch.step {es : List E3} {i j x : Nat} (h : Rch es i x) (h2 : adjE es x j = true) : Rch es i j := h.trans ⟨1, wk_one.2 h2⟩

theorem Rch.lt {m : Nat} {es : List E3} (hg : goodE m es) {i j : Nat} (hi : i < m) (h : Rch es i j) : j < m := by obtain ⟨k, hk⟩ := h; exact wk_lt hg hi hk
def Root (es : List E3) (i : Nat) : Prop := ∀ j, j < i → ¬ Rch es i j
theorem rch_add {es : List E3} {a b : Nat} {c : Int} {i : Nat} : ∀ {n j : Nat}, wk (adjE (es ++ [((a : Int), (b : Int), c)])) n i j → Rch es i j ∨ (Rch es i a ∧ Rch es b j) ∨ (Rch es i b ∧ Rch es a j)
  | 0, _, h => by cases h; exact .inl (Rch.refl es i)
  | n + 1, j, ⟨x, hx, hj⟩ => by
    have hadj : adjE es x j = true ∨ (x = a ∧ j = b) ∨ (x = b ∧ j = a) := by
      unfold adjE at hj ⊢
      rw [any_snoc, Bool.or_eq_true] at hj
      rcases hj with h | h
      · exact .inl h
      · right
        simp only [Bool.or_eq_true, Bool.and_eq_true, beq_iff_eq] at h
        omega
    rcases rch_add hx with h | ⟨h1, h2⟩ | ⟨h1, h2⟩
    · rcases hadj with he | ⟨rfl, rfl⟩ | ⟨rfl, rfl⟩
      · exact .inl (h.step he)
      · exact .inr (.inl ⟨h, Rch.refl es _⟩)
      · exact .inr (.inr ⟨h, Rch.refl es _⟩)
    · rcases hadj with he | ⟨rfl, rfl⟩ | ⟨rfl, rfl⟩
      · exact .inr (.inl ⟨h1, h2.step he⟩)
      · exact .inr (.inl ⟨h1, Rch.refl es _⟩)
      · exact .inl h1
    · rcases hadj with he | ⟨rfl, rfl⟩ | ⟨rfl, rfl⟩
      · exact .inr (.inr ⟨h1, h2.step he⟩)
      · exact .inl h1
      · exact .inr (.inr ⟨h1, Rch.refl es _⟩)

open Classical in
noncomputable def rootsN (m : Nat) (es : List E3) : Nat := (List.range m).countP fun i => decide (Root es i)
theorem countP_one {p q : Nat → Bool} (x : Nat) : ∀ l : List Nat, l.Nodup → (∀ i ∈ l, i ≠ x → p i = true → q i = true) → l.countP p ≤ l.countP q + 1
  | [], _, _ => by simp
  | a :: l, hn, h => by
    rw [List.nodup_cons] at hn
    have hall : ∀ (l : List Nat), (∀ i ∈ l, p i = true → q i = true) → l.countP p ≤ l.countP q := fun l hl => List.countP_mono_left hl
    by_cases hax : a = x
    · have h1 := hall l (fun i hi hp => h i (List.mem_cons_of_mem _ hi) (fun e => hn.1 (by rw [hax, ← e]; exact hi)) hp)
      simp only [List.countP_cons]
      split <;> split <;> omega
    · have ih := countP_one x l hn.2 (fun i hi hne hp => h i (List.mem_cons_of_mem _ hi) hne hp)
      have ha := h a (List.mem_cons_self) hax
      simp only [List.countP_cons]
      by_cases hp : p a = true
      · rw [if_pos hp, if_pos (ha hp)]; omega
      · rw [if_neg hp]; split <;> omega
theorem rootsN_add (m : Nat) (es : List E3) (a b : Nat) (c : Int) : rootsN m es ≤ rootsN m (es ++ [((a : Int), (b : Int), c)]) + 1 := by
  unfold rootsN
  -- the two that may be lost: the roots of a and of b; not both
  by_cases hex : ∃ x, Root es x ∧ ¬ Root (es ++ [((a : Int), (b : Int), c)]) x
  · obtain ⟨x, hx, hnx⟩ := hex
    refine countP_one x _ List.nodup_range (fun i _ hne hp => ?_)
    simp only [decide_eq_true_eq] at hp ⊢
    apply Classical.byContradiction
    intro hni
    have key : ∀ y, Root es y → ¬ Root (es ++ [((a : Int), (b : Int), c)]) y → (Rch es y a ∧ ∃ z, z < y ∧ Rch es b z) ∨ (Rch es y b ∧ ∃ z, z < y ∧ Rch es a z) := fun y hy hny => by
      have : ∃ j, j < y ∧ Rch (es ++ [((a : Int), (b : Int), c)]) y j := by
        apply Classical.byContradiction
        intro hno
        exact hny (fun j hj hr => hno ⟨j, hj, hr⟩)
      obtain ⟨j, hj, k, hk⟩ := this
      rcases rch_add hk with h | ⟨h1, h2⟩ | ⟨h1, h2⟩
      · exact absurd h (hy j hj)
      · exact .inl ⟨h1, j, hj, h2⟩
      · exact .inr ⟨h1, j, hj, h2⟩
    have one : ∀ y y', Root es y → Root es y' → Rch es y y' → y = y' := fun y y' hy hy' hr => by
      rcases Nat.lt_trichotomy y y' with h | h | h
      · exact absurd hr.symm (hy' y h)
      · exact h
      · exact absurd hr (hy y' h)
    rcases key x hx hnx with ⟨xa, z, hz, bz⟩ | ⟨xb, z, hz, az⟩
    · rcases key i hp hni with ⟨ia, _⟩ | ⟨ib, z', hz', az'⟩
      · exact hne (one i x hp hx (ia.trans xa.symm))
      · -- i is the root of b, x that of a: i ≤ z < x ≤ z' < i
        have h1 : ¬ z < i := fun hlt => hp z hlt (ib.trans bz)
        have h2 : ¬ z' < x := fun hlt => hx z' hlt (xa.trans az')
        omega
    · rcases key i hp hni with ⟨ia, z', hz', bz'⟩ | ⟨ib, _⟩
      · have h1 : ¬ z < i := fun hlt => hp z hlt (ia.trans az)
        have h2 : ¬ z' < x := fun hlt => hx z' hlt (xb.trans bz')
        omega
      · exact hne (one i x hp hx (ib.trans xb.symm))
  · refine Nat.le_trans (List.countP_mono_left (fun i _ hp => ?_)) (Nat.le_succ _)
    simp only [decide_eq_true_eq] at hp ⊢
    apply Classical.byContradiction
    intro hni
    exact hex ⟨i, hp, hni⟩
theorem rootsN_nil (m : Nat) : rootsN m [] = m := by
  unfold rootsN
  have : ∀ i ∈ List.range m, (@decide (Root [] i) (Classical.propDecidable _)) = true := fun i _ => by
    simp only [decide_eq_true_eq]
    rintro j hj ⟨k, hk⟩
    cases k with
    | zero => cases hk; omega
    | succ k => obtain ⟨x, _, h⟩ := hk; simp [adjE] at h
  rw [List.countP_eq_length.2 this, List.length_range]
theorem rootsN_take {m : Nat} {es : List E3} (hg : goodE m es) : ∀ k, k ≤ es.length → m ≤ rootsN m (es.take k) + k
  | 0, _ => by rw [List.take_zero, rootsN_nil]; omega
  | k + 1, hk => by
    have ih := rootsN_take hg k (by omega)
    have hx : es[k]? = some es[k] := List.getElem?_eq_getElem (by omega)
    obtain ⟨p0, _, p2, _, _, _⟩ := edge_ok (hg k _ hx)
    rw [List.take_succ_eq_append_getElem (by omega)]
    generalize es[k] = e at p0 p2
    obtain ⟨a, b, c⟩ := e
    simp only at p0 p2
    obtain ⟨a, rfl⟩ := Int.eq_ofNat_of_zero_le p0
    obtain ⟨b, rfl⟩ := Int.eq_ofNat_of_zero_le p2
    have := rootsN_add m (es.take k) a b c
    omega
theorem rootsN_ge {m : Nat} {es : List E3} (hg : goodE m es) : m ≤ rootsN m es + es.length := by
  have := rootsN_take hg es.length (Nat.le_refl _)
  rwa [List.take_length] at this

end Go.Proofs.Ytpcealcghglopaa

namespace Go.Proofs.Ytpcealcghglopaa

theorem least_root (F : List E3) (a : Nat) : ∃ r, r ≤ a ∧ Rch F a r ∧ Root F r := by
  obtain ⟨r, h1, h2, h3⟩ := least_of (p := fun r => Rch F a r) a (Rch.refl F a)
  exact ⟨r, h1, h2, fun j hj hr => h3 j hj (h2.trans hr)⟩
noncomputable def minR (F : List E3) (a : Nat) : Nat := (least_root F a).choose
section
variable {F G : List E3} {a b : Nat}
theorem minR_le : minR F a ≤ a := (least_root F a).choose_spec.1
theorem minR_rch : Rch F a (minR F a) := (least_root F a).choose_spec.2.1
theorem minR_root : Root F (minR F a) := (least_root F a).choose_spec.2.2
theorem minR_least (h : Rch F a b) : minR F a ≤ b := by
  rcases Nat.lt_or_ge b (minR F a) with h1 | h1
  · exact absurd (minR_rch.symm.trans h) (minR_root b h1)
  · exact h1
theorem minR_eq : minR F a = minR F b ↔ Rch F a b := by
  constructor
  · intro h
    have h1 : Rch F a (minR F a) := minR_rch
    rw [h] at h1
    exact h1.trans minR_rch.symm
  · intro h
    exact Nat.le_antisymm (minR_least (h.trans minR_rch)) (minR_least (h.symm.trans minR_rch))
theorem root_minR : Root F a ↔ minR F a = a := by
  constructor
  · intro h
    rcases Nat.lt_or_ge (minR F a) a with h1 | h1
    · exact absurd minR_rch (h _ h1)
    · exact Nat.le_antisymm minR_le h1
  · intro h
    have h1 : Root F (minR F a) := minR_root
    rwa [h] at h1
theorem minR_congr (h : ∀ i j, Rch F i j ↔ Rch G i j) : minR F a = minR G a :=
  Nat.le_antisymm (minR_least ((h _ _).2 minR_rch)) (minR_least ((h _ _).1 minR_rch))
end
end Go.Proofs.Ytpcealcghglopaa

namespace Go.Proofs.Ytpcealcghglopaa

/-! Who is linked, and how many parts there are, of any list of edges. -/
theorem adjE_mem {F : List E3} {i j : Nat} : adjE F i j = true ↔ ∃ e ∈ F, (e.1 = (i : Int) ∧ e.2.1 = (j : Int)) ∨ (e.1 = (j : Int) ∧ e.2.1 = (i : Int)) := by
  unfold adjE
  rw [List.any_eq_true]
  simp
theorem Rch.lift {F G : List E3} (h : ∀ e ∈ F, ∀ a b : Nat, e.1 = (a : Int) → e.2.1 = (b : Int) → Rch G a b) {i j : Nat} (hr : Rch F i j) : Rch G i j := by
  obtain ⟨k, hk⟩ := hr
  induction k generalizing j with
  | zero => cases hk; exact Rch.refl G _
  | succ k ih =>
    obtain ⟨x, hx, ha⟩ := hk
    obtain ⟨e, he, h1⟩ := adjE_mem.1 ha
    refine (ih hx).trans ?_
    rcases h1 with ⟨p, q⟩ | ⟨p, q⟩
    · exact h e he _ _ p q
    · exact (h e he _ _ p q).symm
theorem Rch.edge {G : List E3} {e : E3} (he : e ∈ G) {a b : Nat} (h1 : e.1 = (a : Int)) (h2 : e.2.1 = (b : Int)) : Rch G a b := ⟨1, wk_one.2 (adjE_mem.2 ⟨e, he, .inl ⟨h1, h2⟩⟩)⟩
theorem Rch.sub {F G : List E3} (h : ∀ e ∈ F, e ∈ G) {i j : Nat} (hr : Rch F i j) : Rch G i j := hr.lift fun e he _ _ h1 h2 => Rch.edge (h e he) h1 h2
theorem Root.anti {F G : List E3} (h : ∀ i j, Rch F i j → Rch G i j) {i : Nat} (hr : Root G i) : Root F i := fun j hj hr' => hr j hj (h i j hr')
theorem rootsN_mono {F G : List E3} (m : Nat) (h : ∀ i j, Rch F i j → Rch G i j) : rootsN m G ≤ rootsN m F := by
  unfold rootsN
  refine List.countP_mono_left fun i _ hp => ?_
  simp only [decide_eq_true_eq] at hp ⊢
  exact Root.anti h hp
theorem rootsN_congr {F G : List E3} (m : Nat) (h : ∀ i j, Rch F i j ↔ Rch G i j) : rootsN m F = rootsN m G :=
  Nat.le_antisymm (rootsN_mono m fun i j => (h i j).2) (rootsN_mono m fun i j => (h i j).1)
theorem countP_lt {p q : Nat → Bool} {l : List Nat} {x : Nat} (hx : x ∈ l) (h : ∀ i ∈ l, p i = true → q i = true) (hp : p x = false) (hq : q x = true) : l.countP p < l.countP q := by
  induction l with
  | nil => simp at hx
  | cons a l ih =>
    have hm : l.countP p ≤ l.countP q := List.countP_mono_left fun i hi => h i (List.mem_cons_of_mem _ hi)
    simp only [List.countP_cons]
    rcases List.mem_cons.1 hx with rfl | hx
    · rw [if_neg (by simp [hp]), if_pos hq]; omega
    · have := ih hx (fun i hi => h i (List.mem_cons_of_mem _ hi))
      have ha := h a (List.mem_cons_self ..)
      by_cases hpa : p a = true
      · rw [if_pos hpa, if_pos (ha hpa)]; omega
      · rw [if_neg hpa]; split <;> omega
/-- An edge between two parts makes one of them. -/
theorem rootsN_link {F : List E3} {m a b : Nat} {c : Int} (ha : a < m) (hb : b < m) (h : ¬ Rch F a b) : rootsN m (F ++ [((a : Int), (b : Int), c)]) + 1 = rootsN m F := by
  have h1 := rootsN_add m F a b c
  obtain ⟨ra, la, lra, rra⟩ := least_root F a
  obtain ⟨rb, lb, lrb, rrb⟩ := least_root F b
  have hne : ra ≠ rb := fun e => h (lra.trans (by rw [e]; exact lrb.symm))
  have hsub : ∀ i j, Rch F i j → Rch (F ++ [((a : Int), (b : Int), c)]) i j := fun i j hr => hr.sub fun e he => List.mem_append_left _ he
  have hab : Rch (F ++ [((a : Int), (b : Int), c)]) ra rb := ((hsub _ _ lra).symm.trans (Rch.edge (List.mem_append_right _ (List.mem_singleton.2 rfl)) rfl rfl)).trans (hsub _ _ lrb)
  have h2 : rootsN m (F ++ [((a : Int), (b : Int), c)]) < rootsN m F := by
    unfold rootsN
    have key : ∀ x, x < m → Root F x → ¬ Root (F ++ [((a : Int), (b : Int), c)]) x → (List.range m).countP (fun i => @decide (Root (F ++ [((a : Int), (b : Int), c)]) i) (Classical.propDecidable _)) < (List.range m).countP (fun i => @decide (Root F i) (Classical.propDecidable _)) := fun x hx h1 h2 =>
      countP_lt (x := x) (List.mem_range.2 hx) (fun i _ hp => by
        simp only [decide_eq_true_eq] at hp ⊢
        exact Root.anti hsub hp) (by simpa using h2) (by simpa using h1)
    rcases Nat.lt_or_ge ra rb with hlt | hge
    · exact key rb (by omega) rrb (fun hr => hr ra hlt hab.symm)
    · exact key ra (by omega) rra (fun hr => hr rb (by omega) hab)
  omega
theorem InE.nats {m : Nat} {e : E3} (h : 0 ≤ e.1 ∧ e.1 < (m : Int) ∧ 0 ≤ e.2.1 ∧ e.2.1 < (m : Int)) : ∃ (a b : Nat) (c : Int), e = ((a : Int), (b : Int), c) ∧ a < m ∧ b < m := by
  obtain ⟨x, y, c⟩ := e
  obtain ⟨h0, h1, h2, h3⟩ := h
  simp only at h0 h1 h2 h3
  obtain ⟨a, rfl⟩ := Int.eq_ofNat_of_zero_le h0
  obtain ⟨b, rfl⟩ := Int.eq_ofNat_of_zero_le h2
  exact ⟨a, b, c, rfl, by omega, by omega⟩
/-- With more edges there are no more parts; with so many fewer edges at most so many more. -/
theorem rootsN_more {m : Nat} (F : List E3) : ∀ G : List E3, InE m G → rootsN m F ≤ rootsN m (F ++ G) + G.length
  | [], _ => by simp
  | e :: G, h => by
    obtain ⟨a, b, c, rfl, ha, hb⟩ := InE.nats (h e (List.mem_cons_self ..))
    have ih := rootsN_more (F ++ [((a : Int), (b : Int), c)]) G (fun e he => h e (List.mem_cons_of_mem _ he))
    have h1 := rootsN_add m F a b c
    rw [List.append_assoc] at ih
    simp only [List.length_cons]
    show rootsN m F ≤ rootsN m (F ++ ([((a : Int), (b : Int), c)] ++ G)) + _
    omega
theorem rootsN_all {m : Nat} {F : List E3} (h : InE m F) : m ≤ rootsN m F + F.length := by
  have := rootsN_more [] F h
  rw [rootsN_nil] at this
  simpa using this

/-! Places of edges. -/
def edgeAt (es : List E3) (i : Nat) : E3 := es.getD i (0, 0, 0)
def wAt (es : List E3) (i : Nat) : Int := (edgeAt es i).2.2
/-- Is one edge ahead of another one? -/
def aheadB (es : List E3) (j i : Nat) : Bool := decide (wAt es j < wAt es i) || (wAt es j == wAt es i && decide (j < i))
theorem ahead_iff {es : List E3} {j i : Nat} : aheadB es j i = true ↔ wAt es j < wAt es i ∨ (wAt es j = wAt es i ∧ j < i) := by simp [aheadB]
theorem ahead_trans {es : List E3} {i j k : Nat} (h1 : aheadB es i j = true) (h2 : aheadB es j k = true) : aheadB es i k = true := by
  rw [ahead_iff] at *; omega
theorem ahead_irr {es : List E3} {i : Nat} : aheadB es i i = false := by
  cases h : aheadB es i i with
  | false => rfl
  | true => rw [ahead_iff] at h; omega
theorem ahead_total {es : List E3} {i j : Nat} (h : i ≠ j) : aheadB es i j = true ∨ aheadB es j i = true := by
  rw [ahead_iff, ahead_iff]; omega
/-- The edges at some places. -/
def eg (es : List E3) (S : List Nat) : List E3 := S.map (edgeAt es)
theorem eg_len (es : List E3) (S : List Nat) : (eg es S).length = S.length := by simp [eg]
theorem eg_sub {es : List E3} {S T : List Nat} (h : ∀ i ∈ S, i ∈ T) : ∀ e ∈ eg es S, e ∈ eg es T := fun e he => by
  obtain ⟨i, hi, rfl⟩ := List.mem_map.1 he
  exact List.mem_map_of_mem (h i hi)
theorem edgeAt_mem {es : List E3} {i : Nat} (h : i < es.length) : edgeAt es i ∈ es := by
  unfold edgeAt
  rw [List.getD_eq_getElem?_getD, List.getElem?_eq_getElem h]
  exact List.getElem_mem h
theorem eg_in {m : Nat} {es : List E3} (hin : InE m es) {S : List Nat} (h : ∀ i ∈ S, i < es.length) : InE m (eg es S) := fun e he => by
  obtain ⟨i, hi, rfl⟩ := List.mem_map.1 he
  exact hin _ (edgeAt_mem (h i hi))
def allS (es : List E3) : List Nat := List.range es.length
theorem eg_all (es : List E3) : eg es (allS es) = es := by
  apply List.ext_getElem
  · simp [eg, allS]
  · intro i h1 h2
    simp [eg, allS, edgeAt, List.getD_eq_getElem?_getD, List.getElem?_eq_getElem h2]
/-- Those ahead of one. -/
def aheadS (es : List E3) (i : Nat) : List Nat := (allS es).filter fun j => aheadB es j i
theorem mem_aheadS {es : List E3} {i j : Nat} : j ∈ aheadS es i ↔ j < es.length ∧ aheadB es j i = true := by simp [aheadS, allS]
/-- Its nodes are not linked by those ahead of it. -/
def Kept (es : List E3) (i : Nat) : Prop := i < es.length ∧ ∀ a b : Nat, (edgeAt es i).1 = (a : Int) → (edgeAt es i).2.1 = (b : Int) → ¬ Rch (eg es (aheadS es i)) a b
open Classical in
noncomputable def keptS (es : List E3) : List Nat := (allS es).filter fun i => decide (Kept es i)
theorem mem_keptS {es : List E3} {i : Nat} : i ∈ keptS es ↔ Kept es i := by
  simp only [keptS, allS, List.mem_filter, List.mem_range, decide_eq_true_eq]
  exact ⟨fun h => h.2, fun h => ⟨h.1, h⟩⟩

theorem filter_len (p : Nat → Bool) (l : List Nat) : (l.filter p).length = l.countP p := (List.countP_eq_length_filter ..).symm
section
variable {m : Nat} {es : List E3}
theorem aheadS_lt {i j : Nat} (h : aheadB es j i = true) (hj : j < es.length) : (aheadS es j).length < (aheadS es i).length := by
  unfold aheadS
  rw [filter_len, filter_len]
  exact countP_lt (x := j) (List.mem_range.2 hj) (fun k _ hk => ahead_trans hk h) ahead_irr h
/-- An edge's nodes are linked by kept ones that are no later than it. -/
theorem kept_links (hin : InE m es) : ∀ (n i : Nat), (aheadS es i).length < n → i < es.length → ∀ a b : Nat, (edgeAt es i).1 = (a : Int) → (edgeAt es i).2.1 = (b : Int) → ∀ S : List Nat, (∀ j, Kept es j → (aheadB es j i = true ∨ j = i) → j ∈ S) → Rch (eg es S) a b
  | 0, _, h, _, _, _, _, _, _, _ => by omega
  | n + 1, i, hn, hi, a, b, ha, hb, S, hS => by
    by_cases hk : Kept es i
    · exact Rch.edge (List.mem_map_of_mem (hS i hk (.inr rfl))) ha hb
    · have hr : Rch (eg es (aheadS es i)) a b := by
        apply Classical.byContradiction
        intro hno
        exact hk ⟨hi, fun x y hx hy => by
          obtain rfl : x = a := by omega
          obtain rfl : y = b := by omega
          exact hno⟩
      refine hr.lift fun e he x y hx hy => ?_
      obtain ⟨j, hj, rfl⟩ := List.mem_map.1 he
      obtain ⟨hjl, hja⟩ := mem_aheadS.1 hj
      refine kept_links hin n j (by have := aheadS_lt hja hjl; omega) hjl x y hx hy S fun k hk hkj => hS k hk (.inl ?_)
      rcases hkj with h | rfl
      · exact ahead_trans h hja
      · exact hja
/-- The kept ones link whatever all do; those below a weight whatever all below it do. -/
theorem kept_span (hin : InE m es) {T : List Nat} (hT : ∀ i ∈ T, i < es.length) (hdown : ∀ i j, i ∈ T → j < es.length → aheadB es j i = true → j ∈ T) {S : List Nat} (hS : ∀ i, Kept es i → i ∈ T → i ∈ S) {i j : Nat} (h : Rch (eg es T) i j) : Rch (eg es S) i j := by
  refine h.lift fun e he x y hx hy => ?_
  obtain ⟨k, hk, rfl⟩ := List.mem_map.1 he
  refine kept_links hin _ k (Nat.lt_succ_self _) (hT k hk) x y hx hy S fun l hl hlk => hS l hl ?_
  rcases hlk with h | rfl
  · exact hdown k l hk hl.1 h
  · exact hk

/-- Some of a list is the last of it. -/
theorem last_of {S : List Nat} (h : S ≠ []) : ∃ i ∈ S, ∀ j ∈ S, j ≠ i → aheadB es j i = true := by
  induction S with
  | nil => exact absurd rfl h
  | cons x S ih =>
    by_cases hS : S = []
    · subst hS
      exact ⟨x, List.mem_cons_self .., fun j hj hne => by simp at hj; exact absurd hj hne⟩
    · obtain ⟨i, hi, hl⟩ := ih hS
      by_cases hxi : x = i
      · subst hxi
        exact ⟨x, List.mem_cons_self .., fun j hj hne => by
          rcases List.mem_cons.1 hj with rfl | hj
          · exact absurd rfl hne
          · exact hl j hj hne⟩
      · rcases ahead_total (es := es) hxi with h1 | h1
        · refine ⟨i, List.mem_cons_of_mem _ hi, fun j hj hne => ?_⟩
          rcases List.mem_cons.1 hj with rfl | hj
          · exact h1
          · exact hl j hj hne
        · refine ⟨x, List.mem_cons_self .., fun j hj hne => ?_⟩
          rcases List.mem_cons.1 hj with rfl | hj
          · exact absurd rfl hne
          · by_cases hji : j = i
            · rw [hji]; exact h1
            · exact ahead_trans (hl j hj hji) h1
theorem rch_perm {F G : List E3} (h : F.Perm G) (i j : Nat) : Rch F i j ↔ Rch G i j := ⟨fun hr => hr.sub fun _ he => h.mem_iff.1 he, fun hr => hr.sub fun _ he => h.mem_iff.2 he⟩
/-- Of kept ones each makes a part fewer. -/
theorem kept_count (hin : InE m es) : ∀ (n : Nat) (S : List Nat), S.length = n → S.Nodup → (∀ i ∈ S, Kept es i) → rootsN m (eg es S) + S.length = m
  | 0, S, hl, _, _ => by
    have : S = [] := List.length_eq_zero_iff.1 hl
    subst this
    simp [eg, rootsN_nil]
  | n + 1, S, hl, hn, hk => by
    obtain ⟨i, hi, hlast⟩ := last_of (es := es) (S := S) (fun h => by rw [h] at hl; simp at hl)
    have hp := List.perm_cons_erase hi
    have hlen : (S.erase i).length = n := by have := List.length_erase_of_mem hi; omega
    have ih := kept_count hin n (S.erase i) hlen (hn.erase i) (fun j hj => hk j (List.mem_of_mem_erase hj))
    obtain ⟨a, b, c, he, ha, hb⟩ := InE.nats (hin _ (edgeAt_mem (hk i hi).1))
    have hno : ¬ Rch (eg es (S.erase i)) a b := fun hr => by
      refine (hk i hi).2 a b (by rw [he]) (by rw [he]) (hr.sub (eg_sub fun j hj => ?_))
      have hjS := List.mem_of_mem_erase hj
      refine mem_aheadS.2 ⟨(hk j hjS).1, hlast j hjS fun e => ?_⟩
      subst e
      exact (hn.not_mem_erase) hj
    have h1 := rootsN_link (c := c) ha hb hno
    have h2 : rootsN m (eg es S) = rootsN m (eg es (S.erase i) ++ [((a : Int), (b : Int), c)]) := rootsN_congr m fun x y => by
      rw [rch_perm (F := eg es S) (G := eg es (S.erase i) ++ [((a : Int), (b : Int), c)])]
      have h3 : (eg es S).Perm (eg es (i :: S.erase i)) := hp.map _
      refine h3.trans ?_
      show (edgeAt es i :: eg es (S.erase i)).Perm _
      rw [he]
      exact (List.perm_append_singleton _ _).symm
    omega
/-- A list of edges that makes a part fewer each does so in part. -/
theorem acyc_sub {F G : List E3} (hin : InE m (F ++ G)) (h : rootsN m (F ++ G) + (F ++ G).length = m) : rootsN m F + F.length = m := by
  have h1 := rootsN_more F G (fun e he => hin e (List.mem_append_right _ he))
  have h2 := rootsN_all (m := m) (F := F) (fun e he => hin e (List.mem_append_left _ he))
  simp only [List.length_append] at h
  omega

/-- Numbers of which no fewer are small, as many in all, are together no more. -/
theorem sum_le {M : Nat} : ∀ (k : Nat) (xs ys : List Int), (∀ x ∈ xs, -(M : Int) ≤ x ∧ x ≤ -(M : Int) + k) → (∀ y ∈ ys, -(M : Int) ≤ y ∧ y ≤ -(M : Int) + k) → xs.length = ys.length → (∀ t : Int, ys.countP (fun y => decide (y ≤ t)) ≤ xs.countP (fun x => decide (x ≤ t))) → xs.sum ≤ ys.sum
  | 0, xs, ys, hx, hy, hl, _ => by
    have h1 : ∀ (l : List Int), (∀ x ∈ l, -(M : Int) ≤ x ∧ x ≤ -(M : Int) + (0 : Nat)) → l.sum = -(M : Int) * l.length := fun l => by
      induction l with
      | nil => intro _; simp
      | cons a l ih =>
        intro h
        have ha := h a (List.mem_cons_self ..)
        rw [List.sum_cons, ih fun x hx => h x (List.mem_cons_of_mem _ hx), List.length_cons]
        have : a = -(M : Int) := by omega
        rw [this]
        push_cast
        rw [Int.mul_add]
        omega
    rw [h1 xs hx, h1 ys hy, hl]
    omega
  | k + 1, xs, ys, hx, hy, hl, hc => by
    -- cut the topmost value down by one in both
    have cut : ∀ (l : List Int), (∀ x ∈ l, -(M : Int) ≤ x ∧ x ≤ -(M : Int) + ((k + 1 : Nat) : Int)) → l.sum = (l.map fun x => min x (-(M : Int) + k)).sum + (l.countP (fun x => decide (-(M : Int) + k < x)) : Int) ∧ (∀ x ∈ l.map fun x => min x (-(M : Int) + k), -(M : Int) ≤ x ∧ x ≤ -(M : Int) + k) := fun l => by
      induction l with
      | nil => intro _; simp
      | cons a l ih =>
        intro h
        obtain ⟨h1, h2⟩ := ih fun x hx => h x (List.mem_cons_of_mem _ hx)
        have ha := h a (List.mem_cons_self ..)
        refine ⟨?_, fun x hx => ?_⟩
        · rw [List.sum_cons, h1, List.map_cons, List.sum_cons, List.countP_cons]
          by_cases hlt : -(M : Int) + k < a
          · rw [if_pos (by simpa using hlt)]
            push_cast
            omega
          · rw [if_neg (by simpa using hlt)]
            push_cast
            omega
        · rw [List.map_cons] at hx
          rcases List.mem_cons.1 hx with rfl | hx
          · omega
          · exact h2 x hx
    obtain ⟨x1, x2⟩ := cut xs hx
    obtain ⟨y1, y2⟩ := cut ys hy
    have hcount : ∀ (l : List Int) (t : Int), (l.map fun x => min x (-(M : Int) + k)).countP (fun x => decide (x ≤ t)) = if -(M : Int) + k ≤ t then l.length else l.countP (fun x => decide (x ≤ t)) := fun l t => by
      rw [List.countP_map]
      by_cases ht : -(M : Int) + k ≤ t
      · rw [if_pos ht, List.countP_eq_length]
        intro x _
        simp
        omega
      · rw [if_neg ht]
        apply List.countP_congr
        intro x _
        simp
        omega
    have ih := sum_le k _ _ x2 y2 (by simp [hl]) (fun t => by
      rw [hcount, hcount]
      split
      · rw [hl]; exact Nat.le_refl _
      · exact hc t)
    have hcomp : ∀ (l : List Int), l.countP (fun x => decide (-(M : Int) + k < x)) + l.countP (fun x => decide (x ≤ -(M : Int) + k)) = l.length := fun l => by
      induction l with
      | nil => rfl
      | cons a l ih =>
        rw [List.countP_cons, List.countP_cons, List.length_cons]
        by_cases h : -(M : Int) + k < a
        · rw [if_pos (by simpa using h), if_neg (by simp; omega)]; omega
        · rw [if_neg (by simpa using h), if_pos (by simp; omega)]; omega
    have c1 := hcomp xs
    have c2 := hcomp ys
    have c3 := hc (-(M : Int) + k)
    omega
end

section
section
variable {m : Nat} {es : List E3}
theorem allS_nodup : (allS es).Nodup := List.nodup_range
theorem keptS_nodup : (keptS es).Nodup := allS_nodup.filter _
theorem keptS_lt {i : Nat} (h : i ∈ keptS es) : i < es.length := (mem_keptS.1 h).1
theorem kept_rch (hin : InE m es) (i j : Nat) : Rch (eg es (keptS es)) i j ↔ Rch es i j := by
  constructor
  · intro h
    have h2 : Rch (eg es (allS es)) i j := h.sub (eg_sub fun k hk => List.mem_range.2 (keptS_lt hk))
    rwa [eg_all] at h2
  · intro h
    rw [← eg_all es] at h
    exact kept_span hin (T := allS es) (fun k hk => List.mem_range.1 hk) (fun _ k _ hk _ => List.mem_range.2 hk) (S := keptS es) (fun k hk _ => mem_keptS.2 hk) h
theorem kept_forest (hin : InE m es) : rootsN m es + (keptS es).length = m := by
  have h1 := kept_count hin _ (keptS es) rfl keptS_nodup (fun i hi => mem_keptS.1 hi)
  rwa [rootsN_congr m (kept_rch hin)] at h1
def sumW (es : List E3) (S : List Nat) : Int := (S.map (wAt es)).sum

theorem part_of (p : Nat → Bool) : ∀ S : List Nat, (S.filter p ++ S.filter fun i => !p i).Perm S
  | [] => by simp
  | x :: S => by
    have ih := part_of p S
    by_cases h : p x = true
    · rw [List.filter_cons_of_pos h, List.filter_cons_of_neg (by simp [h]), List.cons_append]
      exact ih.cons x
    · rw [List.filter_cons_of_neg h, List.filter_cons_of_pos (by simpa using h)]
      exact List.perm_middle.trans (ih.cons x)
theorem kept_lightest (hin : InE m es) (hw : ∀ e ∈ es, -1048576 ≤ e.2.2 ∧ e.2.2 ≤ 1048576) {S : List Nat} (hS : ∀ i ∈ S, i < es.length) (hf : rootsN m (eg es S) + S.length = m) (hl : S.length = (keptS es).length) : sumW es (keptS es) ≤ sumW es S := by
  have bound : ∀ i, i < es.length → -((1048576 : Nat) : Int) ≤ wAt es i ∧ wAt es i ≤ -((1048576 : Nat) : Int) + (2097152 : Nat) := fun i hi => by
    have := hw _ (edgeAt_mem hi)
    unfold wAt
    omega
  refine sum_le (M := 1048576) 2097152 _ _ (fun x hx => ?_) (fun y hy => ?_) (by simp [hl]) (fun t => ?_)
  · obtain ⟨i, hi, rfl⟩ := List.mem_map.1 hx
    exact bound i (keptS_lt hi)
  · obtain ⟨i, hi, rfl⟩ := List.mem_map.1 hy
    exact bound i (hS i hi)
  · rw [List.countP_map, List.countP_map]
    let p : Nat → Bool := fun i => decide (wAt es i ≤ t)
    show S.countP p ≤ (keptS es).countP p
    rw [← filter_len, ← filter_len]
    have hp := part_of p S
    have h1 : rootsN m (eg es (S.filter p)) + (S.filter p).length = m := by
      have e1 : eg es (S.filter p) ++ eg es (S.filter fun i => !p i) = eg es (S.filter p ++ S.filter fun i => !p i) := by simp [eg]
      have hq : (eg es (S.filter p ++ S.filter fun i => !p i)).Perm (eg es S) := hp.map _
      have h := acyc_sub (m := m) (F := eg es (S.filter p)) (G := eg es (S.filter fun i => !p i)) (by
        rw [e1]
        exact eg_in hin fun i hi => hS i (hp.mem_iff.1 hi)) (by
        rw [e1, rootsN_congr m (rch_perm hq), hq.length_eq, eg_len]
        exact hf)
      rwa [eg_len] at h
    have h2 := kept_count hin _ ((keptS es).filter p) rfl (keptS_nodup.filter _) (fun i hi => mem_keptS.1 ((List.mem_filter.1 hi).1))
    have h3 : rootsN m (eg es ((keptS es).filter p)) ≤ rootsN m (eg es (S.filter p)) := by
      refine rootsN_mono m fun i j hr => ?_
      have hr2 : Rch (eg es ((allS es).filter p)) i j := hr.sub (eg_sub fun k hk => by
        obtain ⟨hk1, hk2⟩ := List.mem_filter.1 hk
        exact List.mem_filter.2 ⟨List.mem_range.2 (hS k hk1), hk2⟩)
      refine kept_span hin (T := (allS es).filter p) (fun k hk => List.mem_range.1 ((List.mem_filter.1 hk).1)) (fun k l hk hl hlk => ?_) (fun k hk hkT => ?_) hr2
      · refine List.mem_filter.2 ⟨List.mem_range.2 hl, ?_⟩
        have h4 := (List.mem_filter.1 hk).2
        simp only [p, decide_eq_true_eq] at h4 ⊢
        rw [ahead_iff] at hlk
        omega
      · exact List.mem_filter.2 ⟨mem_keptS.2 hk, (List.mem_filter.1 hkT).2⟩
    omega

/-- Some of a list is the first of it. -/
theorem first_of {S : List Nat} (h : S ≠ []) : ∃ i ∈ S, ∀ j ∈ S, j ≠ i → aheadB es i j = true := by
  induction S with
  | nil => exact absurd rfl h
  | cons x S ih =>
    by_cases hS : S = []
    · subst hS
      exact ⟨x, List.mem_cons_self .., fun j hj hne => by simp at hj; exact absurd hj hne⟩
    · obtain ⟨i, hi, hl⟩ := ih hS
      by_cases hxi : x = i
      · subst hxi
        exact ⟨x, List.mem_cons_self .., fun j hj hne => by
          rcases List.mem_cons.1 hj with rfl | hj
          · exact absurd rfl hne
          · exact hl j hj hne⟩
      · rcases ahead_total (es := es) hxi with h1 | h1
        · refine ⟨x, List.mem_cons_self .., fun j hj hne => ?_⟩
          rcases List.mem_cons.1 hj with rfl | hj
          · exact absurd rfl hne
          · by_cases hji : j = i
            · rw [hji]; exact h1
            · exact ahead_trans h1 (hl j hj hji)
        · refine ⟨i, List.mem_cons_of_mem _ hi, fun j hj hne => ?_⟩
          rcases List.mem_cons.1 hj with rfl | hj
          · exact h1
          · exact hl j hj hne
/-- Does an edge lead out of a set? -/
def crossB (c : Int → Bool) (e : E3) : Bool := c e.1 != c e.2.1
theorem rch_side {F : List E3} {c : Int → Bool} (h : ∀ e ∈ F, crossB c e = false) {i j : Nat} (hr : Rch F i j) : c (i : Int) = c (j : Int) := by
  obtain ⟨k, hk⟩ := hr
  induction k generalizing j with
  | zero => cases hk; rfl
  | succ k ih =>
    obtain ⟨x, hx, ha⟩ := hk
    rw [ih hx]
    obtain ⟨e, he, h1⟩ := adjE_mem.1 ha
    have h2 := h e he
    unfold crossB at h2
    rcases h1 with ⟨p, q⟩ | ⟨p, q⟩
    · rw [p, q] at h2; simpa using h2
    · rw [p, q] at h2
      have h3 : c (j : Int) = c (x : Int) := by simpa using h2
      exact h3.symm
theorem kept_cut (_hin : InE m es) (c : Int → Bool) {i0 : Nat} (hi : i0 < es.length) (hc : crossB c (edgeAt es i0) = true) (hmin : ∀ j, j < es.length → crossB c (edgeAt es j) = true → wAt es i0 ≤ wAt es j) : ∃ i, Kept es i ∧ crossB c (edgeAt es i) = true ∧ wAt es i = wAt es i0 := by
  obtain ⟨i, hiS, hfirst⟩ := first_of (es := es) (S := (allS es).filter fun j => crossB c (edgeAt es j)) (fun h => by
    have : i0 ∈ (allS es).filter fun j => crossB c (edgeAt es j) := List.mem_filter.2 ⟨List.mem_range.2 hi, hc⟩
    rw [h] at this
    simp at this)
  obtain ⟨hiA, hiC⟩ := List.mem_filter.1 hiS
  have hil := List.mem_range.1 hiA
  refine ⟨i, ⟨hil, fun a b ha hb hr => ?_⟩, hiC, ?_⟩
  · have hs := rch_side (c := c) (fun e he => ?_) hr
    · have h3 : crossB c (edgeAt es i) = false := by unfold crossB; rw [ha, hb, hs]; simp
      have h4 : crossB c (edgeAt es i) = true := hiC
      rw [h3] at h4
      cases h4
    · obtain ⟨j, hj, rfl⟩ := List.mem_map.1 he
      obtain ⟨hjl, hja⟩ := mem_aheadS.1 hj
      cases hcj : crossB c (edgeAt es j) with
      | false => rfl
      | true =>
        have hne : j ≠ i := fun e => by rw [e, ahead_irr] at hja; cases hja
        have h5 := hfirst j (List.mem_filter.2 ⟨List.mem_range.2 hjl, hcj⟩) hne
        have h6 := ahead_trans h5 hja
        rw [ahead_irr] at h6
        cases h6
  · have h1 := hmin i hil hiC
    by_cases hne : i0 = i
    · rw [hne]
    · have h2 := hfirst i0 (List.mem_filter.2 ⟨List.mem_range.2 hi, hc⟩) hne
      rw [ahead_iff] at h2
      omega
end
end
end Go.Proofs.Ytpcealcghglopaa

namespace Go.Proofs.Ytpcealcghglopaa

noncomputable def partsR (m : Nat) (F : List E3) : List Int := (List.range m).map fun i => (minR F i : Int)
theorem partsR_len (m : Nat) (F : List E3) : (partsR m F).length = m := by simp [partsR]
theorem partsR_get {m : Nat} {F : List E3} {k : Nat} (hk : k < m) : (partsR m F)[k]? = some (minR F k : Int) := by simp [partsR, hk]
theorem partsR_push {m k : Nat} {F : List E3} (hk : k < m) : ((partsR m F).take (k + 1)).map (Value.int .i64) = ((partsR m F).take k).map (Value.int .i64) ++ [.int .i64 (minR F k : Int)] := by
  have h := @partsR_get m F k hk
  obtain ⟨h1, h2⟩ := List.getElem?_eq_some_iff.1 h
  rw [List.take_succ_eq_append_getElem h1, h2, List.map_append]
  rfl
end Go.Proofs.Ytpcealcghglopaa

namespace Go.Proofs.Ytpcealcghglopaa

/-- What the reference's Parts tells. -/
theorem partsR_eq {m : Nat} {F G : List E3} : partsR m F = partsR m G ↔ ∀ i, i < m → minR F i = minR G i := by
  unfold partsR
  rw [List.map_inj_left]
  constructor
  · intro h i hi
    have := h i (List.mem_range.2 hi)
    omega
  · intro h i hi
    rw [h i (List.mem_range.1 hi)]
theorem rootsN_parts {m : Nat} {F G : List E3} (h : partsR m F = partsR m G) : rootsN m F = rootsN m G := by
  have h := partsR_eq.1 h
  unfold rootsN
  apply List.countP_congr
  intro i hi
  have hi := List.mem_range.1 hi
  simp only [decide_eq_true_eq]
  rw [root_minR, root_minR, h i hi]
/-- How many numbers there are, each counted once. -/
def unlikeT (xs : List Int) : Nat → Nat
  | 0 => 0
  | k + 1 => unlikeT xs k + (if xs.getD k 0 ∈ xs.take k then 0 else 1)
theorem unlikeT_le (xs : List Int) : ∀ k, unlikeT xs k ≤ k
  | 0 => Nat.le_refl _
  | k + 1 => by
    have := unlikeT_le xs k
    simp only [unlikeT]
    split <;> omega
theorem unlike_partsR {m : Nat} {F : List E3} : ∀ k, k ≤ m → unlikeT (partsR m F) k = rootsN k F
  | 0, _ => rfl
  | k + 1, hk => by
    have ih := unlike_partsR (m := m) (F := F) k (by omega)
    simp only [unlikeT]
    rw [ih]
    unfold rootsN
    rw [List.range_succ, List.countP_append]
    congr 1
    have hg : (partsR m F).getD k 0 = (minR F k : Int) := by rw [List.getD_eq_getElem?_getD, partsR_get (by omega)]; rfl
    rw [hg]
    have hm : (minR F k : Int) ∈ (partsR m F).take k ↔ ¬ Root F k := by
      unfold partsR
      rw [← List.map_take, List.take_range, Nat.min_eq_left (by omega), List.mem_map]
      constructor
      · rintro ⟨j, hj, he⟩ hr
        have hj := List.mem_range.1 hj
        have e : minR F j = minR F k := by omega
        exact hr j hj (minR_eq.1 e).symm
      · intro hr
        have h1 : minR F k ≠ k := fun h => hr (root_minR.2 h)
        have h2 : minR F k ≤ k := minR_le
        refine ⟨minR F k, List.mem_range.2 (by omega), ?_⟩
        rw [root_minR.1 minR_root]
    by_cases hr : Root F k
    · rw [if_neg fun h => hm.1 h hr]; simp [hr]
    · rw [if_pos (hm.2 hr)]; simp [hr]
theorem rootsN_le (m : Nat) (F : List E3) : rootsN m F ≤ m := by
  have := List.countP_le_length (p := fun i => @decide (Root F i) (Classical.propDecidable _)) (l := List.range m)
  simpa [rootsN] using this
end Go.Proofs.Ytpcealcghglopaa

namespace Go.Proofs.Ytpcealcghglopaa
open Go.RowKit

set_option maxRecDepth 100000 in
set_option maxHeartbeats 400000 in
theorem unlikeT_any (A : Option Addr) (n c : Nat) (xs : List Int) (w : World) (h1 : IntsAt w w.heap.size A n xs) (hn : n ≤ 9223372036854775807) (hnc : n ≤ c) :
    Calls Try.prog 27 #[.slice A n c] w fun e w' => e = .returned (.int .i64 (unlikeT xs n)) ∧ w = w' := by
  have H1 := Lib.hid h1
  clear h1
  go_enter Try.func27, Try.ntmps27
  go_wp2
  go_loop [3, 8] (fun s j => ∃ k : Nat, k ≤ n ∧ j = .int .i64 k ∧ s = .int .i64 (unlikeT xs k)) (fun _ j => n - (intOf j).toNat)
  case atStart => exact ⟨0, Nat.zero_le _, rfl, rfl⟩
  case round =>
    obtain ⟨k, hk, rfl, rfl⟩ := hrel
    have hle := unlikeT_le xs k
    by_cases hlt : k < n
    · obtain ⟨b, off, y, rfl, _, hy, hc⟩ := H1.out.at_ hlt
      have HT := Lib.hid (H1.out.take_ hk)
      have hget : xs.getD k 0 = y := by rw [List.getD_eq_getElem?_getD, hy]; rfl
      by_cases hv : y ∈ xs.take k
      · have HU : Hid (unlikeT xs (k + 1) = unlikeT xs k) := Lib.hid (by rw [unlikeT, hget, if_pos hv]; rfl)
        have HV := Lib.hid (hasI_iff.2 hv)
        clear hv hy hget
        go_wp2_with (go_at_call 42; refine (has_v k c y true _ (xs.take k) _ (by exact HT.out) (by omega) HV.out).mono ?_; rintro e w' ⟨rfl, rfl⟩)
        go_round
        case rel => exact ⟨k + 1, by omega, by go_num, by rw [HU.out]⟩
        case measure => simp [intOf]; omega
      · have HU : Hid (unlikeT xs (k + 1) = unlikeT xs k + 1) := Lib.hid (by rw [unlikeT, hget, if_neg hv])
        have HV := Lib.hid (show hasI (xs.take k) y = false by rw [Bool.eq_false_iff, Ne, hasI_iff]; exact hv)
        clear hv hy hget
        go_wp2_with (go_at_call 42; refine (has_v k c y false _ (xs.take k) _ (by exact HT.out) (by omega) HV.out).mono ?_; rintro e w' ⟨rfl, rfl⟩)
        go_round
        case rel => exact ⟨k + 1, by omega, by go_num, by rw [HU.out]; go_num⟩
        case measure => simp [intOf]; omega
    · obtain rfl : k = n := by omega
      go_wp2
      go_ret
      exact ⟨rfl, rfl⟩

end Go.Proofs.Ytpcealcghglopaa

namespace Go.Proofs.Ytpcealcghglopaa
open Go.RowKit

set_option maxRecDepth 100000 in
set_option maxHeartbeats 400000 in
theorem good_any (n : Int) (A : Option Addr) (len cap : Nat) (es : List E3) (w : World) (hE : EdgesAt w w.heap.size A len es) (hcap : len ≤ cap) :
    Calls Try.prog 25 #[.agg #[.int .i64 n, .slice A len cap]] w fun e w' => e = .returned (.bool (gcheck n es == 0)) ∧ Below w.heap.size w w' := by
  have HE := Lib.hid (show EdgesAt (bx w n A len cap) (bx w n A len cap).heap.size A len es from (hE.alloc (Nat.le_refl _) _).more (by simp [bx]))
  clear hE
  go_enter Try.func25, Try.ntmps25
  go_wp2_with (go_at_call 16; refine (graphCheck_any n A len cap es _ (by exact HE.out) hcap).mono ?_; rintro e w2 ⟨rfl, hb2⟩)
  go_ret
  exact ⟨rfl, ((Below.refl _ _).alloc (Nat.le_refl _) _).trans (hb2.mono (by simp))⟩
set_option maxRecDepth 100000 in
theorem good_v (n : Int) (A : Option Addr) (len cap : Nat) (es : List E3) (v : Bool) (w : World) (hE : EdgesAt w w.heap.size A len es) (hcap : len ≤ cap) (hv : (gcheck n es == 0) = v) :
    Calls Try.prog 25 #[.agg #[.int .i64 n, .slice A len cap]] w fun e w' => e = .returned (.bool v) ∧ Below w.heap.size w w' := by
  subst hv; exact good_any n A len cap es w hE hcap

end Go.Proofs.Ytpcealcghglopaa

namespace Go.Proofs.Ytpcealcghglopaa
open Go.RowKit

theorem unlikeT_mono {xs : List Int} : ∀ {i j : Nat}, i ≤ j → unlikeT xs i ≤ unlikeT xs j := fun {i j} h => by
  obtain ⟨d, rfl⟩ : ∃ d, j = i + d := ⟨j - i, by omega⟩
  clear h
  induction d with
  | zero => exact Nat.le_refl _
  | succ d ih =>
    show _ ≤ unlikeT xs (i + d) + _
    omega
/-- The unlike members have as many numbers as there are. -/
theorem unlike_rank (xs : List Int) (n : Nat) (hn : xs.length = n) : ∃ f : Nat → Nat, (∀ i, i < n → f i < unlikeT xs n) ∧ ∀ i j, i < n → j < n → f i = f j → xs.getD i 0 = xs.getD j 0 := by
  have hfirst : ∀ i, i < n → ∃ t, t ≤ i ∧ xs.getD t 0 = xs.getD i 0 ∧ xs.getD t 0 ∉ xs.take t := fun i => by
    induction i using Nat.strongRecOn with
    | _ i ih =>
      intro hi
      by_cases hm : xs.getD i 0 ∈ xs.take i
      · obtain ⟨t, ht⟩ := List.getElem?_of_mem hm
        have hti : t < i := by
          have := (List.getElem?_eq_some_iff.1 ht).1
          rw [List.length_take] at this
          omega
        rw [List.getElem?_take, if_pos hti] at ht
        have e : xs.getD t 0 = xs.getD i 0 := by rw [List.getD_eq_getElem?_getD, ht]; rfl
        obtain ⟨s, h1, h2, h3⟩ := ih t hti (by omega)
        exact ⟨s, by omega, h2.trans e, h3⟩
      · exact ⟨i, Nat.le_refl _, rfl, hm⟩
  have hstep : ∀ t, xs.getD t 0 ∉ xs.take t → unlikeT xs (t + 1) = unlikeT xs t + 1 := fun t h => by
    show unlikeT xs t + _ = _
    rw [if_neg h]
  have hch : ∀ i, ∃ t, i < n → (t ≤ i ∧ xs.getD t 0 = xs.getD i 0 ∧ xs.getD t 0 ∉ xs.take t) := fun i => by
    by_cases hi : i < n
    · obtain ⟨t, h⟩ := hfirst i hi
      exact ⟨t, fun _ => h⟩
    · exact ⟨0, fun h => absurd h hi⟩
  obtain ⟨F, hF⟩ := Classical.axiomOfChoice hch
  refine ⟨fun i => unlikeT xs (F i), fun i hi => ?_, fun i j hi hj e => ?_⟩
  · obtain ⟨h1, h2, h3⟩ := hF i hi
    have h4 := hstep _ h3
    have h5 := unlikeT_mono (xs := xs) (show F i + 1 ≤ n by omega)
    show unlikeT xs (F i) < _
    omega
  · obtain ⟨h1, h2, h3⟩ := hF i hi
    obtain ⟨g1, g2, g3⟩ := hF j hj
    have e' : unlikeT xs (F i) = unlikeT xs (F j) := e
    rcases Nat.lt_trichotomy (F i) (F j) with h | h | h
    · have h5 := unlikeT_mono (xs := xs) (show F i + 1 ≤ F j by omega)
      rw [hstep _ h3] at h5
      omega
    · rw [← h2, ← g2, h]
    · have h5 := unlikeT_mono (xs := xs) (show F j + 1 ≤ F i by omega)
      rw [hstep _ g3] at h5
      omega
theorem adj_right {n : Nat} {es : List E3} {k : Int} {xs : List Int} (h : RightL n es k xs) (hI : InE n es) {i j : Nat} (ha : adjE es i j = true) : xs.getD i 0 ≠ xs.getD j 0 := by
  unfold adjE at ha
  rw [List.any_eq_true] at ha
  obtain ⟨e, he, hb⟩ := ha
  have h1 := h.2.2 e he
  have h2 := hI e he
  simp only [Bool.or_eq_true, Bool.and_eq_true, beq_iff_eq] at hb
  rcases hb with ⟨a, b⟩ | ⟨a, b⟩
  · rw [a, b] at h1; exact h1
  · rw [a, b] at h1; exact fun e => h1 e.symm
theorem right_of_part {n k : Nat} {es : List E3} {l : List Nat} (h : PartL (adjE es) k l) (hl : l.length = n) (hg : goodE n es) : RightL n es k (natG l) := by
  have hget : ∀ i, i < n → (natG l).getD i 0 = (l.getD i 0 : Nat) := fun i hi => by
    unfold natG
    rw [List.getD_eq_getElem?_getD, List.getElem?_map, List.getD_eq_getElem?_getD, List.getElem?_eq_getElem (by omega)]
    rfl
  refine ⟨by unfold natG; simp [hl], fun x hx => ?_, fun e he => ?_⟩
  · obtain ⟨i, hi⟩ := List.getElem?_of_mem hx
    obtain ⟨c, hc, rfl⟩ := natG_get hi
    have hil := (List.getElem?_eq_some_iff.1 hc).1
    have := h.lt i hil
    rw [List.getD_eq_getElem?_getD, hc] at this
    simp only [Option.getD_some] at this
    omega
  · obtain ⟨p0, p1, p2, p3⟩ := InE.of_good hg e he
    obtain ⟨x, hx⟩ := Int.eq_ofNat_of_zero_le p0
    obtain ⟨y, hy⟩ := Int.eq_ofNat_of_zero_le p2
    have ha : adjE es x y = true := by
      unfold adjE
      rw [List.any_eq_true]
      exact ⟨e, he, by simp [hx, hy]⟩
    have hxy := (adjE_lt hg ha).2.2
    rw [hx, hy]
    simp only [Int.toNat_natCast]
    rw [hget x (by omega), hget y (by omega)]
    intro e2
    rcases Nat.lt_or_gt_of_ne hxy with h1 | h1
    · exact h.ne y x (by omega) h1 ha (by omega)
    · exact h.ne x y (by omega) h1 (by rw [adjE_symm]; exact ha) (by omega)
set_option maxRecDepth 100000 in
set_option maxHeartbeats 2000000 in
theorem colourFew_of (n : Int) (A : Option Addr) (len cap : Nat) (es : List E3) (A2 : Option Addr) (len2 cap2 : Nat) (xs : List Int) (w : World) (hE : EdgesAt w w.heap.size A len es) (hcap : len ≤ cap) (hI : IntsAt w w.heap.size A2 len2 xs) (hcap2 : len2 ≤ cap2) (hm2 : len2 ≤ 9223372036854775807)
    (HO : ∀ W, EdgesAt W W.heap.size A len es → Calls Try.prog 15 #[.agg #[.int .i64 n, .slice A len cap]] W (LeastTop W n es)) :
    Calls Try.prog 7 #[.agg #[.int .i64 n, .slice A len cap], .slice A2 len2 cap2] w fun e w' => e = .returned (.bool true) ∧ Below w.heap.size w w' := by
  have HX := Lib.hid (BoxG.start (n := n) (cap := cap) hE)
  have HI := Lib.hid (hI.go_ (show Below w.heap.size w (bx w n A len cap) from (Below.refl _ _).alloc (Nat.le_refl _) _))
  have HLX : Hid (xs.length = len2) := Lib.hid hI.1
  have HOO := Lib.hid HO
  obtain ⟨x, hx⟩ : ∃ x, gcheck n es = x := ⟨_, rfl⟩
  have HCX := Lib.hid hx
  have k0 := HX.out.c0
  have k1 := HX.out.c1
  have HLE : Hid (es.length = len) := Lib.hid hE.1
  clear hE HO hI
  by_cases h0 : x = 0
  · subst h0
    obtain ⟨hn0, hn1, hl, hg⟩ := good_of_gcheck hx
    obtain ⟨m, rfl⟩ := Int.eq_ofNat_of_zero_le hn0
    have hm10 : m ≤ 10 := by omega
    have hlen : len ≤ 45 := by have := HLE.out; omega
    have HG := Lib.hid hg
    have HCK := Lib.hid (fun W hW => good_v (m : Int) A len cap es true W hW hcap (by rw [hx]; rfl))
    have HRV := Lib.hid (fun k A3 len3 c3 ys v W hW h2 h3 hv => right_v m A len cap es k A3 len3 c3 ys v W hW hlen (InE.of_good hg) h2 h3 hm10 hv)
    clear hx hg hl
    obtain ⟨u, hu⟩ : ∃ u : Bool, u = true ↔ RightL m es 12 xs := by
      by_cases h : RightL m es 12 xs
      · exact ⟨true, fun _ => h, fun _ => rfl⟩
      · exact ⟨false, fun h => (by cases h), fun h' => absurd h' h⟩
    have HU := Lib.hid hu
    clear hu
    go_enter Try.func7, Try.ntmps7
    go_wp2_with fail
    refine (HOO.out _ HX.out.edges).mono ?_
    rintro e w1 ⟨_, h2, hB⟩
    obtain ⟨k, l, A1, c1, hL, rfl, hi, _⟩ := h2 HCX.out
    have e0 : ((m : Int)).toNat = m := rfl
    rw [e0] at hL hi
    rw [e0]
    have HLC := Lib.hid hL
    have HX1 := Lib.hid (HX.out.next hB)
    have HI1 := Lib.hid (HI.out.go_ hB)
    have HA1 := Lib.hid hi
    have k0' := HX1.out.c0
    have k1' := HX1.out.c1
    clear h2 hB hi hL HOO e0 k0 k1
    go_wp2_with fail
    refine (HCK.out _ HX1.out.edges).mono ?_
    rintro e w2 ⟨rfl, hB⟩
    have HX2 := Lib.hid (HX1.out.next hB)
    have HI2 := Lib.hid (HI1.out.go_ hB)
    have HA2 := Lib.hid (HA1.out.go_ hB)
    have q0 := HX2.out.c0
    have q1 := HX2.out.c1
    clear hB k0' k1'
    go_wp2_with fail
    refine (HRV.out (k : Int) A1 m c1 (natG l) true _ HX2.out.edges HA2.out (by omega) ⟨fun _ => right_of_part HLC.out.part.1 HLC.out.part.2 HG.out, fun _ => rfl⟩).mono ?_
    rintro e w3 ⟨rfl, hB⟩
    have HX3 := Lib.hid (HX2.out.next hB)
    have HI3 := Lib.hid (HI2.out.go_ hB)
    have r0 := HX3.out.c0
    have r1 := HX3.out.c1
    clear hB q0 q1
    go_wp2_with fail
    refine (HRV.out 12 A2 len2 cap2 xs u _ HX3.out.edges HI3.out hm2 HU.out).mono ?_
    rintro e w4 ⟨rfl, hB⟩
    have HX4 := Lib.hid (HX3.out.next hB)
    have HI4 := Lib.hid (HI3.out.go_ hB)
    clear hB r0 r1
    cases u with
    | false =>
      go_wp2_with fail
      go_ret
      exact ⟨rfl, HX4.out.below⟩
    | true =>
      have hle : (k : Int) ≤ (unlikeT xs len2 : Int) := by
        have hr := HU.out.1 rfl
        have hlm : len2 = m := by have := hr.1; have := HLX.out; omega
        subst hlm
        obtain ⟨f, h1, h2⟩ := unlike_rank xs len2 HLX.out
        have := HLC.out.le (col := f) h1 fun i j hi hj ha e => adj_right hr (InE.of_good HG.out) ha (h2 j i (by omega) hi e)
        omega
      go_wp2_with fail
      refine (unlikeT_any A2 len2 cap2 xs _ HI4.out hm2 hcap2).mono ?_
      rintro e w5 ⟨rfl, rfl⟩
      go_wp2_with fail
      go_ret
      exact ⟨rfl, HX4.out.below⟩
  · have HH0 := Lib.hid h0
    have hx0 : (x != 0) = true := by simpa using h0
    have HCK := Lib.hid (fun W hW => good_v n A len cap es false W hW hcap (by rw [hx]; simpa using h0))
    clear hx h0
    go_enter Try.func7, Try.ntmps7
    go_wp2_with fail
    refine (HOO.out _ HX.out.edges).mono ?_
    rintro e w1 ⟨h1, _, hB⟩
    obtain rfl := h1 (by rw [HCX.out]; exact HH0.out)
    rw [HCX.out]
    have HX1 := Lib.hid (HX.out.next hB)
    have k0' := HX1.out.c0
    have k1' := HX1.out.c1
    clear h1 hB HOO k0 k1
    go_wp2_with fail
    refine (HCK.out _ HX1.out.edges).mono ?_
    rintro e w2 ⟨rfl, hB⟩
    have HX2 := Lib.hid (HX1.out.next hB)
    clear hB k0' k1'
    go_wp2_with fail
    go_ret
    exact ⟨rfl, HX2.out.below⟩
end Go.Proofs.Ytpcealcghglopaa

namespace Go.Proofs.Ytpcealcghglopaa
open Go.ChangeShapes Go.WideShapes Go.ChangeAt Go.RowKit Go.Joins Go.Deep

set_option maxRecDepth 100000 in
theorem ownK : ownKnob Try.prog.godebug = none := by kernel_rfl
set_option maxRecDepth 100000 in
theorem laidOutO : laidOutB Try.prog = true := by kernel_rfl
set_option maxRecDepth 100000 in
theorem cellsInt : Try.prog.cellsOf 3 = 1 := by kernel_rfl
end Go.Proofs.Ytpcealcghglopaa

namespace Go.Proofs.Ytpcealcghglopaa
open Go.ChangeShapes Go.WideShapes Go.ChangeAt Go.RowKit Go.Joins Go.Deep

set_option maxRecDepth 100000 in
theorem recGraph : Try.prog.readableRec 24 = true := by kernel_rfl
set_option maxRecDepth 100000 in
theorem rowGraph : (24 : TypeId) < Try.prog.types.size := of_decide_eq_true (by kernel_rfl)
set_option maxRecDepth 100000 in
theorem cellsGraph : Try.prog.cellsOf 24 = 2 := by kernel_rfl
set_option maxRecDepth 100000 in
theorem cellsEdge : Try.prog.cellsOf 61 = 3 := by kernel_rfl
set_option maxRecDepth 100000 in
theorem cellsInt64 : Try.prog.cellsOf 2 = 1 := by kernel_rfl

/-- Every number of an edge is an int64. -/
def WfE (e : E3) : Prop := (Lit.int .i64 e.1).wf = true ∧ (Lit.int .i64 e.2.1).wf = true ∧ (Lit.int .i64 e.2.2).wf = true

section
variable {H : Type} {enc : TypeId × Value → H} {W : World} {base : Nat} {spare : Nat → Bool} {held : Bool}

set_option maxRecDepth 100000 in
theorem edge_of {n : Nat} {cs : List Value} {x : DataW H × List MemPlace} (h : DataW.trod enc Try.prog W base spare held n 61 cs = some x) :
    ∃ e : E3, cs = [.int .i64 e.1, .int .i64 e.2.1, .int .i64 e.2.2] ∧ WfE e := by
  obtain ⟨y0, y1, y2, m, _, hlen, h0, h1, h2⟩ := trod_struct3 Try.underlying61 h
  rw [cellsEdge] at hlen
  match cs, hlen with
  | [c0, c1, c2], _ =>
    simp only [cellsInt, cellsInt64, List.drop_zero, List.take_succ_cons, List.take_zero, List.drop_succ_cons] at h0 h1 h2
    obtain ⟨a, e0, _, wa⟩ := DataW.trod_int Try.underlying3 h0
    obtain ⟨b, e1, _, wb⟩ := DataW.trod_int Try.underlying3 h1
    obtain ⟨c, e2, _, wc⟩ := DataW.trod_int Try.underlying2 h2
    simp only [List.cons.injEq, and_true] at e0 e1 e2
    subst e0 e1 e2
    exact ⟨(a, b, c), rfl, wa, wb, wc⟩

set_option maxRecDepth 100000 in
theorem edges_of {n : Nat} {v : Value} {x : DataW H × List MemPlace} (h : DataW.trod enc Try.prog W base spare held n 22 [v] = some x) :
    ∃ (A : Option Addr) (len cap : Nat) (es : List E3), v = .slice A len cap ∧ EdgesAt W W.heap.size A len es ∧ len ≤ cap ∧ ∀ e ∈ es, WfE e := by
  rcases open_slice Try.underlying22 h with ⟨h0, _⟩ | ⟨a, len, cap, m, k, D, Pl, hcs, _, hl, _, hmm, _, hi⟩
  · simp only [List.cons.injEq, and_true] at h0
    subst h0
    exact ⟨none, 0, 0, [], rfl, ⟨rfl, fun h => absurd h (by omega)⟩, Nat.le_refl _, by simp⟩
  · simp only [List.cons.injEq, and_true] at hcs
    subst hcs
    have hlm : len ≤ m := by rw [hmm]; split <;> omega
    have hall : ∀ i, ∃ e : E3, i < len → (∀ j, j < 3 → W.cell? (a.add (i * 3 + j)) = [Value.int .i64 e.1, .int .i64 e.2.1, .int .i64 e.2.2][j]?) ∧ WfE e := fun i => by
      by_cases hlt : i < len
      · obtain ⟨cs', hc, ht⟩ := hi i (by omega)
        obtain ⟨e, rfl, he⟩ := edge_of ht
        rw [cellsEdge] at hc
        obtain ⟨_, _, hat⟩ := World.cells?_some hc
        exact ⟨e, fun _ => ⟨fun j hj => by rw [← Go.Deep.add_add]; exact hat j hj, he⟩⟩
      · exact ⟨default, fun h => absurd h hlt⟩
    obtain ⟨f, hf⟩ := Classical.axiomOfChoice hall
    refine ⟨some a, len, cap, (List.range len).map f, rfl, ⟨by simp, fun hn => ?_⟩, hl, fun e he => ?_⟩
    · have hz := (hf 0 hn).1 0 (by omega)
      simp only [Nat.zero_mul, Nat.add_zero, List.getElem?_cons_zero] at hz
      obtain ⟨b, off, spot⟩ := a
      have hspot : spot = none := by simpa [Addr.add] using World.cell?_spot hz
      subst hspot
      have hb : b < W.heap.size := by
        rcases Nat.lt_or_ge b W.heap.size with h | h
        · exact h
        · simp [World.cell?, Addr.add, Array.getElem?_eq_none h] at hz
      refine ⟨b, off, rfl, hb, fun i e hie => ?_⟩
      obtain ⟨hil, hie⟩ := List.getElem?_eq_some_iff.1 hie
      simp only [List.length_map, List.length_range] at hil
      simp only [List.getElem_map, List.getElem_range] at hie
      subst hie
      have hc := (hf i hil).1
      refine ⟨?_, ?_, ?_⟩
      · have := hc 0 (by omega); rw [Go.WideShapes.add_plain] at this; simpa using this
      · have := hc 1 (by omega); rw [Go.WideShapes.add_plain] at this; simpa [Nat.add_assoc] using this
      · have := hc 2 (by omega); rw [Go.WideShapes.add_plain] at this; simpa [Nat.add_assoc] using this
    · simp only [List.mem_map, List.mem_range] at he
      obtain ⟨i, hi', rfl⟩ := he
      exact (hf i hi').2

set_option maxRecDepth 100000 in
theorem open_graph {r : Reach} {b0 : Nat} {v : Value} {d : DataW H} {p : List MemPlace} (hv : Value.okWide Try.prog W r b0 24 v) (h : DataW.Trod enc Try.prog W base spare held 24 v d p) :
    ∃ (n : Int) (A : Option Addr) (len cap : Nat) (es : List E3), v = .agg #[.int .i64 n, .slice A len cap] ∧ EdgesAt W W.heap.size A len es ∧ len ≤ cap ∧ (∀ e ∈ es, WfE e) ∧ (Lit.int .i64 n).wf = true := by
  obtain ⟨c0, c1, y0, y1, m, rfl, _, _, hy0, hy1⟩ := open_agg2 Try.underlying24 (by kernel_rfl) cellsGraph hv h
  obtain ⟨n, e0, _, wn⟩ := DataW.trod_int Try.underlying3 hy0
  simp only [List.cons.injEq, and_true] at e0
  subst e0
  obtain ⟨A, len, cap, es, rfl, hE, hl, hw⟩ := edges_of hy1
  exact ⟨n, A, len, cap, es, rfl, hE, hl, hw, wn⟩
end
end Go.Proofs.Ytpcealcghglopaa

namespace Go.Proofs.Ytpcealcghglopaa
open Go.ChangeShapes Go.WideShapes Go.ChangeAt Go.RowKit

set_option maxRecDepth 100000 in
theorem recInts : Try.prog.readableRec 25 = true := by kernel_rfl
set_option maxRecDepth 100000 in
theorem rowInts : (25 : TypeId) < Try.prog.types.size := of_decide_eq_true (by kernel_rfl)
section
variable {H : Type} {enc : TypeId × Value → H} {W : World} {base : Nat} {spare : Nat → Bool} {held : Bool}
set_option maxRecDepth 100000 in
theorem open_intsA {r : Reach} {b0 : Nat} {v : Value} {d : DataW H} {p : List MemPlace} (hv : Value.okWide Try.prog W r b0 25 v) (h : DataW.Trod enc Try.prog W base spare held 25 v d p) :
    ∃ (A : Option Addr) (len cap : Nat) (xs : List Int), v = .slice A len cap ∧ IntsAt W W.heap.size A len xs ∧ len ≤ cap ∧ cap ≤ maxLen := by
  obtain ⟨A, len, cap, rfl⟩ := okWide_slice Try.underlying25 hv
  obtain ⟨fuel, hf⟩ := h
  rcases open_ints Try.underlying25 Try.underlying3 cellsInt hf with ⟨hcs, _⟩ | ⟨a, len', cap', zs, hcs, _, hl, hm, hz, _, hcell, _⟩
  · simp [Value.cells] at hcs
    obtain ⟨rfl, rfl, rfl⟩ := hcs
    exact ⟨none, 0, 0, [], rfl, IntsAt.nil_ _ _ _, Nat.le_refl _, Nat.zero_le _⟩
  · simp [Value.cells] at hcs
    obtain ⟨rfl, rfl, rfl⟩ := hcs
    have hzl : len ≤ zs.length := by rw [hz]; split <;> omega
    refine ⟨some a, len, cap, zs.take len, rfl, ⟨by rw [List.length_take]; omega, fun hn => ?_⟩, hl, hm⟩
    have hz0 := hcell 0 (by omega)
    obtain ⟨b, off, spot⟩ := a
    have hspot : spot = none := by simpa [Addr.add] using World.cell?_spot hz0
    subst hspot
    have hb : b < W.heap.size := by
      rcases Nat.lt_or_ge b W.heap.size with h | h
      · exact h
      · simp [World.cell?, Addr.add, Array.getElem?_eq_none h] at hz0
    refine ⟨b, off, rfl, hb, fun i x hx => ?_⟩
    obtain ⟨h1, h2⟩ := List.getElem?_eq_some_iff.1 hx
    rw [List.length_take] at h1
    rw [List.getElem_take] at h2
    have := hcell i (by omega)
    rw [add_plain, List.getD_eq_getElem?_getD, List.getElem?_eq_getElem (by omega), Option.getD_some, h2] at this
    exact this
end
end Go.Proofs.Ytpcealcghglopaa

namespace Go.Proofs.Ytpcealcghglopaa
open Go.ChangeShapes Go.WideShapes Go.ChangeAt Go.RowKit

set_option maxRecDepth 100000 in
theorem colourFew_any (n : Int) (A : Option Addr) (len cap : Nat) (es : List E3) (A2 : Option Addr) (len2 cap2 : Nat) (xs : List Int) (w : World) (hE : EdgesAt w w.heap.size A len es) (hcap : len ≤ cap) (_ : ∀ e ∈ es, WfE e) (_ : (Lit.int .i64 n).wf = true) (hI : IntsAt w w.heap.size A2 len2 xs) (hcap2 : len2 ≤ cap2) (hm2 : cap2 ≤ maxLen) :
    Calls Try.prog 7 #[.agg #[.int .i64 n, .slice A len cap], .slice A2 len2 cap2] w fun e w' => e = .returned (.bool true) ∧ Below w.heap.size w w' :=
  colourFew_of n A len cap es A2 len2 cap2 xs w hE hcap hI hcap2 (by unfold maxLen at hm2; omega) (fun W h => leastTop_any n A len cap es W h)
set_option maxRecDepth 100000 in
theorem colourFew_lifted (os : Os) (started : os.Started) (H : Type) (enc : TypeId × Value → H) :
    ReturnsInHanded {} Try.checked os 7 .any (Rows.colourFewSpec.pre6 enc Try.prog Try.f7 Rows.colourFewRow.domain false) (Rows.colourFewSpec.post enc Try.prog Try.f7 false true false false) := by
  refine returnsInHanded_of_change (C := Try.checked) ownK started (by kernel_rfl) Try.func7
    (ChangeSpec.witness6 (enc := enc) (C := Try.checked) false ⟨#[], #[.agg #[.int .i64 0, .slice none 0 0], .slice none 0 0], []⟩ 8 (by kernel_rfl) (by kernel_rfl) (by kernel_rfl) (by kernel_rfl)) ?_
  intro W base args ds gs before hval0 hW _ _
  have hval : ∀ (j : Nat) t v, Try.f7.params[j]? = some t → args[j]? = some v → Value.okWide Try.prog W .any base t v := hval0
  have hW' := hW
  obtain ⟨p, q, hA0, hV, rfl, _, _⟩ := hW
  have hA : DataW.TrodAll enc Try.prog W 0 (fun _ => true) true Try.f7.params.toList args.toList ds p := hA0
  rw [Try.params7] at hA hval
  obtain ⟨v0, v1, d0, d1, p0, p1, rfl, rfl, rfl, h0, h1⟩ := trodAll_two hA
  obtain ⟨rfl, rfl⟩ := trodVars_none hV
  obtain ⟨n0, A0, len0, cap0, es0, rfl, hE0, hcap0, hwf0, hwn0⟩ := open_graph (hval 0 24 v0 rfl rfl) h0
  obtain ⟨A1, len1, cap1, xs1, rfl, hI1, hcap1, hm1⟩ := open_intsA (hval 1 25 v1 rfl rfl) h1
  clear hA0 hval0
  simp only [List.append_nil] at hW'
  refine (colourFew_any n0 A0 len0 cap0 es0 A1 len1 cap1 xs1 W hE0 hcap0 hwf0 hwn0 hI1 hcap1 hm1).mono fun e W' ⟨he, hb⟩ => ?_
  subst he
  exact ⟨_, rfl, _, _, _, [], (p0 ++ p1), [], hW', trodAll_mk1 (shut_bool Try.underlying4 _), (by have h := trodAll_mk2 (Below.trod laidOutO recGraph rowGraph h0 hb (fun x hx => hW'.lt x (List.mem_append_left _ hx))) (Below.trod laidOutO recInts rowInts h1 hb (fun x hx => hW'.lt x (List.mem_append_right _ hx))); first | exact h | (simp only [List.append_nil] at h; exact h)), rfl, hb.frame _, fun h => by cases h⟩

theorem colourFew_holds : Rows.ColourFewSaid :=
  OpenClaim.holds_of_wide 7 Try.f7 rfl rfl rfl rfl rfl rfl rfl ⟨rfl, rfl, rfl, rfl, rfl⟩ rfl rfl rfl rfl rfl (by kernel_rfl) Try.func7 (by kernel_rfl)
    (of_decide_eq_true (by kernel_rfl)) (by unfold Func.isWrapper; first | (rw [if_pos (by decide +kernel)]; kernel_rfl) | (rw [if_neg (by decide +kernel)]; exact ⟨rfl, rfl⟩))
    (fun os started H enc _ => colourFew_lifted os started H enc)
#print axioms colourFew_holds
end Go.Proofs.Ytpcealcghglopaa
