/- The keepers' right: is a list a colouring by k colours? -/
import Derived.Test.YtpcealcghglopaaZBoxB
import Derived.Test.YtpcealcghglopaaZInsideV
import Derived.Test.YtpcealcghglopaaZRefDist
import Derived.BigQuiet
namespace Go.Proofs.Ytpcealcghglopaa
open Go.RowKit

def RightL (n : Nat) (es : List E3) (k : Int) (xs : List Int) : Prop := xs.length = n ∧ (∀ x ∈ xs, 0 ≤ x ∧ x < k) ∧ ∀ e ∈ es, xs.getD e.1.toNat 0 ≠ xs.getD e.2.1.toNat 0
theorem allIn_iff {k : Int} {xs : List Int} : xs.all (isIn k) = true ↔ ∀ x ∈ xs, 0 ≤ x ∧ x < k := by
  rw [List.all_eq_true]
  constructor
  · intro h x hx; simpa [isIn] using h x hx
  · intro h x hx; have := h x hx; simp [isIn]; omega
set_option maxRecDepth 100000 in
set_option maxHeartbeats 2000000 in
theorem right_v (n : Nat) (A : Option Addr) (len cap : Nat) (es : List E3) (k : Int) (A2 : Option Addr) (len2 c2 : Nat) (xs : List Int) (v : Bool) (w : World) (hE : EdgesAt w w.heap.size A len es) (hl : len ≤ 45) (hI : InE n es) (h2 : IntsAt w w.heap.size A2 len2 xs) (hn2 : len2 ≤ 9223372036854775807) (hn : n ≤ 10) (hv : v = true ↔ RightL n es k xs) :
    Calls Try.prog 26 #[.agg #[.int .i64 (n : Int), .slice A len cap], .int .i64 k, .slice A2 len2 c2] w fun e w' => e = .returned (.bool v) ∧ Below w.heap.size w w' := by
  have HX := Lib.hid (BoxG.start (n := (n : Int)) (cap := cap) hE)
  have H2 := Lib.hid (h2.go_ (show Below w.heap.size w (bx w n A len cap) from (Below.refl _ _).alloc (Nat.le_refl _) _))
  have HI := Lib.hid hI
  have HV := Lib.hid hv
  have HL : Hid (xs.length = len2) := Lib.hid h2.1
  have HLE : Hid (es.length = len) := Lib.hid hE.1
  have HF : Hid (¬ RightL n es k xs → v = false) := Lib.hid fun h => by
    cases v with
    | false => rfl
    | true => exact absurd (hv.1 rfl) h
  have k0 := HX.out.c0
  have k1 := HX.out.c1
  have HBW := Lib.hid HX.out.below
  clear hE hI h2 hv
  by_cases hlen : len2 = n
  · subst hlen
    obtain ⟨u, hu⟩ : ∃ u, xs.all (isIn k) = u := ⟨_, rfl⟩
    have HU := Lib.hid hu
    have HIN := Lib.hid (fun W hW => inside_v k A2 len2 c2 xs u W hW hn2 hu)
    clear hu
    cases u with
    | false =>
      have HN : Hid (v = false) := Lib.hid (HF.out fun h => by
        have := allIn_iff.2 h.2.1
        rw [HU.out] at this; cases this)
      go_enter Try.func26, Try.ntmps26
      go_wp2_with fail
      refine (HIN.out _ H2.out).mono ?_
      rintro e w1 ⟨rfl, rfl⟩
      go_wp2_with fail
      go_ret
      exact ⟨by rw [HN.out]; first | done | rfl, HBW.out⟩
    | true =>
      go_enter Try.func26, Try.ntmps26
      go_wp2_with fail
      refine (HIN.out _ H2.out).mono ?_
      rintro e w1 ⟨rfl, rfl⟩
      go_wp2_with fail
      clear k0 k1
      go_loopw [23] (fun y wr => ∃ q : Nat, q ≤ len ∧ y = .int .i64 q ∧ Hid (∀ e ∈ es.take q, xs.getD e.1.toNat 0 ≠ xs.getD e.2.1.toNat 0) ∧ Hid (BoxG w (len2 : Int) A len cap es wr)) (fun y _ => len - (intOf y).toNat)
      case atStart => exact ⟨0, Nat.zero_le _, rfl, Lib.hid (fun e he => by simp at he), HX⟩
      case round =>
        obtain ⟨q, hq, rfl, HP, HB⟩ := hrel
        by_cases hlt : q < len
        · obtain ⟨b', off, ⟨a0, a1, a2⟩, rfl, hb, hx, hc0, hc1, hc2⟩ := HB.out.edges.at_ hlt
          have ik0 : (0 : Int) ≤ (q : Int) := by omega
          have ik1 : (q : Int) < (len : Int) := by omega
          obtain ⟨p0, p1, p2, p3⟩ := HI.out _ (List.mem_of_getElem? hx)
          simp only at p0 p1 p2 p3 hc0 hc1 hc2
          obtain ⟨x, rfl⟩ := Int.eq_ofNat_of_zero_le p0
          obtain ⟨y, rfl⟩ := Int.eq_ofNat_of_zero_le p2
          have hxn : x < len2 := by omega
          have hyn : y < len2 := by omega
          have HBA : ∀ o, Hid (BoxG w (len2 : Int) (some ⟨b', off, none⟩) len cap es (wr.alloc o)) := fun o => Lib.hid (HB.out.next ((Below.refl _ _).alloc (Nat.le_refl _) o))
          have h2w : ∀ o, IntsAt (wr.alloc o) (wr.alloc o).heap.size A2 len2 xs := fun o => (H2.out.below (HB.out.box.alloc HB.out.box.size o)).more (HB.out.box.alloc HB.out.box.size o).size
          obtain ⟨o2, ho2⟩ : ∃ o2, o2 = Obj.cells #[.int .i64 (x : Int), .int .i64 (y : Int), .int .i64 a2] 61 (0, 0) := ⟨_, rfl⟩
          obtain ⟨bb, oo, u, rfl, _, hu, hcu⟩ := (h2w o2).at_ hxn
          obtain ⟨v', hv', hcv⟩ : ∃ v', xs[y]? = some v' ∧ (wr.alloc o2).cell? ⟨bb, oo + y, none⟩ = some (.int .i64 v') := by
            obtain ⟨bb', oo', v', e, _, h5, h6⟩ := (h2w o2).at_ hyn
            injection e with e
            injection e with e1 e2
            subst e1 e2
            exact ⟨v', h5, h6⟩
          rw [ho2] at hcu hcv
          have HGU : Hid (xs.getD x 0 = u) := Lib.hid (by rw [List.getD_eq_getElem?_getD, hu]; rfl)
          have HGV : Hid (xs.getD y 0 = v') := Lib.hid (by rw [List.getD_eq_getElem?_getD, hv']; rfl)
          have HM := Lib.hid (List.mem_of_getElem? hx)
          have HS : Hid (es.take (q + 1) = es.take q ++ [((x : Int), (y : Int), a2)]) := Lib.hid (by
            obtain ⟨h3, h4⟩ := List.getElem?_eq_some_iff.1 hx
            rw [List.take_succ_eq_append_getElem h3, h4])
          clear hx hu hv' h2w ho2
          by_cases huv : u = v'
          · have HN : Hid (v = false) := Lib.hid (HF.out fun h => by
              have := h.2.2 _ HM.out
              simp only [Int.toNat_natCast] at this
              rw [HGU.out, HGV.out] at this
              exact this huv)
            have hb2 : (u == v') = true := by simpa using huv
            clear huv HP
            go_wp2_with fail
            go_quiet (fail)
            go_wp2_with fail
            go_ret
            exact ⟨by rw [HN.out]; first | done | rfl, below_drewN ((HBA _).out.below) _⟩
          · have HP2 : Hid (∀ e ∈ es.take (q + 1), xs.getD e.1.toNat 0 ≠ xs.getD e.2.1.toNat 0) := Lib.hid fun e he => by
              rw [HS.out] at he
              rcases List.mem_append.1 he with he | he
              · exact HP.out e he
              · rw [List.mem_singleton.1 he]
                simp only [Int.toNat_natCast]
                rw [HGU.out, HGV.out]
                exact huv
            have hb2 : (u == v') = false := by simpa using huv
            clear huv HP
            go_wp2_with fail
            go_quiet (fail)
            go_wp2_with fail
            go_roundw
            case rel => exact ⟨q + 1, by omega, by go_num, HP2, Lib.hid ((HBA _).out.next (below_drewN (Below.refl _ _) _))⟩
            case measure => simp [intOf]; omega
        · obtain rfl : q = len := by omega
          have HN : Hid (v = true) := Lib.hid (HV.out.2 ⟨HL.out, allIn_iff.1 HU.out, by
            have h := HP.out
            rwa [List.take_of_length_le (by have := HLE.out; omega)] at h⟩)
          clear HP
          go_wp2_with fail
          go_ret
          exact ⟨by rw [HN.out]; first | done | rfl, HB.out.below⟩
  · have HN : Hid (v = false) := Lib.hid (HF.out fun h => hlen (HL.out.symm.trans h.1))
    have hb : ((len2 : Int) != (n : Int)) = true := by simp; omega
    clear hlen
    go_enter Try.func26, Try.ntmps26
    go_wp2_with fail
    go_ret
    exact ⟨by rw [HN.out]; first | done | rfl, HBW.out⟩
end Go.Proofs.Ytpcealcghglopaa
