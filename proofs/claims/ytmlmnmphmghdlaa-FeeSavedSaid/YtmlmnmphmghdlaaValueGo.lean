/- The program's value and size of a filled net: what goes out of a node, less what comes in; how much a cut lets go. -/
import Derived.Test.YtmlmnmphmghdlaaFillAt
import Derived.Test.YtmlmnmphmghdlaaHasNode
namespace Go.Proofs.Ytmlmnmphmghdlaa
open Go.RowKit

def outTerm (N : NetP) (f : Nat → Int) (i k : Nat) : Int := (if N.fr k = i then f k else 0) - (if N.to k = i then f k else 0)
theorem outP_eq (N : NetP) (f : Nat → Int) (i : Nat) : outP N f i = sumI (outTerm N f i) N.K := rfl
def cutTerm (N : NetP) (W : Nat → Bool) (k : Nat) : Int := if W (N.fr k) = true ∧ W (N.to k) = false then N.mo k else 0
theorem cutP_eq (N : NetP) (W : Nat → Bool) : cutP N W = sumI (cutTerm N W) N.K := rfl
theorem sumI_abs {h : Nat → Int} {c : Int} : ∀ n, (∀ k, k < n → -c ≤ h k ∧ h k ≤ c) → -(n * c) ≤ sumI h n ∧ sumI h n ≤ n * c
  | 0, _ => by simp [sumI]
  | n + 1, hb => by
    obtain ⟨h1, h2⟩ := sumI_abs n fun k hk => hb k (by omega)
    obtain ⟨h3, h4⟩ := hb n (by omega)
    have e : ((n + 1 : Nat) : Int) * c = n * c + c := by rw [Int.natCast_add, Int.add_mul]; simp
    simp only [sumI]; rw [e]; omega
section
variable {n : Int} {es : List A4} {f : Nat → Int}
theorem outTo_abs (hG : GoodN n es) (hM : MayP (netP n es) f) (i : Nat) {k : Nat} (hk : k ≤ es.length) : -31457280 ≤ sumI (outTerm (netP n es) f i) k ∧ sumI (outTerm (netP n es) f i) k ≤ 31457280 := by
  have hl := hG.len
  obtain ⟨h1, h2⟩ := sumI_abs (h := outTerm (netP n es) f i) (c := 1048576) k fun j hj => by
    have h3 := hM j (Nat.lt_of_lt_of_le hj hk)
    have h4 := netP_moG hG (Nat.lt_of_lt_of_le hj hk)
    unfold outTerm
    split <;> split <;> omega
  omega
theorem cutTo_abs (hG : GoodN n es) (W : Nat → Bool) {k : Nat} (hk : k ≤ es.length) : -31457280 ≤ sumI (cutTerm (netP n es) W) k ∧ sumI (cutTerm (netP n es) W) k ≤ 31457280 := by
  have hl := hG.len
  obtain ⟨h1, h2⟩ := sumI_abs (h := cutTerm (netP n es) W) (c := 1048576) k fun j hj => by
    have h4 := netP_moG hG (Nat.lt_of_lt_of_le hj hk)
    have h5 := (netP_ok hG.big j (Nat.lt_of_lt_of_le hj hk)).2.2.2
    unfold cutTerm
    split <;> omega
  omega
end

set_option maxRecDepth 100000 in
set_option maxHeartbeats 2000000 in
theorem value_any (F g B m : Nat) (A : Option Addr) (len cap : Nat) (es : List A4) (f : Nat → Int) (s : Nat) (w : World)
    (hF : FillAt w F g B (m : Int) A len cap es f) (hG : GoodN (m : Int) es) (hM : MayP (netP (m : Int) es) f) :
    Calls Try.prog 27 #[.pointer (some ⟨F, 0, none⟩), .int .i64 s] w fun e w' => e = .returned (.int .i64 (outP (netP (m : Int) es) f s)) ∧ Below w.heap.size w w' := by
  have HF := Lib.hid hF
  have HG := Lib.hid hG
  have HM := Lib.hid hM
  have c1 := hF.c1
  have hl := Lib.hid hF.arcs.1
  have hl30 : len ≤ 30 := by have := hG.len; have := hF.arcs.1; omega
  clear hF hG hM
  go_enter Try.func27, Try.ntmps27
  go_wp2
  go_loopw [5, 14] (fun a b wr => ∃ k : Nat, k ≤ len ∧ b = .int .i64 k ∧ a = .int .i64 (sumI (outTerm (netP (m : Int) es) f s) k) ∧ Below w.heap.size w wr) (fun _ b _ => len - (intOf b).toNat)
  case atStart => exact ⟨0, Nat.zero_le _, rfl, rfl, Below.refl _ _⟩
  case round =>
    obtain ⟨k, hk, rfl, rfl, hB⟩ := hrel
    have HB := Lib.hid hB
    have hFr := HF.out.below hB HF.out.lt
    by_cases hlt : k < len
    · obtain ⟨b, off, ⟨a0, a1, a2, a3⟩, rfl, hb, hx, q0, q1, q2, q3⟩ := hFr.arcs.at_ hlt
      obtain ⟨e0, e1, e2, l0, l1, l2, _, _⟩ := netP_arc HG.out.big hx
      simp only at e0 e1 e2
      rw [e0] at q0
      rw [e1] at q1
      have qg := hFr.row.cell hlt
      have qF := hFr.c2
      have h1 : F < wr.heap.size := hFr.lt
      have h2 : g < wr.heap.size := by have := hFr.up; omega
      have h3 : b < wr.heap.size := by have := hFr.up; have := hFr.lo; omega
      have hlen : k < es.length := by have := hl.out; omega
      obtain ⟨s1, s2⟩ := outTo_abs HG.out HM.out s (Nat.le_of_lt hlen)
      obtain ⟨s3, s4⟩ := outTo_abs HG.out HM.out s hlen
      have HS : Hid (sumI (outTerm (netP (m : Int) es) f s) (k + 1) = sumI (outTerm (netP (m : Int) es) f s) k + outTerm (netP (m : Int) es) f s k) := Lib.hid rfl
      have HT : Hid (outTerm (netP (m : Int) es) f s k = (if (netP (m : Int) es).fr k = s then f k else 0) - (if (netP (m : Int) es).to k = s then f k else 0)) := Lib.hid rfl
      have ik0 : (0 : Int) ≤ (k : Int) := by omega
      have ik1 : (k : Int) < (len : Int) := by omega
      have HB2 : Hid (Below w.heap.size w (wr.alloc (.cells #[.int .i64 ((netP (m : Int) es).fr k), .int .i64 ((netP (m : Int) es).to k), .int .i64 a2, .int .i64 a3] 31))) := Lib.hid (hB.alloc hB.size _)
      generalize (netP (m : Int) es).fr k = u at *
      generalize (netP (m : Int) es).to k = v at *
      generalize f k = fk at *
      generalize outTerm (netP (m : Int) es) f s k = tk at HS HT
      generalize hsn : sumI (outTerm (netP (m : Int) es) f s) (k + 1) = sn at *
      generalize sumI (outTerm (netP (m : Int) es) f s) k = sk at *
      have HSN := Lib.hid hsn
      clear hFr hx e0 e1 e2 hB hsn
      by_cases hu : u = s
      · subst hu
        have HE : Hid (sn = sk + fk) := Lib.hid (by rw [HS.out, HT.out, if_pos rfl, if_neg (fun e => l2 e.symm)]; omega)
        have s5 : -31457280 ≤ sk + fk := by have := HE.out; omega
        have s6 : sk + fk ≤ 31457280 := by have := HE.out; omega
        clear s3 s4
        go_wp2
        go_roundw
        case rel => exact ⟨k + 1, by omega, by go_num, by rw [HSN.out, HE.out], HB2.out⟩
        case measure => simp [intOf]; omega
      · have hub : ((s : Int) == (u : Int)) = false := by simp; omega
        by_cases hv : v = s
        · subst hv
          have HE : Hid (sn = sk - fk) := Lib.hid (by rw [HS.out, HT.out, if_neg l2, if_pos rfl]; omega)
          have s5 : -31457280 ≤ sk - fk := by have := HE.out; omega
          have s6 : sk - fk ≤ 31457280 := by have := HE.out; omega
          clear s3 s4
          go_wp2
          go_roundw
          case rel => exact ⟨k + 1, by omega, by go_num, by rw [HSN.out, HE.out], HB2.out⟩
          case measure => simp [intOf]; omega
        · have hvb : ((s : Int) == (v : Int)) = false := by simp; omega
          have HE : Hid (sn = sk) := Lib.hid (by rw [HS.out, HT.out, if_neg hu, if_neg hv]; omega)
          clear s3 s4
          go_wp2
          go_roundw
          case rel => exact ⟨k + 1, by omega, by go_num, by rw [HSN.out, HE.out], HB2.out⟩
          case measure => simp [intOf]; omega
    · obtain rfl : k = len := by omega
      have HE : Hid (sumI (outTerm (netP (m : Int) es) f s) k = outP (netP (m : Int) es) f s) := Lib.hid (by rw [outP_eq]; show _ = sumI _ es.length; rw [hl.out])
      go_wp2
      go_ret
      exact ⟨ret_int HE.out, HB.out⟩
end Go.Proofs.Ytmlmnmphmghdlaa
