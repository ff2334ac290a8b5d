/- The reference's CutSize and Cut. -/
import Derived.Test.YtmlmnmphmghdlaaValueGo
import Derived.Test.YtmlmnmphmghdlaaBit
namespace Go.Proofs.Ytmlmnmphmghdlaa
open Go.RowKit

set_option maxRecDepth 100000 in
set_option maxHeartbeats 2000000 in
theorem cutSize_any (m : Nat) (A : Option Addr) (len cap : Nat) (es : List A4) (c : Nat) (hc : c < 4294967296) (w : World) (hE : ArcsAt w w.heap.size A len es) (hG : GoodN (m : Int) es) :
    Calls Try.prog 20 #[.agg #[.int .i64 m, .slice A len cap], .int .u32 c] w fun e w' => e = .returned (.int .i64 (cutP (netP (m : Int) es) fun i => c.testBit i)) ∧ Below w.heap.size w w' := by
  have HX := Lib.hid (BoxN.start (n := (m : Int)) (cap := cap) hE)
  have HG := Lib.hid hG
  have k1 := HX.out.k1
  have hl := Lib.hid hE.1
  have hl30 : len ≤ 30 := by have := hG.len; have := hE.1; omega
  have hm10 : m ≤ 10 := by have := hG.n1; omega
  clear hE hG
  go_enter Try.func20, Try.ntmps20
  go_wp2
  clear k1
  go_loopw [5, 11] (fun a b wr => ∃ k : Nat, k ≤ len ∧ b = .int .i64 k ∧ a = .int .i64 (sumI (cutTerm (netP (m : Int) es) fun i => c.testBit i) k) ∧ Hid (BoxN w (m : Int) A len cap es wr)) (fun _ b _ => len - (intOf b).toNat)
  case atStart => exact ⟨0, Nat.zero_le _, rfl, rfl, HX⟩
  case round =>
    obtain ⟨k, hk, rfl, rfl, HB⟩ := hrel
    by_cases hlt : k < len
    · obtain ⟨b, off, ⟨a0, a1, a2, a3⟩, rfl, hb, hx, q0, q1, q2, q3⟩ := HB.out.arcs.at_ hlt
      obtain ⟨e0, e1, e2, l0, l1, l2, _, _⟩ := netP_arc HG.out.big hx
      simp only at e0 e1 e2
      rw [e0] at q0
      rw [e1] at q1
      rw [e2] at q2
      have hlen : k < es.length := by have := hl.out; omega
      obtain ⟨s1, s2⟩ := cutTo_abs HG.out (fun i => c.testBit i) (Nat.le_of_lt hlen)
      obtain ⟨s3, s4⟩ := cutTo_abs HG.out (fun i => c.testBit i) hlen
      have hn : (netP (m : Int) es).n = m := by simp [netP]
      rw [hn] at l0 l1
      have HS : Hid (sumI (cutTerm (netP (m : Int) es) fun i => c.testBit i) (k + 1) = sumI (cutTerm (netP (m : Int) es) fun i => c.testBit i) k + cutTerm (netP (m : Int) es) (fun i => c.testBit i) k) := Lib.hid rfl
      have HT : Hid (cutTerm (netP (m : Int) es) (fun i => c.testBit i) k = if c.testBit ((netP (m : Int) es).fr k) = true ∧ c.testBit ((netP (m : Int) es).to k) = false then (netP (m : Int) es).mo k else 0) := Lib.hid rfl
      have ik0 : (0 : Int) ≤ (k : Int) := by omega
      have ik1 : (k : Int) < (len : Int) := by omega
      have HB2 : Hid (BoxN w (m : Int) (some ⟨b, off, none⟩) len cap es (wr.alloc (.cells #[.int .i64 ((netP (m : Int) es).fr k), .int .i64 ((netP (m : Int) es).to k), .int .i64 ((netP (m : Int) es).mo k), .int .i64 a3] 31))) := Lib.hid (HB.out.next ((Below.refl _ _).alloc (Nat.le_refl _) _))
      generalize (netP (m : Int) es).fr k = u at *
      generalize (netP (m : Int) es).to k = v at *
      generalize (netP (m : Int) es).mo k = mk at *
      generalize cutTerm (netP (m : Int) es) (fun i => c.testBit i) k = tk at HS HT
      generalize hsn : sumI (cutTerm (netP (m : Int) es) fun i => c.testBit i) (k + 1) = sn at *
      generalize sumI (cutTerm (netP (m : Int) es) fun i => c.testBit i) k = sk at *
      have HSN := Lib.hid hsn
      clear hx e0 e1 e2 hsn hn
      cases hu : c.testBit u
      · have HU := Lib.hid hu
        have HE : Hid (sn = sk) := Lib.hid (by rw [HS.out, HT.out, HU.out]; simp)
        clear hu s3 s4
        go_wp2_with fail
        refine (bit_nat c u false hc (by omega) HU.out _).mono ?_
        rintro e w2 ⟨rfl, rfl⟩
        go_wp2
        go_roundw
        case rel => exact ⟨k + 1, by omega, by go_num, by rw [HSN.out, HE.out], HB2⟩
        case measure => (simp [intOf] <;> omega)
      · have HU := Lib.hid hu
        clear hu
        cases hv : c.testBit v
        · have HV := Lib.hid hv
          have HE : Hid (sn = sk + mk) := Lib.hid (by rw [HS.out, HT.out, HU.out, HV.out]; simp)
          have s5 : -31457280 ≤ sk + mk := by have := HE.out; omega
          have s6 : sk + mk ≤ 31457280 := by have := HE.out; omega
          clear hv s3 s4
          go_wp2_with fail
          refine (bit_nat c u true hc (by omega) HU.out _).mono ?_
          rintro e w2 ⟨rfl, rfl⟩
          go_wp2_with fail
          refine (bit_nat c v false hc (by omega) HV.out _).mono ?_
          rintro e w3 ⟨rfl, rfl⟩
          go_wp2
          go_roundw
          case rel => exact ⟨k + 1, by omega, by go_num, by rw [HSN.out, HE.out], HB2⟩
          case measure => (simp [intOf] <;> omega)
        · have HV := Lib.hid hv
          have HE : Hid (sn = sk) := Lib.hid (by rw [HS.out, HT.out, HU.out, HV.out]; simp)
          clear hv s3 s4
          go_wp2_with fail
          refine (bit_nat c u true hc (by omega) HU.out _).mono ?_
          rintro e w2 ⟨rfl, rfl⟩
          go_wp2_with fail
          refine (bit_nat c v true hc (by omega) HV.out _).mono ?_
          rintro e w3 ⟨rfl, rfl⟩
          go_wp2
          go_roundw
          case rel => exact ⟨k + 1, by omega, by go_num, by rw [HSN.out, HE.out], HB2⟩
          case measure => (simp [intOf] <;> omega)
    · obtain rfl : k = len := by omega
      have HE : Hid (sumI (cutTerm (netP (m : Int) es) fun i => c.testBit i) k = cutP (netP (m : Int) es) fun i => c.testBit i) := Lib.hid (by rw [cutP_eq]; show _ = sumI _ es.length; rw [hl.out])
      go_wp2
      go_ret
      exact ⟨ret_int HE.out, HB.out.below⟩
set_option maxRecDepth 100000 in
theorem cutSize_v (m : Nat) (A : Option Addr) (len cap : Nat) (es : List A4) (c : Nat) (v : Int) (hc : c < 4294967296) (w : World) (hE : ArcsAt w w.heap.size A len es) (hG : GoodN (m : Int) es) (hv : cutP (netP (m : Int) es) (fun i => c.testBit i) = v) :
    Calls Try.prog 20 #[.agg #[.int .i64 m, .slice A len cap], .int .u32 c] w fun e w' => e = .returned (.int .i64 v) ∧ Below w.heap.size w w' := by
  subst hv; exact cutSize_any m A len cap es c hc w hE hG

/-- The smallest cut with the least word of those from k on. -/
structure MinTo (N : NetP) (s t a k : Nat) : Prop where
  lt : a < 2 ^ N.n
  src : a.testBit s = true
  dst : a.testBit t = false
  least : ∀ w, k < w → w < 2 ^ N.n → w.testBit s = true → w.testBit t = false → cutP N (fun i => a.testBit i) ≤ cutP N (fun i => w.testBit i) ∧ (cutP N (fun i => w.testBit i) = cutP N (fun i => a.testBit i) → a ≤ w)
section
variable {N : NetP} {s t a k : Nat}
theorem MinTo.start (hs : s < N.n) (hst : s ≠ t) : MinTo N s t (2 ^ s) (2 ^ N.n - 1) :=
  ⟨Nat.pow_lt_pow_right (by decide) hs, by rw [Nat.testBit_two_pow]; simp, by rw [Nat.testBit_two_pow]; simp; omega, fun w h1 h2 => by omega⟩
theorem MinTo.end_ (h : MinTo N s t a 0) : MinCutP N s t a :=
  ⟨h.lt, h.src, h.dst, fun w h1 h2 h3 => h.least w (by
    rcases Nat.eq_zero_or_pos w with rfl | h0
    · simp at h2
    · exact h0) h1 h2 h3⟩
theorem MinTo.skip (h : MinTo N s t a (k + 1)) (hk : (k + 1).testBit s = false ∨ (k + 1).testBit t = true ∨ (cutP N (fun i => a.testBit i) < cutP N (fun i => (k + 1).testBit i)) ∨ (cutP N (fun i => a.testBit i) = cutP N (fun i => (k + 1).testBit i) ∧ a ≤ k + 1)) : MinTo N s t a k :=
  ⟨h.lt, h.src, h.dst, fun w h1 h2 h3 h4 => by
    rcases Nat.lt_or_ge (k + 1) w with h5 | h5
    · exact h.least w h5 h2 h3 h4
    · obtain rfl : w = k + 1 := by omega
      rcases hk with hk | hk | hk | ⟨hk, hk2⟩
      · rw [h3] at hk; cases hk
      · rw [h4] at hk; cases hk
      · exact ⟨by omega, fun e => by omega⟩
      · exact ⟨by omega, fun _ => hk2⟩⟩
theorem MinTo.take (h : MinTo N s t a (k + 1)) (hlt : k + 1 < 2 ^ N.n) (h1 : (k + 1).testBit s = true) (h2 : (k + 1).testBit t = false) (hk : cutP N (fun i => (k + 1).testBit i) < cutP N (fun i => a.testBit i) ∨ (cutP N (fun i => (k + 1).testBit i) = cutP N (fun i => a.testBit i) ∧ k + 1 < a)) : MinTo N s t (k + 1) k :=
  ⟨hlt, h1, h2, fun w g1 g2 g3 g4 => by
    rcases Nat.lt_or_ge (k + 1) w with h5 | h5
    · obtain ⟨g5, g6⟩ := h.least w h5 g2 g3 g4
      exact ⟨by omega, fun _ => by omega⟩
    · obtain rfl : w = k + 1 := by omega
      exact ⟨Int.le_refl _, fun _ => Nat.le_refl _⟩⟩
end
def RefCutOut (m : Nat) (es : List A4) (s t : Nat) (w : World) (e : Ending) (w' : World) : Prop :=
  ∃ c : Nat, e = .returned (.tuple #[.int .u32 c, .int .i64 (cutP (netP (m : Int) es) fun i => c.testBit i)]) ∧ MinCutP (netP (m : Int) es) s t c ∧ Below w.heap.size w w'

set_option maxRecDepth 100000 in
set_option maxHeartbeats 2000000 in
theorem refCut_any (m : Nat) (A : Option Addr) (len cap : Nat) (es : List A4) (s t : Nat) (w : World) (hE : ArcsAt w w.heap.size A len es) (hG : GoodN (m : Int) es) (hs : s < m) (ht : t < m) (hst : s ≠ t) :
    Calls Try.prog 9 #[.agg #[.int .i64 m, .slice A len cap], .int .i64 s, .int .i64 t] w (RefCutOut m es s t w) := by
  have HX := Lib.hid (BoxN.start (n := (m : Int)) (cap := cap) hE)
  have HG := Lib.hid hG
  have k0 := HX.out.k0
  have k1 := HX.out.k1
  have hm10 : m ≤ 10 := by have := hG.n1; omega
  have hn : Hid ((netP (m : Int) es).n = m) := Lib.hid (by simp [netP])
  have hp1 : 2 ^ s < 1024 := Nat.pow_lt_pow_right (a := 2) (n := 10) (m := s) (by decide) (by omega)
  have hp2 : 2 ^ m < 1025 := by have : 2 ^ m ≤ 2 ^ 10 := Nat.pow_le_pow_right (by decide) hm10
                                omega
  have hp3 := Nat.two_pow_pos m
  have hs32 : (s : Int) < 32 := by omega
  have hm32 : (m : Int) < 32 := by omega
  have a1 := pow_mod s (by omega)
  have a2 := pow_mod m (by omega)
  have a3 : IntKind.u32.wrap ((2 : Int) ^ s) = ((2 ^ s : Nat) : Int) := by rw [wrap_u32n, a1]
  have a4 : IntKind.u32.wrap ((2 : Int) ^ m) = ((2 ^ m : Nat) : Int) := by rw [wrap_u32n, a2]
  obtain ⟨P, hP⟩ : ∃ P : Nat, P = 2 ^ s := ⟨_, rfl⟩
  obtain ⟨Q, hQ⟩ : ∃ Q : Nat, 2 ^ m = Q + 1 := ⟨2 ^ m - 1, by omega⟩
  have HST : Hid (MinTo (netP (m : Int) es) s t P Q) := Lib.hid (by
    have := MinTo.start (N := netP (m : Int) es) (s := s) (t := t) (by rw [hn.out]; exact hs) hst
    rw [hn.out, hQ, ← hP] at this
    simpa using this)
  have HQ : Hid (2 ^ (netP (m : Int) es).n = Q + 1) := Lib.hid (by rw [hn.out, hQ])
  rw [← hP] at hp1 a1 a3
  rw [hQ] at hp2 a2 a4
  have hQ8 : Q < 1024 := by omega
  clear hE hG hP hQ hp2 hp3
  go_enter Try.func9, Try.ntmps9
  go_wp2_with fail
  refine (cutSize_any m A len cap es P (by omega) _ (by exact HX.out.arcs) HG.out).mono ?_
  rintro e w1 ⟨rfl, hB⟩
  have HX1 := Lib.hid (HX.out.next hB)
  have j0 := HX1.out.k0
  have j1 := HX1.out.k1
  clear hB k0 k1
  go_wp2
  clear j0 j1 a1 a2 a3 a4
  go_loopw [8, 9, 10] (fun a b c wr => ∃ (best k : Nat) (x : Int), a = .int .u32 best ∧ b = .int .i64 x ∧ c = .int .u32 k ∧ k ≤ Q ∧ best < 1024 ∧ Hid (cutP (netP (m : Int) es) (fun i => best.testBit i) = x) ∧ Hid (BoxN w (m : Int) A len cap es wr) ∧ Hid (MinTo (netP (m : Int) es) s t best k)) (fun _ _ c _ => (intOf c).toNat)
  case atStart => exact ⟨P, Q, _, rfl, rfl, rfl, Nat.le_refl _, hp1, Lib.hid rfl, HX1, HST⟩
  case round =>
    obtain ⟨best, k0, x, rfl, rfl, rfl, hk, hb, HCB, HB, HM⟩ := hrel
    have j0 := HB.out.k0
    have j1 := HB.out.k1
    rcases Nat.eq_zero_or_pos k0 with rfl | hpos
    · have hx := HCB.out
      subst hx
      clear HCB
      go_wp2
      go_ret2
      exact ⟨best, rfl, HM.out.end_, HB.out.below⟩
    · obtain ⟨k, rfl⟩ : ∃ k, k0 = k + 1 := ⟨k0 - 1, by omega⟩
      obtain ⟨xk, hxk⟩ : ∃ xk, cutP (netP (m : Int) es) (fun i => (k + 1).testBit i) = xk := ⟨_, rfl⟩
      have HC := Lib.hid hxk
      clear hxk hpos
      have hkw : (k : Int) + 1 < 4294967296 := by omega
      cases hs1 : (k + 1).testBit s
      · have H1 := Lib.hid hs1
        have HYM : Hid (MinTo (netP (m : Int) es) s t best k) := Lib.hid (HM.out.skip (.inl hs1))
        clear hs1
        go_wp2_with fail
        refine (bit_nat (k + 1) s false (by omega) (by omega) H1.out _).mono ?_
        rintro e w2 ⟨rfl, rfl⟩
        go_wp2
        go_roundw
        case rel => exact ⟨best, k, _, rfl, rfl, (by first | rfl | go_num), by omega, hb, HCB, HB, HYM⟩
        case measure => (simp [intOf] <;> omega)
      · have H1 := Lib.hid hs1
        cases ht1 : (k + 1).testBit t
        · have H2 := Lib.hid ht1
          have HLT : Hid (k + 1 < 2 ^ (netP (m : Int) es).n) := Lib.hid (by rw [HQ.out]; omega)
          clear hs1 ht1
          rcases Int.lt_trichotomy xk x with hc | hc | hc
          · have HYM : Hid (MinTo (netP (m : Int) es) s t (k + 1) k) := Lib.hid (HM.out.take HLT.out H1.out H2.out (.inl (by rw [HC.out, HCB.out]; exact hc)))
            go_wp2_with fail
            refine (bit_nat (k + 1) s true (by omega) (by omega) H1.out _).mono ?_
            rintro e w2 ⟨rfl, rfl⟩
            go_wp2_with fail
            refine (bit_nat (k + 1) t false (by omega) (by omega) H2.out _).mono ?_
            rintro e w2 ⟨rfl, rfl⟩
            go_wp2_with fail
            refine (cutSize_v m A len cap es (k + 1) xk (by omega) _ (by exact HB.out.arcs) HG.out HC.out).mono ?_
            rintro e w3 ⟨rfl, hB⟩
            have HB1 := Lib.hid (HB.out.next hB)
            have HB1a := HB1.out.k0
            have HB1b := HB1.out.k1
            clear hB j0 j1
            go_wp2_with fail
            refine (cutSize_v m A len cap es (k + 1) xk (by omega) _ (by exact HB1.out.arcs) HG.out HC.out).mono ?_
            rintro e w4 ⟨rfl, hB⟩
            have HB2 := Lib.hid (HB1.out.next hB)
            have HB2a := HB2.out.k0
            have HB2b := HB2.out.k1
            clear hB HB1a HB1b
            go_wp2
            go_roundw
            case rel => exact ⟨k + 1, k, xk, rfl, rfl, (by first | rfl | go_num), by omega, by omega, HC, HB2, HYM⟩
            case measure => (simp [intOf] <;> omega)
          · subst hc
            by_cases hlt : k + 1 < best
            · have HYM : Hid (MinTo (netP (m : Int) es) s t (k + 1) k) := Lib.hid (HM.out.take HLT.out H1.out H2.out (.inr ⟨by rw [HC.out, HCB.out], hlt⟩))
              have hlt2 : (k : Int) + 1 < (best : Int) := by omega
              go_wp2_with fail
              refine (bit_nat (k + 1) s true (by omega) (by omega) H1.out _).mono ?_
              rintro e w2 ⟨rfl, rfl⟩
              go_wp2_with fail
              refine (bit_nat (k + 1) t false (by omega) (by omega) H2.out _).mono ?_
              rintro e w2 ⟨rfl, rfl⟩
              go_wp2_with fail
              refine (cutSize_v m A len cap es (k + 1) xk (by omega) _ (by exact HB.out.arcs) HG.out HC.out).mono ?_
              rintro e w3 ⟨rfl, hB⟩
              have HB1 := Lib.hid (HB.out.next hB)
              have HB1a := HB1.out.k0
              have HB1b := HB1.out.k1
              clear hB j0 j1
              go_wp2_with fail
              refine (cutSize_v m A len cap es (k + 1) xk (by omega) _ (by exact HB1.out.arcs) HG.out HC.out).mono ?_
              rintro e w4 ⟨rfl, hB⟩
              have HB2 := Lib.hid (HB1.out.next hB)
              have HB2a := HB2.out.k0
              have HB2b := HB2.out.k1
              clear hB HB1a HB1b
              go_wp2_with fail
              refine (cutSize_v m A len cap es (k + 1) xk (by omega) _ (by exact HB2.out.arcs) HG.out HC.out).mono ?_
              rintro e w5 ⟨rfl, hB⟩
              have HB3 := Lib.hid (HB2.out.next hB)
              have HB3a := HB3.out.k0
              have HB3b := HB3.out.k1
              clear hB HB2a HB2b
              go_wp2
              go_roundw
              case rel => exact ⟨k + 1, k, xk, rfl, rfl, (by first | rfl | go_num), by omega, by omega, HC, HB3, HYM⟩
              case measure => (simp [intOf] <;> omega)
            · have HYM : Hid (MinTo (netP (m : Int) es) s t best k) := Lib.hid (HM.out.skip (.inr (.inr (.inr ⟨by rw [HC.out, HCB.out], by omega⟩))))
              have hlt2 : (decide (k + 1 < best)) = false := by simp; omega
              have hlt3 : (decide ((k : Int) + 1 < (best : Int))) = false := by simp; omega
              clear hlt
              go_wp2_with fail
              refine (bit_nat (k + 1) s true (by omega) (by omega) H1.out _).mono ?_
              rintro e w2 ⟨rfl, rfl⟩
              go_wp2_with fail
              refine (bit_nat (k + 1) t false (by omega) (by omega) H2.out _).mono ?_
              rintro e w2 ⟨rfl, rfl⟩
              go_wp2_with fail
              refine (cutSize_v m A len cap es (k + 1) xk (by omega) _ (by exact HB.out.arcs) HG.out HC.out).mono ?_
              rintro e w3 ⟨rfl, hB⟩
              have HB1 := Lib.hid (HB.out.next hB)
              have HB1a := HB1.out.k0
              have HB1b := HB1.out.k1
              clear hB j0 j1
              go_wp2_with fail
              refine (cutSize_v m A len cap es (k + 1) xk (by omega) _ (by exact HB1.out.arcs) HG.out HC.out).mono ?_
              rintro e w4 ⟨rfl, hB⟩
              have HB2 := Lib.hid (HB1.out.next hB)
              have HB2a := HB2.out.k0
              have HB2b := HB2.out.k1
              clear hB HB1a HB1b
              go_wp2
              go_roundw
              case rel => exact ⟨best, k, _, rfl, rfl, (by first | rfl | go_num), by omega, hb, HCB, HB2, HYM⟩
              case measure => (simp [intOf] <;> omega)
          · have HYM : Hid (MinTo (netP (m : Int) es) s t best k) := Lib.hid (HM.out.skip (.inr (.inr (.inl (by rw [HC.out, HCB.out]; exact hc)))))
            have hc2 : (decide (xk < x)) = false := by simp; omega
            have hc3 : (xk == x) = false := by simp; omega
            clear hc
            go_wp2_with fail
            refine (bit_nat (k + 1) s true (by omega) (by omega) H1.out _).mono ?_
            rintro e w2 ⟨rfl, rfl⟩
            go_wp2_with fail
            refine (bit_nat (k + 1) t false (by omega) (by omega) H2.out _).mono ?_
            rintro e w2 ⟨rfl, rfl⟩
            go_wp2_with fail
            refine (cutSize_v m A len cap es (k + 1) xk (by omega) _ (by exact HB.out.arcs) HG.out HC.out).mono ?_
            rintro e w3 ⟨rfl, hB⟩
            have HB1 := Lib.hid (HB.out.next hB)
            have HB1a := HB1.out.k0
            have HB1b := HB1.out.k1
            clear hB j0 j1
            go_wp2_with fail
            refine (cutSize_v m A len cap es (k + 1) xk (by omega) _ (by exact HB1.out.arcs) HG.out HC.out).mono ?_
            rintro e w4 ⟨rfl, hB⟩
            have HB2 := Lib.hid (HB1.out.next hB)
            have HB2a := HB2.out.k0
            have HB2b := HB2.out.k1
            clear hB HB1a HB1b
            go_wp2
            go_roundw
            case rel => exact ⟨best, k, _, rfl, rfl, (by first | rfl | go_num), by omega, hb, HCB, HB2, HYM⟩
            case measure => (simp [intOf] <;> omega)
        · have H2 := Lib.hid ht1
          have HYM : Hid (MinTo (netP (m : Int) es) s t best k) := Lib.hid (HM.out.skip (.inr (.inl ht1)))
          clear hs1 ht1
          go_wp2_with fail
          refine (bit_nat (k + 1) s true (by omega) (by omega) H1.out _).mono ?_
          rintro e w2 ⟨rfl, rfl⟩
          go_wp2_with fail
          refine (bit_nat (k + 1) t true (by omega) (by omega) H2.out _).mono ?_
          rintro e w2 ⟨rfl, rfl⟩
          go_wp2
          go_roundw
          case rel => exact ⟨best, k, _, rfl, rfl, (by first | rfl | go_num), by omega, hb, HCB, HB, HYM⟩
          case measure => (simp [intOf] <;> omega)
end Go.Proofs.Ytmlmnmphmghdlaa
