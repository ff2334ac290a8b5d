/- The program's sendMore: one way more, with all that it has room for; or none. -/
import Derived.Test.YtmlmnmphmghdlaaReachGo
import Derived.RegionTactic
import Derived.BigRegion
namespace Go.Proofs.Ytmlmnmphmghdlaa
open Go.RowKit

def SendOut (N : NetP) (f : Nat → Int) (s t g len : Nat) (v : Int) (w : World) (e : Ending) (w' : World) : Prop :=
  (e = .returned (.bool false) ∧ ¬ ComeP N f s t ∧ Below w.heap.size w w') ∨
  (e = .returned (.bool true) ∧ ∃ f' r, 1 ≤ r ∧ FlowP N s t f' (v + r) ∧ RowI w' g len f' ∧ But (fun b => b = g) w w')

set_option maxRecDepth 100000 in
set_option maxHeartbeats 2000000 in
theorem send_any (F g B m : Nat) (A : Option Addr) (len cap : Nat) (es : List A4) (f : Nat → Int) (s t : Nat) (v : Int) (w : World)
    (hF : FillAt w F g B (m : Int) A len cap es f) (hG : BigN (m : Int) es) (hV : FlowP (netP (m : Int) es) s t f v) (hs : s < m) (ht : t < m) (hst : s ≠ t) :
    Calls Try.prog 34 #[.pointer (some ⟨F, 0, none⟩), .int .i64 s, .int .i64 t] w (SendOut (netP (m : Int) es) f s t g len v w) := by
  have HF := Lib.hid hF
  have HG := Lib.hid hG
  have HV := Lib.hid hV
  have hm10 : m ≤ 20 := by have := hG.n1; omega
  have hl30 : len ≤ 100 := by have := hG.len; have := hF.arcs.1; omega
  clear hF hG hV
  go_enter Try.func34, Try.ntmps34
  go_wp2_with fail
  refine (reach_any F g B m A len cap es f s _ (by exact HF.out) HG.out HV.out.may hs).mono ?_
  rintro e w1 ⟨M, L, T, rfl, hR, hT, hL, hB⟩
  have HR := Lib.hid hR
  have HT := Lib.hid hT
  have HB := Lib.hid hB
  have hM : M < 1048576 := Nat.lt_of_lt_of_le hR.lt (by rw [show 1048576 = 2 ^ 20 from rfl]; exact Nat.pow_le_pow_right (by decide) (by simpa [netP] using hm10))
  clear hR hT hB
  cases hb : M.testBit t
  · have HM := Lib.hid hb
    clear hb
    go_wp2_with fail
    refine (hasNode_any M t false (by omega) (by omega) HM.out _).mono ?_
    rintro e w2 ⟨rfl, rfl⟩
    go_wp2
    go_ret
    exact .inl ⟨rfl, (fun h => Bool.noConfusion (HM.out.symm.trans ((HR.out.iff t).2 h))), HB.out⟩
  · have HM := Lib.hid hb
    clear hb
    obtain ⟨d, hd⟩ := HR.out.last
    obtain ⟨us, hw, hu⟩ := way_ex hd (d t + 1) t (by omega) HM.out
    have HD := Lib.hid hd
    have HW := Lib.hid hw
    have HU := Lib.hid hu
    clear hd hw hu
    have HIN : Hid (∀ u, M.testBit u = true → u < m) := Lib.hid (fun u hu => by
      apply Nat.lt_of_not_le
      intro h
      rw [bit_pow HR.out.lt (by simpa [netP] using h)] at hu; cases hu)
    have HRM : Hid (∀ u, M.testBit u = true → u ≠ s → 1 ≤ (T u).room ∧ (T u).room ≤ 67108864 ∧ (T u).arc < len ∧ ((T u).sign = 1 ∨ (T u).sign = -1)) := Lib.hid (fun u hu hus => by
      obtain ⟨h1, _⟩ := HD.out u hu hus
      obtain ⟨h2, h3, h4⟩ := h1.room HV.out.may
      have h5 := (h1.lt (netP_ok HG.out)).2.2
      have h6 : (T u).arc < es.length := h5
      have h7 := netP_mo HG.out h6
      have h8 := HF.out.arcs.1
      exact ⟨by omega, by omega, by omega, h4⟩)
    obtain ⟨⟨y0, y1, y2, y3, y4⟩, _⟩ := HT.out.cells ht
    have hLw : L < w1.heap.size := HT.out.lt
    obtain ⟨r1, r2, _, _⟩ := HRM.out t HM.out (fun e => hst e.symm)
    go_wp2_with fail
    refine (hasNode_any M t true (by omega) (by omega) HM.out _).mono ?_
    rintro e w2 ⟨rfl, rfl⟩
    go_wp2
    clear y0 y1 y2 y3 y4
    go_loop [9, 10] (fun a b => ∃ (u : Nat) (us1 us2 : List Nat) (r : Int), a = .int .i64 r ∧ b = .int .i64 u ∧ M.testBit u = true ∧ 1 ≤ r ∧ r ≤ 67108864 ∧ Hid (us = us1 ++ us2 ∧ Way T s u us2 ∧ ∀ u ∈ us1, r ≤ (T u).room)) (fun _ b => d (intOf b).toNat)
    case atStart => exact ⟨t, [], us, _, rfl, rfl, HM.out, r1, r2, Lib.hid ⟨rfl, HW.out, fun u hu => by cases hu⟩⟩
    case round =>
      obtain ⟨u, us1, us2, r, rfl, rfl, hMu, hr1, hr2, HI⟩ := hrel
      have HMu := Lib.hid hMu
      clear hMu
      have hum := HIN.out u HMu.out
      by_cases hus : u = s
      · subst hus
        have HRR : Hid (∀ u ∈ us, r ≤ (T u).room) := Lib.hid (by
          obtain ⟨h1, h2, h3⟩ := HI.out
          rw [h2.nil, List.append_nil] at h1
          rw [h1]; exact h3)
        go_wp2
        go_loopw [11] (fun b wr => ∃ v : Nat, b = .int .i64 v ∧ Hid (∃ us1 us2 g', us = us1 ++ us2 ∧ Way T u v us2 ∧ PushI (netP (m : Int) es) f T d r t v us1 g' ∧ RowI wr g len g' ∧ But (fun b => b = g) w2 wr) ∧ M.testBit v = true) (fun b _ => d (intOf b).toNat)
        case atStart => exact ⟨t, rfl, Lib.hid ⟨[], us, f, rfl, HW.out, PushI.start HV.out.may, HF.out.row.of_block (HB.out.block _ (by have := HF.out.up; have := HF.out.lt; omega)), But.refl _ _⟩, HM.out⟩
        case round =>
          obtain ⟨v', rfl, HJ, hMv⟩ := hrel
          have HMv := Lib.hid hMv
          clear hMv
          have hvm := HIN.out v' HMv.out
          by_cases hvs : v' = u
          · subst hvs
            obtain ⟨us1, us2, g', h1, h2, h3, h4, h5⟩ := HJ.out
            have HO : Hid (SendOut (netP (m : Int) es) f v' t g len v w (.returned (.bool true)) wr) := Lib.hid (.inr ⟨rfl, g', r, hr1, h3.flow hst HV.out, h4, But.trans ⟨HB.out.os, HB.out.tape, HB.out.output, HB.out.size, fun b hb _ => HB.out.block b hb⟩ h5⟩)
            clear h1 h2 h3 h4 h5
            go_wp2
            go_ret
            exact HO.out
          · have hne : ((v' : Int) != (u : Int)) = true := by simp; omega
            obtain ⟨us1, us2, g', HX⟩ : ∃ us1 us2 g', Hid (us = us1 ++ us2 ∧ Way T u v' us2 ∧ PushI (netP (m : Int) es) f T d r t v' us1 g' ∧ RowI wr g len g' ∧ But (fun b => b = g) w2 wr) := by
              obtain ⟨us1, us2, g', h⟩ := HJ.out
              exact ⟨us1, us2, g', Lib.hid h⟩
            have hglt : g < F := HF.out.up
            have hFlt : F < w.heap.size := HF.out.lt
            have hblk : ∀ b, b < w2.heap.size → b ≠ g → wr.heap[b]? = w2.heap[b]? := fun b hb hn => HX.out.2.2.2.2.block b hb hn
            have c2 : wr.cell? ⟨F, 2, none⟩ = some (.slice (some ⟨g, 0, none⟩) len len) := by
              have h1 := HF.out.c2
              unfold World.cell? at h1 ⊢
              rw [hblk F (by omega) (by omega), HB.out.block F hFlt]; exact h1
            obtain ⟨⟨z0, z1, z2, z3, z4⟩, _⟩ := (HT.out.of_block (hblk L hLw (by omega))).cells hvm
            obtain ⟨k1, k2, k3, k4⟩ := HRM.out v' HMv.out hvs
            obtain ⟨d1, d2, d3, d4⟩ := HD.out v' HMv.out hvs
            have hrv : r ≤ (T v').room := HRR.out v' (by
              obtain ⟨h1, h2, _⟩ := HX.out
              obtain ⟨us', rfl, _⟩ := h2.cons hvs
              rw [h1]; simp)
            have hP2 := HX.out.2.2.1.next (netP_ok HG.out) d1 d2 d4 (by omega) hrv
            have hka : (T v').arc < (netP (m : Int) es).K := (d1.lt (netP_ok HG.out)).2.2
            have hmo : (netP (m : Int) es).mo (T v').arc ≤ 67108864 := netP_mo HG.out hka
            have hb1 := hP2.may _ hka
            rw [updI_same] at hb1
            have hb0 := HX.out.2.2.1.may _ hka
            have q0 := HX.out.2.2.2.1.cell k3
            have q1 := HX.out.2.2.2.1.frozen (T v').arc
            have HP2 := Lib.hid hP2
            have HROW := Lib.hid (HX.out.2.2.2.1.set_ (T v').arc (g' (T v').arc + (T v').sign * r))
            have HBUT : Hid (∀ x, But (fun b => b = g) w2 (wr.setCell ⟨g, (T v').arc, none⟩ x)) := Lib.hid fun x => HX.out.2.2.2.2.set_ (p := ⟨g, (T v').arc, none⟩) rfl x
            have HWAY : Hid (us = (us1 ++ [v']) ++ us2.tail ∧ Way T u (T v').fr us2.tail) := Lib.hid (by
              obtain ⟨h1, h2, _⟩ := HX.out
              obtain ⟨us', rfl, h4⟩ := h2.cons hvs
              exact ⟨by rw [h1]; simp, h4⟩)
            have HD4 := Lib.hid d4
            have HD3 := Lib.hid d3
            obtain ⟨b1, b2⟩ := hb1
            obtain ⟨b3, b4⟩ := hb0
            clear hP2 hblk d1 d2 d3 d4 HX HJ k1 k2 hrv
            generalize g' (T v').arc = gv at *
            generalize (T v').arc = av at *
            generalize (T v').room = rv at *
            generalize (netP (m : Int) es).mo av = mv at *
            have ia0 : (0 : Int) ≤ (av : Int) := by omega
            have ia1 : (av : Int) < (len : Int) := by omega
            have iv0 : (0 : Int) ≤ (v' : Int) := by omega
            have iv1 : (v' : Int) < (m : Int) := by omega
            rcases k4 with k4 | k4
            · rw [k4] at z4 HP2 HROW b1 b2
              rw [Int.one_mul] at HP2 HROW b1 b2
              go_wp2_with fail
              go_region
              all_goals
                go_wp2
                refine ⟨⟨(T v').fr, rfl, Lib.hid ⟨us1 ++ [v'], us2.tail, _, HWAY.out.1, HWAY.out.2, HP2.out, HROW.out.of_block rfl, (HBUT.out _).drew⟩, HD3.out⟩, ?_⟩
                simpa [intOf] using HD4.out
            · rw [k4] at z4 HP2 HROW b1 b2
              rw [show (-1 : Int) * r = -r by omega] at HP2 HROW b1 b2
              go_wp2_with fail
              go_region
              all_goals
                go_wp2
                refine ⟨⟨(T v').fr, rfl, Lib.hid ⟨us1 ++ [v'], us2.tail, _, HWAY.out.1, HWAY.out.2, HP2.out, HROW.out.of_block rfl, (HBUT.out _).drew⟩, HD3.out⟩, ?_⟩
                simpa [intOf] using HD4.out
      · have hne : ((u : Int) != (s : Int)) = true := by simp; omega
        obtain ⟨⟨y0, y1, y2, y3, y4⟩, _⟩ := HT.out.cells hum
        obtain ⟨k1, k2, _, _⟩ := HRM.out u HMu.out hus
        go_wp2
        refine ⟨⟨(T u).fr, us1 ++ [u], us2.tail, min r (T u).room, by rw [Int.min_def]; split <;> split <;> (try rfl) <;> congr 1 <;> omega, rfl, (HD.out u HMu.out hus).2.2.1, by omega, by omega, Lib.hid ?_⟩, ?_⟩
        · obtain ⟨h1, h2, h3⟩ := HI.out
          obtain ⟨us', rfl, h4⟩ := h2.cons hus
          refine ⟨by rw [h1]; simp, h4, fun x hx => ?_⟩
          rcases List.mem_append.1 hx with hx | hx
          · have := h3 x hx; omega
          · rw [List.mem_singleton.1 hx]; omega
        · have := (HD.out u HMu.out hus).2.2.2
          simpa [intOf] using this
end Go.Proofs.Ytmlmnmphmghdlaa
