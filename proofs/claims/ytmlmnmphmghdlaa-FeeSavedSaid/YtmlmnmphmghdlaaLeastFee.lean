/- fee.Least: what it tells of a net, two nodes and a value. No conditions. -/
import Derived.Test.YtmlmnmphmghdlaaSendCheap
import Derived.Test.YtmlmnmphmghdlaaCosts
import Derived.Test.YtmlmnmphmghdlaaMostOnly
namespace Go.Proofs.Ytmlmnmphmghdlaa
open Go.RowKit

theorem FlowP.same {N : NetP} {s t : Nat} {f f' : Nat → Int} {v : Int} (F : FlowP N s t f v) (h : ∀ k, k < N.K → f k = f' k) : FlowP N s t f' v := by
  have ho : ∀ i, outP N f' i = outP N f i := fun i => sumI_congr _ fun k hk => by rw [h k hk]
  exact ⟨fun k hk => by rw [← h k hk]; exact F.may k hk, fun i hi h1 h2 => by rw [ho]; exact F.bal i hi h1 h2, by rw [ho]; exact F.val⟩
theorem PotP.same {N : NetP} {fee f f' π : Nat → Int} (P : PotP N fee f π) (h : ∀ k, k < N.K → f k = f' k) : PotP N fee f' π := fun k hk => by rw [← h k hk]; exact P k hk
def NoFeeB (es : List A4) : Prop := ∀ a ∈ es, 0 ≤ a.2.2.2
set_option maxRecDepth 100000 in
theorem saves_v (x0 x1 x2 x3 : Int) (b : Bool) (w : World) (hb : b = true ↔ x3 < 0) :
    Calls Try.prog 17 #[.agg #[.int .i64 x0, .int .i64 x1, .int .i64 x2, .int .i64 x3]] w fun e w' => e = .returned (.bool b) ∧ Below w.heap.size w w' := by
  by_cases h : x3 < 0
  · obtain rfl : b = true := hb.2 h
    clear hb
    go_enter Try.func17, Try.ntmps17
    go_wp2
    go_ret
    exact ⟨rfl, (Below.refl _ _).alloc (Nat.le_refl _) _⟩
  · obtain rfl : b = false := by
      cases b with
      | false => rfl
      | true => exact absurd (hb.1 rfl) h
    have hd : decide (x3 < 0) = false := decide_eq_false h
    clear hb h
    go_enter Try.func17, Try.ntmps17
    go_wp2
    go_ret
    exact ⟨rfl, (Below.refl _ _).alloc (Nat.le_refl _) _⟩
set_option maxRecDepth 100000 in
set_option maxHeartbeats 1000000 in
theorem indexSaves_any (n cap : Nat) (A : Option Addr) (es : List A4) (w : World) (hA : ArcsAt w w.heap.size A n es) (hn : n ≤ 1000) :
    Calls Try.prog 28 #[.slice A n cap, .func (.func 17) #[] #[]] w fun e w' => ∃ z, e = .returned (.int .i64 z) ∧ (0 ≤ z ↔ ¬ NoFeeB es) ∧ Below w.heap.size w w' := by
  have HA := Lib.hid hA
  clear hA
  go_enter Try.func28, Try.ntmps28
  go_wp2
  go_loopw [8] (fun j wr => ∃ k : Nat, k ≤ n ∧ j = .int .i64 k ∧ Hid (NoFeeB (es.take k)) ∧ Hid (Below w.heap.size w wr)) (fun j _ => n - (intOf j).toNat)
  case atStart => exact ⟨0, Nat.zero_le _, rfl, Lib.hid (fun x hx => by simp at hx), Lib.hid (Below.refl _ _)⟩
  case round =>
    obtain ⟨k, hk, rfl, HP, HB⟩ := hrel
    by_cases hlt : k < n
    · obtain ⟨b, off, ⟨x0, x1, x2, x3⟩, rfl, hbb, hx, hc0, hc1, hc2, hc3⟩ := (HA.out.below HB.out).at_ hlt
      have ik0 : (0 : Int) ≤ (k : Int) := by omega
      have ik1 : (k : Int) < (n : Int) := by omega
      have HX := Lib.hid hx
      simp only at hc0 hc1 hc2 hc3
      clear hx
      by_cases h3 : x3 < 0
      · have HR : Hid (¬ NoFeeB es) := Lib.hid fun h => by
          have := h _ (List.mem_of_getElem? HX.out)
          simp only at this
          omega
        have HS := Lib.hid (fun W => saves_v x0 x1 x2 x3 true W ⟨fun _ => h3, fun _ => rfl⟩)
        clear h3
        go_wp2_with (go_at_call 17; refine (HS.out _).mono ?_; rintro e w1 ⟨rfl, hb1⟩)
        go_ret
        exact ⟨_, rfl, ⟨fun _ => HR.out, fun _ => by omega⟩, HB.out.trans (hb1.mono HB.out.size)⟩
      · have HP2 : Hid (NoFeeB (es.take (k + 1))) := Lib.hid (by
          obtain ⟨h1, h2⟩ := List.getElem?_eq_some_iff.1 HX.out
          intro y hy
          rw [List.take_succ_eq_append_getElem h1, h2, List.mem_append, List.mem_singleton] at hy
          rcases hy with hy | rfl
          · exact HP.out y hy
          · simp only; omega)
        have HS := Lib.hid (fun W => saves_v x0 x1 x2 x3 false W ⟨fun h => (by cases h), fun h => absurd h h3⟩)
        clear h3
        go_wp2_with (go_at_call 17; refine (HS.out _).mono ?_; rintro e w1 ⟨rfl, hb1⟩)
        go_roundw
        case rel => exact ⟨k + 1, by omega, by go_num, HP2, Lib.hid (HB.out.trans (hb1.mono HB.out.size))⟩
        case measure => simp [intOf]; omega
    · have HR : Hid (NoFeeB es) := Lib.hid (by
        have := HP.out
        rwa [List.take_of_length_le (by have := HA.out.1; omega)] at this)
      go_wp2
      go_ret
      exact ⟨-1, rfl, ⟨fun h => by omega, fun h => absurd HR.out h⟩, HB.out⟩
set_option maxRecDepth 100000 in
theorem containsSaves_v (n cap : Nat) (A : Option Addr) (es : List A4) (v : Bool) (w : World) (hA : ArcsAt w w.heap.size A n es) (hn : n ≤ 1000) (hv : v = true ↔ ¬ NoFeeB es) :
    Calls Try.prog 16 #[.slice A n cap, .func (.func 17) #[] #[]] w fun e w' => e = .returned (.bool v) ∧ Below w.heap.size w w' := by
  have HA := Lib.hid hA
  have HV := Lib.hid hv
  clear hA hv
  go_enter Try.func16, Try.ntmps16
  go_wp2_with fail
  refine (indexSaves_any n cap A es _ (by exact HA.out) hn).mono ?_
  rintro e w1 ⟨z, rfl, hz, hb⟩
  have HZ := Lib.hid hz
  have HB := Lib.hid hb
  clear hz hb
  cases v with
  | true =>
    have hz0 : decide (0 ≤ z) = true := decide_eq_true (HZ.out.2 (HV.out.1 rfl))
    go_wp2
    go_ret
    exact ⟨rfl, HB.out⟩
  | false =>
    have hz0 : decide (0 ≤ z) = false := decide_eq_false fun h => by have := HV.out.2 (HZ.out.1 h); cases this
    go_wp2
    go_ret
    exact ⟨rfl, HB.out⟩
/-- What Least tells, where the net and the value may be. -/
def LeastOut (m : Nat) (len : Nat) (es : List A4) (s t : Nat) (value : Int) (w : World) (e : Ending) (w' : World) : Prop :=
  (∃ g f π, e = .returned (.tuple #[.int .i64 (costP (netP (m : Int) es) (feeP es) f), .slice (some ⟨g, 0, none⟩) len len, .int .i64 0]) ∧ FlowP (netP (m : Int) es) s t f value ∧ PotP (netP (m : Int) es) (feeP es) f π ∧ RowI w' g len f ∧ Below w.heap.size w w') ∨
  (e = .returned (.tuple #[.int .i64 0, .slice none 0 0, .int .i64 5]) ∧ (∃ fm vm, FlowP (netP (m : Int) es) s t fm vm ∧ ¬ ComeP (netP (m : Int) es) fm s t ∧ vm < value) ∧ Below w.heap.size w w')
set_option maxRecDepth 100000 in
set_option maxHeartbeats 1000000 in
theorem least_bad (n x : Int) (A : Option Addr) (len cap : Nat) (es : List A4) (s t value : Int) (w : World) (hE : ArcsAt w w.heap.size A len es) (hx : endsF n es s t = x) (h0 : x ≠ 0) :
    Calls Try.prog 7 #[.agg #[.int .i64 n, .slice A len cap], .int .i64 s, .int .i64 t, .int .i64 value] w fun e w' => e = .returned (.tuple #[.int .i64 0, .slice none 0 0, .int .i64 x]) ∧ Below w.heap.size w w' := by
  have HX := Lib.hid (BoxN.start (n := n) (cap := cap) hE)
  have HV := Lib.hid hx
  have HH := Lib.hid h0
  have hx0 : (x != 0) = true := by simpa using h0
  have k0 := HX.out.k0
  have k1 := HX.out.k1
  clear hE hx h0
  go_enter Try.func7, Try.ntmps7
  go_wp2_with fail
  refine (mostF_bad n x A len cap es s t _ (by exact HX.out.arcs) HV.out HH.out).mono ?_
  rintro e w1 ⟨rfl, hB⟩
  have HX1 := Lib.hid (HX.out.next hB)
  clear hB k0 k1
  go_wp2
  go_ret3
  exact ⟨rfl, HX1.out.below⟩
set_option maxRecDepth 100000 in
set_option maxHeartbeats 1000000 in
theorem least_neg (m : Nat) (A : Option Addr) (len cap : Nat) (es : List A4) (s t : Nat) (value : Int) (w : World) (hE : ArcsAt w w.heap.size A len es) (hx : endsF (m : Int) es s t = 0) (hb : value < 0 ∨ ¬ NoFeeB es) :
    Calls Try.prog 7 #[.agg #[.int .i64 m, .slice A len cap], .int .i64 s, .int .i64 t, .int .i64 value] w fun e w' => e = .returned (.tuple #[.int .i64 0, .slice none 0 0, .int .i64 4]) ∧ Below w.heap.size w w' := by
  have HX := Lib.hid (BoxN.start (n := (m : Int)) (cap := cap) hE)
  have HV := Lib.hid hx
  have HBB := Lib.hid hb
  have hl30 : len ≤ 30 := by have := (good_of_netF (endsF_zero hx).1).len; have := hE.1; omega
  have k0 := HX.out.k0
  have k1 := HX.out.k1
  clear hE hx hb
  go_enter Try.func7, Try.ntmps7
  go_wp2_with fail
  refine (mostF_good m A len cap es s t _ (by exact HX.out.arcs) HV.out).mono ?_
  rintro e w1 ⟨g, f, v, rfl, hfl, hn, hr, hgl, hB⟩
  have HX1 := Lib.hid (HX.out.next hB)
  clear hB k0 k1 hfl hn hr hgl
  have k1 := HX1.out.k1
  by_cases hv : value < 0
  · go_wp2_with fail
    go_ret3
    exact ⟨rfl, HX1.out.below⟩
  · have HF : Hid (¬ NoFeeB es) := Lib.hid (by
      rcases HBB.out with h | h
      · exact absurd h hv
      · exact h)
    have hvb : decide (value < 0) = false := decide_eq_false hv
    clear hv
    go_wp2_with (go_at_call 16; refine (containsSaves_v len cap A es true _ (by exact HX1.out.arcs) (by omega) ⟨fun _ => HF.out, fun _ => rfl⟩).mono ?_; rintro e w2 ⟨rfl, hB2⟩)
    go_ret3
    exact ⟨rfl, (HX1.out.next hB2).below⟩
theorem feeP_pos {es : List A4} (h : NoFeeB es) {k : Nat} (hk : k < es.length) : 0 ≤ feeP es k := h _ (getD_mem hk)
theorem pot_start {N : NetP} {fee : Nat → Int} (h : ∀ k, k < N.K → 0 ≤ fee k) : PotP N fee (fun _ => 0) (fun _ => 0) := fun k hk => ⟨fun _ => (by show (0 : Int) ≤ 0 + fee k; have := h k hk; omega), fun h2 => absurd (show (0 : Int) < 0 from h2) (by decide)⟩

/-- While it is sent. -/
def LeastW (m : Nat) (len : Nat) (es : List A4) (s t g : Nat) (value left : Int) (w wr : World) : Prop :=
  ∃ f π, FlowP (netP (m : Int) es) s t f (value - left) ∧ PotP (netP (m : Int) es) (feeP es) f π ∧ RowI wr g len f ∧ Below w.heap.size w wr
set_option maxRecDepth 100000 in
set_option maxHeartbeats 2000000 in
theorem least_go (m : Nat) (A : Option Addr) (len cap : Nat) (es : List A4) (s t : Nat) (value : Int) (w : World) (hE : ArcsAt w w.heap.size A len es) (hx : endsF (m : Int) es s t = 0) (hv0 : 0 ≤ value) (hNF : NoFeeB es) :
    Calls Try.prog 7 #[.agg #[.int .i64 m, .slice A len cap], .int .i64 s, .int .i64 t, .int .i64 value] w (LeastOut m len es s t value w) := by
  obtain ⟨hg, h1, h2, h3, h4, h5⟩ := endsF_zero hx
  have hG := good_of_netF hg
  have hFB := feeP_abs (fee_of_netF hg)
  have hs : s < m := by omega
  have ht : t < m := by omega
  have hst : s ≠ t := by omega
  have hl30 : len ≤ 30 := by have := hG.len; have := hE.1; omega
  have HX := Lib.hid (BoxN.start (n := (m : Int)) (cap := cap) hE)
  have HE := Lib.hid hE
  have HL := Lib.hid hE.1
  have HV := Lib.hid hx
  have HG := Lib.hid hG
  have HFB := Lib.hid hFB
  have HNF := Lib.hid hNF
  have k0 := HX.out.k0
  have k1 := HX.out.k1
  have hwl := HX.out.lt
  have hvb : decide (value < 0) = false := decide_eq_false (by omega)
  have hmk := fun W => run_make_row' (P := Try.prog) 25 2 (.int .i64 0) 8 Try.underlying25 (by kernel_rfl) rfl .i64 .i64 len (by omega) (by omega) W
  clear hE hx hNF hg h1 h2 h3 h4 h5 hG hFB
  go_enter Try.func7, Try.ntmps7
  go_wp2_with fail
  refine (mostF_good m A len cap es s t _ (by exact HX.out.arcs) HV.out).mono ?_
  rintro e w1 ⟨gm, fm, vm, rfl, hfl, hn, hr, hgl, hB⟩
  have HX1 := Lib.hid (HX.out.next hB)
  have HFM := Lib.hid (And.intro hfl hn)
  clear hB k0 k1 hfl hn hr hgl HX
  have k0 := HX1.out.k0
  have k1 := HX1.out.k1
  by_cases hgt : vm < value
  · go_wp2_with (go_at_call 16; refine (containsSaves_v len cap A es false _ (by exact HX1.out.arcs) (by omega) ⟨fun h => (by cases h), fun h => absurd HNF.out h⟩).mono ?_; rintro e w2 ⟨rfl, hB2⟩)
    go_ret3
    exact .inr ⟨rfl, ⟨fm, vm, HFM.out.1, HFM.out.2, hgt⟩, (HX1.out.next hB2).below⟩
  · have hgtb : decide (vm < value) = false := decide_eq_false hgt
    have HGT : Hid (value ≤ vm) := Lib.hid (by omega)
    have HVM : Hid (vm ≤ 67108864) := Lib.hid (by
      have h1 := HFM.out.1.val
      have h2 := outTo_abs HG.out HFM.out.1.may s (Nat.le_refl es.length)
      have h3 : outP (netP (m : Int) es) fm s = sumI (outTerm (netP (m : Int) es) fm s) es.length := outP_eq _ _ _
      omega)
    clear hgt
    go_wp2_with (go_at_call 16; refine (containsSaves_v len cap A es false _ (by exact HX1.out.arcs) (by omega) ⟨fun h => (by cases h), fun h => absurd HNF.out h⟩).mono ?_; rintro e w2 ⟨rfl, hB2⟩; have j0 := (HX1.out.next hB2).k0; have j1 := (HX1.out.next hB2).k1; have HX2 := Lib.hid (HX1.out.next hB2); clear hB2 k0 k1)
    clear hmk j0 j1
    have HW0 : Hid (LeastW m len es s t w2.heap.size value value w2 (w2.alloc (.cells (madeCells #[.int .i64 0] len) 2))) := Lib.hid (by
      refine ⟨fun _ => 0, fun _ => 0, by rw [Int.sub_self]; exact flow_zero (netP_ok HG.out.big), pot_start fun k hk => feeP_pos HNF.out hk, ⟨_, (MapKept.heap_alloc w2 _).1, fun j hj => by simp [madeCells, Nat.mod_one, hj]⟩, (Below.refl _ _).alloc (Nat.le_refl _) _⟩)
    go_loopw [15] (fun x wr => ∃ left : Int, x = .int .i64 left ∧ 0 ≤ left ∧ left ≤ value ∧ Hid (LeastW m len es s t w2.heap.size value left w2 wr)) (fun x _ => (intOf x).toNat)
    case atStart => exact ⟨value, rfl, hv0, Int.le_refl _, HW0⟩
    case round =>
      clear HW0
      obtain ⟨left, rfl, hl0, hl1, HW⟩ := hrel
      obtain ⟨f, π, HF⟩ : ∃ f π, Hid (FlowP (netP (m : Int) es) s t f (value - left) ∧ PotP (netP (m : Int) es) (feeP es) f π ∧ RowI wr w2.heap.size len f ∧ Below w2.heap.size w2 wr) := by
        obtain ⟨f, π, h⟩ := HW.out
        exact ⟨f, π, Lib.hid h⟩
      clear HW
      have HXr := Lib.hid (HX2.out.next HF.out.2.2.2)
      have j0 := HXr.out.k0
      have j1 := HXr.out.k1
      by_cases hpos : left > 0
      · have HC := Lib.hid (sendC_any m A len cap es w2.heap.size w2.heap.size s t f π fm (value - left) vm left wr (HX2.out.arcs.below HF.out.2.2.2) (Nat.le_refl _) HF.out.2.2.1 HG.out HFB.out hs ht hst HF.out.1 HF.out.2.1 hpos (by have := HGT.out; have := HVM.out; omega) HFM.out.1 (by have := HGT.out; omega))
        have hl67 : left ≤ 67108864 := by have := HGT.out; have := HVM.out; omega
        go_wp2_with fail
        refine HC.out.mono ?_
        rintro e w3 ⟨r, f', π', rfl, r1, r2, hfl, hpt, hrw, hbt⟩
        have HN : Hid (LeastW m len es s t w2.heap.size value (left - r) w2 w3) := Lib.hid ⟨f', π', by rw [show value - (left - r) = value - left + r by omega]; exact hfl, hpt, hrw, HF.out.2.2.2.trans (hbt.below HF.out.2.2.2.size (fun b hb => by omega))⟩
        clear HC hfl hpt hrw hbt j0 j1
        go_wp2_with fail
        go_roundw
        case rel => exact ⟨left - r, by go_num, by omega, by omega, HN⟩
        case measure => simp [intOf]; omega
      · have hlz : left = 0 := by omega
        have HFZ : Hid (FlowP (netP (m : Int) es) s t f value) := Lib.hid (by have h := HF.out.1; rw [hlz, Int.sub_zero] at h; exact h)
        have HCC : Hid (costP (netP (m : Int) es) (feeP es) (goesF ((List.range len).map f)) = costP (netP (m : Int) es) (feeP es) f) := Lib.hid (sumI_congr _ fun k hk => by rw [goes_map (by have : k < es.length := hk; have := HL.out; omega)])
        go_wp2_with fail
        refine (costGo_any m A len cap es (some ⟨w2.heap.size, 0, none⟩) len ((List.range len).map f) _ (by exact HXr.out.arcs) (ints_row HF.out.2.2.1) HG.out HFB.out (fun k hk => by
          rw [goes_map hk]
          have h1 := HFZ.out.may k (by show k < es.length; have := HL.out; omega)
          have h2 := netP_moG HG.out (k := k) (by have := HL.out; omega)
          exact ⟨h1.1, by omega⟩)).mono ?_
        rintro e w3 ⟨he, hb3⟩
        rw [HCC.out] at he
        subst he
        have HO : Hid (LeastOut m len es s t value w (.returned (.tuple #[.int .i64 (costP (netP (m : Int) es) (feeP es) f), .slice (some ⟨w2.heap.size, 0, none⟩) len len, .int .i64 0])) w3) := Lib.hid (.inl ⟨w2.heap.size, f, π, rfl, HFZ.out, HF.out.2.1, HF.out.2.2.1.of_block (hb3.block _ HF.out.2.2.1.lt), HXr.out.below.trans (hb3.mono HXr.out.below.size)⟩)
        clear hb3 j0 j1
        generalize costP (netP (m : Int) es) (feeP es) f = cc at HO ⊢
        go_wp2_with fail
        go_ret3
        exact HO.out
end Go.Proofs.Ytmlmnmphmghdlaa
