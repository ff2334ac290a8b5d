/- The law's nodeCheck and reach. -/
import Derived.Test.YtkpejmpnbdblbaaRefSinks
import Derived.Test.YtkpejmpnbdblbaaFarTop
namespace Go.Proofs.Ytkpejmpnbdblbaa
open Go.RowKit

set_option maxRecDepth 100000 in
set_option maxHeartbeats 1000000 in
theorem nodeCheck_v (n s v : Int) (A : Option Addr) (len cap : Nat) (es : List A4) (w : World) (hE : ArcsAt w w.heap.size A len es) (hv : askF n es [s] = v) :
    Calls Try.prog 10 #[.agg #[.int .i64 n, .slice A len cap], .int .i64 s] w fun e w' => e = .returned (.int .i64 v) ∧ Below w.heap.size w w' := by
  have HX := Lib.hid (BoxN.start (n := n) (cap := cap) hE)
  obtain ⟨x, hx⟩ : ∃ x, netF n es = x := ⟨_, rfl⟩
  have HN := Lib.hid hx
  have k0 := HX.out.k0
  have k1 := HX.out.k1
  by_cases h0 : x = 0
  · subst h0
    by_cases h1 : s < 0
    · have HE : Hid (v = 2) := Lib.hid (by rw [← hv]; exact askF_arg hx fun h => by have := h s (by simp); omega)
      have h1b : decide (s < 0) = true := decide_eq_true h1
      clear hE hx hv h1
      go_enter Try.func10, Try.ntmps10
      go_wp2_with fail
      refine (netCheck_v n 0 A len cap es _ (by exact HX.out.arcs) HN.out).mono ?_
      rintro e w1 ⟨rfl, hB⟩
      have HX1 := Lib.hid (HX.out.next hB)
      clear k0 k1 hB
      have k0 := HX1.out.k0
      go_wp2_with fail
      go_ret
      exact ⟨by rw [HE.out]; rfl, HX1.out.below⟩
    · by_cases h2 : n ≤ s
      · have HE : Hid (v = 2) := Lib.hid (by rw [← hv]; exact askF_arg hx fun h => by have := h s (by simp); omega)
        have h1b : decide (s < 0) = false := decide_eq_false h1
        have h2b : decide (n ≤ s) = true := decide_eq_true h2
        clear hE hx hv h1
        go_enter Try.func10, Try.ntmps10
        go_wp2_with fail
        refine (netCheck_v n 0 A len cap es _ (by exact HX.out.arcs) HN.out).mono ?_
        rintro e w1 ⟨rfl, hB⟩
        have HX1 := Lib.hid (HX.out.next hB)
        clear k0 k1 hB
        have k0 := HX1.out.k0
        go_wp2_with fail
        go_ret
        exact ⟨by rw [HE.out]; rfl, HX1.out.below⟩
      · have HE : Hid (v = 0) := Lib.hid (by rw [← hv]; exact askF_ok hx fun x hx => by simp at hx; omega)
        have h1b : decide (s < 0) = false := decide_eq_false h1
        have h2b : decide (n ≤ s) = false := decide_eq_false h2
        clear hE hx hv h1 h2
        go_enter Try.func10, Try.ntmps10
        go_wp2_with fail
        refine (netCheck_v n 0 A len cap es _ (by exact HX.out.arcs) HN.out).mono ?_
        rintro e w1 ⟨rfl, hB⟩
        have HX1 := Lib.hid (HX.out.next hB)
        clear k0 k1 hB
        have k0 := HX1.out.k0
        go_wp2_with fail
        go_ret
        exact ⟨by rw [HE.out]; rfl, HX1.out.below⟩
  · have HE : Hid (v = x) := Lib.hid (by rw [← hv, askF_bad (by rw [hx]; exact h0), hx])
    have hx0 : (x == 0) = false := by simpa using h0
    clear hE hx hv h0
    go_enter Try.func10, Try.ntmps10
    go_wp2_with fail
    refine (netCheck_v n x A len cap es _ (by exact HX.out.arcs) HN.out).mono ?_
    rintro e w1 ⟨rfl, hB⟩
    have HX1 := Lib.hid (HX.out.next hB)
    clear k0 k1 hB
    have k0 := HX1.out.k0
    go_wp2_with fail
    go_ret
    exact ⟨by rw [HE.out]; rfl, HX1.out.below⟩
theorem own_apart {w : World} {b1 b2 n1 n2 : Nat} {t1 t2 : TypeId} {v1 v2 : Value} {xs1 xs2 : List Value} (h1 : w.ownsRow b1 t1 1 v1 n1 xs1) (h2 : w.ownsRow b2 t2 1 v2 n2 xs2) (hne : t1 ≠ t2) : v1.ownBlock = none ∨ v1.ownBlock ≠ v2.ownBlock := by
  rcases h1.2 with ⟨rfl, _⟩ | ⟨g, cap, cur, rfl, _, hg, _⟩
  · exact .inl rfl
  · refine .inr fun he => ?_
    rcases h2.2 with ⟨rfl, _⟩ | ⟨g', cap', cur', rfl, _, hg', _⟩
    · cases he
    · have h3 : some g = some g' := he
      injection h3 with h3
      subst h3
      rw [hg] at hg'
      injection hg' with hg'
      injection hg' with _ h4
      exact hne h4
set_option maxRecDepth 100000 in
theorem infoBx : (Try.prog.info? 4).map (fun i => (i.zero, i.size, i.bytes)) = some (some (.bool false), 1, 1) := by kernel_rfl
def outF (f : Nat → Int) (t : Nat) : Int := if f t = 1152921504606846976 then 0 else f t
def outB (f : Nat → Int) (t : Nat) : Bool := if f t = 1152921504606846976 then false else true
def rowB (f : Nat → Bool) (m : Nat) : List Value := (List.range m).map fun t : Nat => .bool (f t)
theorem rowB_push {f : Nat → Bool} {m : Nat} : rowB f (m + 1) = rowB f m ++ [.bool (f m)] := by
  unfold rowB; rw [List.range_succ, List.map_append]; rfl
theorem rowB_bools (f : Nat → Bool) (m : Nat) : rowB f m = ((List.range m).map f).map Value.bool := by
  unfold rowB; rw [List.map_map]; rfl
set_option maxRecDepth 100000 in
set_option maxHeartbeats 2000000 in
theorem lawReach_any (m s : Nat) (A : Option Addr) (len cap : Nat) (es : List A4) (w : World) (hE : ArcsAt w w.heap.size A len es) (hG : GoodN (m : Int) es) (hF : FeeS es) (hs : s < m) :
    Calls Try.prog 12 #[.agg #[.int .i64 (m : Int), .slice A len cap], .int .i64 (s : Int)] w fun e w' => (∃ A1 c1 A2 c2, e = .returned (.tuple #[.slice A1 m c1, .slice A2 m c2]) ∧
      IntsAt w' w'.heap.size A1 m ((List.range m).map (outF (reachV (netA m es) s m))) ∧ BoolsAt w' w'.heap.size A2 m ((List.range m).map (outB (reachV (netA m es) s m)))) ∧ Below w.heap.size w w' := by
  have hm10 : m ≤ 10 := by have := hG.n1; omega
  have HX := Lib.hid (FrN.start (w := w) (n := (m : Int)) (A := A) (len := len) (cap := cap))
  have HRE := Lib.hid (fun W (hW : FrN w (m : Int) A len cap W) => refReach_any m s m A len cap es W (hW.arcs hE) hG hF hs (by omega))
  have k0 := HX.out.k0
  have k1 := HX.out.k1
  clear hE hG hF hs
  go_enter Try.func12, Try.ntmps12
  go_wp2_with fail
  refine (HRE.out _ (by exact HX.out)).mono ?_
  rintro e w1 ⟨⟨A1, c1, rfl, hi⟩, hB⟩
  have HX1 := Lib.hid (HX.out.later hB)
  have HI := Lib.hid hi
  have hlt := HX1.out.lt
  clear hB hi k0 k1 HRE HX
  obtain ⟨f, hff⟩ : ∃ f, f = reachV (netA m es) s m := ⟨_, rfl⟩
  rw [← hff] at HI
  have HFF := Lib.hid hff
  clear hff
  go_wp2_with fail
  have HS0 : Hid (Below w1.heap.size w1 w1 ∧ w1.ownsRow w1.heap.size 2 1 (.slice none 0 0) 0 (rowE (outF f) 0) ∧ w1.ownsRow w1.heap.size 4 1 (.slice none 0 0) 0 (rowB (outB f) 0)) := Lib.hid ⟨Below.refl _ _, World.ownsRow_nil .., World.ownsRow_nil ..⟩
  have HNT : Hid (2 ≠ 4 ∧ 4 ≠ 2) := Lib.hid (by decide)
  go_loopw [6, 7, 9, 16] (fun x y _ j wr => ∃ (i : Nat) (A2 A3 : Option Addr) (c2 c3 : Nat), i ≤ m ∧ x = .slice A2 i c2 ∧ y = .slice A3 i c3 ∧ j = .int .i64 i ∧ Hid (Below w1.heap.size w1 wr ∧ wr.ownsRow w1.heap.size 2 1 (.slice A2 i c2) i (rowE (outF f) i) ∧ wr.ownsRow w1.heap.size 4 1 (.slice A3 i c3) i (rowB (outB f) i))) (fun _ _ _ j _ => m - (intOf j).toNat)
  case atStart => exact ⟨0, none, none, 0, 0, Nat.zero_le _, rfl, rfl, rfl, HS0⟩
  case round =>
    clear HS0
    obtain ⟨i, A2, A3, c2, c3, hi, rfl, rfl, rfl, HR⟩ := hrel
    by_cases hil : i < m
    · obtain ⟨bi, oi, z, rfl, hbi, hz, hcz⟩ := (HI.out.go_ HR.out.1).at_ hil
      have HZ : Hid (z = f i) := Lib.hid (by
        rw [List.getElem?_map, List.getElem?_range hil] at hz
        simpa using hz.symm)
      have ik0 : (0 : Int) ≤ (i : Int) := by omega
      have ik1 : (i : Int) < (m : Int) := by omega
      have hsz : w1.heap.size ≤ wr.heap.size := HR.out.1.size
      clear hz
      by_cases hfar : z = 1152921504606846976
      · have HOF : Hid (rowE (outF f) (i + 1) = rowE (outF f) i ++ [.int .i64 0] ∧ rowB (outB f) (i + 1) = rowB (outB f) i ++ [.bool false]) := Lib.hid (by
          rw [rowE_push, rowB_push]
          unfold outF outB
          rw [← HZ.out, if_pos hfar, if_pos hfar]; exact ⟨rfl, rfl⟩)
        subst hfar
        have HB1 : Hid (Below wr.heap.size wr (wr.alloc (.cells #[.int .i64 0] 2))) := Lib.hid ((Below.refl _ _).alloc (Nat.le_refl _) _)
        have HO1 := Lib.hid (own_later HR.out.2.1 HB1.out)
        have HH1 : Hid ((wr.alloc (.cells #[.int .i64 0] 2)).heap[wr.heap.size]? = some (.cells #[.int .i64 0] 2 (0, 0))) := Lib.hid (MapKept.heap_alloc wr _).1
        go_wp2_with (first
          | (at_builtin; refine wpList_app_one infoI64x rfl _ _ 25 rfl w1.heap.size Try.underlying25 rfl (by decide) rfl HO1.out rfl HH1.out rfl (by omega) (by simp; omega) ?_; intro A4 c4 w4 hown4 hb4 hs4 hg4; have HO4 := Lib.hid hown4; have HB4 : Hid (Below w1.heap.size w1 w4) := Lib.hid ((HR.out.1.trans (HB1.out.mono HR.out.1.size)).trans hb4); have HO5 := Lib.hid (own_later ((own_later HR.out.2.2 HB1.out).kept hg4 (own_apart (own_later HR.out.2.2 HB1.out) HO1.out HNT.out.2)) ((Below.refl _ w4).alloc (Nat.le_refl _) (.cells #[.bool false] 4))); have HH5 := Lib.hid (MapKept.heap_alloc w4 (.cells #[.bool false] 4)).1; have hs5 : w1.heap.size ≤ (w4.alloc (.cells #[.bool false] 4)).heap.size := (by simp at hs4 ⊢; omega); clear hown4 hb4 hs4 hg4 HO1)
          | (at_builtin; refine wpList_app_one infoBx rfl _ _ 26 rfl w1.heap.size Try.underlying26 rfl (by decide) rfl HO5.out rfl HH5.out rfl (by omega) hs5 ?_; intro A6 c6 w6 hown6 hb6 hs6 hg6; have HO6 := Lib.hid hown6; have HO7 := Lib.hid ((own_later HO4.out ((Below.refl _ w4).alloc (Nat.le_refl _) (.cells #[.bool false] 4))).kept hg6 (own_apart (own_later HO4.out ((Below.refl _ w4).alloc (Nat.le_refl _) (.cells #[.bool false] 4))) HO5.out HNT.out.1)); have HB6 : Hid (Below w1.heap.size w1 w6) := Lib.hid ((HB4.out.alloc HB4.out.size _).trans hb6); clear hown6 hb6 hs6 hg6 hs5))
        go_roundw
        case rel => exact ⟨i + 1, A4, A6, c4, c6, by omega, rfl, rfl, by go_num, Lib.hid ⟨HB6.out, by rw [HOF.out.1]; exact HO7.out, by rw [HOF.out.2]; exact HO6.out⟩⟩
        case measure => simp [intOf]; omega
      · have HOF : Hid (rowE (outF f) (i + 1) = rowE (outF f) i ++ [.int .i64 z] ∧ rowB (outB f) (i + 1) = rowB (outB f) i ++ [.bool true]) := Lib.hid (by
          rw [rowE_push, rowB_push]
          unfold outF outB
          rw [← HZ.out, if_neg hfar, if_neg hfar]; exact ⟨rfl, rfl⟩)
        have hzb : (z == 1152921504606846976) = false := by simpa using hfar
        clear hfar
        have HB1 : Hid (Below wr.heap.size wr (wr.alloc (.cells #[.int .i64 z] 2))) := Lib.hid ((Below.refl _ _).alloc (Nat.le_refl _) _)
        have HO1 := Lib.hid (own_later HR.out.2.1 HB1.out)
        have HH1 : Hid ((wr.alloc (.cells #[.int .i64 z] 2)).heap[wr.heap.size]? = some (.cells #[.int .i64 z] 2 (0, 0))) := Lib.hid (MapKept.heap_alloc wr _).1
        go_wp2_with (first
          | (at_builtin; refine wpList_app_one infoI64x rfl _ _ 25 rfl w1.heap.size Try.underlying25 rfl (by decide) rfl HO1.out rfl HH1.out rfl (by omega) (by simp; omega) ?_; intro A4 c4 w4 hown4 hb4 hs4 hg4; have HO4 := Lib.hid hown4; have HB4 : Hid (Below w1.heap.size w1 w4) := Lib.hid ((HR.out.1.trans (HB1.out.mono HR.out.1.size)).trans hb4); have HO5 := Lib.hid (own_later ((own_later HR.out.2.2 HB1.out).kept hg4 (own_apart (own_later HR.out.2.2 HB1.out) HO1.out HNT.out.2)) ((Below.refl _ w4).alloc (Nat.le_refl _) (.cells #[.bool true] 4))); have HH5 := Lib.hid (MapKept.heap_alloc w4 (.cells #[.bool true] 4)).1; have hs5 : w1.heap.size ≤ (w4.alloc (.cells #[.bool true] 4)).heap.size := (by simp at hs4 ⊢; omega); clear hown4 hb4 hs4 hg4 HO1)
          | (at_builtin; refine wpList_app_one infoBx rfl _ _ 26 rfl w1.heap.size Try.underlying26 rfl (by decide) rfl HO5.out rfl HH5.out rfl (by omega) hs5 ?_; intro A6 c6 w6 hown6 hb6 hs6 hg6; have HO6 := Lib.hid hown6; have HO7 := Lib.hid ((own_later HO4.out ((Below.refl _ w4).alloc (Nat.le_refl _) (.cells #[.bool true] 4))).kept hg6 (own_apart (own_later HO4.out ((Below.refl _ w4).alloc (Nat.le_refl _) (.cells #[.bool true] 4))) HO5.out HNT.out.1)); have HB6 : Hid (Below w1.heap.size w1 w6) := Lib.hid ((HB4.out.alloc HB4.out.size _).trans hb6); clear hown6 hb6 hs6 hg6 hs5))
        go_roundw
        case rel => exact ⟨i + 1, A4, A6, c4, c6, by omega, rfl, rfl, by go_num, Lib.hid ⟨HB6.out, by rw [HOF.out.1]; exact HO7.out, by rw [HOF.out.2]; exact HO6.out⟩⟩
        case measure => simp [intOf]; omega
    · obtain rfl : i = m := by omega
      have HE : Hid (IntsAt wr wr.heap.size A2 i ((List.range i).map (outF f)) ∧ BoolsAt wr wr.heap.size A3 i ((List.range i).map (outB f)) ∧ Below w.heap.size w wr) := Lib.hid ⟨IntsAt.of_own (by rw [← rowE_ints]; exact HR.out.2.1) (Nat.le_refl _), BoolsAt.of_own (by rw [← rowB_bools]; exact HR.out.2.2) (Nat.le_refl _), HX1.out.below.trans (HR.out.1.mono HX1.out.below.size)⟩
      clear HR
      go_wp2_with fail
      go_ret2
      exact ⟨⟨A2, c2, A3, c3, rfl, by rw [← HFF.out]; exact HE.out.1, by rw [← HFF.out]; exact HE.out.2.1⟩, HE.out.2.2⟩
end Go.Proofs.Ytkpejmpnbdblbaa
