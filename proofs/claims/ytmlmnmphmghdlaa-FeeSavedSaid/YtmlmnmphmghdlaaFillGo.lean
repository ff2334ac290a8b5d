/- The program's fill: a flow of the greatest value. -/
import Derived.Test.YtmlmnmphmghdlaaSendGo
import Derived.Deep.LoopGhost
import Derived.Deep.OwnRows
namespace Go.Proofs.Ytmlmnmphmghdlaa
open Go.RowKit

def oneW (s i : Nat) : Bool := decide (i = s)
def FillOut (m : Nat) (A : Option Addr) (len cap : Nat) (es : List A4) (s t : Nat) (w : World) (e : Ending) (w' : World) : Prop :=
  ∃ F g f v, e = .returned (.pointer (some ⟨F, 0, none⟩)) ∧ FillAt w' F g w.heap.size (m : Int) A len cap es f ∧ FlowP (netP (m : Int) es) s t f v ∧ ¬ ComeP (netP (m : Int) es) f s t ∧ w.heap.size ≤ g ∧ Below w.heap.size w w'
theorem flow_zero {N : NetP} {s t : Nat} (hN : N.ok) : FlowP N s t (fun _ => 0) 0 := by
  have h0 : ∀ i, outP N (fun _ => 0) i = 0 := fun i => sumI_zero _ fun k _ => by split <;> split <;> rfl
  exact ⟨fun k hk => ⟨Int.le_refl _, (hN k hk).2.2.2⟩, fun i _ _ _ => h0 i, h0 s⟩

def FillRel (N : NetP) (m : Nat) (A : Option Addr) (len cap : Nat) (es : List A4) (s t : Nat) (w : World) (v : Int) (wr : World) : Prop :=
  ∃ f, FillAt wr (w.heap.size + 1 + 1) (w.heap.size + 1) w.heap.size (m : Int) A len cap es f ∧ FlowP N s t f v ∧ Below w.heap.size w wr
set_option maxRecDepth 100000 in
theorem fill_start (m : Nat) (A : Option Addr) (len cap : Nat) (es : List A4) (w : World) (hE : ArcsAt w w.heap.size A len es) :
    FillAt ((((w.alloc (.cells #[.int .i64 m, .slice A len cap] 24)).alloc (.cells (madeCells #[.int .i64 0] len) 2)).alloc (.cells #[.int .i64 m, .slice A len cap, .slice (some ⟨w.heap.size + 1, 0, none⟩) len len] 58)).drew) (w.heap.size + 1 + 1) (w.heap.size + 1) w.heap.size (m : Int) A len cap es (fun _ => 0) := by
  have hF : (((w.alloc (.cells #[.int .i64 m, .slice A len cap] 24)).alloc (.cells (madeCells #[.int .i64 0] len) 2)).alloc (.cells #[.int .i64 m, .slice A len cap, .slice (some ⟨w.heap.size + 1, 0, none⟩) len len] 58)).heap[w.heap.size + 1 + 1]? = some (.cells #[.int .i64 m, .slice A len cap, .slice (some ⟨w.heap.size + 1, 0, none⟩) len len] 58 (0, 0)) := by
    have := (MapKept.heap_alloc ((w.alloc (.cells #[.int .i64 m, .slice A len cap] 24)).alloc (.cells (madeCells #[.int .i64 0] len) 2)) (.cells #[.int .i64 m, .slice A len cap, .slice (some ⟨w.heap.size + 1, 0, none⟩) len len] 58)).1
    rwa [World.size_alloc, World.size_alloc] at this
  have hg : (((w.alloc (.cells #[.int .i64 m, .slice A len cap] 24)).alloc (.cells (madeCells #[.int .i64 0] len) 2)).alloc (.cells #[.int .i64 m, .slice A len cap, .slice (some ⟨w.heap.size + 1, 0, none⟩) len len] 58)).heap[w.heap.size + 1]? = some (.cells (madeCells #[.int .i64 0] len) 2 (0, 0)) := by
    rw [Below.heap_alloc _ _ _ (by simp)]
    have := (MapKept.heap_alloc (w.alloc (.cells #[.int .i64 m, .slice A len cap] 24)) (.cells (madeCells #[.int .i64 0] len) 2)).1
    rwa [World.size_alloc] at this
  refine ⟨?_, ?_, ?_, ⟨_, hg, fun j hj => ?_⟩, ?_, by omega, by omega, by simp [World.drew]⟩
  · show World.cell? (((w.alloc _).alloc _).alloc _) _ = _
    simp only [World.cell?, hF]; rfl
  · show World.cell? (((w.alloc _).alloc _).alloc _) _ = _
    simp only [World.cell?, hF]; rfl
  · show World.cell? (((w.alloc _).alloc _).alloc _) _ = _
    simp only [World.cell?, hF]; rfl
  · simp [madeCells, hj, Nat.mod_one]
  · exact ((((hE.alloc (Nat.le_refl _) _).alloc (by simp) _).alloc (by simp; omega) _).drew)
theorem FillAt.move {w w' : World} {F g B : Nat} {n : Int} {A : Option Addr} {len cap : Nat} {es : List A4} {f f' : Nat → Int} (h : FillAt w F g B n A len cap es f) (hb : But (fun b => b = g) w w') (hr : RowI w' g len f') : FillAt w' F g B n A len cap es f' := by
  have hup := h.up
  have hlt := h.lt
  have hlo := h.lo
  have hc : ∀ b o, b ≤ F → b ≠ g → w'.cell? ⟨b, o, none⟩ = w.cell? ⟨b, o, none⟩ := fun b o h1 h2 => by simp [World.cell?, hb.block b (by omega) h2]
  refine ⟨(hc _ _ (Nat.le_refl _) (by omega)).trans h.c0, (hc _ _ (Nat.le_refl _) (by omega)).trans h.c1, (hc _ _ (Nat.le_refl _) (by omega)).trans h.c2, hr, h.arcs.keep fun p hp => ?_, hlo, hup, by have := hb.size; omega⟩
  unfold World.cell?; rw [hb.block p.block (by omega) (by omega)]
set_option maxRecDepth 100000 in
set_option maxHeartbeats 2000000 in
theorem fill_any (m : Nat) (A : Option Addr) (len cap : Nat) (es : List A4) (s t : Nat) (w : World)
    (hE : ArcsAt w w.heap.size A len es) (hG : BigN (m : Int) es) (hs : s < m) (ht : t < m) (hst : s ≠ t) :
    Calls Try.prog 26 #[.agg #[.int .i64 m, .slice A len cap], .int .i64 s, .int .i64 t] w (FillOut m A len cap es s t w) := by
  have HE := Lib.hid hE
  have HG := Lib.hid hG
  have hl30 : len ≤ 100 := by have := hG.len; have := hE.1; omega
  have hmk := fun W => run_make_row' (P := Try.prog) 25 2 (.int .i64 0) 8 Try.underlying25 (by kernel_rfl) rfl .i64 .i64 len (by omega) (by omega) W
  clear hE hG
  go_enter Try.func26, Try.ntmps26
  go_wp2
  go_region
  all_goals
    go_wp2
    clear hmk
    obtain ⟨W0, hW0⟩ : ∃ W0, ((((w.alloc (.cells #[.int .i64 m, .slice A len cap] 24)).alloc (.cells (madeCells #[.int .i64 0] len) 2)).alloc (.cells #[.int .i64 m, .slice A len cap, .slice (some ⟨w.heap.size + 1, 0, none⟩) len len] 58)).drew) = W0 := ⟨_, rfl⟩
    rw [hW0]
    have hFA : FillAt W0 (w.heap.size + 1 + 1) (w.heap.size + 1) w.heap.size (m : Int) A len cap es (fun _ => 0) := by
      rw [← hW0]; exact fill_start m A len cap es w HE.out
    have hB0 : Below w.heap.size w W0 := by
      rw [← hW0]
      exact ((((Below.refl _ _).alloc (Nat.le_refl _) _).alloc (by simp) _).alloc (by simp; omega) _).drew
    have HS : Hid (FillRel (netP (m : Int) es) m A len cap es s t w 0 W0) := Lib.hid ⟨_, hFA, flow_zero (netP_ok HG.out), hB0⟩
    have hsN : s < (netP (m : Int) es).n := by simpa [netP] using hs
    have h1W : oneW s s = true := by simp [oneW]
    have h2W : oneW s t = false := by simp [oneW]; omega
    clear hW0 hFA hB0
    go_loopg [18] (cutP (netP (m : Int) es) (oneW s)).toNat (fun c x wr => Hid (∃ v, 0 ≤ v ∧ (cutP (netP (m : Int) es) (oneW s) - v).toNat = c ∧ FillRel (netP (m : Int) es) m A len cap es s t w v wr))
    case atStart => exact Lib.hid ⟨0, Int.le_refl _, by simp, HS.out⟩
    case round =>
      obtain ⟨v, HX⟩ : ∃ v, Hid (0 ≤ v ∧ (cutP (netP (m : Int) es) (oneW s) - v).toNat = gk ∧ FillRel (netP (m : Int) es) m A len cap es s t w v wr) := by
        obtain ⟨v, h⟩ := hrel.out
        exact ⟨v, Lib.hid h⟩
      obtain ⟨f, HF⟩ : ∃ f, Hid (FillAt wr (w.heap.size + 1 + 1) (w.heap.size + 1) w.heap.size (m : Int) A len cap es f ∧ FlowP (netP (m : Int) es) s t f v ∧ Below w.heap.size w wr) := by
        obtain ⟨f, h1, h2, h3⟩ := HX.out.2.2
        exact ⟨f, Lib.hid ⟨h1, h2, h3⟩⟩
      clear hrel
      go_wp2_with fail
      refine (send_any (w.heap.size + 1 + 1) (w.heap.size + 1) w.heap.size m A len cap es f s t v _ HF.out.1 HG.out HF.out.2.1 hs ht hst).mono ?_
      rintro e w1 (⟨rfl, hn, hB⟩ | ⟨rfl, f', r, hr, hfl, hrow, hB⟩)
      · have HO : Hid (FillOut m A len cap es s t w (.returned (.pointer (some ⟨w.heap.size + 1 + 1, 0, none⟩))) w1) := Lib.hid ⟨_, _, f, v, rfl, HF.out.1.below hB HF.out.1.lt, HF.out.2.1, hn, by omega, HF.out.2.2.trans (hB.mono HF.out.2.2.size)⟩
        clear hn hB
        go_wp2
        go_ret
        exact HO.out
      · have hle := flow_le (W := oneW s) (netP_ok HG.out) hsN hfl h1W h2W
        obtain ⟨hv0, hk, _⟩ := HX.out
        have HN : Hid (FillRel (netP (m : Int) es) m A len cap es s t w (v + r) w1) := Lib.hid ⟨f', HF.out.1.move hB hrow, hfl, HF.out.2.2.trans (hB.below HF.out.2.2.size (fun b hb => by omega))⟩
        have HK : Hid ((cutP (netP (m : Int) es) (oneW s) - (v + r)).toNat < gk) := Lib.hid (by omega)
        have HV : Hid (0 ≤ v + r) := Lib.hid (by omega)
        clear hfl hrow hB hle hk hv0
        go_wp2
        go_roundg (cutP (netP (m : Int) es) (oneW s) - (v + r)).toNat
        case measure => exact HK.out
        case rel => exact Lib.hid ⟨v + r, HV.out, rfl, HN.out⟩
end Go.Proofs.Ytmlmnmphmghdlaa
