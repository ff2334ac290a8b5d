/- The program's filled net in memory: a box of three cells; the arcs; what goes on each. No conditions. -/
import Derived.Test.YtkpejmpnbdblbaaBoxN
import Derived.Test.YtkpejmpnbdblbaaReachP
namespace Go.Proofs.Ytkpejmpnbdblbaa
open Go.RowKit

/-- The plain net of arcs. -/
def netP (n : Int) (es : List A4) : NetP := { n := n.toNat, K := es.length, fr := fun k => (es.getD k default).1.toNat, to := fun k => (es.getD k default).2.1.toNat, mo := fun k => (es.getD k default).2.2.1 }
section
variable {n : Int} {es : List A4} {k : Nat} {a : A4}
theorem netP_n (h : BigN n es) : ((netP n es).n : Int) = n := by have := h.n0; simp only [netP]; omega
theorem netP_arc (h : BigN n es) (hk : es[k]? = some a) : a.1 = ((netP n es).fr k : Int) ∧ a.2.1 = ((netP n es).to k : Int) ∧ a.2.2.1 = (netP n es).mo k ∧ (netP n es).fr k < (netP n es).n ∧ (netP n es).to k < (netP n es).n ∧ (netP n es).fr k ≠ (netP n es).to k ∧ 0 ≤ (netP n es).mo k ∧ (netP n es).mo k ≤ 67108864 := by
  obtain ⟨h1, h2, h3, h4, h5, h6, h7⟩ := h.arc a (List.mem_of_getElem? hk)
  have hn := netP_n h
  have e : es.getD k default = a := by rw [List.getD_eq_getElem?_getD, hk]; rfl
  have e1 : (netP n es).fr k = a.1.toNat := by show (es.getD k default).1.toNat = _; rw [e]
  have e2 : (netP n es).to k = a.2.1.toNat := by show (es.getD k default).2.1.toNat = _; rw [e]
  have e3 : (netP n es).mo k = a.2.2.1 := by show (es.getD k default).2.2.1 = _; rw [e]
  rw [e1, e2, e3]
  omega
theorem netP_ok (h : BigN n es) : (netP n es).ok := fun k hk => by
  obtain ⟨_, _, _, h1, h2, h3, h4, _⟩ := netP_arc h (List.getElem?_eq_getElem hk)
  exact ⟨h1, h2, h3, h4⟩
theorem netP_mo (h : BigN n es) (hk : k < es.length) : (netP n es).mo k ≤ 67108864 := (netP_arc h (List.getElem?_eq_getElem hk)).2.2.2.2.2.2.2
theorem netP_arcG (h : GoodN n es) (hk : es[k]? = some a) : a.1 = ((netP n es).fr k : Int) ∧ a.2.1 = ((netP n es).to k : Int) ∧ a.2.2.1 = (netP n es).mo k ∧ (netP n es).fr k < (netP n es).n ∧ (netP n es).to k < (netP n es).n ∧ (netP n es).fr k ≠ (netP n es).to k ∧ 0 ≤ (netP n es).mo k ∧ (netP n es).mo k ≤ 1048576 := by
  obtain ⟨h1, h2, h3, h4, h5, h6, h7⟩ := h.arc a (List.mem_of_getElem? hk)
  have hn := netP_n h.big
  have e : es.getD k default = a := by rw [List.getD_eq_getElem?_getD, hk]; rfl
  have e1 : (netP n es).fr k = a.1.toNat := by show (es.getD k default).1.toNat = _; rw [e]
  have e2 : (netP n es).to k = a.2.1.toNat := by show (es.getD k default).2.1.toNat = _; rw [e]
  have e3 : (netP n es).mo k = a.2.2.1 := by show (es.getD k default).2.2.1 = _; rw [e]
  rw [e1, e2, e3]
  omega
theorem netP_moG (h : GoodN n es) (hk : k < es.length) : (netP n es).mo k ≤ 1048576 := (netP_arcG h (List.getElem?_eq_getElem hk)).2.2.2.2.2.2.2
theorem netP_le (h : BigN n es) : (netP n es).n ≤ 20 := by have := netP_n h; have := h.n1; omega
end

/-- Block b begins with these numbers of 64 bits. -/
def RowI (w : World) (b m : Nat) (f : Nat → Int) : Prop := ∃ cur : Array Value, w.heap[b]? = some (.cells cur 2 (0, 0)) ∧ ∀ j, j < m → cur[j]? = some (.int .i64 (f j))
section
variable {w w' : World} {b m : Nat} {f f' : Nat → Int}
theorem RowI.lt (h : RowI w b m f) : b < w.heap.size := by obtain ⟨cur, h, _⟩ := h; exact (Array.getElem?_eq_some_iff.1 h).1
theorem RowI.cell (h : RowI w b m f) {j : Nat} (hj : j < m) : w.cell? ⟨b, j, none⟩ = some (.int .i64 (f j)) := by
  obtain ⟨cur, h, hc⟩ := h
  simp [World.cell?, h, hc j hj]
theorem RowI.frozen (h : RowI w b m f) (j : Nat) : w.frozen? ⟨b, j, none⟩ = false := by
  obtain ⟨cur, h, hc⟩ := h
  simp [World.frozen?, h]
theorem RowI.of_block (h : RowI w b m f) (hb : w'.heap[b]? = w.heap[b]?) : RowI w' b m f := by
  obtain ⟨cur, h, hc⟩ := h
  exact ⟨cur, hb.trans h, hc⟩
theorem RowI.congr (h : RowI w b m f) (he : ∀ j, j < m → f j = f' j) : RowI w b m f' := by
  obtain ⟨cur, h, hc⟩ := h
  exact ⟨cur, h, fun j hj => by rw [hc j hj, he j hj]⟩
theorem RowI.set_ (h : RowI w b m f) (j : Nat) (x : Int) : RowI (w.setCell ⟨b, j, none⟩ (.int .i64 x)) b m (updI f j x) := by
  obtain ⟨cur, hc, hv⟩ := h
  refine ⟨cur.setIfInBounds j (.int .i64 x), ?_, fun y hy => ?_⟩
  · simp [World.setCell, Array.getElem?_modify, hc]
  · rw [Array.getElem?_setIfInBounds]
    by_cases hyj : j = y
    · subst hyj
      have hlt : j < cur.size := (Array.getElem?_eq_some_iff.1 (hv j hy)).1
      simp [hlt, updI]
    · rw [if_neg hyj, hv y hy, updI_ne _ (fun e => hyj e.symm)]
end
/-- A filled net: block F; its arcs below B; what goes lies in block g. -/
structure FillAt (w : World) (F g B : Nat) (n : Int) (A : Option Addr) (len cap : Nat) (es : List A4) (f : Nat → Int) : Prop where
  c0 : w.cell? ⟨F, 0, none⟩ = some (.int .i64 n)
  c1 : w.cell? ⟨F, 1, none⟩ = some (.slice A len cap)
  c2 : w.cell? ⟨F, 2, none⟩ = some (.slice (some ⟨g, 0, none⟩) len len)
  row : RowI w g len f
  arcs : ArcsAt w B A len es
  lo : B ≤ g
  up : g < F
  lt : F < w.heap.size
section
variable {w w' : World} {F g B : Nat} {n : Int} {A : Option Addr} {len cap : Nat} {es : List A4} {f : Nat → Int}
theorem FillAt.keep (h : FillAt w F g B n A len cap es f) (hb : ∀ b, b ≤ F → w'.heap[b]? = w.heap[b]?) : FillAt w' F g B n A len cap es f := by
  have hc : ∀ b o, b ≤ F → w'.cell? ⟨b, o, none⟩ = w.cell? ⟨b, o, none⟩ := fun b o hB => by simp [World.cell?, hb b hB]
  refine ⟨(hc _ _ (Nat.le_refl _)).trans h.c0, (hc _ _ (Nat.le_refl _)).trans h.c1, (hc _ _ (Nat.le_refl _)).trans h.c2, h.row.of_block (hb g (by have := h.up; omega)), h.arcs.keep fun p hp => ?_, h.lo, h.up, ?_⟩
  · unfold World.cell?; rw [hb p.block (by have := h.lo; have := h.up; omega)]
  · have h1 := hb F (Nat.le_refl _)
    rw [Array.getElem?_eq_getElem h.lt] at h1
    exact (Array.getElem?_eq_some_iff.1 h1).1
theorem FillAt.below {C : Nat} (h : FillAt w F g B n A len cap es f) (hb : Below C w w') (hC : F < C) : FillAt w' F g B n A len cap es f := h.keep fun b hB => hb.block b (by omega)
theorem FillAt.drewN (h : FillAt w F g B n A len cap es f) (k : Nat) : FillAt (w.drewN k) F g B n A len cap es f := h.keep fun _ _ => rfl
end
end Go.Proofs.Ytkpejmpnbdblbaa
