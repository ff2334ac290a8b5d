/- The law's fewer: a graph without an edge. -/
import Derived.Test.YtpcealcghglopaaLessW
namespace Go.Proofs.Ytpcealcghglopaa
open Go.RowKit

/-- As LessOut, and there is room for them. -/
def LessOutC (m B : Nat) (es : List E3) (e : Ending) (w' : World) : Prop := ∃ A cap, es.length ≤ cap ∧ e = .returned (.agg #[.int .i64 m, .slice A es.length cap]) ∧ EdgesAt w' w'.heap.size A es.length es ∧ ∀ a, A = some a → B ≤ a.block ∧ ∃ cur, w'.heap[a.block]? = some (.cells cur 61 (0, 0))
theorem LessOutC.out {m B : Nat} {es : List E3} {e : Ending} {w' : World} (h : LessOutC m B es e w') : LessOut m B es e w' := by
  obtain ⟨A, cap, _, h⟩ := h
  exact ⟨A, cap, h⟩
theorem own_cap3 {w : World} {base : Nat} {t : TypeId} {A : Option Addr} {n cap : Nat} {xs : List Value} (h : w.ownsRow base t 3 (.slice A n cap) n xs) : n ≤ cap := by
  rcases h.2 with ⟨h1, h2⟩ | ⟨g, cap', cur, h1, _, _, h5, _⟩
  · rw [h2]; exact Nat.zero_le _
  · injection h1 with _ _ h6
    omega
set_option maxRecDepth 100000 in
set_option maxHeartbeats 1000000 in
theorem fewer_c (m k : Nat) (A : Option Addr) (len cap : Nat) (es : List E3) (w : World) (hE : EdgesAt w w.heap.size A len es) (hlen : len ≤ 45) :
    Calls Try.prog 32 #[.agg #[.int .i64 m, .slice A len cap], .int .i64 k] w fun e w' => LessOutC m w.heap.size (es.eraseIdx k) e w' ∧ Below w.heap.size w w' := by
  have HE := Lib.hid (show EdgesAt w w.heap.size A len es from hE)
  clear hE
  obtain ⟨i0, hi, hz0, hz1, hz2⟩ := info_parts infoEdge
  have HI := Lib.hid hi
  have HI0 := Lib.hid hz0
  have HI1 := Lib.hid hz1
  have HI2 := Lib.hid hz2
  clear hi hz0 hz1 hz2
  go_enter Try.func32, Try.ntmps32
  go_wp2
  have HS : Hid (LessInv m k es w (lessW w m A len cap) 0 (lessW w m A len cap)) := Lib.hid (by
    refine ⟨.slice none 0 0, ?_, by simp [cellsE, World.ownsRow_nil], Below.refl _ _⟩
    have h := (MapKept.heap_alloc ((w.alloc (.cells #[.int .i64 m, .slice A len cap] 24)).alloc (.cells #[.int .i64 0, .slice none 0 0] 24)) (.cells #[.int .i64 m, .slice none 0 0] 24)).1
    rw [show ((w.alloc (.cells #[.int .i64 (m : Int), .slice A len cap] 24)).alloc (.cells #[.int .i64 0, .slice none 0 0] 24)).heap.size = w.heap.size + 1 + 1 by simp] at h
    exact h)
  go_loopw [14] (fun j wr => ∃ a : Nat, a ≤ len ∧ j = .int .i64 a ∧ Hid (LessInv m k es w (lessW w m A len cap) a wr)) (fun j _ => len - (intOf j).toNat)
  case atStart => exact ⟨0, Nat.zero_le _, rfl, HS⟩
  case round =>
    clear HS
    obtain ⟨a, ha, rfl, HL⟩ := hrel
    obtain ⟨v, HRo, HOw, hB⟩ : ∃ v, Hid (RowOf wr (w.heap.size + 1 + 1) 24 [.int .i64 m, v]) ∧ Hid (wr.ownsRow (w.heap.size + 3) 61 3 v ((es.take a).eraseIdx k).length (cellsE ((es.take a).eraseIdx k))) ∧ Below (w.heap.size + 2) (lessW w m A len cap) wr := by
      obtain ⟨v, h1, h2, h3⟩ := HL.out
      exact ⟨v, Lib.hid h1, Lib.hid h2, h3⟩
    clear HL
    have hsz : w.heap.size + 3 ≤ wr.heap.size := by have := hB.size; rw [lessW_size] at this; exact this
    have hnl := erase_take_le es k a
    by_cases hlt : a < len
    · have HE2 := Lib.hid (((HE.out.below (lessW_below w m A len cap)).below (hB.mono (by omega))))
      obtain ⟨b, off, ⟨a0, a1, a2⟩, rfl, hb, hx, hc0, hc1, hc2⟩ := HE2.out.at_ hlt
      simp only at hc0 hc1 hc2
      by_cases hak : a = k
      · have hneq : ((a : Int) != (k : Int)) = false := by simp [hak]
        have HN : Hid (LessInv m k es w (lessW w m (some ⟨b, off, none⟩) len cap) (a + 1) (wr.alloc (.cells #[.int .i64 a0, .int .i64 a1, .int .i64 a2] 61))) := Lib.hid (by
          refine ⟨v, HRo.out.alloc _, ?_, hB.alloc (by omega) _⟩
          have e : (es.take (a + 1)).eraseIdx k = (es.take a).eraseIdx k := by rw [hak]; exact erase_take_at es k
          rw [e]
          exact HOw.out.alloc _)
        clear hak hx
        go_wp2
        go_roundw
        case rel => exact ⟨a + 1, by omega, by go_num, HN⟩
        case measure => simp [intOf]; omega
      · have hneq : ((a : Int) != (k : Int)) = true := by simp; omega
        have HX := Lib.hid (erase_take_ne es k a (a0, a1, a2) hak hx)
        have hlt2 : w.heap.size + 1 + 1 < wr.heap.size := by omega
        have hv1 : wr.cell? ⟨w.heap.size + 1 + 1, 1, none⟩ = some v := HRo.out.cell rfl
        clear hak hx
        go_wp2_with (at_builtin; refine wpList_append_own _ rfl _ _ 22 rfl (w.heap.size + 3) 61 i0 (.agg #[.int .i64 0, .int .i64 0, .int .i64 0]) 3 24 Try.underlying22 HI.out HI0.out HI1.out HI2.out rfl (by decide) _ _ _ rfl ((HOw.out.alloc _).alloc _) ⟨wr.heap.size + 1, 0, none⟩ 1 1 [.int .i64 a0, .int .i64 a1, .int .i64 a2] rfl rfl ?c1 ?c2 ?c3 ?c4 ?c5 ?_)
        try (case c1 => intro j u hj; rcases j with _ | _ | _ | j <;> simp at hj <;> subst hj <;> simp [go_sem, Addr.add])
        case c2 => simp [Value.oneCell']
        case c3 => unfold maxLen; omega
        case c4 => omega
        case c5 => simp; omega
        intro v' w3 hown' hgrow _
        obtain ⟨A', cap', rfl⟩ := own_form3 hown'
        have hne : ∀ g, g < w.heap.size + 3 → some g ≠ v.ownBlock := fun g hg he => by have := own_base3 HOw.out g he.symm; omega
        have hR3 : RowOf w3 (w.heap.size + 1 + 1) 24 [.int .i64 m, v] := (hgrow.block _ (by simp; omega) (hne _ (by omega))).trans ((HRo.out.alloc _).alloc _)
        have hv3 : w3.cell? ⟨w.heap.size + 1 + 1, 1, none⟩ = some v := hR3.cell rfl
        have hf3 := hR3.frozen 1
        have hb3 : Below (w.heap.size + 2) (lessW w m (some ⟨b, off, none⟩) len cap) w3 := ((hB.alloc (by omega) _).alloc (by simp; omega) _).grown hgrow (by simp; omega) (fun g hg => by have := own_base3 HOw.out g hg; omega)
        have HN : Hid (LessInv m k es w (lessW w m (some ⟨b, off, none⟩) len cap) (a + 1) (w3.setCell ⟨w.heap.size + 1 + 1, 1, none⟩ (.slice A' (((es.take a).eraseIdx k).length + 1) cap'))) := Lib.hid (by
          refine ⟨_, hR3.set_ 1 _, ?_, hb3.setCell (p := ⟨w.heap.size + 1 + 1, 1, none⟩) (Nat.le_refl _) _⟩
          rw [HX.out, List.length_append, cellsE_snoc]
          refine ⟨hown'.1, ?_⟩
          rcases hown'.2 with h0 | ⟨g, capg, cur, hv, hg, hr, hrest⟩
          · exact .inl h0
          · exact .inr ⟨g, capg, cur, hv, hg, (Below.heap_setCell _ _ _ g (by show g ≠ w.heap.size + 1 + 1; omega)).trans hr, hrest⟩)
        clear hown' hgrow hne hR3 hb3
        go_wp2
        go_roundw
        case rel => exact ⟨a + 1, by omega, by go_num, HN⟩
        case measure => simp [intOf]; omega
    · obtain rfl : a = len := by omega
      obtain ⟨A', cap', HV, HEA⟩ : ∃ A' cap', Hid (v = .slice A' (es.eraseIdx k).length cap') ∧ Hid (wr.ownsRow (w.heap.size + 3) 61 3 (.slice A' (es.eraseIdx k).length cap') (es.eraseIdx k).length (cellsE (es.eraseIdx k))) := by
        have h := HOw.out
        rw [List.take_of_length_le (by have := HE.out.1; omega)] at h
        obtain ⟨A', cap', rfl⟩ := own_form3 h
        exact ⟨A', cap', Lib.hid rfl, Lib.hid h⟩
      obtain rfl := HV.out
      have h0 : wr.cell? ⟨w.heap.size + 1 + 1, 0, none⟩ = some (.int .i64 m) := HRo.out.cell rfl
      have h1 : wr.cell? ⟨w.heap.size + 1 + 1, 1, none⟩ = some (.slice A' (es.eraseIdx k).length cap') := HRo.out.cell rfl
      have r0 : wr.cell? ⟨w.heap.size + 1, 0, none⟩ = some (.int .i64 0) := by rw [hB.cell (p := ⟨w.heap.size + 1, 0, none⟩) (by show w.heap.size + 1 < w.heap.size + 2; omega)]; simp [lessW, go_sem]
      have r1 : wr.cell? ⟨w.heap.size + 1, 1, none⟩ = some (.slice none 0 0) := by rw [hB.cell (p := ⟨w.heap.size + 1, 1, none⟩) (by show w.heap.size + 1 < w.heap.size + 2; omega)]; simp [lessW, go_sem]
      have f0 : wr.frozen? ⟨w.heap.size + 1, 0, none⟩ = false := by rw [hB.frozen (p := ⟨w.heap.size + 1, 0, none⟩) (by show w.heap.size + 1 < w.heap.size + 2; omega)]; simp [lessW, go_sem]
      have f1 : wr.frozen? ⟨w.heap.size + 1, 1, none⟩ = false := by rw [hB.frozen (p := ⟨w.heap.size + 1, 1, none⟩) (by show w.heap.size + 1 < w.heap.size + 2; omega)]; simp [lessW, go_sem]
      clear HV
      have HB2 : Hid (Below w.heap.size w wr) := Lib.hid ((lessW_below w m A a cap).trans (hB.mono (by omega)))
      generalize hn : (es.eraseIdx k).length = n at *
      have HN := Lib.hid hn
      clear hn HOw
      go_wp2
      have HFIN : Hid (((wr.setCell ⟨w.heap.size + 1, 0, none⟩ (.int .i64 m)).setCell ⟨w.heap.size + 1, 1, none⟩ (.slice A' n cap')).ownsRow (w.heap.size + 3) 61 3 (.slice A' n cap') n (cellsE (es.eraseIdx k))) := Lib.hid (own_keep3 HEA.out fun g hg => (Below.heap_setCell _ _ _ g (by show g ≠ w.heap.size + 1; omega)).trans (Below.heap_setCell _ _ _ g (by show g ≠ w.heap.size + 1; omega)))
      refine bodyPost_ret (v := .agg #[.int .i64 m, .slice A' n cap']) (by simp [results, Try.results32, go_sem, r0, r1]) rfl ⟨⟨A', cap', by rw [HN.out]; exact own_cap3 HFIN.out, by rw [HN.out], ?_, fun a ha => ?_⟩, ?_⟩
      · rw [HN.out]
        exact EdgesAt.of_own3 HFIN.out
      · obtain ⟨p1, p2⟩ := own_addr3 HFIN.out a ha
        exact ⟨by omega, p2⟩
      · exact (HB2.out.setCell (p := ⟨w.heap.size + 1, 0, none⟩) (Nat.le_succ _) _).setCell (p := ⟨w.heap.size + 1, 1, none⟩) (Nat.le_succ _) _
theorem fewer_any (m k : Nat) (A : Option Addr) (len cap : Nat) (es : List E3) (w : World) (hE : EdgesAt w w.heap.size A len es) (hlen : len ≤ 45) :
    Calls Try.prog 32 #[.agg #[.int .i64 m, .slice A len cap], .int .i64 k] w fun e w' => LessOut m w.heap.size (es.eraseIdx k) e w' ∧ Below w.heap.size w w' :=
  (fewer_c m k A len cap es w hE hlen).mono fun _ _ h => ⟨h.1.out, h.2⟩
end Go.Proofs.Ytpcealcghglopaa
