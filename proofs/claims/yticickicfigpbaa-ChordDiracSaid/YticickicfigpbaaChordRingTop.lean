/- chord.Ring: what it tells of any graph. -/
import Derived.Test.YticickicfigpbaaChordCloses
import Derived.Test.YticickicfigpbaaHoleTop
import Derived.Test.YticickicfigpbaaNeigh
import Derived.Test.YticickicfigpbaaLooseP
import Derived.Laws.EntriesVeiled
namespace Go.Proofs.Yticickicfigpbaa
open Go.RowKit

/-- The boxes that firstRing lays. -/
theorem ring_env {m L g cW : Nat} {xs : List Nat} {adj : Nat → Nat → Bool} {w W1 W3 W5 : World} (hm : m ≤ 10) (hL : L ≤ 10) (hW : WordsAt w w.heap.size (some ⟨g, 0, none⟩) m xs) (hm0 : 0 < m) (hxl : ∀ i, xs.getD i 0 < 1024) (hbit : ∀ i j, i < m → (xs.getD i 0).testBit j = adj i j)
    (h1 : ((w.alloc (.cells #[.slice (some ⟨g, 0, none⟩) m cW] 46)).alloc (.cells #[.int .i64 (L : Int)] 3)).alloc (.cells #[.slice none 0 0] 25) = W1)
    (hup : RowOf W3 W1.heap.size 3 ((natG (List.range m)).map (Value.int .i64))) (hus : W3.heap.size = W1.heap.size + 1) (hub : Below W1.heap.size W1 W3)
    (h5 : (W3.alloc (.cells #[.slice (some ⟨w.heap.size + 1 + 1 + 1, 0, none⟩) m m] 25)).alloc (.cells #[.func (.func 40) #[] #[.pointer (some ⟨w.heap.size, 0, none⟩), .pointer (some ⟨w.heap.size + 1 + 1, 0, none⟩), .pointer (some ⟨w.heap.size + 1, 0, none⟩), .pointer (some ⟨w.heap.size + 1 + 1 + 1 + 1, 0, none⟩), .pointer (some ⟨w.heap.size + 1 + 1 + 1 + 1 + 1, 0, none⟩)]] 50) = W5) :
    RingE W5 adj m L w.heap.size (w.heap.size + 1 + 1) (w.heap.size + 1) (w.heap.size + 1 + 1 + 1 + 1) (w.heap.size + 1 + 1 + 1 + 1 + 1) g (w.heap.size + 1 + 1 + 1) cW xs ∧ RingS W5 (w.heap.size + 1 + 1) [] W5 ∧ Below w.heap.size w W5 := by
  have hs1 : W1.heap.size = w.heap.size + 1 + 1 + 1 := by rw [← h1]; simp
  have hs3 : W3.heap.size = w.heap.size + 1 + 1 + 1 + 1 := by rw [hus, hs1]
  have hs5 : W5.heap.size = w.heap.size + 1 + 1 + 1 + 1 + 1 + 1 := by rw [← h5]; simp [hs3]
  have hb1 : Below w.heap.size w W1 := by rw [← h1]; exact (((Below.refl _ _).alloc (Nat.le_refl _) _).alloc (by simp) _).alloc (by simp; omega) _
  have hb5 : Below W3.heap.size W3 W5 := by rw [← h5]; exact ((Below.refl _ _).alloc (Nat.le_refl _) _).alloc (by simp) _
  have hb15 : Below W1.heap.size W1 W5 := hub.trans (hb5.mono (by omega))
  have hb05 : Below w.heap.size w W5 := hb1.trans (hb15.mono (by omega))
  have rW : RowOf W1 w.heap.size 46 [.slice (some ⟨g, 0, none⟩) m cW] := by rw [← h1]; exact ((box_new w _ _).alloc _).alloc _
  have rL : RowOf W1 (w.heap.size + 1) 3 [.int .i64 (L : Int)] := by rw [← h1]; exact (box_next w _ _ _).alloc _
  have rR : RowOf W1 (w.heap.size + 1 + 1) 25 [.slice none 0 0] := by
    have h := box_next (w.alloc (.cells #[.slice (some ⟨g, 0, none⟩) m cW] 46)) (.cells #[.int .i64 (L : Int)] 3) (.slice none 0 0) 25
    rw [World.size_alloc] at h
    rw [← h1]; exact h
  have rB : RowOf W5 (w.heap.size + 1 + 1 + 1 + 1) 25 [.slice (some ⟨w.heap.size + 1 + 1 + 1, 0, none⟩) m m] := by
    have h := box_new W3 (.slice (some ⟨w.heap.size + 1 + 1 + 1, 0, none⟩) m m) 25
    rw [hs3] at h
    rw [← h5]; exact h.alloc _
  have rF : RowOf W5 (w.heap.size + 1 + 1 + 1 + 1 + 1) 50 [.func (.func 40) #[] #[.pointer (some ⟨w.heap.size, 0, none⟩), .pointer (some ⟨w.heap.size + 1 + 1, 0, none⟩), .pointer (some ⟨w.heap.size + 1, 0, none⟩), .pointer (some ⟨w.heap.size + 1 + 1 + 1 + 1, 0, none⟩), .pointer (some ⟨w.heap.size + 1 + 1 + 1 + 1 + 1, 0, none⟩)]] := by
    have h := box_next W3 (.cells #[.slice (some ⟨w.heap.size + 1 + 1 + 1, 0, none⟩) m m] 25) (.func (.func 40) #[] #[.pointer (some ⟨w.heap.size, 0, none⟩), .pointer (some ⟨w.heap.size + 1 + 1, 0, none⟩), .pointer (some ⟨w.heap.size + 1, 0, none⟩), .pointer (some ⟨w.heap.size + 1 + 1 + 1 + 1, 0, none⟩), .pointer (some ⟨w.heap.size + 1 + 1 + 1 + 1 + 1, 0, none⟩)]) 50
    rw [hs3] at h
    rw [← h5]; exact h
  have rN : RowOf W5 (w.heap.size + 1 + 1 + 1) 3 ((natG (List.range m)).map (Value.int .i64)) := by
    rw [hs1] at hup
    exact hup.keep hb5
  have hgl : g < w.heap.size := by
    obtain ⟨b, off, e, hb, _⟩ := hW.2 hm0
    injection e with e
    injection e with e1 _
    omega
  have rR5 := rR.keep hb15
  refine ⟨⟨(rW.keep hb15).cell (i := 0) rfl, (rL.keep hb15).cell (i := 0) rfl, rB.cell (i := 0) rfl, rF.cell (i := 0) rfl, fun i hi => ?_, fun i hi => rN.cell (by simp [natG, hi]), hW.1, by omega, by omega, ⟨by omega, by omega, by omega, by omega, by omega, by omega⟩, hxl, hbit, hm, hL⟩, ⟨Below.refl _ _, fun _ _ _ => rfl, none, 0, rR5, rfl, .inl ⟨rfl, rfl⟩⟩, hb05⟩
  obtain ⟨b, off, e, _, hc⟩ := (hW.below hb05).at_ hi
  injection e with e
  injection e with e1 e2
  subst e1 e2
  rw [Nat.zero_add] at hc
  exact hc
set_option maxRecDepth 100000 in
set_option maxHeartbeats 4000000 in
theorem firstRing_any (m L g cW : Nat) (xs : List Nat) (adj : Nat → Nat → Bool) (w : World) (hm : m ≤ 10) (h4 : 4 ≤ L) (hL : L ≤ 10) (hW : WordsAt w w.heap.size (some ⟨g, 0, none⟩) m xs) (hm0 : 0 < m) (hxl : ∀ i, xs.getD i 0 < 1024) (hbit : ∀ i j, i < m → (xs.getD i 0).testBit j = adj i j) :
    Calls Try.prog 28 #[.slice (some ⟨g, 0, none⟩) m cW, .int .i64 (L : Int)] w fun e w' =>
      (∀ r, searchF adj m L L [] = some r → ∃ A c, e = .returned (.slice (some A) L c) ∧ IntsAt w' w'.heap.size (some A) L (natG r) ∧ L ≤ c) ∧ (searchF adj m L L [] = none → e = .returned (.slice none 0 0)) ∧ Below w.heap.size w w' := by
  have HUP := Lib.hid (fun W => upTo_any m W hm)
  have HW := Lib.hid hW
  have HB := Lib.hid hbit
  have HX := Lib.hid hxl
  clear hW hbit hxl
  go_enter Try.func28, Try.ntmps28
  go_wp2_with fail
  refine (HUP.out _).mono ?_
  rintro e W3 ⟨rfl, hup, hus, hub⟩
  obtain ⟨W1, h1⟩ : ∃ W1, ((w.alloc (.cells #[.slice (some ⟨g, 0, none⟩) m cW] 46)).alloc (.cells #[.int .i64 (L : Int)] 3)).alloc (.cells #[.slice none 0 0] 25) = W1 := ⟨_, rfl⟩
  have HH1 := Lib.hid h1
  rw [h1] at hup hus hub
  have HUP2 := Lib.hid (And.intro hup (And.intro hus hub))
  rw [show W1.heap.size = w.heap.size + 1 + 1 + 1 by rw [← h1]; simp] at hus
  rw [show (((w.alloc (.cells #[.slice (some ⟨g, 0, none⟩) m cW] 46)).alloc (.cells #[.int .i64 (L : Int)] 3)).alloc (.cells #[.slice none 0 0] 25)).heap.size = w.heap.size + 1 + 1 + 1 by simp]
  clear h1 hup hub
  go_wp2_with fail
  obtain ⟨W5, h5⟩ : ∃ W5, (W3.alloc (.cells #[.slice (some ⟨w.heap.size + 1 + 1 + 1, 0, none⟩) m m] 25)).alloc (.cells #[.func (.func 40) #[] #[.pointer (some ⟨w.heap.size, 0, none⟩), .pointer (some ⟨w.heap.size + 1 + 1, 0, none⟩), .pointer (some ⟨w.heap.size + 1, 0, none⟩), .pointer (some ⟨w.heap.size + 1 + 1 + 1 + 1, 0, none⟩), .pointer (some ⟨w.heap.size + 1 + 1 + 1 + 1 + 1, 0, none⟩)]] 50) = W5 := ⟨_, rfl⟩
  obtain ⟨HE, hS, hB5⟩ := ring_env (L := L) (cW := cW) hm hL HW.out hm0 HX.out HB.out HH1.out HUP2.out.1 HUP2.out.2.1 HUP2.out.2.2 h5
  rw [h5]
  clear h5 hus
  have HHE := Lib.hid HE
  have HS := Lib.hid hS
  have HB5 := Lib.hid hB5
  have HL1 : Hid (L - 1 + 1 = L) := Lib.hid (by omega)
  have HHS := Lib.hid (hasRing_any W5 adj m L (L - 1) w.heap.size (w.heap.size + 1 + 1) (w.heap.size + 1) (w.heap.size + 1 + 1 + 1 + 1) (w.heap.size + 1 + 1 + 1 + 1 + 1) g (w.heap.size + 1 + 1 + 1) cW xs [] HE (fun x wr hx hs => closes_any W5 adj m L _ _ _ _ _ _ _ _ xs HE (L - 1) [] x wr (by simp; omega) (fun i hi => by simp at hi) hx hs) W5 hS)
  rw [HL1.out] at HHS
  clear HE hS hB5 HUP HUP2 HH1 HW HB HX
  obtain ⟨o, ho⟩ : ∃ o, searchF adj m L L [] = o := ⟨_, rfl⟩
  have HO := Lib.hid ho
  rw [ho] at HHS
  clear ho
  refine HHS.out.mono ?_
  rintro e W6 ⟨b, rfl, hb⟩
  cases o with
  | some r =>
    obtain ⟨rfl, h2⟩ := hb.1 r rfl
    have hrl : r.length = L := by
      have h := (search_some L [] r HO.out RowH.nil).1
      rw [List.length_nil, Nat.zero_add] at h
      exact h
    obtain ⟨A, c, hr, ho⟩ := h2.row
    have HI : Hid (IntsAt W6 W6.heap.size A L (natG r)) := Lib.hid (by rw [← hrl]; exact IntsAt.of_own ho (Nat.le_refl _))
    have HC : Hid (L ≤ c) := Lib.hid (by
      rw [← hrl]
      rcases ho.2 with ⟨_, h2⟩ | ⟨g, cap', cur, hv, _, _, hc, _⟩
      · omega
      · injection hv with _ _ e
        omega)
    have HB6 : Hid (Below w.heap.size w W6) := Lib.hid (HB5.out.trans ⟨h2.low.os, h2.low.tape, h2.low.output, h2.low.size, fun b hb => h2.blk b (by have := HB5.out.size; omega) (by omega)⟩)
    obtain ⟨a, rfl⟩ : ∃ a, A = some a := by
      obtain ⟨b, off, e, _⟩ := HI.out.2 (by omega)
      exact ⟨_, e⟩
    rw [hrl] at hr
    have c6 := hr.cell (i := 0) rfl
    clear hb h2 hr ho hrl
    go_wp2_with fail
    go_ret
    exact ⟨fun r' h => (by rw [HO.out] at h; injection h with h; subst h; exact ⟨_, _, rfl, HI.out, HC.out⟩), fun h => (by rw [HO.out] at h; cases h), HB6.out⟩
  | none =>
    obtain ⟨rfl, h2⟩ := hb.2 rfl
    have HB6 : Hid (Below w.heap.size w W6) := Lib.hid (HB5.out.trans ⟨h2.low.os, h2.low.tape, h2.low.output, h2.low.size, fun b hb => h2.blk b (by have := HB5.out.size; omega) (by omega)⟩)
    clear hb h2
    go_wp2_with fail
    go_ret
    exact ⟨fun r' h => (by rw [HO.out] at h; cases h), fun _ => rfl, HB6.out⟩
set_option maxRecDepth 100000 in
set_option maxHeartbeats 4000000 in
theorem ringTop_good (m : Nat) (A : Option Addr) (len cap : Nat) (es : List E3) (w : World) (hE : EdgesAt w w.heap.size A len es) (hx : gcheck m es = 0) :
    Calls Try.prog 11 #[.agg #[.int .i64 (m : Int), .slice A len cap]] w fun e w' =>
      ((∀ h, ¬ HoleG (adjE es) m h) → e = .returned (.tuple #[.slice none 0 0, .int .i64 5])) ∧ (∀ g, FirstH (adjE es) m g → ∃ A' c', e = .returned (.tuple #[.slice A' g.length c', .int .i64 0]) ∧ IntsAt w' w'.heap.size A' g.length (natG g) ∧ g.length ≤ c') ∧ Below w.heap.size w w' := by
  have HX := Lib.hid (BoxG.start (n := (m : Int)) (cap := cap) hE)
  have k0 := HX.out.c0
  have k1 := HX.out.c1
  obtain ⟨hn0, hn1, hl, hg⟩ := good_of_gcheck hx
  have hm10 : m ≤ 10 := by omega
  have HNB := Lib.hid (fun W hW => neighbours_any m A len cap es W hW hx)
  have HFR := Lib.hid (fun L g W h4 hL hW hm0 => firstRing_any m L g m (nbL m es) (adjE es) W hm10 h4 hL hW hm0 (fun i => pow10 hm10 (nbL_words hg i)) (fun i j hi => nb_bit hg hi j))
  clear hE hx hn0 hn1 hl hg
  have q := fun (w : World) (a : Option Addr) (n c n' c' : Nat) => Lib.run_eql_slice_nil w 25 3 a n c n' c' (show Try.prog.underlying 25 = some (.slice 3) from Try.underlying25)
  go_enter Try.func11, Try.ntmps11
  go_wp2_with fail
  refine (HNB.out _ HX.out.edges).mono ?_
  rintro e w1 ⟨g, rfl, hrow, hg0, hB⟩
  have HX1 := Lib.hid (HX.out.next hB)
  have HR : Hid (WordsAt w1 w1.heap.size (some ⟨g, 0, none⟩) m (nbL m es)) := Lib.hid (by
    have h := WordsAt.of_row (B := w1.heap.size) hrow hrow.lt
    rw [nbL_length] at h
    exact h)
  clear hB k0 k1 HNB hrow
  go_wp2_with fail
  go_loopw [6, 7] (fun y _ wr => ∃ k : Nat, 4 ≤ k ∧ k ≤ m + 4 ∧ y = .int .i64 k ∧ Hid ((∀ j, 4 ≤ j → j < k → searchF (adjE es) m j j [] = none) ∧ BoxG w (m : Int) A len cap es wr ∧ WordsAt wr wr.heap.size (some ⟨g, 0, none⟩) m (nbL m es))) (fun y _ _ => m + 5 - (intOf y).toNat)
  case atStart => exact ⟨4, Nat.le_refl _, by omega, rfl, Lib.hid ⟨fun j h1 h2 => by omega, HX1.out, HR.out⟩⟩
  case round =>
    obtain ⟨k, h4, hk4, rfl, HC⟩ := hrel
    have cM := HC.out.2.1.c0
    by_cases hkm : k ≤ m
    · have hkm' : (k : Int) ≤ (m : Int) := by omega
      obtain ⟨o, ho⟩ : ∃ o, searchF (adjE es) m k k [] = o := ⟨_, rfl⟩
      have HO := Lib.hid ho
      clear ho
      go_wp2_with fail
      refine (HFR.out k g wr h4 (by omega) HC.out.2.2 (by omega)).mono ?_
      rintro e w5 ⟨h1, h2, hB⟩
      have HX5 := Lib.hid (HC.out.2.1.next hB)
      have HR5 := Lib.hid (HC.out.2.2.go_ hB)
      cases o with
      | some r =>
        obtain ⟨a, c, rfl, hi, hc⟩ := h1 r HO.out
        have HFI := Lib.hid (search_first (adjE_symm es) h4 HO.out (fun j h5 h6 => HC.out.1 j h5 h6))
        have HI : Hid (IntsAt w5 w5.heap.size (some a) k (natG r) ∧ k ≤ c) := Lib.hid ⟨hi, hc⟩
        clear h1 h2 hB hi hc
        go_wp2_with fail
        go_ret2
        exact ⟨fun h => absurd HFI.out.1.hole (h r), fun g' hg' => (by
          obtain rfl := HFI.out.1.one hg'
          rw [HFI.out.2]
          exact ⟨_, _, rfl, HI.out.1, HI.out.2⟩), HX5.out.below⟩
      | none =>
        obtain rfl := h2 HO.out
        have HN : Hid ((∀ j, 4 ≤ j → j < k + 1 → searchF (adjE es) m j j [] = none) ∧ BoxG w (m : Int) A len cap es w5 ∧ WordsAt w5 w5.heap.size (some ⟨g, 0, none⟩) m (nbL m es)) := Lib.hid ⟨fun j h5 h6 => by
          by_cases e : j = k
          · rw [e]; exact HO.out
          · exact HC.out.1 j h5 (by omega), HX5.out, HR5.out⟩
        clear h1 h2 hB
        go_wp2_with fail
        go_roundw
        case rel => exact ⟨k + 1, by omega, by omega, by go_num, HN⟩
        case measure => simp [intOf]; omega
    · have hkm' : ¬ (k : Int) ≤ (m : Int) := by omega
      have HNO : Hid (∀ h, ¬ HoleG (adjE es) m h) := Lib.hid (search_none (adjE_symm es) (fun j h5 h6 => HC.out.1 j h5 (by omega)) fun h hh => holeG_len hh)
      go_wp2_with fail
      go_ret2
      exact ⟨fun _ => rfl, fun g' hg' => absurd hg'.hole (HNO.out g'), HC.out.2.1.below⟩
set_option maxRecDepth 100000 in
set_option maxHeartbeats 1000000 in
theorem ringTop_any (n : Int) (A : Option Addr) (len cap : Nat) (es : List E3) (w : World) (hE : EdgesAt w w.heap.size A len es) :
    Calls Try.prog 11 #[.agg #[.int .i64 n, .slice A len cap]] w (HoleFirst w n es) := by
  obtain ⟨x, hx⟩ : ∃ x, gcheck n es = x := ⟨_, rfl⟩
  by_cases h0 : x = 0
  · subst h0
    obtain ⟨hn0, hn1, hl, hg⟩ := good_of_gcheck hx
    obtain ⟨m, rfl⟩ := Int.eq_ofNat_of_zero_le hn0
    refine (ringTop_good m A len cap es w hE hx).mono ?_
    rintro e w' ⟨h1, h2, h3⟩
    exact ⟨fun h => absurd hx h, fun _ h => h1 h, fun _ g h => h2 g h, h3⟩
  · have HX := Lib.hid (BoxG.start (n := n) (cap := cap) hE)
    have k0 := HX.out.c0
    have k1 := HX.out.c1
    have hx1 : (x != 0) = true := by simpa using h0
    have HNB := Lib.hid (fun W hW => neighbours_bad n A len cap es x W hW hx h0)
    have HXX := Lib.hid (show gcheck n es ≠ 0 by rw [hx]; exact h0)
    have HXE := Lib.hid hx
    clear hE hx h0
    go_enter Try.func11, Try.ntmps11
    go_wp2_with fail
    refine (HNB.out _ HX.out.edges).mono ?_
    rintro e w1 ⟨rfl, hB⟩
    have HX1 := Lib.hid (HX.out.next hB)
    clear hB k0 k1 HNB
    go_wp2_with fail
    go_ret2
    exact ⟨fun _ => (by rw [HXE.out]; rfl), fun h => absurd h HXX.out, fun h => absurd h HXX.out, HX1.out.below⟩
end Go.Proofs.Yticickicfigpbaa
