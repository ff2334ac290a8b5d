/- span.Code of a tree. -/
import Derived.Test.YthfgbgmkiggjmabDoorCodeGo
import Derived.RegionTactic
import Derived.BigRegion
namespace Go.Proofs.YthfgbgmkiggjmabDoor
open Go.RowKit

structure CodeInv (m ga gc n2 : Nat) (es : List E3) (w2 : World) (i : Nat) (esc : List E3) (l ar : List Nat) (wr : World) : Prop where
  some : SomeE m esc
  forest : rootsN m esc + esc.length = m
  len : esc.length + i + 1 = m
  code : ∀ l', Cd m esc l' → Cd m es (l ++ l')
  told : l.length = i
  words : WordsOf m ar (prsE esc)
  rowA : RowOf wr ga 59 (ar.map u32V)
  rowC : RowOf wr gc 3 ((intsN l ++ List.replicate (n2 - i) 0).map (Value.int .i64))
  below : Below ga w2 wr
def CodeOk (m : Nat) (es : List E3) (w : World) (e : Ending) (w' : World) : Prop :=
  ∃ l g, e = .returned (.tuple #[.slice (some ⟨g, 0, none⟩) l.length l.length, .int .i64 0]) ∧ Cd m es l ∧ l.length + 2 = m ∧ IntsAt w' w'.heap.size (some ⟨g, 0, none⟩) l.length (intsN l) ∧ Below w.heap.size w w'

theorem words_perm {m : Nat} {ar : List Nat} {G H : List Pr} (h : WordsOf m ar G) (hp : G.Perm H) : WordsOf m ar H := ⟨h.len, h.lt, fun i hi j => by rw [h.bit i hi j, hp.mem_iff]⟩
/-- What one step of Code finds. -/
theorem code_step {m : Nat} {esc : List E3} {ar : List Nat} (hm : m ≤ 10) (hs : SomeE m esc) (hf : rootsN m esc + esc.length = m) (hl : 0 < esc.length) (hw : WordsOf m ar (prsE esc)) :
    ∃ x c k e, x < m ∧ c < m ∧ x ≠ c ∧ oneW (ar.getD x 0) = true ∧ (∀ j, j < x → oneW (ar.getD j 0) = false) ∧ ar.getD x 0 ≠ 0 ∧ ar.getD x 0 < 1024 ∧ Lib.ctz 32 (ar.getD x 0) = c ∧ esc[k]? = some e ∧ prE e = pr x c ∧
      SomeE m (esc.eraseIdx k) ∧ rootsN m (esc.eraseIdx k) + (esc.eraseIdx k).length = m ∧ (esc.eraseIdx k).length + 1 = esc.length ∧ (∀ l', Cd m (esc.eraseIdx k) l' → Cd m esc (c :: l')) ∧ WordsOf m ((ar.set x 0).set c (diffW (ar.getD c 0) (2 ^ x))) (prsE (esc.eraseIdx k)) := by
  obtain ⟨x0, hx0, hd0⟩ := leaf_exists hs hf hl
  obtain ⟨x, hxx, hd, hlt⟩ := least_of (p := fun i => degP (prsE esc) i = 1) x0 hd0
  have hx : x < m := by omega
  have hones := ones_deg hm hw hs.simp hs.inG hx
  have h1024 := pow10 hm (hw.lt x hx)
  have hne : ar.getD x 0 ≠ 0 := fun h => by
    rw [h] at hones
    have : ones 0 = 0 := by decide
    omega
  obtain ⟨hmem, _⟩ := WordsOf.least hm hw hx hne
  generalize hc : Lib.ctz 32 (ar.getD x 0) = c at hmem
  have hcm : c < m := (hs.inG x c hmem).2
  have hxc : x ≠ c := hs.simp.ne hmem
  obtain ⟨e, he, hpe⟩ := List.mem_map.1 hmem
  obtain ⟨k, hk⟩ := List.getElem?_of_mem he
  have hkl : k < esc.length := (List.getElem?_eq_some_iff.1 hk).1
  have hperm := erase_perm hk
  rw [hpe] at hperm
  have hw2 := hw.step hm hs.simp hx hcm hxc
  have hz : diffW (ar.getD x 0) (2 ^ c) = 0 := by
    apply Nat.eq_of_testBit_eq
    intro j
    have h2c : 2 ^ c < 1024 := pow10 hm (Nat.pow_lt_pow_right (by decide) hcm)
    rw [diffW_testBit _ _ j (by omega) (by omega), Nat.zero_testBit, Nat.testBit_two_pow]
    cases hb : (ar.getD x 0).testBit j with
    | false => rfl
    | true =>
      have := deg_one_unique hs.simp hd hmem ((hw.bit x hx j).1 hb)
      simp [this]
  rw [hz] at hw2
  refine ⟨x, c, k, e, hx, hcm, hxc, ?_, fun j hj => ?_, hne, h1024, hc, hk, hpe, hs.less k, forest_less hs hf hk, by rw [List.length_eraseIdx, if_pos hkl]; omega, fun l' hl' => ⟨x, k, e, hx, hd, hlt, hk, hpe, hl'⟩, words_perm hw2 hperm.symm⟩
  · unfold oneW; rw [hones, hd]; rfl
  · have h1 := ones_deg hm hw hs.simp hs.inG (i := j) (by omega)
    have h2 := hlt j hj
    unfold oneW
    rw [h1]
    simpa using h2

theorem code_fill {l : List Nat} {n2 i c : Nat} (hl : l.length = i) (hi : i < n2) : ((intsN l ++ List.replicate (n2 - i) 0).map (Value.int .i64)).set i (.int .i64 (c : Int)) = (intsN (l ++ [c]) ++ List.replicate (n2 - (i + 1)) 0).map (Value.int .i64) := by
  have h1 : n2 - i = (n2 - (i + 1)) + 1 := by omega
  rw [← List.map_set, h1, List.replicate_succ]
  congr 1
  rw [List.set_append_right _ _ (by rw [intsN_length, hl]; exact Nat.le_refl _), intsN_length, hl, Nat.sub_self]
  simp [intsN]
set_option maxRecDepth 100000 in
theorem isTree_yes (m : Nat) (A : Option Addr) (len cap : Nat) (es : List E3) (w : World) (hE : EdgesAt w w.heap.size A len es) (hv : gcheck m es = 0) (hT : Tab w) (ht : TreeP m es) :
    Calls Tryd.prog 62 #[.agg #[.int .i64 m, .slice A len cap]] w fun e w' => e = .returned (.bool true) ∧ Below w.heap.size w w' := isTree_v m A len cap es true w hE hv hT ⟨fun _ => ht, fun _ => rfl⟩

set_option maxRecDepth 100000 in
set_option maxHeartbeats 2000000 in
theorem code_good (m : Nat) (A : Option Addr) (len cap : Nat) (es : List E3) (w : World) (hE : EdgesAt w w.heap.size A len es) (hv : gcheck m es = 0) (hT : Tab w) (ht : TreeP m es) :
    Calls Tryd.prog 35 #[.agg #[.int .i64 m, .slice A len cap]] w (CodeOk m es w) := by
  obtain ⟨_, hm10', hl45, hgood⟩ := good_of_gcheck hv
  have hm10 : m ≤ 10 := by omega
  obtain ⟨n2, hn2⟩ : ∃ n2, n2 + 2 = m := ⟨m - 2, by have := ht.1; omega⟩
  have hsub : (m : Int) - 2 = (n2 : Int) := by omega
  have HN2 := Lib.hid hn2
  have HE := Lib.hid (show EdgesAt (bx w m A len cap) (bx w m A len cap).heap.size A len es from (hE.alloc (Nat.le_refl _) _).more (by simp [bx]))
  have HV := Lib.hid hv
  have HT := Lib.hid (hT.alloc (.cells #[.int .i64 m, .slice A len cap] 24))
  have HTg := Lib.hid hT.1
  have HG := Lib.hid hgood
  have HTr := Lib.hid ht
  have HW0 := Lib.hid (words_good hgood)
  have hn10 : n2 ≤ 8 := by omega
  clear hE hv hT ht hgood hl45 hm10' hn2
  have hmk := fun W => run_make_row' (P := Tryd.prog) 25 3 (.int .i64 0) 8 Tryd.underlying25 (by kernel_rfl) rfl .i64 .i64 n2 (by omega) (by omega) W
  go_enter Tryd.func35, Tryd.ntmps35
  go_wp2_with (first
    | (go_at_call 41; refine (neighbours_any m A len cap es _ (by exact HE.out) HV.out).mono ?_; rintro e w1 ⟨ga, rfl, hrow, hgn, hb1⟩; have HR1 := Lib.hid hrow; have HGN := Lib.hid hgn; have HB1 := Lib.hid hb1; have hc0 : w1.cell? ⟨w.heap.size, 0, none⟩ = some (.int .i64 (m : Int)) := (by rw [hb1.cell (p := ⟨w.heap.size, 0, none⟩) (by simp)]; simp [go_sem]); have hc1 : w1.cell? ⟨w.heap.size, 1, none⟩ = some (.slice A len cap) := (by rw [hb1.cell (p := ⟨w.heap.size, 1, none⟩) (by simp)]; simp [go_sem]); have hs1 : w.heap.size < w1.heap.size := (by have := hb1.size; simp at this; omega); clear hrow hb1 hgn)
    | (go_at_call 62; refine (isTree_yes m A len cap es _ (by exact HE.out.go_ HB1.out) HV.out (by exact HT.out.go_ HB1.out) HTr.out).mono ?_; rintro e w2 ⟨rfl, hb2⟩; have HB2 := Lib.hid hb2; have hd0 : w2.cell? ⟨w.heap.size, 0, none⟩ = some (.int .i64 (m : Int)) := ((hb2.cell (p := ⟨w.heap.size, 0, none⟩) hs1).trans hc0); clear hb2))
  clear hmk
  have HBw : Hid (Below w.heap.size w w2) := Lib.hid (((Below.refl _ _).alloc (Nat.le_refl _) _).trans ((HB1.out.trans (HB2.out.mono HB1.out.size)).mono (by simp)))
  have HT2 := Lib.hid ((HT.out.go_ HB1.out).go_ HB2.out)
  have hga : w.heap.size < ga := by have := HGN.out; simp at this; omega
  have hgl2 : ga < w2.heap.size := by have h1 := HR1.out.lt; have h2 := HB2.out.size; omega
  have HS : Hid (CodeInv m ga w2.heap.size n2 es (w2.alloc (.cells (madeCells #[Value.int .i64 0] n2) 3)) 0 es [] (nbL m es) (w2.alloc (.cells (madeCells #[Value.int .i64 0] n2) 3))) := Lib.hid
    ⟨SomeE.of_good HG.out, HTr.out.forest, by have := HTr.out.2.1; omega, fun l' h => h, rfl, HW0.out, (HR1.out.keep HB2.out).alloc _, by simpa [intsN] using RowOf.made w2 (.int .i64 0) n2 3, Below.refl _ _⟩
  clear hc0 hc1 HE HT HR1 HGN
  go_loopw [26] (fun j wr => ∃ i : Nat, i ≤ n2 ∧ j = .int .i64 i ∧ Hid (∃ esc l ar, CodeInv m ga w2.heap.size n2 es (w2.alloc (.cells (madeCells #[Value.int .i64 0] n2) 3)) i esc l ar wr)) (fun j _ => n2 - (intOf j).toNat)
  case atStart => exact ⟨0, Nat.zero_le _, rfl, Lib.hid ⟨_, _, _, HS.out⟩⟩
  case round =>
    clear HS
    obtain ⟨i, hi, rfl, HI⟩ := hrel
    obtain ⟨esc, l, ar, HC⟩ : ∃ esc l ar, Hid (CodeInv m ga w2.heap.size n2 es (w2.alloc (.cells (madeCells #[Value.int .i64 0] n2) 3)) i esc l ar wr) := by
      obtain ⟨esc, l, ar, h⟩ := HI.out
      exact ⟨esc, l, ar, Lib.hid h⟩
    clear HI
    by_cases hin : i < n2
    · obtain ⟨x, c, k, e, hx, hcm, hxc, h1, h0, hne, hX, HCT, hk, hpe, hs', hf', hl', hcd, hw'⟩ : ∃ x c k e, x < m ∧ c < m ∧ x ≠ c ∧ Hid (oneW (ar.getD x 0) = true) ∧ Hid (∀ j, j < x → oneW (ar.getD j 0) = false) ∧ ar.getD x 0 ≠ 0 ∧ ar.getD x 0 < 1024 ∧ Hid (Lib.ctz 32 (ar.getD x 0) = c) ∧ Hid (esc[k]? = some e) ∧ Hid (prE e = pr x c) ∧ Hid (SomeE m (esc.eraseIdx k)) ∧ Hid (rootsN m (esc.eraseIdx k) + (esc.eraseIdx k).length = m) ∧ Hid ((esc.eraseIdx k).length + 1 = esc.length) ∧ Hid (∀ l', Cd m (esc.eraseIdx k) l' → Cd m esc (c :: l')) ∧ Hid (WordsOf m ((ar.set x 0).set c (diffW (ar.getD c 0) (2 ^ x))) (prsE (esc.eraseIdx k))) := by
        obtain ⟨x, c, k, e, a1, a2, a3, a4, a5, a6, a7, a8, a9, b1, b2, b3, b4, b5, b6⟩ := code_step hm10 HC.out.some HC.out.forest (by have := HC.out.len; have := HN2.out; omega) HC.out.words
        exact ⟨x, c, k, e, a1, a2, a3, Lib.hid a4, Lib.hid a5, a6, a7, Lib.hid a8, Lib.hid a9, Lib.hid b1, Lib.hid b2, Lib.hid b3, Lib.hid b4, Lib.hid b5, Lib.hid b6⟩
      have hal := HC.out.words.len
      have hcx : wr.cell? ⟨ga, x, none⟩ = some (.int .u32 (ar.getD x 0 : Nat)) := HC.out.rowA.cell (by rw [List.getElem?_map, List.getD_eq_getElem?_getD, List.getElem?_eq_getElem (by omega)]; rfl)
      have hcu : wr.cell? ⟨ga, c, none⟩ = some (.int .u32 (ar.getD c 0 : Nat)) := HC.out.rowA.cell (by rw [List.getElem?_map, List.getD_eq_getElem?_getD, List.getElem?_eq_getElem (by omega)]; rfl)
      have hfx := HC.out.rowA.frozen x
      have hfu := HC.out.rowA.frozen c
      have hgal := HC.out.rowA.lt
      have hcc : wr.cell? ⟨w2.heap.size, i, none⟩ = some (.int .i64 0) := HC.out.rowC.cell (by
        rw [List.getElem?_map, List.getElem?_append_right (by rw [intsN_length, HC.out.told]; exact Nat.le_refl _), intsN_length, HC.out.told, List.getElem?_replicate, if_pos (by omega)]; rfl)
      have hfc := HC.out.rowC.frozen i
      have hgcl := HC.out.rowC.lt
      have hUs := pow10 hm10 (HC.out.words.lt c hcm)
      have hpx : 2 ^ x < 1024 := pow10 hm10 (Nat.pow_lt_pow_right (by decide) hx)
      have hd2 := andNot_u32 (ar.getD c 0) (2 ^ x) (by omega) (by omega)
      have hsx : (2 : Int) ^ x % 4294967296 = ((2 ^ x : Nat) : Int) := pow_mod x (by omega)
      have htx : IntKind.u32.wrap ((2 : Int) ^ x) = ((2 ^ x : Nat) : Int) := by rw [wrap_u32n]; exact hsx
      have HTZ : Hid (∀ W, Tab W → Calls Tryd.prog 42 #[.int .u32 (ar.getD x 0 : Nat)] W fun e w' => e = .returned (.int .i64 (c : Int)) ∧ W = w') := Lib.hid fun W hW => by
        have h := tz_any (ar.getD x 0) W (by omega) hne hW
        rwa [HCT.out] at h
      have HIX : Hid (Calls Tryd.prog 63 #[.slice (some ⟨ga, 0, none⟩) m m, .func (.func 64) #[] #[]] wr fun e w' => e = .returned (.int .i64 x) ∧ ∃ k, w' = wr.drewN k) := Lib.hid
        (indexOne m m x (some ⟨ga, 0, none⟩) ar wr (by have h := WordsAt.of_row HC.out.rowA HC.out.rowA.lt; rwa [hal] at h) hm10 (fun y hy => by
          obtain ⟨j, hj, rfl⟩ := List.getElem_of_mem hy
          have := pow10 hm10 (HC.out.words.lt j (by omega))
          rwa [List.getD_eq_getElem?_getD, List.getElem?_eq_getElem hj, Option.getD_some] at this) hx h1.out h0.out)
      have HTabr : Hid (Tab wr) := Lib.hid ((HT2.out.alloc _).below HC.out.below (by have := HTg.out; omega))
      have HAL := Lib.hid hal
      generalize hdW : diffW (ar.getD c 0) (2 ^ x) = d2 at hd2 hw'
      generalize ar.getD x 0 = X at hcx HCT hne hX HTZ h1 
      generalize ar.getD c 0 = U at hcu hUs hd2 hdW
      clear hal hne hdW
      generalize 2 ^ x = px at hpx hd2 hsx htx
      have hx0 : (0 : Int) ≤ (x : Int) := by omega
      have hxm : (x : Int) < (m : Int) := by omega
      have hc0' : (0 : Int) ≤ (c : Int) := by omega
      have hcm' : (c : Int) < (m : Int) := by omega
      have hi0 : (0 : Int) ≤ (i : Int) := by omega
      have hin' : (i : Int) < (n2 : Int) := by omega
      have hx32 : (x : Int) ≤ 32 := by omega
      have hcx2 : ¬ c = x := Ne.symm hxc
      have hgg : ¬ ga = w2.heap.size := by omega
      have hgg2 : ¬ w2.heap.size = ga := by omega
      go_wp2_with (first
        | (go_at_call 63; refine HIX.out.mono ?_; rintro e w3 ⟨rfl, q, rfl⟩)
        | (go_at_call 42; refine (HTZ.out _ (by exact HTabr.out)).mono ?_; rintro e w4 ⟨rfl, rfl⟩))
      go_region
      go_wp2
      go_roundw
      case rel =>
        refine ⟨i + 1, by omega, by go_num, Lib.hid ⟨esc.eraseIdx k, l ++ [c], (ar.set x 0).set c d2, ⟨hs'.out, hf'.out, by have h1 := hl'.out; have h2 := HC.out.len; omega, fun l' h => ?_, by rw [List.length_append, HC.out.told]; rfl, hw'.out, ?_, ?_, ?_⟩⟩⟩
        · have h2 := HC.out.code _ (hcd.out l' h)
          rw [List.append_assoc]
          exact h2
        · rw [List.map_set, List.map_set]
          exact ((HC.out.rowA.far (p := ⟨w2.heap.size, i, none⟩) hgg (.int .i64 (c : Int))).set_ x (.int .u32 0)).set_ c (.int .u32 (d2 : Nat))
        · rw [← code_fill HC.out.told hin]
          exact ((HC.out.rowC.set_ i (.int .i64 (c : Int))).far (p := ⟨ga, x, none⟩) hgg2 (.int .u32 0)).far (p := ⟨ga, c, none⟩) hgg2 (.int .u32 (d2 : Nat))
        · exact (((((below_drewN HC.out.below q).setCell (p := ⟨w2.heap.size, i, none⟩) (by show ga ≤ w2.heap.size; omega) _).setCell (p := ⟨ga, x, none⟩) (Nat.le_refl _) _).setCell (p := ⟨ga, c, none⟩) (Nat.le_refl _) _)).drew
      case measure => simp [intOf]; omega
    · obtain rfl : i = n2 := by omega
      have HL : Hid (l.length = i) := Lib.hid HC.out.told
      have HO : Hid (CodeOk m es w (.returned (.tuple #[.slice (some ⟨w2.heap.size, 0, none⟩) i i, .int .i64 0])) wr) := Lib.hid (by
        refine ⟨l, w2.heap.size, by rw [HL.out], ?_, by have := HL.out; have := HN2.out; omega, ?_, ?_⟩
        · have := HC.out.code [] trivial
          rwa [List.append_nil] at this
        · have h := HC.out.rowC
          rw [Nat.sub_self, List.replicate_zero, List.append_nil] at h
          have h2 := IntsAt.of_row h h.lt
          rwa [intsN_length] at h2
        · exact (HBw.out.alloc (by omega) _).trans (HC.out.below.mono (by omega)))
      go_wp2
      go_ret2
      exact HO.out
end Go.Proofs.YthfgbgmkiggjmabDoor
