/- short.improve: each walk goes on by each arc. -/
import Derived.Test.YtkpejmpnbdblbaaWalkMap
import Derived.Test.YtkpejmpnbdblbaaCheaperP
namespace Go.Proofs.Ytkpejmpnbdblbaa
open Go.RowKit Go.Maps

/-- A net's arcs, with their fees. -/
def netA (m : Nat) (es : List A4) : ArcsF := ⟨m, es.length, fun k => (es.getD k default).1.toNat, fun k => (es.getD k default).2.1.toNat, fun k => (es.getD k default).2.2.2⟩
def FeeS (es : List A4) : Prop := ∀ a ∈ es, -1048576 ≤ a.2.2.2 ∧ a.2.2.2 ≤ 1048576
theorem feeS_of_netF {n : Int} {es : List A4} (h : netF n es = 0) : FeeS es := by
  unfold netF at h
  split at h
  · omega
  · intro a ha
    have := arcErr_zero (scanA_all h a ha)
    omega
section
variable {m : Nat} {es : List A4} {k : Nat} {x : A4}
theorem netA_at (hG : GoodN (m : Int) es) (h : es[k]? = some x) : x.1 = ((netA m es).fr k : Int) ∧ x.2.1 = ((netA m es).to k : Int) ∧ (netA m es).fee k = x.2.2.2 ∧ (netA m es).fr k < m ∧ (netA m es).to k < m ∧ k < (netA m es).K := by
  have e : es.getD k default = x := by rw [List.getD_eq_getElem?_getD, h]; rfl
  have hb := hG.arc x (List.mem_of_getElem? h)
  have hk := (List.getElem?_eq_some_iff.1 h).1
  simp only [netA, e]
  exact ⟨by omega, by omega, trivial, by omega, by omega, hk⟩
theorem netA_ok (hG : GoodN (m : Int) es) : (netA m es).ok := fun k hk => by
  obtain ⟨_, _, _, h1, h2, _⟩ := netA_at hG (List.getElem?_eq_getElem (show k < es.length from hk))
  exact ⟨h1, h2⟩
theorem netA_fee (hG : GoodN (m : Int) es) (hF : FeeS es) : ∀ k, k < (netA m es).K → -1048576 ≤ (netA m es).fee k ∧ (netA m es).fee k ≤ 1048576 := fun k hk => by
  obtain ⟨_, _, h, _⟩ := netA_at hG (List.getElem?_eq_getElem (show k < es.length from hk))
  rw [h]; exact hF _ (List.getElem_mem _)
theorem netA_K (hG : GoodN (m : Int) es) : (netA m es).K ≤ 64 := by have := hG.len; show es.length ≤ 64; omega
end
theorem grown_on {a b c : World} {row : Option Nat} (h : a.grownBy b row) (k : b.grownBy c row) : a.grownBy c row :=
  ⟨k.os.trans h.os, k.tape.trans h.tape, k.output.trans h.output, Nat.le_trans h.size k.size, fun i hi hne => (k.block i (Nat.lt_of_lt_of_le hi h.size) hne).trans (h.block i hi hne)⟩
/-- The world with a net in a box, while the map in block b changes. -/
structure BoxM (w : World) (n : Int) (A : Option Addr) (len cap : Nat) (es : List A4) (b : Nat) (w1 : World) : Prop where
  arcs : ArcsAt w1 w1.heap.size A len es
  isM : IsM w1 b
  grown : w.grownBy w1 (some b)
  lt : b < w.heap.size
  size : w.heap.size < w1.heap.size
  box : w1.heap[w.heap.size]? = some (.cells #[.int .i64 n, .slice A len cap] 24 (0, 0))
section
variable {w w1 w2 : World} {n : Int} {A : Option Addr} {len cap b : Nat} {es : List A4}
set_option maxRecDepth 100000 in
theorem BoxM.start (h : ArcsAt w w.heap.size A len es) (hM : IsM w b) : BoxM w n A len cap es b (bxN w n A len cap) :=
  ⟨h.go_ ((Below.refl _ _).alloc (Nat.le_refl _) _), hM.keep ((Below.refl _ _).alloc (Nat.le_refl _) _), grown_of_below ((Below.refl _ _).alloc (Nat.le_refl _) _) _, hM.lt, by simp [bxN], (MapKept.heap_alloc w _).1⟩
theorem BoxM.keep (h : BoxM w n A len cap es b w1) (hb : Below w1.heap.size w1 w2) : BoxM w n A len cap es b w2 :=
  ⟨h.arcs.go_ hb, h.isM.keep hb, grown_on h.grown (grown_of_below hb _), h.lt, Nat.lt_of_lt_of_le h.size hb.size, (hb.block _ h.size).trans h.box⟩
theorem BoxM.store (h : BoxM w n A len cap es b w1) (hg : w1.grownBy w2 (some b)) (hM : IsM w2 b) : BoxM w n A len cap es b w2 :=
  ⟨h.arcs.grown h.isM hg, hM, grown_on h.grown hg, h.lt, Nat.lt_of_lt_of_le h.size hg.size, (hg.block _ h.size (fun e => by injection e with e; have := h.lt; omega)).trans h.box⟩
theorem BoxM.k0 (h : BoxM w n A len cap es b w1) : w1.cell? ⟨w.heap.size, 0, none⟩ = some (.int .i64 n) := by simp [World.cell?, h.box]
theorem BoxM.k1 (h : BoxM w n A len cap es b w1) : w1.cell? ⟨w.heap.size, 1, none⟩ = some (.slice A len cap) := by simp [World.cell?, h.box]
theorem BoxM.drew (h : BoxM w n A len cap es b w1) : BoxM w n A len cap es b w1.drew := h.keep (Below.refl _ _).drew
end
theorem wf_nat {t : Nat} (h : t < 4294967296) : (Lit.int .i64 (t : Int)).wf = true := WalkArith.wf_i64 (by omega)
set_option maxRecDepth 100000 in
set_option maxHeartbeats 4000000 in
theorem improve_any (m s c0 : Nat) (A : Option Addr) (len cap b cnt : Nat) (es : List A4) (D : Nat → Option (List Nat)) (w : World) (hE : ArcsAt w w.heap.size A len es) (hG : GoodN (m : Int) es) (hF : FeeS es)
    (hM : WMap (netA m es) D w b cnt) (hO : OkD (netA m es) s c0 D) (hc0 : c0 ≤ 600) (hcnt : cnt ≤ 600) :
    Calls Try.prog 30 #[.agg #[.int .i64 (m : Int), .slice A len cap], .map (some b)] w fun e w' => e = .returned (.bool (bitD (netA m es) D (netA m es).K)) ∧ WMap (netA m es) (goD (netA m es) D (netA m es).K) w' b (cnt + len) ∧ w.grownBy w' (some b) ∧ ArcsAt w' w'.heap.size A len es := by
  have hl30 : len ≤ 30 := by have := hG.len; have := hE.1; omega
  have hK64 : ∀ k, k < (netA m es).K → k < 64 := fun k hk => by have := netA_K hG; omega
  have hm10 : m ≤ 10 := by have := hG.n1; omega
  have HKL : Hid ((netA m es).K = len) := Lib.hid hE.1
  have HX := Lib.hid (BoxM.start (n := (m : Int)) (cap := cap) hE hM.isM)
  have HM := Lib.hid (hM.keep (w' := bxN w (m : Int) A len cap) ((Below.refl _ _).alloc (Nat.le_refl _) _))
  have HG := Lib.hid hG
  have HOK := Lib.hid (fun k hk => hO.go_ (netA_ok hG) k hk)
  have HFE := Lib.hid (netA_fee hG hF)
  have H64 := Lib.hid hK64
  clear hE hG hF hM hO hK64
  have k0 := HX.out.k0
  have k1 := HX.out.k1
  go_enter Try.func30, Try.ntmps30
  go_wp2_with fail
  clear k0 k1
  go_loopw [5, 16] (fun x y wr => ∃ k : Nat, k ≤ len ∧ x = .bool (bitD (netA m es) D k) ∧ y = .int .i64 k ∧ Hid (BoxM w (m : Int) A len cap es b wr ∧ WMap (netA m es) (goD (netA m es) D k) wr b (cnt + k))) (fun _ y _ => len - (intOf y).toNat)
  case atStart => exact ⟨0, Nat.zero_le _, rfl, rfl, Lib.hid ⟨HX.out, HM.out⟩⟩
  case round =>
    clear HX HM
    obtain ⟨k, hk, rfl, rfl, HR⟩ := hrel
    by_cases hkl : k < len
    · obtain ⟨bb, off, ⟨x0, x1, x2, x3⟩, rfl, hbb, hx, hc0', hc1, hc2, hc3⟩ := HR.out.1.arcs.at_ hkl
      obtain ⟨e0, e1, e2, l0, l1, _⟩ := netA_at HG.out hx
      simp only at e0 e1 e2 hc0' hc1 hc2 hc3
      subst e0 e1
      obtain ⟨f1, f2⟩ := HFE.out k (by rw [HKL.out]; exact hkl)
      rw [e2] at f1 f2
      have HFR : Hid (∀ Dk, Dk = goD (netA m es) D k → goD (netA m es) D (k + 1) = stepD (netA m es) Dk k ∧ bitD (netA m es) D (k + 1) = (bitD (netA m es) D k || moreD (netA m es) Dk k)) := Lib.hid (by rintro Dk rfl; exact ⟨rfl, rfl⟩)
      have HOk := Lib.hid (HOK.out k (by rw [HKL.out]; omega))
      have HF2 := Lib.hid e2
      obtain ⟨N, hN⟩ : ∃ N, N = netA m es := ⟨_, rfl⟩
      have HNL : Hid (∀ k ∈ List.range 1, True) := Lib.hid fun _ _ => trivial
      clear hx e2
      have ik0 : (0 : Int) ≤ (k : Int) := by omega
      have ik1 : (k : Int) < (len : Int) := by omega
      generalize hbk : bitD (netA m es) D k = bk at *
      obtain ⟨Dk, hDk⟩ : ∃ Dk, Dk = goD (netA m es) D k := ⟨_, rfl⟩
      rw [← hDk] at HR HOk
      have HFR2 := Lib.hid (HFR.out Dk hDk)
      clear hbk hDk HFR HNL hN
      generalize hfr : (netA m es).fr k = fr at *
      generalize hto : (netA m es).to k = to at *
      have HFT := Lib.hid (And.intro hfr hto)
      clear hfr hto
      have wf0 : (Lit.int .i64 (fr : Int)).wf = true := wf_nat (by omega)
      have wf1 : (Lit.int .i64 (to : Int)).wf = true := wf_nat (by omega)
      have HNX : Hid (∀ W, Below wr.heap.size wr W → BoxM w (m : Int) (some ⟨bb, off, none⟩) len cap es b W ∧ WMap (netA m es) Dk W b (cnt + k)) := Lib.hid fun W h => ⟨HR.out.1.keep h, HR.out.2.keep h⟩
      have hB1 : Below wr.heap.size wr (wr.alloc (.cells #[.int .i64 fr, .int .i64 to, .int .i64 x2, .int .i64 x3] 50)) := (Below.refl _ _).alloc (Nat.le_refl _) _
      have HM1 := Lib.hid (HNX.out _ hB1).2
      have HB1 := Lib.hid hB1
      clear hB1 HR
      cases hDf : Dk fr with
      | none =>
        have HN : Hid (goD (netA m es) D (k + 1) = Dk ∧ bitD (netA m es) D (k + 1) = bk) := Lib.hid (by
          have h : Dk ((netA m es).fr k) = none := by rw [HFT.out.1]; exact hDf
          rw [HFR2.out.1, HFR2.out.2, stepD_none h, moreD_none h, Bool.or_false]
          exact ⟨rfl, rfl⟩)
        have HDF := Lib.hid hDf
        clear hDf HFR2
        go_wp2_with (at_lookup; refine look_none rfl _ _ rfl rfl HM1.out wf0 rfl HDF.out ?_)
        clear hc0' hc1 hc2 hc3
        go_roundw
        case rel => exact ⟨k + 1, by omega, by rw [HN.out.2], by go_num, Lib.hid (by rw [HN.out.1]; exact ⟨(HNX.out _ (HB1.out.alloc (by simp) _)).1, (HNX.out _ (HB1.out.alloc (by simp) _)).2.more (by omega)⟩)⟩
        case measure => simp [intOf]; omega
      | some l =>
        have HDF := Lib.hid hDf
        have HPL := Lib.hid (HOk.out.1 _ _ hDf)
        have hlen : l.length ≤ c0 + k := HPL.out.2.1
        have hab := lenL_abs HFE.out (l := l) HPL.out.1.all
        have hy : lenL (netA m es) l + x3 = lenL (netA m es) (l ++ [k]) := by rw [lenL_snoc, HF2.out]
        have HWITH : Hid (∀ W A1 n1 c1, PlAt W W.heap.size A1 n1 c1 l → Calls Try.prog 32 #[.agg #[.int .i64 (lenL (netA m es) l), .slice A1 n1 c1], .int .i64 k, .agg #[.int .i64 fr, .int .i64 to, .int .i64 x2, .int .i64 x3]] W fun e w' => (∃ A' c', e = .returned (.agg #[.int .i64 (lenL (netA m es) (l ++ [k])), .slice A' (n1 + 1) c']) ∧ PlAt w' w'.heap.size A' (n1 + 1) c' (l ++ [k])) ∧ Below W.heap.size W w') := Lib.hid fun W A1 n1 c1 h => by
          have h2 := with_any (lenL (netA m es) l) A1 n1 c1 k l fr to x2 x3 W h (by have := h.len; omega) (by omega) (by omega)
          rwa [hy] at h2
        clear hDf hab hy
        go_wp2_with (at_lookup; refine look_some rfl _ _ rfl rfl HM1.out wf0 rfl HDF.out ?_; intro A1 n1 c1 hp1; have HP1 := Lib.hid hp1; clear hp1)
        clear hc0' hc1 hc2 hc3
        obtain ⟨W2, hW2⟩ : ∃ W2, W2 = ((wr.alloc (.cells #[.int .i64 fr, .int .i64 to, .int .i64 x2, .int .i64 x3] 50)).alloc (.cells #[.int .i64 (lenL (netA m es) l), .slice A1 n1 c1] 65)) := ⟨_, rfl⟩
        rw [← hW2]
        have HB2 : Hid (Below wr.heap.size wr W2 ∧ W2.heap.size = wr.heap.size + 1 + 1) := Lib.hid (by rw [hW2]; exact ⟨((Below.refl _ _).alloc (Nat.le_refl _) _).alloc (by simp) _, by simp⟩)
        have HQ2 : Hid (W2.heap[wr.heap.size]? = some (.cells #[.int .i64 fr, .int .i64 to, .int .i64 x2, .int .i64 x3] 50 (0, 0))) := Lib.hid (by rw [hW2, Below.heap_alloc _ _ _ (by simp)]; exact (MapKept.heap_alloc wr _).1)
        have HP2 : Hid (PlAt W2 W2.heap.size A1 n1 c1 l) := Lib.hid (by rw [hW2]; exact HP1.out.go_ ((Below.refl _ _).alloc (Nat.le_refl _) _))
        have hn1 : n1 ≤ c0 + k := by have := HP1.out.len; omega
        clear hW2
        refine (HWITH.out W2 A1 n1 c1 HP2.out).mono ?_
        rintro e w3 ⟨⟨A2, c2, rfl, hp3⟩, hb3⟩
        have HP3 := Lib.hid hp3
        have HB3 : Hid (Below wr.heap.size wr w3 ∧ wr.heap.size + 1 + 1 ≤ w3.heap.size) := Lib.hid ⟨HB2.out.1.trans (hb3.mono HB2.out.1.size), by have := hb3.size; have := HB2.out.2; omega⟩
        have HQ3 : Hid (w3.heap[wr.heap.size]? = some (.cells #[.int .i64 fr, .int .i64 to, .int .i64 x2, .int .i64 x3] 50 (0, 0))) := Lib.hid ((hb3.block _ (by have := HB2.out.2; omega)).trans HQ2.out)
        clear hp3 hb3 HWITH HM1
        have z1 : w3.cell? ⟨wr.heap.size, 1, none⟩ = some (.int .i64 to) := by simp [World.cell?, HQ3.out]
        have hz1 : wr.heap.size < w3.heap.size := by have := HB3.out.2; omega
        have HM4 : Hid (WMap (netA m es) Dk (w3.alloc (.cells #[.int .i64 (lenL (netA m es) (l ++ [k])), .slice A2 (n1 + 1) c2] 65)) b (cnt + k)) := Lib.hid (HNX.out _ (HB3.out.1.alloc HB3.out.1.size _)).2
        have HDK : Hid (Dk ((netA m es).fr k) = some l) := Lib.hid (by rw [HFT.out.1]; exact HDF.out)
        cases hDt : Dk to with
        | none =>
          have HN : Hid (goD (netA m es) D (k + 1) = updD Dk to (l ++ [k]) ∧ bitD (netA m es) D (k + 1) = true) := Lib.hid (by
            have h2 : moreD (netA m es) Dk k = true := moreD_new HDK.out (by rw [HFT.out.2]; exact hDt)
            rw [HFR2.out.1, HFR2.out.2, h2, stepD_more HDK.out h2, HFT.out.2, Bool.or_true]
            exact ⟨rfl, rfl⟩)
          have HDT := Lib.hid hDt
          have HM5 : Hid (WMap (netA m es) Dk ((w3.alloc (.cells #[.int .i64 (lenL (netA m es) (l ++ [k])), .slice A2 (n1 + 1) c2] 65)).alloc (.cells #[.int .i64 0, .slice none 0 0] 65)) b (cnt + k)) := Lib.hid (HM4.out.keep ((Below.refl _ _).alloc (Nat.le_refl _) _))
          have HX5 : Hid (BoxM w (m : Int) (some ⟨bb, off, none⟩) len cap es b ((w3.alloc (.cells #[.int .i64 (lenL (netA m es) (l ++ [k])), .slice A2 (n1 + 1) c2] 65)).alloc (.cells #[.int .i64 0, .slice none 0 0] 65))) := Lib.hid (HNX.out _ ((HB3.out.1.alloc HB3.out.1.size _).alloc (by have := HB3.out.1.size; simp; omega) _)).1
          have HP5 : Hid (PlAt ((w3.alloc (.cells #[.int .i64 (lenL (netA m es) (l ++ [k])), .slice A2 (n1 + 1) c2] 65)).alloc (.cells #[.int .i64 0, .slice none 0 0] 65)) ((w3.alloc (.cells #[.int .i64 (lenL (netA m es) (l ++ [k])), .slice A2 (n1 + 1) c2] 65)).alloc (.cells #[.int .i64 0, .slice none 0 0] 65)).heap.size A2 (n1 + 1) c2 (l ++ [k])) := Lib.hid (HP3.out.go_ (((Below.refl _ _).alloc (Nat.le_refl _) _).alloc (by simp) _))
          clear hDt HFR2
          go_wp2_with (first
            | (at_lookup; refine look_none rfl _ _ rfl rfl HM4.out wf1 rfl HDT.out ?_)
            | (at_mapUpdate; refine store_walk rfl _ _ _ rfl rfl HM5.out (by omega) wf1 rfl rfl HP5.out ?_; intro w7 hm7 hg7; have HM7 := Lib.hid hm7; have HG7 := Lib.hid hg7; clear hm7 hg7))
          go_roundw
          case rel => exact ⟨k + 1, by omega, by rw [HN.out.2], by go_num, Lib.hid ⟨HX5.out.store HG7.out HM7.out.isM, by rw [HN.out.1]; exact HM7.out⟩⟩
          case measure => simp [intOf]; omega
        | some q =>
          have HDT := Lib.hid hDt
          have HPQ := Lib.hid (HOk.out.1 _ _ hDt)
          have hq : q.length ≤ c0 + k := HPQ.out.2.1
          have HMORE : Hid (moreD (netA m es) Dk k = decide (lessL (lenL (netA m es) (l ++ [k])) (l ++ [k]) (lenL (netA m es) q) q)) := Lib.hid (moreD_old HDK.out (by rw [HFT.out.2]; exact hDt))
          have HD1 : Hid (∀ x ∈ l ++ [k], x < 64) := Lib.hid fun x hx => by
            rcases List.mem_append.1 hx with h | h
            · exact H64.out x (HPL.out.1.all x h)
            · rw [List.mem_singleton.1 h]; omega
          have HD2 : Hid (∀ x ∈ q, x < 64) := Lib.hid fun x hx => H64.out x (HPQ.out.1.all x hx)
          clear hDt
          go_wp2_with (first
            | (at_lookup; refine look_some rfl _ _ rfl rfl HM4.out wf1 rfl HDT.out ?_; intro A3 n3 c3 hp4; have HP4 := Lib.hid hp4; clear hp4))
          obtain ⟨W5, hW5⟩ : ∃ W5, W5 = ((w3.alloc (.cells #[.int .i64 (lenL (netA m es) (l ++ [k])), .slice A2 (n1 + 1) c2] 65)).alloc (.cells #[.int .i64 (lenL (netA m es) q), .slice A3 n3 c3] 65)) := ⟨_, rfl⟩
          rw [← hW5]
          have HB5 : Hid (Below w3.heap.size w3 W5 ∧ W5.heap.size = w3.heap.size + 1 + 1) := Lib.hid (by rw [hW5]; exact ⟨((Below.refl _ _).alloc (Nat.le_refl _) _).alloc (by simp) _, by simp⟩)
          have HQ5 : Hid (W5.heap[wr.heap.size]? = some (.cells #[.int .i64 fr, .int .i64 to, .int .i64 x2, .int .i64 x3] 50 (0, 0)) ∧ W5.heap[w3.heap.size]? = some (.cells #[.int .i64 (lenL (netA m es) (l ++ [k])), .slice A2 (n1 + 1) c2] 65 (0, 0))) := Lib.hid (by
            refine ⟨(HB5.out.1.block _ hz1).trans HQ3.out, ?_⟩
            rw [hW5, Below.heap_alloc _ _ _ (by simp)]; exact (MapKept.heap_alloc w3 _).1)
          have HP5 : Hid (PlAt W5 W5.heap.size A2 (n1 + 1) c2 (l ++ [k]) ∧ PlAt W5 W5.heap.size A3 n3 c3 q) := Lib.hid ⟨HP3.out.go_ HB5.out.1, by rw [hW5]; exact HP4.out.go_ ((Below.refl _ _).alloc (Nat.le_refl _) _)⟩
          have HBW : Hid (Below wr.heap.size wr W5) := Lib.hid (HB3.out.1.trans (HB5.out.1.mono HB3.out.1.size))
          clear hW5 z1 HM4
          have hn3 : n3 ≤ 4000000 := by have := HP4.out.len; omega
          by_cases hless : lessL (lenL (netA m es) (l ++ [k])) (l ++ [k]) (lenL (netA m es) q) q
          · have HN : Hid (goD (netA m es) D (k + 1) = updD Dk to (l ++ [k]) ∧ bitD (netA m es) D (k + 1) = true) := Lib.hid (by
              have h2 : moreD (netA m es) Dk k = true := by rw [HMORE.out]; exact decide_eq_true hless
              rw [HFR2.out.1, HFR2.out.2, h2, stepD_more HDK.out h2, HFT.out.2, Bool.or_true]
              exact ⟨rfl, rfl⟩)
            have HLS : Hid (true = decide (lessL (lenL (netA m es) (l ++ [k])) (l ++ [k]) (lenL (netA m es) q) q)) := Lib.hid (decide_eq_true hless).symm
            clear hless HFR2
            refine (better_any _ _ A2 A3 (n1 + 1) n3 c2 c3 (l ++ [k]) q true W5 HP5.out.1.ints HP5.out.2.ints (by omega) hn3 HD1.out HD2.out HLS.out).mono ?_
            rintro e w6 ⟨rfl, hb6⟩
            have HQ6 : Hid (w6.heap[wr.heap.size]? = some (.cells #[.int .i64 fr, .int .i64 to, .int .i64 x2, .int .i64 x3] 50 (0, 0)) ∧ w6.heap[w3.heap.size]? = some (.cells #[.int .i64 (lenL (netA m es) (l ++ [k])), .slice A2 (n1 + 1) c2] 65 (0, 0))) := Lib.hid ⟨(hb6.block _ (by have := HB5.out.2; omega)).trans HQ5.out.1, (hb6.block _ (by have := HB5.out.2; omega)).trans HQ5.out.2⟩
            have HB6 : Hid (Below wr.heap.size wr w6) := Lib.hid (HBW.out.trans (hb6.mono HBW.out.size))
            have HM6 := Lib.hid (HNX.out _ HB6.out)
            have HP6 := Lib.hid (HP5.out.1.go_ hb6)
            clear hb6
            have y1 : w6.cell? ⟨wr.heap.size, 1, none⟩ = some (.int .i64 to) := by simp [World.cell?, HQ6.out.1]
            have y2 : w6.cell? ⟨w3.heap.size, 0, none⟩ = some (.int .i64 (lenL (netA m es) (l ++ [k]))) := by simp [World.cell?, HQ6.out.2]
            have y3 : w6.cell? ⟨w3.heap.size, 1, none⟩ = some (.slice A2 (n1 + 1) c2) := by simp [World.cell?, HQ6.out.2]
            go_wp2_with (at_mapUpdate; refine store_walk rfl _ _ _ rfl rfl HM6.out.2 (by omega) wf1 rfl rfl HP6.out ?_; intro w7 hm7 hg7; have HM7 := Lib.hid hm7; have HG7 := Lib.hid hg7; clear hm7 hg7)
            go_roundw
            case rel => exact ⟨k + 1, by omega, by rw [HN.out.2], by go_num, Lib.hid ⟨HM6.out.1.store HG7.out HM7.out.isM, by rw [HN.out.1]; exact HM7.out⟩⟩
            case measure => simp [intOf]; omega
          · have HN : Hid (goD (netA m es) D (k + 1) = Dk ∧ bitD (netA m es) D (k + 1) = bk) := Lib.hid (by
              have h2 : moreD (netA m es) Dk k = false := by rw [HMORE.out]; exact decide_eq_false hless
              rw [HFR2.out.1, HFR2.out.2, h2, stepD_not h2, Bool.or_false]
              exact ⟨rfl, rfl⟩)
            have HLS : Hid (false = decide (lessL (lenL (netA m es) (l ++ [k])) (l ++ [k]) (lenL (netA m es) q) q)) := Lib.hid (decide_eq_false hless).symm
            clear hless HFR2
            refine (better_any _ _ A2 A3 (n1 + 1) n3 c2 c3 (l ++ [k]) q false W5 HP5.out.1.ints HP5.out.2.ints (by omega) hn3 HD1.out HD2.out HLS.out).mono ?_
            rintro e w6 ⟨rfl, hb6⟩
            have HB6 : Hid (Below wr.heap.size wr w6) := Lib.hid (HBW.out.trans (hb6.mono HBW.out.size))
            clear hb6
            go_wp2_with fail
            go_roundw
            case rel => exact ⟨k + 1, by omega, by rw [HN.out.2], by go_num, Lib.hid (by rw [HN.out.1]; exact ⟨(HNX.out _ HB6.out).1, (HNX.out _ HB6.out).2.more (by omega)⟩)⟩
            case measure => simp [intOf]; omega
    · obtain rfl : k = len := by omega
      have HE : Hid (bitD (netA m es) D (netA m es).K = bitD (netA m es) D k ∧ goD (netA m es) D (netA m es).K = goD (netA m es) D k) := Lib.hid (by rw [HKL.out]; exact ⟨rfl, rfl⟩)
      go_wp2_with fail
      go_ret
      exact ⟨by rw [HE.out.1]; rfl, by rw [HE.out.2]; exact HR.out.2, HR.out.1.grown, HR.out.1.arcs⟩
end Go.Proofs.Ytkpejmpnbdblbaa
