/- wish.All's closure that lays pairings. -/
import Derived.Test.YtmelgnfhocofiaaLayP
import Derived.Test.YtmelgnfhocofiaaHoldsGo
import Derived.Test.YtmelgnfhocofiaaCloneI
import Derived.Test.YtmelgnfhocofiaaConcat
import Derived.Test.YtmelgnfhocofiaaBoxS
import Derived.Test.YtmelgnfhocofiaaAskGo
import Derived.Deep.AppendLies
import Derived.Deep.RegionLaw
import Derived.Laws.EntriesVeiled
namespace Go.Proofs.Ytmelgnfhocofiaa
open Go.RowKit

theorem Rows1.blocks {w w' : World} {base m i : Nat} {v : Value} {bs cs : Nat → Nat} {f : Nat → Nat → Int} (h : Rows1 w base m i v bs cs f) (hb : ∀ k, base ≤ k → k < w.heap.size → w'.heap[k]? = w.heap[k]?) : Rows1 w' base m i v bs cs f := by
  refine ⟨⟨h.own.1, ?_⟩, fun k hk => ⟨(h.row k hk).1, (h.row k hk).2.of_block (hb _ (h.row k hk).1 (h.row k hk).2.lt)⟩, h.inc⟩
  rcases h.own.2 with h0 | ⟨g, cap, cur, hv, hg, hr, hrest⟩
  · exact .inl h0
  · exact .inr ⟨g, cap, cur, hv, hg, (hb g hg (Array.getElem?_eq_some_iff.1 hr).1).trans hr, hrest⟩
/-- The pairing so far, and what was told. -/
structure LayW (w : World) (n Bc gp gall a b : Nat) (pre : List Int) (xss : List (List Int)) (wr : World) : Prop where
  low : Below 0 w wr
  blk : ∀ k, k < w.heap.size → k ≠ a → k ≠ b → k ≠ gall → wr.heap[k]? = w.heap[k]?
  cp : Couples wr 0 n a b (fun i => pre.getD i (-1)) (fun j => owP pre (j : Int))
  out : ∃ A c bs cs, RowOf wr gall 22 [.slice A xss.length c] ∧ Rows1 wr w.heap.size n xss.length (.slice A xss.length c) bs cs (fun k j => (xss.getD k []).getD j (-1))
section
variable {w wr w2 : World} {n Bc gp gall a b : Nat} {pre pre' : List Int} {xss : List (List Int)}
theorem LayW.keep (H : LayW w n Bc gp gall a b pre xss wr) (hb : Below wr.heap.size wr w2) : LayW w n Bc gp gall a b pre xss w2 := by
  obtain ⟨A, c, bs, cs, h1, h2⟩ := H.out
  exact ⟨H.low.trans (hb.mono (Nat.zero_le _)), fun k hk h3 h4 h5 => (hb.block k (Nat.lt_of_lt_of_le hk H.low.size)).trans (H.blk k hk h3 h4 h5), H.cp.keep hb, A, c, bs, cs, h1.keep hb, h2.keep hb⟩
theorem LayW.drew (H : LayW w n Bc gp gall a b pre xss wr) : LayW w n Bc gp gall a b pre xss wr.drew := by
  obtain ⟨A, c, bs, cs, h1, h2⟩ := H.out
  exact ⟨H.low.drew, H.blk, H.cp.drew, A, c, bs, cs, h1, h2.drew⟩
theorem LayW.only (H : LayW w n Bc gp gall a b pre xss wr) (ho : Only a b wr w2) (hc : Couples w2 0 n a b (fun i => pre'.getD i (-1)) (fun j => owP pre' (j : Int))) (ha : a < w.heap.size) (hb : b < w.heap.size) (hga : gall ≠ a) (hgb : gall ≠ b) : LayW w n Bc gp gall a b pre' xss w2 := by
  obtain ⟨A, c, bs, cs, h1, h2⟩ := H.out
  exact ⟨H.low.trans ho.low, fun k hk h3 h4 h5 => (ho.block k (Nat.lt_of_lt_of_le hk H.low.size) h3 h4).trans (H.blk k hk h3 h4 h5), hc, A, c, bs, cs, (ho.block gall h1.lt hga hgb).trans h1, h2.blocks fun k hk hkl => ho.block k hkl (by omega) (by omega)⟩
theorem LayW.cell (H : LayW w n Bc gp gall a b pre xss wr) {p : Addr} {v : Value} (hp : w.cell? p = some v) (h1 : p.block ≠ a) (h2 : p.block ≠ b) (h3 : p.block ≠ gall) : wr.cell? p = some v := by
  have := H.blk p.block (block_lt_of_cell hp) h1 h2 h3
  rw [← hp]; unfold World.cell?; rw [this]
theorem LayW.below (H : LayW w n Bc gp gall a b pre xss wr) {B : Nat} (hB : B ≤ w.heap.size) (h1 : B ≤ a) (h2 : B ≤ b) (h3 : B ≤ gall) : Below B w wr :=
  ⟨H.low.os, H.low.tape, H.low.output, H.low.size, fun k hk => H.blk k (by omega) (by omega) (by omega) (by omega)⟩
end
set_option maxRecDepth 100000 in
theorem Rows1.next2 {w x w2 : World} {base m i g cap : Nat} {v v' : Value} {bs cs : Nat → Nat} {f : Nat → Nat → Int} (h : Rows1 w base m i v bs cs f) (hx : Below w.heap.size w x)
    (hgb : w.heap.size ≤ g) (hrow : RowC x g m (f i)) (hb : base ≤ w.heap.size)
    (hg : x.grownBy w2 v.ownBlock) (ho : w2.ownsRow base 28 1 v' (i + 1) ((List.range i).map (rowS m bs cs) ++ [.slice (some ⟨g, 0, none⟩) m cap])) :
    Rows1 w2 base m (i + 1) v' (fun k => if k = i then g else bs k) (fun k => if k = i then cap else cs k) f := by
  have hvlt : ∀ k, v.ownBlock = some k → k < w.heap.size := fun k hk => (h.own.lt k hk).2
  refine ⟨?_, fun k hk => ?_, fun k l hkl hl => ?_⟩
  · have e : (List.range (i + 1)).map (rowS m (fun k => if k = i then g else bs k) (fun k => if k = i then cap else cs k)) = (List.range i).map (rowS m bs cs) ++ [.slice (some ⟨g, 0, none⟩) m cap] := by
      rw [List.range_succ, List.map_append]
      congr 1
      · refine List.map_congr_left fun k hk => ?_
        have : k ≠ i := by have := List.mem_range.1 hk; omega
        simp [rowS, this]
      · simp [rowS]
    rw [e]; exact ho
  · by_cases hki : k = i
    · subst hki
      simp only [if_true]
      refine ⟨by omega, hrow.of_block (hg.block _ hrow.lt fun he => ?_)⟩
      have := hvlt _ he.symm
      omega
    · simp only [if_neg hki]
      have hk' : k < i := by omega
      obtain ⟨p1, p2⟩ := h.row k hk'
      have hlt := p2.lt
      exact ⟨p1, p2.of_block ((hg.block _ (Nat.lt_of_lt_of_le hlt hx.size) (fun he => h.apart hk' he.symm)).trans (hx.block _ hlt))⟩
  · have hk' : k ≠ i := by omega
    simp only [if_neg hk']
    by_cases hli : l = i
    · subst hli
      simp only [if_true]
      have := (h.row k (by omega)).2.lt
      omega
    · simp only [if_neg hli]
      exact h.inc k l hkl (by omega)
theorem getDs_lt {k : Nat} {xss ys : List (List Int)} (hk : k < xss.length) : (xss ++ ys).getD k [] = xss.getD k [] := by rw [List.getD_eq_getElem?_getD, List.getElem?_append_left hk, ← List.getD_eq_getElem?_getD]
theorem getDs_at {p : List Int} {xss : List (List Int)} : (xss ++ [p]).getD xss.length [] = p := by rw [List.getD_eq_getElem?_getD, List.getElem?_append_right (Nat.le_refl _), Nat.sub_self]; rfl
set_option maxRecDepth 100000 in
theorem LayW.add {w w1 x w5 : World} {n Bc gp gall a b g cap c c' : Nat} {A A' : Option Addr} {bs cs : Nat → Nat} {pre : List Int} {xss : List (List Int)} (H : LayW w n Bc gp gall a b pre xss w1) (ha : a < w.heap.size) (hb : b < w.heap.size) (hgw : gall < w.heap.size) (hga : gall ≠ a) (hgb : gall ≠ b)
    (h1 : RowOf w1 gall 22 [.slice A xss.length c]) (h2 : Rows1 w1 w.heap.size n xss.length (.slice A xss.length c) bs cs (fun k j => (xss.getD k []).getD j (-1))) (hx : Below w1.heap.size w1 x) (hg1 : w1.heap.size ≤ g) (hr : RowC x g n (fun j => pre.getD j (-1)))
    (hgr : x.grownBy w5 (Value.slice A xss.length c).ownBlock) (ho : w5.ownsRow w.heap.size 28 1 (.slice A' (xss.length + 1) c') (xss.length + 1) ((List.range xss.length).map (rowS n bs cs) ++ [.slice (some ⟨g, 0, none⟩) n cap])) :
    LayW w n Bc gp gall a b pre (xss ++ [pre]) (w5.setCell ⟨gall, 0, none⟩ (.slice A' (xss.length + 1) c')) := by
  have hlow := H.low.size
  have hsm : ∀ k, k < w1.heap.size → k < w.heap.size → w5.heap[k]? = w1.heap[k]? := fun k hk hk2 => (hgr.block k (Nat.lt_of_lt_of_le hk hx.size) (fun e => by have := (h2.own.lt k e.symm).1; omega)).trans (hx.block k hk)
  have hBB : Below 0 w w5 := (H.low.trans (hx.mono (Nat.zero_le _))).grown hgr (Nat.zero_le _) (fun _ _ => Nat.zero_le _)
  have hsc : ∀ k, k ≠ gall → (w5.setCell ⟨gall, 0, none⟩ (.slice A' (xss.length + 1) c')).heap[k]? = w5.heap[k]? := fun k hk => Below.heap_setCell w5 _ _ k hk
  have hgl : w5.heap[gall]? = w1.heap[gall]? := hsm gall (by omega) hgw
  refine ⟨hBB.setCell (p := ⟨gall, 0, none⟩) (Nat.zero_le _) _, fun k hk h3 h4 h5 => (hsc k h5).trans ((hsm k (by omega) hk).trans (H.blk k hk h3 h4 h5)), ⟨Nat.zero_le _, Nat.zero_le _, H.cp.ne, H.cp.left.of_block ((hsc a (Ne.symm hga)).trans (hsm a (by omega) ha)), H.cp.right.of_block ((hsc b (Ne.symm hgb)).trans (hsm b (by omega) hb))⟩, ?_⟩
  have hlen : (xss ++ [pre]).length = xss.length + 1 := by simp
  have h3 : Rows1 w1 w.heap.size n xss.length (.slice A xss.length c) bs cs (fun k j => ((xss ++ [pre]).getD k []).getD j (-1)) := h2.congr fun k j hk _ => by rw [getDs_lt hk]
  have h4 := Rows1.next2 h3 hx hg1 (hr.congr fun j _ => by rw [getDs_at]) hlow hgr ho
  refine ⟨A', c', _, _, ?_, (by rw [hlen]; exact h4.blocks fun k hk _ => hsc k (by omega))⟩
  rw [hlen]
  exact RowOf.set_ (hgl.trans h1) 0 _
theorem ints_rowL {w : World} {a n B : Nat} {l : List Int} (h : RowC w a n (fun i => l.getD i (-1))) (hl : l.length = n) (ha : a < B) : IntsAt w B (some ⟨a, 0, none⟩) n l :=
  ⟨hl, fun _ => ⟨a, 0, rfl, ha, fun i x hx => by
    have hlt := (List.getElem?_eq_some_iff.1 hx).1
    rw [Nat.zero_add, h.cell (by omega), List.getD_eq_getElem?_getD, hx]; rfl⟩⟩

set_option maxRecDepth 100000 in
set_option maxHeartbeats 8000000 in
theorem lay_any (w : World) (n Bc gch gc gR gp gall glay a b : Nat) (Ls Rs : List (List Int)) (l : List Int) (W : WishOK n (sd Ls) (sd Rs)) (HBst : BestL n (sd Ls) (sd Rs) l) (hn : n ≤ 8)
    (hBc : Bc ≤ w.heap.size) (hBa : Bc ≤ a) (hBb : Bc ≤ b) (hBg : Bc ≤ gall) (ha : a < w.heap.size) (hb : b < w.heap.size) (hga : gall ≠ a) (hgb : gall ≠ b) (hgw : gall < w.heap.size)
    (S : SideAt w Bc (some ⟨gch, 0, none⟩) n n ((List.range n).map (chS Ls Rs l n))) (hD1 : DegAt w gR 0 (dgF Ls)) (hD2 : DegAt w gR 64 (dgF Rs)) (hgR : gR < Bc)
    (kc : w.cell? ⟨gc, 0, none⟩ = some (.slice (some ⟨gch, 0, none⟩) n n)) (hc1 : gc ≠ a ∧ gc ≠ b ∧ gc ≠ gall)
    (kp0 : w.cell? ⟨gp, 0, none⟩ = some (.slice (some ⟨a, 0, none⟩) n n)) (kp1 : w.cell? ⟨gp, 1, none⟩ = some (.slice (some ⟨b, 0, none⟩) n n)) (hp1 : gp ≠ a ∧ gp ≠ b ∧ gp ≠ gall)
    (kl : w.cell? ⟨glay, 0, none⟩ = some (.func (.func 39) #[] #[.pointer (some ⟨gc, 0, none⟩), .pointer (some ⟨gR, 0, none⟩), .pointer (some ⟨gp, 0, none⟩), .pointer (some ⟨gall, 0, none⟩), .pointer (some ⟨glay, 0, none⟩)])) (hl1 : glay ≠ a ∧ glay ≠ b ∧ glay ≠ gall) :
    ∀ (r i : Nat) (pre : List Int) (xss : List (List Int)) (wr : World), pre.length = i → i + r = n → PreOK n pre → LayW w n Bc gp gall a b pre xss wr → xss.length + 9 ^ r ≤ 50000000 →
    Calls Try.prog 39 #[.int .i64 (i : Int), .pointer (some ⟨gc, 0, none⟩), .pointer (some ⟨gR, 0, none⟩), .pointer (some ⟨gp, 0, none⟩), .pointer (some ⟨gall, 0, none⟩), .pointer (some ⟨glay, 0, none⟩)] wr fun e w' => e = .returned (.tuple #[]) ∧ LayW w n Bc gp gall a b pre (xss ++ allP (holdB n (sd Ls) (sd Rs)) n r pre) w' := by
  intro r
  induction r with
  | zero =>
    intro i pre xss wr hpl hin HP H hsz
    obtain rfl : i = n := by omega
    have hfull := HP.full hpl
    obtain ⟨q, hq⟩ : ∃ q, holdB i (sd Ls) (sd Rs) pre = q := ⟨_, rfl⟩
    have hq2 : q = true ↔ ∀ k, k < i → okL (dgF Ls) (dgF Rs) i (fun k => pre.getD k (-1)) (fun j => owP pre (j : Int)) k := by rw [okL_hold hn W hfull, ← hq, holdB_iff]
    have hbb := H.below hBc hBa hBb hBg
    have HHO := Lib.hid (holdsGo_any gR 0 i a b (dgF Ls) (dgF Rs) (fun k => pre.getD k (-1)) (fun j => owP pre (j : Int)) q wr (hD1.keep hbb hgR) (hD2.keep hbb hgR) (by have := H.low.size; omega) H.cp hn hfull.rng (fun j _ => ow_rng hfull.len (j : Int)) hq2)
    have cc := H.cell kc hc1.1 hc1.2.1 hc1.2.2
    have cp0 := H.cell kp0 hp1.1 hp1.2.1 hp1.2.2
    have cp1 := H.cell kp1 hp1.1 hp1.2.1 hp1.2.2
    have HH := Lib.hid H
    have HL := Lib.hid hpl
    have HKP := Lib.hid (And.intro kp0 (And.intro kp1 hp1))
    have hieq : ((i : Int) == (i : Int)) = true := by simp
    cases q with
    | false =>
      have HE : Hid (allP (holdB i (sd Ls) (sd Rs)) i 0 pre = []) := Lib.hid (by unfold allP; rw [hq]; rfl)
      clear hq2 hq HP H hfull hbb S hD1 hD2 W HBst kc kp0 kp1 kl
      go_enter Try.func39, Try.ntmps39
      go_wp2_with fail
      refine HHO.out.mono ?_
      rintro e w1 ⟨rfl, hb1⟩
      have HH1 := Lib.hid (HH.out.keep hb1)
      clear hb1 HHO
      go_wp2_with fail
      exact bodyPost_ret (v := .tuple #[]) (by simp [results, Try.results39, go_sem]) rfl ⟨rfl, by rw [HE.out, List.append_nil]; exact HH1.out⟩
    | true =>
      have HE : Hid (allP (holdB i (sd Ls) (sd Rs)) i 0 pre = [pre]) := Lib.hid (by unfold allP; rw [hq]; rfl)
      clear hq2 hq HP H hfull hbb S hD1 hD2 W HBst kc kp0 kp1 kl
      go_enter Try.func39, Try.ntmps39
      go_wp2_with fail
      refine HHO.out.mono ?_
      rintro e w1 ⟨rfl, hb1⟩
      have HH1 := Lib.hid (HH.out.keep hb1)
      have dp0 := HH1.out.cell HKP.out.1 hp1.1 hp1.2.1 hp1.2.2
      have dp1 := HH1.out.cell HKP.out.2.1 hp1.1 hp1.2.1 hp1.2.2
      clear hb1 HHO cc cp0 cp1
      go_wp2_with fail
      obtain ⟨A, c, bs, cs, r1, r2⟩ := HH1.out.out
      obtain ⟨cnt, hcnt⟩ : ∃ cnt, cnt = xss.length := ⟨_, rfl⟩
      have HCN := Lib.hid hcnt
      have ca := r1.cell (i := 0) rfl
      rw [← hcnt] at ca
      have HR1 := Lib.hid r1
      have HR2 := Lib.hid r2
      have hgl := r1.lt
      have hil := Lib.hid (ints_rowL (B := w1.heap.size) HH1.out.cp.left HL.out HH1.out.cp.left.lt)
      have HSZ := Lib.hid hsz
      obtain ⟨i0, hi0, hz0, hz1, hz2⟩ := info_parts infoIntsC
      have HI0 := Lib.hid hi0
      have HZ0 := Lib.hid hz0
      have HZ1 := Lib.hid hz1
      have HZ2 := Lib.hid hz2
      have HCL : Hid (∀ (w2 : World) (g i' cap : Nat), Below w1.drew.heap.size w1.drew w2 → Hid (w.heap.size ≤ w2.heap.size) ∧ Hid (w2.ownsRow w.heap.size 28 1 (.slice A cnt c) cnt ((List.range cnt).map (rowS i bs cs))) ∧ Hid (RowOf w2 gall 22 [.slice A cnt c]) ∧ w2.cell? ⟨gall, 0, none⟩ = some (.slice A cnt c) ∧ gall < w2.heap.size ∧ Hid (∀ w5, (w2.alloc (.cells #[.slice (some ⟨g, 0, none⟩) i' cap] 28)).grownBy w5 (Value.slice A cnt c).ownBlock → w5.cell? ⟨gall, 0, none⟩ = some (.slice A cnt c)) ∧ Hid (∀ w5, (w2.alloc (.cells #[.slice (some ⟨g, 0, none⟩) i' cap] 28)).grownBy w5 (Value.slice A cnt c).ownBlock → w5.frozen? ⟨gall, 0, none⟩ = false)) := Lib.hid (by
        intro w2 g i' cap hb
        have hb2 : Below w1.heap.size w1 w2 := (Below.refl _ w1).drew.trans hb
        have hrow := HR1.out.keep hb2
        have hown := (HR2.out.keep hb2).own
        rw [← hcnt] at hrow hown
        have hblk : ∀ w5, (w2.alloc (.cells #[.slice (some ⟨g, 0, none⟩) i' cap] 28)).grownBy w5 (Value.slice A cnt c).ownBlock → RowOf w5 gall 22 [.slice A cnt c] := fun w5 h5 =>
          (h5.block gall (by have := hrow.lt; simp; omega) (fun e => by have := (hown.lt gall e.symm).1; omega)).trans (hrow.alloc _)
        exact ⟨Lib.hid (Nat.le_trans HH1.out.low.size hb2.size), Lib.hid hown, Lib.hid hrow, hrow.cell (i := 0) rfl, hrow.lt, Lib.hid fun w5 h5 => (hblk w5 h5).cell (i := 0) rfl, Lib.hid fun w5 h5 => (hblk w5 h5).frozen 0⟩)
      clear hi0 hz0 hz1 hz2 r1 r2 hcnt hsz
      go_region_law (first
        | (refine step_append_lies _ (by rfl) (.tmp 15) (.tmp 19) 22 (by rfl) w.heap.size 28 i0 (.slice none 0 0) 1 24 Try.underlying22 HI0.out HZ0.out HZ1.out HZ2.out rfl (by decide) (.slice A cnt c) cnt ((List.range cnt).map (rowS i bs cs)) (by rfl) (HO2.out.alloc _) ⟨w2.heap.size, 0, none⟩ 1 1 [.slice (some ⟨g, 0, none⟩) i cap] (by rfl) (by rfl) (World.news_of_block (cs := #[.slice (some ⟨g, 0, none⟩) i cap]) (t := 28) (fr := (0, 0)) (heap_alloc_new w2 _)) (by simp [Value.oneCell']) (by decide) (by have := HSZ.out; have := HCN.out; unfold maxLen; omega) (by have := HSZ.out; have := HCN.out; omega) (by have := HB2.out; simp; omega) (w2.heap.size + 1) (by simp) ?_; intro g5 cap5 w5 hown5 hgrow5 hat5 hlt5; have cg5 : w5.cell? ⟨gall, 0, none⟩ = some (.slice A cnt c) := HG5.out w5 hgrow5; have fg5 : w5.frozen? ⟨gall, 0, none⟩ = false := HF5.out w5 hgrow5)
        | (go_simp; go_at_call 29; refine (clone_any i i ⟨a, 0, none⟩ pre _ (by exact hil.out) hn).mono ?_; rintro e w2 ⟨g, cap, rfl, hg2, hr2, _, _, hb2⟩; obtain ⟨HB2, HO2, HRR, cg2, hgl2, HG5, HF5⟩ := HCL.out w2 g i cap hb2))
      all_goals
        have HNX : Hid (LayW w i Bc gp gall a b pre (xss ++ [pre]) (w5.setCell ⟨gall, 0, none⟩ (.slice (some ⟨g5, 0, none⟩) (cnt + 1) cap5))) := Lib.hid (by
          have hcn := HCN.out
          subst hcn
          exact HH1.out.add ha hb hgw hga hgb HR1.out HR2.out (((Below.refl _ w1).drew.trans hb2).trans (((Below.refl _ w2).alloc (Nat.le_refl _) _).mono (by exact hb2.size))) hg2 ((hr2.of_block (Below.heap_alloc w2 _ g hr2.lt)).congr fun j hj => by rw [List.getD_eq_getElem?_getD, List.getD_eq_getElem?_getD, List.getElem?_eq_getElem (by have := HL.out; omega)]; rfl) hgrow5 hown5)
        go_wp2_with fail
        exact bodyPost_ret (v := .tuple #[]) (by simp [results, Try.results39, go_sem]) rfl ⟨rfl, by rw [HE.out]; exact HNX.out⟩
  | succ r IH =>
    intro i pre xss wr hpl hin HP H hsz
    have hil : i < n := by omega
    have HIH := Lib.hid IH
    have HPL := Lib.hid hpl
    have HPO := Lib.hid HP
    obtain ⟨bch, och, cl, A', c', hA, _, hcl, hcc, hI, _, _⟩ := S.get hil
    obtain ⟨rfl, rfl⟩ : gch = bch ∧ och = 0 := by
      injection hA with hA
      injection hA with h1 h2
      exact ⟨h1, h2.symm⟩
    rw [Nat.zero_add] at hcc
    have hce : cl = chS Ls Rs l n i := by
      rw [List.getElem?_map, List.getElem?_range hil] at hcl
      simp only [Option.map_some, Option.some.injEq] at hcl
      exact hcl.symm
    obtain ⟨q, hq⟩ : ∃ q : Int → List (List Int), q = fun x => allP (holdB n (sd Ls) (sd Rs)) n r (pre ++ [x]) := ⟨_, rfl⟩
    have HFL : Hid (allP (holdB n (sd Ls) (sd Rs)) n (r + 1) pre = cl.flatMap q) := Lib.hid (by rw [hce, hq, ← hpl]; exact flat_ch hn W HBst r (by omega))
    have hm8 : cl.length ≤ 8 := by rw [hce]; exact chF_len hn
    have HRNG : Hid (∀ x ∈ cl, x = -1 ∨ (0 ≤ x ∧ x < (n : Int))) := Lib.hid fun x hx => by
      rw [hce] at hx
      rcases chF_rng hx with h | h
      · by_cases h5 : x = -1
        · exact .inl h5
        · exact .inr ⟨by omega, h.2⟩
      · exact .inl h
    have HBB : Hid (∀ k, k < cl.length → (xss ++ (cl.take k).flatMap q).length ≤ xss.length + k * 9 ^ r → (xss ++ (cl.take k).flatMap q).length + 9 ^ r ≤ 50000000 ∧ (xss ++ (cl.take (k + 1)).flatMap q).length ≤ xss.length + (k + 1) * 9 ^ r) := Lib.hid fun k hk hb5 => by
      have e1 : 9 ^ (r + 1) = 9 * 9 ^ r := by rw [Nat.pow_succ, Nat.mul_comm]
      have e2 : (k + 1) * 9 ^ r ≤ 9 * 9 ^ r := Nat.mul_le_mul_right _ (by omega)
      have e3 : (k + 1) * 9 ^ r = k * 9 ^ r + 9 ^ r := Nat.succ_mul _ _
      refine ⟨by omega, ?_⟩
      rw [List.take_add_one, List.getElem?_eq_getElem hk, List.flatMap_append, ← List.append_assoc, List.length_append]
      have h6 : (List.flatMap q (some cl[k]).toList).length ≤ 9 ^ r := by
        have := allP_len (S := holdB n (sd Ls) (sd Rs)) hn r (pre ++ [cl[k]])
        simpa [hq] using this
      omega
    have cc := H.cell kc hc1.1 hc1.2.1 hc1.2.2
    have HBC := Lib.hid (fun W' pre' xss' (h : LayW w n Bc gp gall a b pre' xss' W') => h.below hBc hBa hBb hBg)
    have hgl : gch < Bc := by assumption
    have hcc' : wr.cell? ⟨gch, i, none⟩ = some (.slice A' cl.length c') := ((HBC.out wr _ _ H).cell (p := ⟨gch, i, none⟩) hgl).trans hcc
    have hne : ((i : Int) == (n : Int)) = false := by simp; omega
    have hne2 : ¬ ((i : Int) = (n : Int)) := by omega
    have ii0 : (0 : Int) ≤ (i : Int) := by omega
    have ii1 : (i : Int) < (n : Int) := by omega
    have HII := Lib.hid hI
    have HST := Lib.hid (And.intro kc (And.intro kp0 (And.intro kp1 kl)))
    have HS0 : Hid (LayW w n Bc gp gall a b pre (xss ++ (cl.take 0).flatMap q) wr ∧ (xss ++ (cl.take 0).flatMap q).length ≤ xss.length + 0 * 9 ^ r) := Lib.hid (by simpa using H)
    obtain ⟨m, hm⟩ : ∃ m, m = cl.length := ⟨_, rfl⟩
    rw [← hm] at hcc' hm8
    have HM := Lib.hid hm
    have HQ := Lib.hid hq
    clear IH H HP hsz S hD1 hD2 W HBst kc kp0 kp1 kl hcl hcc hI hce hA hm hpl
    go_enter Try.func39, Try.ntmps39
    go_wp2_with fail
    clear cc hcc'
    go_loopw [26] (fun t wr => ∃ k : Nat, k ≤ m ∧ t = .int .i64 k ∧ Hid (LayW w n Bc gp gall a b pre (xss ++ (cl.take k).flatMap q) wr ∧ (xss ++ (cl.take k).flatMap q).length ≤ xss.length + k * 9 ^ r)) (fun t _ => m - (intOf t).toNat)
    case atStart => exact ⟨0, Nat.zero_le _, rfl, HS0⟩
    case round =>
      clear HS0
      obtain ⟨k, hk, rfl, HR⟩ := hrel
      by_cases hkm : k < m
      · have hkl : k < cl.length := by rw [← HM.out]; exact hkm
        obtain ⟨b2, o2, x, hA2, hb2, hx, hcx⟩ := HII.out.at_ hkl
        subst hA2
        have hcx' : wr.cell? ⟨b2, o2 + k, none⟩ = some (.int .i64 x) := ((HBC.out wr _ _ HR.out.1).cell (p := ⟨b2, o2 + k, none⟩) hb2).trans hcx
        have kk0 : (0 : Int) ≤ (k : Int) := by omega
        have kk1 : (k : Int) < (m : Int) := by omega
        have cp0 := HR.out.1.cell HST.out.2.1 hp1.1 hp1.2.1 hp1.2.2
        have cp1 := HR.out.1.cell HST.out.2.2.1 hp1.1 hp1.2.1 hp1.2.2
        have hxr := HRNG.out x (List.mem_of_getElem? hx)
        have HX := Lib.hid hx
        clear hx hcx
        rcases hxr with rfl | ⟨hx0, hx1⟩
        · have HJ := Lib.hid (join_any 0 n a b i (-1) _ _ wr HR.out.1.cp hil (.inl rfl))
          have HSTEP : Hid (∀ w2, Couples w2 0 n a b (updF (fun k => pre.getD k (-1)) i (-1)) (updJ (fun j => owP pre (j : Int)) (-1) (i : Int)) → Only a b wr w2 → LayW w n Bc gp gall a b (pre ++ [(-1)]) (xss ++ (cl.take k).flatMap q) w2) := Lib.hid fun w2 h1 h2 => HR.out.1.only h2 (h1.congr (fun t _ => by rw [← HPL.out, join_f]) fun t _ => by rw [← HPL.out]; exact join_h (.inl rfl) t) ha hb hga hgb
          have HPN := Lib.hid (HPO.out.next (by rw [HPL.out]; exact hil) (.inl rfl) (.inl rfl))
          have HBND : Hid ((xss ++ (cl.take k).flatMap q).length + 9 ^ r ≤ 50000000 ∧ (xss ++ (cl.take (k + 1)).flatMap q).length ≤ xss.length + (k + 1) * 9 ^ r) := Lib.hid (HBB.out k hkl HR.out.2)
          have HNEXT : Hid ((cl.take (k + 1)).flatMap q = (cl.take k).flatMap q ++ allP (holdB n (sd Ls) (sd Rs)) n r (pre ++ [(-1)])) := Lib.hid (by rw [List.take_add_one, HX.out, List.flatMap_append]; simp [HQ.out])
          have HKL := Lib.hid hkl
          clear HR
          go_wp2_with fail
          refine HJ.out.mono ?_
          rintro e w2 ⟨rfl, hc2, ho2⟩
          have H2 := Lib.hid (HSTEP.out w2 hc2 ho2)
          have ll := H2.out.cell HST.out.2.2.2 hl1.1 hl1.2.1 hl1.2.2
          clear hc2 ho2 HJ HSTEP cp0 cp1
          go_wp2_with fail
          refine (HIH.out (i + 1) (pre ++ [(-1)]) _ w2 (by rw [List.length_append, HPL.out]; rfl) (by omega) (by exact HPN.out) (by exact H2.out) (by exact HBND.out.1)).mono ?_
          rintro e w3 ⟨rfl, hw3⟩
          have H3 := Lib.hid hw3
          have dp0 := H3.out.cell HST.out.2.1 hp1.1 hp1.2.1 hp1.2.2
          have dp1 := H3.out.cell HST.out.2.2.1 hp1.1 hp1.2.1 hp1.2.2
          clear hw3 ll
          go_wp2_with fail
          refine (part_any 0 n a b i (-1) _ _ w3 (by exact H3.out.cp) hil (by show (pre ++ [(-1)]).getD i (-1) = (-1); rw [← HPL.out]; exact pre_at) (.inl rfl)).mono ?_
          rintro e w4 ⟨rfl, hc4, ho4⟩
          have H4 : Hid (LayW w n Bc gp gall a b pre (xss ++ (cl.take (k + 1)).flatMap q) w4) := Lib.hid (by
            rw [HNEXT.out, ← List.append_assoc]
            exact H3.out.only ho4 (hc4.congr (fun t _ => by rw [← HPL.out]; exact part_f t) fun t _ => part_h (.inl rfl) t) ha hb hga hgb)
          clear hc4 ho4 dp0 dp1 H2 H3 HPN HNEXT
          go_wp2_with fail
          go_roundw
          case rel => exact ⟨k + 1, by have := HKL.out; omega, by go_num, Lib.hid ⟨H4.out, HBND.out.2⟩⟩
          case measure => have := HKL.out; simp [intOf]; omega
        · obtain ⟨j, rfl⟩ := Int.eq_ofNat_of_zero_le hx0
          have hj : j < n := by omega
          obtain ⟨o, ho⟩ : ∃ o, owP pre (j : Int) = o := ⟨_, rfl⟩
          have cb : wr.cell? ⟨b, j, none⟩ = some (.int .i64 o) := by rw [← ho]; exact HR.out.1.cp.right.cell hj
          have hjn : ((j : Int) == -1) = false := by simp
          have hjn2 : ¬ ((j : Int) = -1) := by omega
          by_cases ho1 : o = -1
          · have hnm : (j : Int) ∉ pre := (free_iff j).1 (ho.trans ho1)
            subst ho1
            clear ho
            have HJ := Lib.hid (join_any 0 n a b i (j : Int) _ _ wr HR.out.1.cp hil (.inr ⟨by omega, by omega⟩))
            have HSTEP : Hid (∀ w2, Couples w2 0 n a b (updF (fun k => pre.getD k (-1)) i (j : Int)) (updJ (fun j => owP pre (j : Int)) (j : Int) (i : Int)) → Only a b wr w2 → LayW w n Bc gp gall a b (pre ++ [(j : Int)]) (xss ++ (cl.take k).flatMap q) w2) := Lib.hid fun w2 h1 h2 => HR.out.1.only h2 (h1.congr (fun t _ => by rw [← HPL.out, join_f]) fun t _ => by rw [← HPL.out]; exact join_h (.inr hnm) t) ha hb hga hgb
            have HPN := Lib.hid (HPO.out.next (by rw [HPL.out]; exact hil) (.inr ⟨by omega, by omega⟩) (.inr hnm))
            have HBND : Hid ((xss ++ (cl.take k).flatMap q).length + 9 ^ r ≤ 50000000 ∧ (xss ++ (cl.take (k + 1)).flatMap q).length ≤ xss.length + (k + 1) * 9 ^ r) := Lib.hid (HBB.out k hkl HR.out.2)
            have HNEXT : Hid ((cl.take (k + 1)).flatMap q = (cl.take k).flatMap q ++ allP (holdB n (sd Ls) (sd Rs)) n r (pre ++ [(j : Int)])) := Lib.hid (by rw [List.take_add_one, HX.out, List.flatMap_append]; simp [HQ.out])
            have HKL := Lib.hid hkl
            clear HR
            go_wp2_with fail
            refine HJ.out.mono ?_
            rintro e w2 ⟨rfl, hc2, ho2⟩
            have H2 := Lib.hid (HSTEP.out w2 hc2 ho2)
            have ll := H2.out.cell HST.out.2.2.2 hl1.1 hl1.2.1 hl1.2.2
            clear hc2 ho2 HJ HSTEP cp0 cp1
            go_wp2_with fail
            refine (HIH.out (i + 1) (pre ++ [(j : Int)]) _ w2 (by rw [List.length_append, HPL.out]; rfl) (by omega) (by exact HPN.out) (by exact H2.out) (by exact HBND.out.1)).mono ?_
            rintro e w3 ⟨rfl, hw3⟩
            have H3 := Lib.hid hw3
            have dp0 := H3.out.cell HST.out.2.1 hp1.1 hp1.2.1 hp1.2.2
            have dp1 := H3.out.cell HST.out.2.2.1 hp1.1 hp1.2.1 hp1.2.2
            clear hw3 ll
            go_wp2_with fail
            refine (part_any 0 n a b i (j : Int) _ _ w3 (by exact H3.out.cp) hil (by show (pre ++ [(j : Int)]).getD i (-1) = (j : Int); rw [← HPL.out]; exact pre_at) (.inr ⟨by omega, by omega⟩)).mono ?_
            rintro e w4 ⟨rfl, hc4, ho4⟩
            have H4 : Hid (LayW w n Bc gp gall a b pre (xss ++ (cl.take (k + 1)).flatMap q) w4) := Lib.hid (by
              rw [HNEXT.out, ← List.append_assoc]
              exact H3.out.only ho4 (hc4.congr (fun t _ => by rw [← HPL.out]; exact part_f t) fun t _ => part_h (.inr hnm) t) ha hb hga hgb)
            clear hc4 ho4 dp0 dp1 H2 H3 HPN HNEXT
            go_wp2_with fail
            go_roundw
            case rel => exact ⟨k + 1, by have := HKL.out; omega, by go_num, Lib.hid ⟨H4.out, HBND.out.2⟩⟩
            case measure => have := HKL.out; simp [intOf]; omega
          · have hon : (o == -1) = false := by simpa using ho1
            have hmm : (j : Int) ∈ pre := by
              apply Classical.byContradiction
              intro h
              exact ho1 (by rw [← ho]; exact (free_iff j).2 h)
            have HN : Hid (LayW w n Bc gp gall a b pre (xss ++ (cl.take (k + 1)).flatMap q) wr ∧ (xss ++ (cl.take (k + 1)).flatMap q).length ≤ xss.length + (k + 1) * 9 ^ r) := Lib.hid (by
              have e : (cl.take (k + 1)).flatMap q = (cl.take k).flatMap q := by
                rw [List.take_add_one, HX.out, List.flatMap_append]
                have : q (j : Int) = [] := by rw [HQ.out]; exact all_taken (by omega) hmm
                simp [this]
              refine ⟨by rw [e]; exact HR.out.1, (HBB.out k hkl HR.out.2).2⟩)
            have HKM := Lib.hid hkm
            clear HR ho hmm
            go_wp2_with fail
            go_roundw
            case rel => exact ⟨k + 1, by have := HKM.out; omega, by go_num, HN⟩
            case measure => have := HKM.out; simp [intOf]; omega
      · obtain rfl : k = m := by omega
        have HE : Hid (LayW w n Bc gp gall a b pre (xss ++ allP (holdB n (sd Ls) (sd Rs)) n (r + 1) pre) wr) := Lib.hid (by
          rw [HFL.out]
          have h5 := HR.out.1
          rw [List.take_of_length_le (by rw [HM.out]; exact Nat.le_refl _)] at h5
          exact h5)
        clear HR
        go_wp2_with fail
        go_end0
        exact ⟨rfl, HE.out⟩
end Go.Proofs.Ytmelgnfhocofiaa
