/- colour.Least's closure: it goes through all colourings that begin so. Conditions: at most ten nodes. -/
import Derived.Test.YticickicfigpbaaFewFirstP
import Derived.Test.YticickicfigpbaaNatG
import Derived.Test.YticickicfigpbaaCloneI
import Derived.Test.YticickicfigpbaaNeigh
import Derived.Test.YticickicfigpbaaLooseP
import Derived.Test.YticickicfigpbaaMakesU
import Derived.Laws.EntriesVeiled
namespace Go.Proofs.Yticickicfigpbaa
open Go.RowKit

structure LeaW (w : World) (n gL gB gC gS : Nat) (l : List Nat) (S : Nat → Nat) (K : Nat) (B : List Nat) (wr : World) : Prop where
  low : Below 0 w wr
  blk : ∀ b, b < w.heap.size → b ≠ gL → b ≠ gB → b ≠ gC → b ≠ gS → wr.heap[b]? = w.heap[b]?
  least : RowOf wr gL 3 [.int .i64 (K : Int)]
  best : ∃ A c, RowOf wr gB 25 [.slice A B.length c] ∧ B.length ≤ c ∧ (0 < B.length → ∃ g, A = some ⟨g, 0, none⟩ ∧ w.heap.size ≤ g ∧ RowC wr g B.length (fun j => ((B.getD j 0 : Nat) : Int)))
  col : ∃ X : List Int, l.length + X.length = n ∧ RowOf wr gC 3 ((natG l ++ X).map (Value.int .i64))
  sets : RowOf wr gS 38 (((List.range n).map S).map u32V)
theorem updS_set {n c : Nat} (S : Nat → Nat) (x : Nat) : ((List.range n).map S).set c x = (List.range n).map (updS S c x) := by
  apply List.ext_getElem
  · simp
  · intro j h1 h2
    rw [List.getElem_set]
    simp only [List.getElem_map, List.getElem_range]
    unfold updS
    by_cases h : c = j
    · rw [if_pos h, if_pos h.symm]
    · rw [if_neg h, if_neg fun e => h e.symm]
section
variable {w wr w2 : World} {n gL gB gC gS : Nat} {l B : List Nat} {S : Nat → Nat} {K c : Nat}
theorem LeaW.cell (H : LeaW w n gL gB gC gS l S K B wr) {p : Addr} {v : Value} (hp : w.cell? p = some v) (h1 : p.block ≠ gL) (h2 : p.block ≠ gB) (h3 : p.block ≠ gC) (h4 : p.block ≠ gS) : wr.cell? p = some v := by
  have := H.blk p.block (block_lt_of_cell hp) h1 h2 h3 h4
  rw [← hp]; unfold World.cell?; rw [this]
theorem LeaW.drew (H : LeaW w n gL gB gC gS l S K B wr) : LeaW w n gL gB gC gS l S K B wr.drew := by
  obtain ⟨A, c, h1, h2, h3⟩ := H.best
  exact ⟨H.low.drew, H.blk, H.least, ⟨A, c, h1, h2, h3⟩, H.col, H.sets⟩
/-- A row of its own is changed. -/
theorem LeaW.far (H : LeaW w n gL gB gC gS l S K B wr) {g i : Nat} (v : Value) (hg : g < w.heap.size) (hL : gL ≠ g) (hB : gB ≠ g) (hq : g = gC ∨ g = gS) :
    Below 0 w (wr.setCell ⟨g, i, none⟩ v) ∧ (∀ b, b < w.heap.size → b ≠ gL → b ≠ gB → b ≠ gC → b ≠ gS → (wr.setCell ⟨g, i, none⟩ v).heap[b]? = w.heap[b]?) ∧ RowOf (wr.setCell ⟨g, i, none⟩ v) gL 3 [.int .i64 (K : Int)] ∧
    ∃ A c, RowOf (wr.setCell ⟨g, i, none⟩ v) gB 25 [.slice A B.length c] ∧ B.length ≤ c ∧ (0 < B.length → ∃ g', A = some ⟨g', 0, none⟩ ∧ w.heap.size ≤ g' ∧ RowC (wr.setCell ⟨g, i, none⟩ v) g' B.length (fun j => ((B.getD j 0 : Nat) : Int))) := by
  obtain ⟨A, c, h1, h2, h3⟩ := H.best
  refine ⟨H.low.setCell (p := ⟨g, i, none⟩) (Nat.zero_le _) _, fun b hb q1 q2 q3 q4 => (Below.heap_setCell wr ⟨g, i, none⟩ _ b (by rcases hq with rfl | rfl <;> assumption)).trans (H.blk b hb q1 q2 q3 q4), H.least.far (p := ⟨g, i, none⟩) hL _, A, c, h1.far (p := ⟨g, i, none⟩) hB _, h2, fun hp => ?_⟩
  obtain ⟨g', e, hg', hr⟩ := h3 hp
  exact ⟨g', e, hg', hr.of_block (Below.heap_setCell wr ⟨g, i, none⟩ _ g' (by show g' ≠ g; omega))⟩
theorem LeaW.getS (H : LeaW w n gL gB gC gS l S K B wr) (hc : c < n) : wr.cell? ⟨gS, c, none⟩ = some (.int .u32 ((S c : Nat) : Int)) := H.sets.cell (by simp [hc, u32V])
theorem LeaW.setS (H : LeaW w n gL gB gC gS l S K B wr) (hg : gS < w.heap.size) (hL : gL ≠ gS) (hB : gB ≠ gS) (hC : gC ≠ gS) (c x : Nat) : LeaW w n gL gB gC gS l (updS S c x) K B (wr.setCell ⟨gS, c, none⟩ (.int .u32 (x : Int))) := by
  obtain ⟨a1, a2, a3, a4⟩ := H.far (i := c) (.int .u32 (x : Int)) hg hL hB (.inr rfl)
  obtain ⟨X, h1, h2⟩ := H.col
  refine ⟨a1, a2, a3, a4, ⟨X, h1, h2.far (p := ⟨gS, c, none⟩) hC _⟩, ?_⟩
  have h := H.sets.set_ c (u32V x)
  rw [← List.map_set, updS_set] at h
  exact h
theorem LeaW.hasC (H : LeaW w n gL gB gC gS l S K B wr) {i : Nat} (hi : i < n) : ∃ v, wr.cell? ⟨gC, i, none⟩ = some v := by
  obtain ⟨X, h, hr⟩ := H.col
  have hl : i < ((natG l ++ X).map (Value.int .i64)).length := by rw [List.length_map, List.length_append]; simp only [natG, List.length_map]; omega
  exact ⟨_, hr.cell (List.getElem?_eq_getElem hl)⟩
theorem LeaW.put (H : LeaW w n gL gB gC gS l S K B wr) (hg : gC < w.heap.size) (hL : gL ≠ gC) (hB : gB ≠ gC) (hS : gS ≠ gC) (hl : l.length < n) (c : Nat) : LeaW w n gL gB gC gS (l ++ [c]) S K B (wr.setCell ⟨gC, l.length, none⟩ (.int .i64 (c : Int))) := by
  obtain ⟨a1, a2, a3, a4⟩ := H.far (i := l.length) (.int .i64 (c : Int)) hg hL hB (.inl rfl)
  obtain ⟨X, h1, h2⟩ := H.col
  refine ⟨a1, a2, a3, a4, ?_, H.sets.far (p := ⟨gC, l.length, none⟩) hS _⟩
  cases X with
  | nil => simp at h1; omega
  | cons y X =>
    refine ⟨X, by simp at h1 ⊢; omega, ?_⟩
    have h := h2.set_ l.length (.int .i64 (c : Int))
    have e : (natG l).length = l.length := by simp [natG]
    rw [← List.map_set, ← e, List.set_append_right _ _ (Nat.le_refl _), Nat.sub_self, List.set_cons_zero, e] at h
    have e2 : natG (l ++ [c]) ++ X = natG l ++ (c : Int) :: X := by simp [natG]
    rw [e2]
    exact h
theorem LeaW.drop (H : LeaW w n gL gB gC gS (l ++ [c]) S K B wr) : LeaW w n gL gB gC gS l S K B wr := by
  obtain ⟨X, h1, h2⟩ := H.col
  refine ⟨H.low, H.blk, H.least, H.best, ⟨(c : Int) :: X, by simp at h1 ⊢; omega, ?_⟩, H.sets⟩
  have e2 : natG (l ++ [c]) ++ X = natG l ++ (c : Int) :: X := by simp [natG]
  rw [← e2]
  exact h2
end
/-- A whole colouring is taken. -/
theorem LeaW.took {w wr w1 : World} {n gL gB gC gS g cap : Nat} {l B : List Nat} {S : Nat → Nat} {K u : Nat} (H : LeaW w n gL gB gC gS l S K B wr) (hlen : l.length = n) (hb : Below wr.heap.size wr w1) (hg : wr.heap.size ≤ g) (hr : RowC w1 g n (fun j => (natG l).getD j 0)) (hcap : n ≤ cap)
    (hgL : gL < w.heap.size) (hgB : gB < w.heap.size) (_hgC : gC < w.heap.size) (_hgS : gS < w.heap.size) (hLB : gL ≠ gB) (hLC : gL ≠ gC) (hLS : gL ≠ gS) (hBC : gB ≠ gC) (hBS : gB ≠ gS) :
    LeaW w n gL gB gC gS l S u l ((w1.setCell ⟨gL, 0, none⟩ (.int .i64 (u : Int))).setCell ⟨gB, 0, none⟩ (.slice (some ⟨g, 0, none⟩) n cap)) := by
  have hsz := H.low.size
  have hfar : ∀ b, b ≠ gL → b ≠ gB → ((w1.setCell ⟨gL, 0, none⟩ (.int .i64 (u : Int))).setCell ⟨gB, 0, none⟩ (.slice (some ⟨g, 0, none⟩) n cap)).heap[b]? = w1.heap[b]? := fun b h1 h2 => (Below.heap_setCell _ ⟨gB, 0, none⟩ _ b h2).trans (Below.heap_setCell _ ⟨gL, 0, none⟩ _ b h1)
  obtain ⟨A, c, h1, _, _⟩ := H.best
  obtain ⟨X, h2, h3⟩ := H.col
  refine ⟨((H.low.trans (hb.mono (Nat.zero_le _))).setCell (p := ⟨gL, 0, none⟩) (Nat.zero_le _) _).setCell (p := ⟨gB, 0, none⟩) (Nat.zero_le _) _, fun b hbw q1 q2 q3 q4 => (hfar b q1 q2).trans ((hb.block b (by omega)).trans (H.blk b hbw q1 q2 q3 q4)), ?_, ⟨some ⟨g, 0, none⟩, cap, ?_, by omega, fun _ => ⟨g, rfl, by omega, ?_⟩⟩, ⟨X, h2, (hfar gC (Ne.symm hLC) (Ne.symm hBC)).trans (h3.keep hb)⟩, (hfar gS (Ne.symm hLS) (Ne.symm hBS)).trans (H.sets.keep hb)⟩
  · have h := (H.least.keep hb).set_ 0 (.int .i64 (u : Int))
    exact (h.far (p := ⟨gB, 0, none⟩) hLB _)
  · have h := ((h1.keep hb).far (p := ⟨gL, 0, none⟩) (Ne.symm hLB) (.int .i64 (u : Int))).set_ 0 (.slice (some ⟨g, 0, none⟩) n cap)
    rw [hlen]
    exact h
  · rw [hlen]
    refine (hr.of_block (hfar g (by omega) (by omega))).congr fun j _ => ?_
    rw [List.getD_eq_getElem?_getD, List.getD_eq_getElem?_getD]
    unfold natG
    rw [List.getElem?_map]
    cases l[j]? <;> rfl
set_option maxRecDepth 100000 in
set_option maxHeartbeats 8000000 in
theorem paintGo_any (w : World) (n gL gG gCb gB gSb gA gF gC gS ba cA : Nat) (nb : Nat → Nat) (adj : Nat → Nat → Bool) (hn : n ≤ 10) (hnb : ∀ b i, b < n → (nb b).testBit i = adj b i) (hsy : ∀ i j, adj i j = adj j i) (hnl : ∀ b, nb b < 1024)
    (kG : w.cell? ⟨gG, 0, none⟩ = some (.int .i64 (n : Int))) (kC : w.cell? ⟨gCb, 0, none⟩ = some (.slice (some ⟨gC, 0, none⟩) n n)) (kS : w.cell? ⟨gSb, 0, none⟩ = some (.slice (some ⟨gS, 0, none⟩) n n)) (kA : w.cell? ⟨gA, 0, none⟩ = some (.slice (some ⟨ba, 0, none⟩) n cA)) (kN : ∀ i, i < n → w.cell? ⟨ba, i, none⟩ = some (.int .u32 ((nb i : Nat) : Int)))
    (kF : w.cell? ⟨gF, 0, none⟩ = some (.func (.func 33) #[] #[.pointer (some ⟨gL, 0, none⟩), .pointer (some ⟨gG, 0, none⟩), .pointer (some ⟨gCb, 0, none⟩), .pointer (some ⟨gB, 0, none⟩), .pointer (some ⟨gSb, 0, none⟩), .pointer (some ⟨gA, 0, none⟩), .pointer (some ⟨gF, 0, none⟩)]))
    (hF : ∀ b, b = gG ∨ b = gCb ∨ b = gSb ∨ b = gA ∨ b = ba ∨ b = gF → b ≠ gL ∧ b ≠ gB ∧ b ≠ gC ∧ b ≠ gS) (hgL : gL < w.heap.size) (hgB : gB < w.heap.size) (hgC : gC < w.heap.size) (hgS : gS < w.heap.size) (hLB : gL ≠ gB) (hLC : gL ≠ gC) (hLS : gL ≠ gS) (hBC : gB ≠ gC) (hBS : gB ≠ gS) (hCS : gC ≠ gS) :
    ∀ (r b : Nat) (l : List Nat) (u : Nat) (S : Nat → Nat) (K : Nat) (B : List Nat) (wr : World), l.length = b → b + r = n → PartL adj u l → u ≤ b → ClsP l S → K ≤ n + 1 → LeaW w n gL gB gC gS l S K B wr →
    Calls Try.prog 33 #[.int .i64 (b : Int), .int .i64 (u : Int), .pointer (some ⟨gL, 0, none⟩), .pointer (some ⟨gG, 0, none⟩), .pointer (some ⟨gCb, 0, none⟩), .pointer (some ⟨gB, 0, none⟩), .pointer (some ⟨gSb, 0, none⟩), .pointer (some ⟨gA, 0, none⟩), .pointer (some ⟨gF, 0, none⟩)] wr fun e w' =>
      e = .returned (.tuple #[]) ∧ ∃ K' B', FewS adj r l u K B K' B' ∧ K' ≤ n + 1 ∧ LeaW w n gL gB gC gS l S K' B' w' := by
  have HFR : Hid (∀ b, b = gG ∨ b = gCb ∨ b = gSb ∨ b = gA ∨ b = ba ∨ b = gF → b ≠ gL ∧ b ≠ gB ∧ b ≠ gC ∧ b ≠ gS) := Lib.hid hF
  have HKS := Lib.hid (And.intro kG (And.intro kC (And.intro kS (And.intro kA (And.intro kN kF)))))
  have HG := Lib.hid (fun l S K B W (h : LeaW w n gL gB gC gS l S K B W) => h.cell HKS.out.1 (HFR.out gG (.inl rfl)).1 (HFR.out gG (.inl rfl)).2.1 (HFR.out gG (.inl rfl)).2.2.1 (HFR.out gG (.inl rfl)).2.2.2)
  have HC := Lib.hid (fun l S K B W (h : LeaW w n gL gB gC gS l S K B W) => h.cell HKS.out.2.1 (HFR.out gCb (.inr (.inl rfl))).1 (HFR.out gCb (.inr (.inl rfl))).2.1 (HFR.out gCb (.inr (.inl rfl))).2.2.1 (HFR.out gCb (.inr (.inl rfl))).2.2.2)
  have HS := Lib.hid (fun l S K B W (h : LeaW w n gL gB gC gS l S K B W) => h.cell HKS.out.2.2.1 (HFR.out gSb (.inr (.inr (.inl rfl)))).1 (HFR.out gSb (.inr (.inr (.inl rfl)))).2.1 (HFR.out gSb (.inr (.inr (.inl rfl)))).2.2.1 (HFR.out gSb (.inr (.inr (.inl rfl)))).2.2.2)
  have HA := Lib.hid (fun l S K B W (h : LeaW w n gL gB gC gS l S K B W) => h.cell HKS.out.2.2.2.1 (HFR.out gA (.inr (.inr (.inr (.inl rfl))))).1 (HFR.out gA (.inr (.inr (.inr (.inl rfl))))).2.1 (HFR.out gA (.inr (.inr (.inr (.inl rfl))))).2.2.1 (HFR.out gA (.inr (.inr (.inr (.inl rfl))))).2.2.2)
  have HN := Lib.hid (fun i (hi : i < n) l S K B W (h : LeaW w n gL gB gC gS l S K B W) => h.cell (HKS.out.2.2.2.2.1 i hi) (HFR.out ba (.inr (.inr (.inr (.inr (.inl rfl)))))).1 (HFR.out ba (.inr (.inr (.inr (.inr (.inl rfl)))))).2.1 (HFR.out ba (.inr (.inr (.inr (.inr (.inl rfl)))))).2.2.1 (HFR.out ba (.inr (.inr (.inr (.inr (.inl rfl)))))).2.2.2)
  have HFN := Lib.hid (fun l S K B W (h : LeaW w n gL gB gC gS l S K B W) => h.cell HKS.out.2.2.2.2.2 (HFR.out gF (.inr (.inr (.inr (.inr (.inr rfl)))))).1 (HFR.out gF (.inr (.inr (.inr (.inr (.inr rfl)))))).2.1 (HFR.out gF (.inr (.inr (.inr (.inr (.inr rfl)))))).2.2.1 (HFR.out gF (.inr (.inr (.inr (.inr (.inr rfl)))))).2.2.2)
  have HNB := Lib.hid (And.intro hnb (And.intro hsy hnl))
  clear kG kC kS kA kN kF hF hnb hsy hnl
  intro r
  induction r with
  | zero =>
    intro b l u S K B wr hlb hbn hP hub hCl hK H
    obtain rfl : b = n := by omega
    have HH := Lib.hid H
    have cL := H.least.cell (i := 0) rfl
    by_cases hKu : K ≤ u
    · have hge : (K : Int) ≤ (u : Int) := by omega
      have HFS : Hid (FewS adj 0 l u K B K B) := Lib.hid (FewS.prune hKu)
      have HKB := Lib.hid hK
      clear H hP hCl hKu
      go_enter Try.func33, Try.ntmps33
      go_wp2_with fail
      exact bodyPost_ret (v := .tuple #[]) (by simp [results, Try.results33, go_sem]) rfl ⟨rfl, K, B, HFS.out, HKB.out, HH.out⟩
    · have hge : ¬ (K : Int) ≤ (u : Int) := by omega
      have HFS : Hid (FewS adj 0 l u K B u l) := Lib.hid (FewS.full (by omega))
      have HKB : Hid (u ≤ b + 1) := Lib.hid (by omega)
      have cG := HG.out _ _ _ _ _ H
      have cC := HC.out _ _ _ _ _ H
      have hee : ((b : Int) == (b : Int)) = true := by simp
      have hlow := H.low.size
      have HIN : Hid (IntsAt wr wr.heap.size (some ⟨gC, 0, none⟩) b (natG l)) := Lib.hid (by
        obtain ⟨X, h1, h2⟩ := H.col
        obtain rfl : X = [] := List.length_eq_zero_iff.1 (by omega)
        rw [List.append_nil] at h2
        have h := IntsAt.of_row (B := wr.heap.size) h2 h2.lt
        rw [show (natG l).length = b by simp [natG, hlb]] at h
        exact h)
      have HLB := Lib.hid hlb
      obtain ⟨A, c, hbest, _, _⟩ := H.best
      have HBE := Lib.hid hbest
      clear H hP hCl hKu hbest hlb
      go_enter Try.func33, Try.ntmps33
      go_wp2_with fail
      refine (clone_up b b ⟨gC, 0, none⟩ (natG l) wr HIN.out (by omega)).mono ?_
      rintro e w1 ⟨g, cap, rfl, hg, hr, hcap, _, hb⟩
      have HTK : Hid (LeaW w b gL gB gC gS l S u l ((w1.setCell ⟨gL, 0, none⟩ (.int .i64 (u : Int))).setCell ⟨gB, 0, none⟩ (.slice (some ⟨g, 0, none⟩) b cap))) := Lib.hid (HH.out.took HLB.out hb hg hr hcap hgL hgB hgC hgS hLB hLC hLS hBC hBS)
      have rL := HH.out.least.keep hb
      have rB := HBE.out.keep hb
      have dL := rL.cell (i := 0) rfl
      have fL := rL.frozen 0
      have dB := rB.cell (i := 0) rfl
      have fB := rB.frozen 0
      clear hb hr cL cC cG rL rB hg
      go_wp2_with fail
      exact bodyPost_ret (v := .tuple #[]) (by simp [results, Try.results33, go_sem]) rfl ⟨rfl, u, l, HFS.out, HKB.out, HTK.out⟩
  | succ r IH =>
    intro b l u S K B wr hlb hbn hP hub hCl hK H
    have hbn2 : b < n := by omega
    have HH := Lib.hid H
    have HIH := Lib.hid IH
    have HP := Lib.hid hP
    have HCL := Lib.hid hCl
    have HLB := Lib.hid hlb
    have HKB := Lib.hid hK
    have cL := H.least.cell (i := 0) rfl
    by_cases hKu : K ≤ u
    · have hge : (K : Int) ≤ (u : Int) := by omega
      have HFS : Hid (FewS adj (r + 1) l u K B K B) := Lib.hid (FewS.prune hKu)
      clear H hP hCl hKu IH
      go_enter Try.func33, Try.ntmps33
      go_wp2_with fail
      exact bodyPost_ret (v := .tuple #[]) (by simp [results, Try.results33, go_sem]) rfl ⟨rfl, K, B, HFS.out, HKB.out, HH.out⟩
    · have hge : ¬ (K : Int) ≤ (u : Int) := by omega
      have cG := HG.out _ _ _ _ _ H
      have cS := HS.out _ _ _ _ _ H
      have hee : ((b : Int) == (n : Int)) = false := by simp; omega
      have hu0 : (0 : Int) ≤ (u : Int) + 1 := by omega
      have hun : (u : Int) + 1 ≤ (n : Int) := by omega
      obtain ⟨u1, hu1⟩ : ∃ u1, u1 = u + 1 := ⟨_, rfl⟩
      have hwu : IntKind.i64.wrap ((u : Int) + 1) = (u1 : Int) := by rw [IntWalk.i64_in _ (by omega)]; omega
      have HU1 := Lib.hid hu1
      have hu1n : (u1 : Int) ≤ (n : Int) := by omega
      clear H hP hCl hKu IH hu1
      go_enter Try.func33, Try.ntmps33
      go_wp2_with fail
      go_loopw [28] (fun t wr => ∃ k : Nat, k ≤ u1 ∧ t = .int .i64 k ∧ Hid (∃ K' B', LoopS adj r l u K B k K' B' ∧ K' ≤ n + 1 ∧ LeaW w n gL gB gC gS l S K' B' wr)) (fun t _ => u1 - (intOf t).toNat)
      case atStart => exact ⟨0, Nat.zero_le _, rfl, Lib.hid ⟨K, B, LoopS.start, HKB.out, HH.out⟩⟩
      case round =>
        clear cL cG cS
        obtain ⟨k, hk, rfl, HR⟩ := hrel
        obtain ⟨K1, B1, HL1, HK1, H1⟩ : ∃ K1 B1, Hid (LoopS adj r l u K B k K1 B1) ∧ Hid (K1 ≤ n + 1) ∧ Hid (LeaW w n gL gB gC gS l S K1 B1 wr) := by
          obtain ⟨K1, B1, h1, h2, h3⟩ := HR.out
          exact ⟨K1, B1, Lib.hid h1, Lib.hid h2, Lib.hid h3⟩
        clear HR
        by_cases hku : k < u1
        · have hkn : k < n := by have := HU1.out; omega
          have hku' : (k : Int) < (u1 : Int) := by omega
          have hkn' : (k : Int) < (n : Int) := by omega
          have hbn' : (b : Int) < (n : Int) := by omega
          have hb32 : (b : Int) ≤ 32 := by omega
          have dS := HS.out _ _ _ _ _ H1.out
          have dA := HA.out _ _ _ _ _ H1.out
          have dN := HN.out b hbn2 _ _ _ _ _ H1.out
          have gSk := H1.out.getS hkn
          have hSl : S k < 1024 := by
            have h := HCL.out.lt k
            have h2 : 2 ^ l.length ≤ 2 ^ 10 := Nat.pow_le_pow_right (by decide) (by rw [HLB.out]; omega)
            omega
          have HOK : Hid (okTo adj l k l.length = true ↔ S k &&& nb l.length = 0) := Lib.hid (HCL.out.ok (fun i => HNB.out.1 l.length i (by rw [HLB.out]; exact hbn2)) HNB.out.2.1 k)
          rw [HLB.out] at HOK
          have hnx := HNB.out.2.2 b
          obtain ⟨nx, hnxe⟩ : ∃ nx, nb b = nx := ⟨_, rfl⟩
          rw [hnxe] at dN hnx HOK
          obtain ⟨s, hs⟩ : ∃ s, S k = s := ⟨_, rfl⟩
          rw [hs] at gSk hSl HOK
          have HSK := Lib.hid hs
          clear hnxe hs
          have hand := and_u32 s nx (by omega) (by omega)
          have x1 : IntKind.i64.wrap ((b : Int) + 1) = (b : Int) + 1 := IntWalk.i64_in _ (by omega)
          have x2 : IntKind.i64.wrap ((k : Int) + 1) = (k : Int) + 1 := IntWalk.i64_in _ (by omega)
          by_cases h0 : s &&& nx = 0
          · have h0' : (((s &&& nx : Nat) : Int) == 0) = true := by simpa using h0
            have HOK1 : Hid (okTo adj l k b = true) := Lib.hid (HOK.out.2 h0)
            have hp : 2 ^ b < 1024 := pow10 hn (Nat.pow_lt_pow_right (by decide) hbn2)
            have hor := or_u32 s (2 ^ b) (by omega) (by omega)
            have hsm : (2 : Int) ^ b % 4294967296 = ((2 ^ b : Nat) : Int) := pow_mod b (by omega)
            have htm : IntKind.u32.wrap ((2 : Int) ^ b) = ((2 ^ b : Nat) : Int) := by rw [wrap_u32n]; exact hsm
            obtain ⟨v0, hv0⟩ := H1.out.hasC hbn2
            have dC := HC.out _ _ _ _ _ H1.out
            obtain ⟨so, hso⟩ : ∃ so, s ||| 2 ^ b = so := ⟨_, rfl⟩
            rw [hso] at hor
            have HNX : Hid (LeaW w n gL gB gC gS (l ++ [k]) (updS S k so) K1 B1 ((wr.setCell ⟨gC, b, none⟩ (.int .i64 (k : Int))).setCell ⟨gS, k, none⟩ (.int .u32 (so : Int)))) := Lib.hid (by
              have h := (H1.out.put hgC hLC hBC (Ne.symm hCS) (by rw [HLB.out]; exact hbn2) k).setS hgS hLS hBS hCS k so
              rw [HLB.out] at h
              exact h)
            have HCN : Hid (ClsP (l ++ [k]) (updS S k so)) := Lib.hid (by
              have h := HCL.out.snoc k
              rw [HLB.out, HSK.out, hso] at h
              exact h)
            obtain ⟨um, hum⟩ : ∃ um, um = max u (k + 1) := ⟨_, rfl⟩
            have hmx : max (u : Int) ((k : Int) + 1) = (um : Int) := by have := HU1.out; omega
            have HPN : Hid (PartL adj um (l ++ [k])) := Lib.hid (by rw [hum]; exact HP.out.next (by rw [HLB.out]; exact HOK1.out))
            have humb : um ≤ b + 1 := by have := HU1.out; omega
            have HUM := Lib.hid hum
            have fC : wr.frozen? ⟨gC, b, none⟩ = false := by
              obtain ⟨X, _, h2⟩ := H1.out.col
              exact h2.frozen b
            have fS := H1.out.sets.frozen k
            have hne2 : gS ≠ gC := Ne.symm hCS
            have e1 : (wr.setCell ⟨gC, b, none⟩ (.int .i64 (k : Int))).cell? ⟨gSb, 0, none⟩ = some (.slice (some ⟨gS, 0, none⟩) n n) := (World.cell?_of_block (Below.heap_setCell wr ⟨gC, b, none⟩ _ gSb (HFR.out gSb (.inr (.inr (.inl rfl)))).2.2.1)).trans dS
            have e2 : (wr.setCell ⟨gC, b, none⟩ (.int .i64 (k : Int))).cell? ⟨gS, k, none⟩ = some (.int .u32 (s : Int)) := (World.cell?_of_block (Below.heap_setCell wr ⟨gC, b, none⟩ _ gS hne2)).trans gSk
            have e3 : (wr.setCell ⟨gC, b, none⟩ (.int .i64 (k : Int))).frozen? ⟨gS, k, none⟩ = false := (H1.out.sets.far (p := ⟨gC, b, none⟩) hne2 (.int .i64 (k : Int))).frozen k
            have e4 : (wr.setCell ⟨gS, k, none⟩ (.int .u32 (so : Int))).cell? ⟨gCb, 0, none⟩ = some (.slice (some ⟨gC, 0, none⟩) n n) := (World.cell?_of_block (Below.heap_setCell wr ⟨gS, k, none⟩ _ gCb (HFR.out gCb (.inr (.inl rfl))).2.2.2)).trans dC
            have e5 : (wr.setCell ⟨gS, k, none⟩ (.int .u32 (so : Int))).cell? ⟨gC, b, none⟩ = some v0 := (World.cell?_of_block (Below.heap_setCell wr ⟨gS, k, none⟩ _ gC hCS)).trans hv0
            have e6 : (wr.setCell ⟨gS, k, none⟩ (.int .u32 (so : Int))).frozen? ⟨gC, b, none⟩ = false := by
              obtain ⟨X, _, h2⟩ := H1.out.col
              exact (h2.far (p := ⟨gS, k, none⟩) hCS (.int .u32 (so : Int))).frozen b
            generalize 2 ^ b = pb at *
            clear h0 hum hso HOK
            go_wp2_with fail
            go_region
            have HN1 : Hid (LeaW w n gL gB gC gS (l ++ [k]) (updS S k so) K1 B1 ((wr.setCell ⟨gC, b, none⟩ (.int .i64 (k : Int))).setCell ⟨gS, k, none⟩ (.int .u32 (so : Int))).drew) := Lib.hid HNX.out.drew
            generalize ((wr.setCell ⟨gC, b, none⟩ (.int .i64 (k : Int))).setCell ⟨gS, k, none⟩ (.int .u32 (so : Int))).drew = W1 at HN1 ⊢
            have dF := HFN.out _ _ _ _ _ HN1.out
            have HCALL := Lib.hid (HIH.out (b + 1) (l ++ [k]) um (updS S k so) K1 B1 W1 (by rw [List.length_append, HLB.out]; rfl) (by omega) HPN.out humb HCN.out HK1.out HN1.out)
            clear e1 e2 e3 e4 e5 e6 dS dA dN dC gSk fC fS hv0 HNX HN1
            go_wp2_with fail
            refine HCALL.out.mono ?_
            rintro e W2 ⟨rfl, K2, B2, hfs, hk2, h2⟩
            have H2 := Lib.hid h2
            have HK2 := Lib.hid hk2
            have HNX : Hid (LoopS adj r l u K B (k + 1) K2 B2) := Lib.hid (HL1.out.take (by rw [HLB.out]; exact HOK1.out) (by have := HU1.out; omega) (by rw [← HUM.out]; exact hfs))
            have dS := HS.out _ _ _ _ _ H2.out
            have gSk := H2.out.getS hkn
            have fS := H2.out.sets.frozen k
            have HN2 : Hid (LeaW w n gL gB gC gS l S K2 B2 (W2.setCell ⟨gS, k, none⟩ (.int .u32 (s : Int)))) := Lib.hid (by
              have h := (H2.out.setS hgS hLS hBS hCS k s).drop
              rw [← HSK.out, updS_back, HSK.out] at h
              exact h)
            clear hfs hk2 h2 dF HCALL
            go_wp2_with fail
            go_roundw
            case rel => exact ⟨k + 1, by omega, by go_num, Lib.hid ⟨K2, B2, HNX.out, HK2.out, HN2.out⟩⟩
            case measure => simp [intOf]; omega
          · have h0' : (((s &&& nx : Nat) : Int) == 0) = false := by simpa using h0
            have HNX : Hid (LoopS adj r l u K B (k + 1) K1 B1) := Lib.hid (HL1.out.skip (by
              cases hq : okTo adj l k l.length with
              | false => rfl
              | true => rw [HLB.out] at hq; exact absurd (HOK.out.1 hq) h0))
            clear h0 HOK
            go_wp2_with fail
            go_roundw
            case rel => exact ⟨k + 1, by omega, by go_num, Lib.hid ⟨K1, B1, HNX.out, HK1.out, H1.out⟩⟩
            case measure => simp [intOf]; omega
        · obtain rfl : k = u1 := by omega
          have HFS : Hid (FewS adj (r + 1) l u K B K1 B1) := Lib.hid (by
            have h := HL1.out
            rw [HU1.out] at h
            exact h.done HP.out)
          go_wp2_with fail
          go_end0
          exact ⟨rfl, K1, B1, HFS.out, HK1.out, H1.out⟩
end Go.Proofs.Yticickicfigpbaa
