/- Who asks whom: what the rows hold meanwhile; plain facts. (*wish.likings).firstPairing: the closure that asks. -/
import Derived.Test.YtmelgnfhocofiaaHoldsP
import Derived.Test.YtmelgnfhocofiaaHoldsGo
import Derived.Test.YtmelgnfhocofiaaRefHolds
namespace Go.Proofs.Ytmelgnfhocofiaa
open Go.RowKit

/-- Whom those on the left have, by whom those on the right hold. -/
def ConsP (n : Nat) (f ow : Nat → Int) : Prop := ∀ x, x < n → (∀ j : Nat, j < n → ow j = (x : Int) → f x = (j : Int)) ∧ ((∀ j, j < n → ow j ≠ (x : Int)) → f x = -1)
/-- One is held, or was refused by all. -/
def doneP (n : Nat) (L : Nat → List Int) (nx : Nat → Nat) (ow : Nat → Int) (x : Nat) : Prop := (∃ j, j < n ∧ ow j = (x : Int)) ∨ nx x = (L x).length
section
variable {n : Nat} {L R : Nat → List Int} {nx : Nat → Nat} {f ow : Nat → Int} {i j : Nat}
theorem ConsP.start : ConsP n (fun _ => -1) (fun _ => -1) := fun _ _ => ⟨fun _ _ h => by have h5 : (-1 : Int) = _ := h; omega, fun _ => rfl⟩
theorem ConsP.accept (C : ConsP n f ow) (hj : j < n) (hfree : ∀ j', j' < n → ow j' ≠ (i : Int)) (h0 : ow j = -1) : ConsP n (updF f i (j : Int)) (updOw ow j (i : Int)) := fun x hx => by
  by_cases hxi : x = i
  · subst hxi
    refine ⟨fun j' hj' h => ?_, fun h => absurd (show updOw ow j (x : Int) j = (x : Int) by unfold updOw; rw [if_pos rfl]) (h j hj)⟩
    unfold updOw at h
    split at h
    · rename_i e; subst e; unfold updF; rw [if_pos rfl]
    · exact absurd h (hfree j' hj')
  · have e : updF f i (j : Int) x = f x := by unfold updF; rw [if_neg hxi]
    rw [e]
    refine ⟨fun j' hj' h => ?_, fun h => (C x hx).2 fun j' hj' e' => ?_⟩
    · unfold updOw at h
      split at h
      · omega
      · exact (C x hx).1 j' hj' h
    · by_cases h5 : j' = j
      · subst h5; omega
      · exact h j' hj' (by unfold updOw; rw [if_neg h5]; exact e')
theorem ConsP.instead (C : ConsP n f ow) (H : AskP n L R nx ow) (hj : j < n) (hfree : ∀ j', j' < n → ow j' ≠ (i : Int)) {c : Nat} (hc : c < n) (h0 : ow j = (c : Int)) : ConsP n (updF (updF f c (-1)) i (j : Int)) (updOw ow j (i : Int)) := fun x hx => by
  have hci : c ≠ i := fun e => hfree j hj (by rw [h0, e])
  by_cases hxi : x = i
  · subst hxi
    refine ⟨fun j' hj' h => ?_, fun h => absurd (show updOw ow j (x : Int) j = (x : Int) by unfold updOw; rw [if_pos rfl]) (h j hj)⟩
    unfold updOw at h
    split at h
    · rename_i e; subst e; unfold updF; rw [if_pos rfl]
    · exact absurd h (hfree j' hj')
  · have e : updF (updF f c (-1)) i (j : Int) x = if x = c then -1 else f x := by unfold updF; rw [if_neg hxi]
    rw [e]
    by_cases hxc : x = c
    · subst hxc
      rw [if_pos rfl]
      refine ⟨fun j' hj' h => ?_, fun _ => rfl⟩
      unfold updOw at h
      split at h
      · omega
      · rename_i h5; exact absurd (H.only hx hj' hj h h0) h5
    · rw [if_neg hxc]
      refine ⟨fun j' hj' h => ?_, fun h => (C x hx).2 fun j' hj' e' => ?_⟩
      · unfold updOw at h
        split at h
        · omega
        · exact (C x hx).1 j' hj' h
      · by_cases h5 : j' = j
        · subst h5; omega
        · exact h j' hj' (by unfold updOw; rw [if_neg h5]; exact e')
theorem ConsP.end_ (C : ConsP n f ow) (H : AskP n L R nx ow) (hi : i < n) : f i = (endP n ow).getD i (-1) := by
  rcases endP_cases H hi with ⟨h1, h2⟩ | ⟨j, hj, h1, h2⟩
  · rw [h1]; exact (C i hi).2 h2
  · rw [h2]; exact (C i hi).1 j hj h1
/-- It says no. -/
theorem AskP.no (hj : j < n) (h : ¬ ahd (R j) (i : Int) < ahd (R j) (ow j)) (hfree : ∀ j', j' < n → ow j' ≠ (i : Int)) : (i : Int) ∉ R j ∨ ahd (R j) (ow j) < ahd (R j) (i : Int) := by
  by_cases hm : (i : Int) ∈ R j
  · refine .inr ?_
    rcases Nat.lt_or_ge (ahd (R j) (ow j)) (ahd (R j) (i : Int)) with h5 | h5
    · exact h5
    · exact absurd (ahd_inj hm (show ahd (R j) (i : Int) = ahd (R j) (ow j) by omega)).symm (hfree j hj)
  · exact .inl hm
theorem AskP.no' {o : Int} (h : (i : Int) ∉ R j ∨ ahd (R j) o < ahd (R j) (i : Int)) : ¬ ahd (R j) (i : Int) < ahd (R j) o := by
  rcases h with h | h
  · have := ahd_not h
    have := ahd_le (R j) o
    omega
  · omega
theorem AskP.yes {o : Int} (h : ahd (R j) (i : Int) < ahd (R j) o) : (i : Int) ∈ R j := by
  have := ahd_le (R j) o
  exact ahd_lt.1 (by omega)
/-- How much asking is left. -/
def leftP (n : Nat) (L : Nat → List Int) (nx : Nat → Nat) : Nat := sumTo (fun i => (L i).length) n - sumTo nx n
theorem leftP_upd (H : ∀ x, x < n → updNx nx i x ≤ (L x).length) (hi : i < n) : leftP n L (updNx nx i) < leftP n L nx := by
  have h1 := sum_upd (n := n) (f := nx) hi
  have h2 : sumTo (updNx nx i) n ≤ sumTo (fun i => (L i).length) n := sumTo_le n H
  unfold leftP
  omega
theorem doneP.instead {nx1 : Nat → Nat} {c x : Nat} (h : doneP n L nx ow x) (hx : ∀ y, y ≠ i → nx1 y = nx y) (hxi : x ≠ i) (hxc : x ≠ c) (h0 : ow j = (c : Int)) : doneP n L (updNx nx1 c) (updOw ow j (i : Int)) x := by
  rcases h with ⟨j', hj', h⟩ | h
  · refine .inl ⟨j', hj', ?_⟩
    unfold updOw
    by_cases h5 : j' = j
    · subst h5; omega
    · rw [if_neg h5]; exact h
  · refine .inr ?_
    unfold updNx
    rw [if_neg hxc, hx x hxi]; exact h
theorem doneP.accept {nx1 : Nat → Nat} {x : Nat} (h : doneP n L nx ow x) (hx : ∀ y, y ≠ i → nx1 y = nx y) (hxi : x ≠ i) (h0 : ow j = -1) : doneP n L nx1 (updOw ow j (i : Int)) x := by
  rcases h with ⟨j', hj', h⟩ | h
  · refine .inl ⟨j', hj', ?_⟩
    unfold updOw
    by_cases h5 : j' = j
    · subst h5; omega
    · rw [if_neg h5]; exact h
  · exact .inr (by rw [hx x hxi]; exact h)
theorem updOw_free {x : Nat} (hxi : x ≠ i) (hx : ∀ j', j' < n → ow j' ≠ (x : Int)) : ∀ j', j' < n → updOw ow j (i : Int) j' ≠ (x : Int) := fun j' hj' => by
  unfold updOw
  split
  · omega
  · exact hx j' hj'
theorem end_ow {l : List Int} (H : AskP n L R nx ow) (hl : l = endP n ow) (P : PairOK n l) (hj : j < n) : ow j = owP l (j : Int) := by
  rcases H.rng j hj with h0 | ⟨h0, h1⟩
  · rcases ow_cases P j with ⟨q, _⟩ | ⟨x, hx, _, q⟩
    · rw [h0, q]
    · rw [hl] at q
      rcases endP_cases H hx with ⟨g, _⟩ | ⟨j', hj', g1, g2⟩
      · omega
      · rw [g2] at q
        obtain rfl : j' = j := by omega
        omega
  · obtain ⟨x, hx⟩ := Int.eq_ofNat_of_zero_le h0
    have hxn : x < n := by omega
    rw [hx]
    refine (ow_at P hxn ?_).symm
    rw [hl]
    rcases endP_cases H hxn with ⟨_, g⟩ | ⟨j', hj', g1, g2⟩
    · exact absurd hx (g j hj)
    · rw [g2, H.only hxn hj' hj g1 hx]
theorem doneP.held (hj : j < n) : doneP n L nx (updOw ow j (i : Int)) i := .inl ⟨j, hj, by unfold updOw; rw [if_pos rfl]⟩
theorem updJ_ow (ow : Nat → Int) (j : Nat) (v : Int) : updJ ow (j : Int) v = updOw ow j v := by rw [updJ_at]; rfl
theorem updJ_ow2 (ow : Nat → Int) (j : Nat) (u v : Int) : updJ (updJ ow (j : Int) u) (j : Int) v = updOw ow j v := by
  rw [updJ_at, updJ_at]
  funext x
  unfold updF updOw
  split <;> rfl
end
end Go.Proofs.Ytmelgnfhocofiaa
namespace Go.Proofs.Ytmelgnfhocofiaa
open Go.RowKit

/-- The closure's value. -/
def askV (gl gp gk ga : Nat) : Value := .func (.func 49) #[] #[.pointer (some ⟨gl, 0, none⟩), .pointer (some ⟨gp, 0, none⟩), .pointer (some ⟨gk, 0, none⟩), .pointer (some ⟨ga, 0, none⟩)]
/-- The boxes, the rows, and what lay below. -/
structure AskW (w : World) (A : Option Addr) (n c gR gl gp gk ga gr a b : Nat) (f ow : Nat → Int) (wr : World) : Prop where
  below : Below w.heap.size w wr
  cl : wr.cell? ⟨gl, 0, none⟩ = some (.slice A n c)
  cp0 : wr.cell? ⟨gp, 0, none⟩ = some (.slice (some ⟨a, 0, none⟩) n n)
  cp1 : wr.cell? ⟨gp, 1, none⟩ = some (.slice (some ⟨b, 0, none⟩) n n)
  ck : wr.cell? ⟨gk, 0, none⟩ = some (.pointer (some ⟨gR, 0, none⟩))
  ca : wr.cell? ⟨ga, 0, none⟩ = some (.func (.func 49) #[] #[.pointer (some ⟨gl, 0, none⟩), .pointer (some ⟨gp, 0, none⟩), .pointer (some ⟨gk, 0, none⟩), .pointer (some ⟨ga, 0, none⟩)])
  rr : RowOf wr gr 51 [.slice none 0 0, .slice none 0 0]
  fr : gr ≠ a ∧ gr ≠ b
  fl : gl ≠ a ∧ gl ≠ b
  fp : gp ≠ a ∧ gp ≠ b
  fk : gk ≠ a ∧ gk ≠ b
  fa : ga ≠ a ∧ ga ≠ b
  cp : Couples wr w.heap.size n a b f ow
section
variable {w wr w2 : World} {A : Option Addr} {n c gR gl gp gk ga gr a b : Nat} {f ow f' ow' : Nat → Int}
theorem Only.cell {p : Addr} {v : Value} (ho : Only a b wr w2) (h : wr.cell? p = some v) (ha : p.block ≠ a ∧ p.block ≠ b) : w2.cell? p = some v := by
  have hlt := block_lt_of_cell h
  have := ho.block p.block hlt ha.1 ha.2
  rw [← h]
  unfold World.cell?
  rw [this]
theorem AskW.only (H : AskW w A n c gR gl gp gk ga gr a b f ow wr) (ho : Only a b wr w2) (hc : Couples w2 w.heap.size n a b f' ow') : AskW w A n c gR gl gp gk ga gr a b f' ow' w2 :=
  ⟨H.below.trans (ho.below H.cp.ba H.cp.bb H.below.size), ho.cell H.cl H.fl, ho.cell H.cp0 H.fp, ho.cell H.cp1 H.fp, ho.cell H.ck H.fk, ho.cell H.ca H.fa, (ho.block _ H.rr.lt H.fr.1 H.fr.2).trans H.rr, H.fr, H.fl, H.fp, H.fk, H.fa, hc⟩
theorem AskW.drewN (H : AskW w A n c gR gl gp gk ga gr a b f ow wr) (k : Nat) : AskW w A n c gR gl gp gk ga gr a b f ow (wr.drewN k) :=
  ⟨below_drewN H.below k, H.cl, H.cp0, H.cp1, H.ck, H.ca, H.rr, H.fr, H.fl, H.fp, H.fk, H.fa, H.cp.drewN k⟩
end
/-- What a call of it brings. -/
def AskPost (w : World) (A : Option Addr) (n c gR gl gp gk ga gr a b : Nat) (Ls Rs : List (List Int)) (nx : Nat → Nat) (ow : Nat → Int) (i : Nat) (w2 : World) : Prop :=
  ∃ nx' ow' f', AskP n (sd Ls) (sd Rs) nx' ow' ∧ ConsP n f' ow' ∧ AskW w A n c gR gl gp gk ga gr a b f' ow' w2 ∧ doneP n (sd Ls) nx' ow' i ∧ (∀ x, x < n → x ≠ i → doneP n (sd Ls) nx ow x → doneP n (sd Ls) nx' ow' x) ∧ ∀ x, x < n → x ≠ i → (∀ j, j < n → ow j ≠ (x : Int)) → ∀ j, j < n → ow' j ≠ (x : Int)

set_option maxRecDepth 100000 in
set_option maxHeartbeats 8000000 in
theorem ask_any (w : World) (A : Option Addr) (n c gR gl gp gk ga gr a b : Nat) (Ls Rs : List (List Int)) (W : WishOK n (sd Ls) (sd Rs)) (hn : n ≤ 8) (S : SideAt w w.heap.size A n c Ls) (hD : DegAt w gR 64 (dgF Rs)) (hg : gR < w.heap.size) :
    ∀ (M i : Nat) (nx : Nat → Nat) (f ow : Nat → Int) (wr : World), leftP n (sd Ls) nx ≤ M → AskP n (sd Ls) (sd Rs) nx ow → ConsP n f ow → AskW w A n c gR gl gp gk ga gr a b f ow wr → i < n → (∀ j, j < n → ow j ≠ (i : Int)) →
    Calls Try.prog 49 #[.int .i64 (i : Int), .pointer (some ⟨gl, 0, none⟩), .pointer (some ⟨gp, 0, none⟩), .pointer (some ⟨gk, 0, none⟩), .pointer (some ⟨ga, 0, none⟩)] wr fun e w' => e = .returned (.tuple #[]) ∧ AskPost w A n c gR gl gp gk ga gr a b Ls Rs nx ow i w' := by
  intro M
  induction M using Nat.strongRecOn with
  | ind M IH =>
  intro i nx f ow wr hM H C hW hi hfree
  have HIH := Lib.hid IH
  have HWK := Lib.hid W
  have HSD := Lib.hid S
  have HD := Lib.hid hD
  have HM := Lib.hid hM
  have HH := Lib.hid H
  have HC := Lib.hid C
  have HF := Lib.hid hfree
  have HAW := Lib.hid hW
  obtain ⟨bl, ol, l, B, d, hA, hbl, hl, hcl, hB, _, _⟩ := S.get hi
  subst hA
  have cl := hW.cl
  have hcl' : wr.cell? ⟨bl, ol + i, none⟩ = some (.slice B l.length d) := (hW.below.cell (p := ⟨bl, ol + i, none⟩) hbl).trans hcl
  have ii0 : (0 : Int) ≤ (i : Int) := by omega
  have ii1 : (i : Int) < (n : Int) := by omega
  have HL := Lib.hid (sd_of hl)
  have HB := Lib.hid hB
  have h8 : l.length ≤ 8 := by rw [← sd_of hl]; exact Nat.le_trans (len_le (W.left i hi).1 (W.left i hi).2) hn
  obtain ⟨m, hm⟩ : ∃ m, m = l.length := ⟨_, rfl⟩
  rw [← hm] at hcl' h8
  have HMM := Lib.hid hm
  clear IH W S hD hM H C hfree hW hl hcl hB hm
  go_enter Try.func49, Try.ntmps49
  go_wp2_with fail
  have HS0 : Hid (AskP n (sd Ls) (sd Rs) nx ow ∧ (∀ y, y ≠ i → nx y = nx y) ∧ leftP n (sd Ls) nx ≤ M ∧ 0 ≤ nx i ∧ AskW w (some ⟨bl, ol, none⟩) n c gR gl gp gk ga gr a b f ow wr) := Lib.hid ⟨HH.out, fun _ _ => rfl, HM.out, Nat.zero_le _, HAW.out⟩
  clear cl hcl' HAW HM HH
  go_loopw [14] (fun t wr => ∃ (k : Nat) (nx1 : Nat → Nat), k ≤ m ∧ t = .int .i64 k ∧ Hid (AskP n (sd Ls) (sd Rs) nx1 ow ∧ (∀ y, y ≠ i → nx1 y = nx y) ∧ leftP n (sd Ls) nx1 ≤ M ∧ k ≤ nx1 i ∧ AskW w (some ⟨bl, ol, none⟩) n c gR gl gp gk ga gr a b f ow wr)) (fun t _ => m - (intOf t).toNat)
  case atStart => exact ⟨0, nx, Nat.zero_le _, rfl, HS0⟩
  case round =>
    clear HS0
    obtain ⟨k, nx1, hk, rfl, HR⟩ := hrel
    by_cases hkl : k < m
    · obtain ⟨b2, o2, x, hB2, hb2, hx, hcx⟩ := HB.out.at_ (by rw [← HMM.out]; exact hkl)
      subst hB2
      have hcx' : wr.cell? ⟨b2, o2 + k, none⟩ = some (.int .i64 x) := (HR.out.2.2.2.2.below.cell (p := ⟨b2, o2 + k, none⟩) hb2).trans hcx
      have hxr := (HWK.out.left i hi).2 x (by rw [HL.out]; exact List.mem_of_getElem? hx)
      obtain ⟨j, rfl⟩ := Int.eq_ofNat_of_zero_le hxr.1
      have hj : j < n := by omega
      have HK := Lib.hid hkl
      have HJ := Lib.hid hj
      have kk0 : (0 : Int) ≤ (k : Int) := by omega
      have kk1 : (k : Int) < (m : Int) := by omega
      have jj0 : (0 : Int) ≤ (j : Int) := by omega
      have jj1 : (j : Int) < (n : Int) := by omega
      have cp0 := HR.out.2.2.2.2.cp0
      have cp1 := HR.out.2.2.2.2.cp1
      have ck := HR.out.2.2.2.2.ck
      obtain ⟨o, ho⟩ : ∃ o, ow j = o := ⟨_, rfl⟩
      have cj : wr.cell? ⟨b, j, none⟩ = some (.int .i64 o) := by rw [← ho]; exact HR.out.2.2.2.2.cp.right.cell hj
      have hor := HR.out.1.rng j hj
      rw [ho] at hor
      have HOR : Hid (o = -1 ∨ (0 ≤ o ∧ o < 8)) := Lib.hid (hor.imp id fun q => ⟨q.1, by omega⟩)
      obtain ⟨x3, e3⟩ : ∃ x, ofF (dgF Rs) j (i : Int) = x := ⟨_, rfl⟩
      obtain ⟨x4, e4⟩ : ∃ x, ofF (dgF Rs) j o = x := ⟨_, rfl⟩
      have HXX : Hid (x4 < x3 ↔ ahd (sd Rs j) (i : Int) < ahd (sd Rs j) o) := Lib.hid (by
        rw [← e3, ← e4]
        exact of_lt (Nat.le_trans (len_le (HWK.out.right j hj).1 (HWK.out.right j hj).2) hn) (fun h => by have := ((HWK.out.right j hj).2 _ h).1; omega) HOR.out (by omega))
      have HOF : Hid (∀ (v z : Int), ((v = (i : Int) ∧ z = x3) ∨ (v = o ∧ z = x4)) → ∀ W', AskW w (some ⟨bl, ol, none⟩) n c gR gl gp gk ga gr a b f ow W' → Calls Try.prog 48 #[.pointer (some ⟨gR, 64, none⟩), .int .i64 (j : Int), .int .i64 v] W' fun e w' => e = .returned (.int .i64 z) ∧ w' = W') := Lib.hid (by
        rintro v z (⟨rfl, rfl⟩ | ⟨rfl, rfl⟩) W' hW'
        · exact of_any gR 64 j _ _ _ W' (HD.out.keep hW'.below hg) (by omega) (.inr ⟨by omega, by omega⟩) e3
        · exact of_any gR 64 j _ _ _ W' (HD.out.keep hW'.below hg) (by omega) HOR.out e4)
      have HO := Lib.hid ho
      have HX := Lib.hid (show (sd Ls i)[k]? = some (j : Int) by rw [HL.out]; exact hx)
      have HAW := Lib.hid HR.out.2.2.2.2
      have HAK := Lib.hid (And.intro HR.out.1 (And.intro HR.out.2.1 (And.intro HR.out.2.2.1 HR.out.2.2.2.1)))
      clear e3 e4 ho hx hcx hxr HR hor
      by_cases g1 : x3 ≤ x4
      · have HN : Hid (∃ nx2, AskP n (sd Ls) (sd Rs) nx2 ow ∧ (∀ y, y ≠ i → nx2 y = nx y) ∧ leftP n (sd Ls) nx2 ≤ M ∧ k + 1 ≤ nx2 i) := Lib.hid (by
          obtain ⟨h1, h2, h3, h4⟩ := HAK.out
          rcases Nat.lt_or_ge k (nx1 i) with h5 | h5
          · exact ⟨nx1, h1, h2, h3, h5⟩
          · have hki : k = nx1 i := by omega
            have h6 := h1.refuse HWK.out hi HJ.out (by rw [← hki]; exact HX.out) HF.out (AskP.no HJ.out (by rw [HO.out]; intro q; have := HXX.out.2 q; omega) HF.out)
            refine ⟨updNx nx1 i, h6, fun y hy => ?_, Nat.le_trans (Nat.le_of_lt (leftP_upd h6.le hi)) h3, ?_⟩
            · unfold updNx; rw [if_neg hy]; exact h2 y hy
            · unfold updNx; rw [if_pos rfl, hki]; exact Nat.le_refl _)
        have d1 : decide (x3 ≤ x4) = true := decide_eq_true g1
        clear HXX HO HX HAK HOR HIH HWK HSD HD HC HF HL HB HMM
        go_wp2_with fail
        go_quiet ((go_at_call 48; exact Calls.quiet_of_same (HOF.out _ _ (by first | exact Or.inl ⟨rfl, rfl⟩ | exact Or.inr ⟨rfl, rfl⟩) _ (HAW.out.drewN _))))
        go_wp2
        go_roundw
        case rel =>
          obtain ⟨nx2, q1, q2, q3, q4⟩ := HN.out
          exact ⟨k + 1, nx2, by have := HK.out; omega, by go_num, Lib.hid ⟨q1, q2, q3, q4, HAW.out.drewN _⟩⟩
        case measure => have := HK.out; simp [intOf]; omega
      · have HLT : Hid (ahd (sd Rs j) (i : Int) < ahd (sd Rs j) o) := Lib.hid (HXX.out.1 (by omega))
        have HKI : Hid (k = nx1 i) := Lib.hid (by
          obtain ⟨h1, h2, h3, h4⟩ := HAK.out
          rcases Nat.lt_or_ge k (nx1 i) with h5 | h5
          · have := h1.said i k hi h5 j HX.out
            rw [HO.out] at this
            exact absurd HLT.out (AskP.no' this)
          · omega)
        have d1 : decide (x3 ≤ x4) = false := decide_eq_false g1
        clear HXX
        rcases HOR.out with ho1 | ⟨ho0, ho1⟩
        · subst ho1
          have HH' := Lib.hid (HAK.out.1.accept HWK.out hi HJ.out (by rw [← HKI.out]; exact HX.out) (AskP.yes HLT.out) HO.out)
          have HC' := Lib.hid (HC.out.accept HJ.out HF.out HO.out)
          have HNX := Lib.hid HAK.out.2.1
          clear HX HAK HOR HIH HWK HSD HD HC HL HB HMM HLT HKI
          go_wp2_with fail
          go_quiet ((go_at_call 48; exact Calls.quiet_of_same (HOF.out _ _ (by first | exact Or.inl ⟨rfl, rfl⟩ | exact Or.inr ⟨rfl, rfl⟩) _ (HAW.out.drewN _))))
          have HA2 := Lib.hid (HAW.out.drewN nq)
          generalize wr.drewN nq = w1 at HA2 ⊢
          have cp0 := HA2.out.cp0
          have cp1 := HA2.out.cp1
          go_wp2_with fail
          refine (join_any w.heap.size n a b i (j : Int) f ow w1 (by exact HA2.out.cp) hi (.inr ⟨jj0, jj1⟩)).mono ?_
          rintro e w2 ⟨rfl, hc2, ho2⟩
          have HA3 := Lib.hid (HA2.out.only ho2 hc2)
          clear hc2 ho2
          rw [updJ_ow] at HA3
          go_wp2_with fail
          exact bodyPost_ret (v := .tuple #[]) (by simp [results, Try.results49, go_sem]) rfl ⟨rfl, nx1, _, _, HH'.out, HC'.out, HA3.out, doneP.held HJ.out, fun x _ hxi hd => hd.accept HNX.out hxi HO.out, fun x _ hxi hx => updOw_free hxi hx⟩
        · obtain ⟨q, rfl⟩ := Int.eq_ofNat_of_zero_le ho0
          have hqn : q < n := by have := HAK.out.1.rng j HJ.out; rw [HO.out] at this; omega
          have hqi : q ≠ i := fun e => HF.out j HJ.out (by rw [HO.out, e])
          have HH' := Lib.hid (HAK.out.1.instead HWK.out hi HJ.out (by rw [← HKI.out]; exact HX.out) (AskP.yes HLT.out) hqn HO.out HF.out HLT.out)
          have HC' := Lib.hid (HC.out.instead HAK.out.1 HJ.out HF.out hqn HO.out)
          have HFQ : Hid (∀ j', j' < n → updOw ow j (i : Int) j' ≠ (q : Int)) := Lib.hid fun j' hj' h => by
            unfold updOw at h
            split at h
            · omega
            · rename_i h5; exact h5 (HAK.out.1.only hqn hj' HJ.out h HO.out)
          have hfq : f q = (j : Int) := (HC.out q hqn).1 j HJ.out HO.out
          have HLF : Hid (leftP n (sd Ls) (updNx nx1 q) < M) := Lib.hid (Nat.lt_of_lt_of_le (leftP_upd HH'.out.le hqn) HAK.out.2.2.1)
          have HNX := Lib.hid HAK.out.2.1
          have HFC := Lib.hid hfq
          have hq1 : ((q : Int) == -1) = false := by simp
          have hq2 : ¬ ((q : Int) = -1) := by omega
          clear HX HAK HOR HWK HSD HD HC HL HB HMM HLT HKI HF hfq
          go_wp2_with fail
          go_quiet ((go_at_call 48; exact Calls.quiet_of_same (HOF.out _ _ (by first | exact Or.inl ⟨rfl, rfl⟩ | exact Or.inr ⟨rfl, rfl⟩) _ (HAW.out.drewN _))))
          have HA2 := Lib.hid (HAW.out.drewN nq)
          generalize wr.drewN nq = w1 at HA2 ⊢
          have cp0 := HA2.out.cp0
          have cp1 := HA2.out.cp1
          go_wp2_with fail
          refine (part_any w.heap.size n a b q (j : Int) f ow w1 (by exact HA2.out.cp) hqn (by exact HFC.out) (.inr ⟨jj0, jj1⟩)).mono ?_
          rintro e w2 ⟨rfl, hc2, ho2⟩
          have HA3 := Lib.hid (HA2.out.only ho2 hc2)
          have cp0 := HA3.out.cp0
          have cp1 := HA3.out.cp1
          clear hc2 ho2
          go_wp2_with fail
          refine (join_any w.heap.size n a b i (j : Int) _ _ w2 (by exact HA3.out.cp) hi (.inr ⟨jj0, jj1⟩)).mono ?_
          rintro e w3 ⟨rfl, hc3, ho3⟩
          have HA4 := Lib.hid (HA3.out.only ho3 hc3)
          clear hc3 ho3
          rw [updJ_ow2] at HA4
          have ca := HA4.out.ca
          go_wp2_with fail
          refine (HIH.out _ HLF.out q (updNx nx1 q) _ (updOw ow j (i : Int)) w3 (Nat.le_refl _) (by exact HH'.out) (by exact HC'.out) (by exact HA4.out) hqn (by exact HFQ.out)).mono ?_
          rintro e w4 ⟨rfl, hp4⟩
          have HP4 := Lib.hid hp4
          clear hp4
          go_wp2_with fail
          refine bodyPost_ret (v := .tuple #[]) (by simp [results, Try.results49, go_sem]) rfl ⟨rfl, ?_⟩
          obtain ⟨nx', ow', f', p1, p2, p3, p4, p5, p6⟩ := HP4.out
          refine ⟨nx', ow', f', p1, p2, p3, p5 i hi (Ne.symm hqi) (doneP.held HJ.out), fun x hx hxi hd => ?_, fun x hx hxi hxf => p6 x hx (fun e => hxf j HJ.out (by rw [HO.out, e])) (updOw_free hxi hxf)⟩
          by_cases hxq : x = q
          · rw [hxq]; exact p4
          · exact p5 x hx hxq (hd.instead HNX.out hxi hxq HO.out)
    · obtain rfl : k = m := by omega
      have HE := HR
      clear HR
      go_wp2_with fail
      go_end0
      obtain ⟨h1, h2, _, h4, h5⟩ := HE.out
      have hle := h1.le i hi
      have hl2 : (sd Ls i).length = k := by rw [HL.out]; exact HMM.out.symm
      refine ⟨rfl, nx1, ow, f, h1, HC.out, h5, .inr (by omega), fun x _ hxi hd => ?_, fun _ _ _ hx => hx⟩
      rcases hd with hd | hd
      · exact .inl hd
      · exact .inr (by rw [h2 x hxi]; exact hd)
end Go.Proofs.Ytmelgnfhocofiaa
