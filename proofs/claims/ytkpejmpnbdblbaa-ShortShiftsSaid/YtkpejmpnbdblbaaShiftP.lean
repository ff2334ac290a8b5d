/- JOHNSON: heights: when each arc's fee is more by how much lower its end is than its beginning, the same walks are the best ones. Plain facts, of no program. -/
import Derived.Test.YtkpejmpnbdblbaaFarGo
namespace Go.Proofs.Ytkpejmpnbdblbaa

/-- The one net is the other one, with heights. -/
structure ShiftN (h : Nat → Int) (N N' : ArcsF) : Prop where
  n : N'.n = N.n
  K : N'.K = N.K
  fr : ∀ k, N'.fr k = N.fr k
  to : ∀ k, N'.to k = N.to k
  fee : ∀ k, k < N.K → N'.fee k = N.fee k + h (N.fr k) - h (N.to k)
section
variable {h : Nat → Int} {N N' : ArcsF}
theorem ShiftN.path (H : ShiftN h N N') : ∀ (l : List Nat) (s t : Nat), PathL N' s t l ↔ PathL N s t l
  | [], _, _ => Iff.rfl
  | k :: r, s, t => by
    simp only [PathL]
    rw [H.K, H.fr, H.to, H.path r]
theorem ShiftN.len (H : ShiftN h N N') : ∀ (l : List Nat) (s t : Nat), PathL N s t l → lenL N' l = lenL N l + h s - h t
  | [], s, t, hp => by
    have e : s = t := hp
    subst e
    simp only [lenL]; omega
  | k :: r, s, t, ⟨h1, h2, h3⟩ => by
    have := H.len r _ t h3
    have hf := H.fee k h1
    simp only [lenL]
    rw [h2] at hf
    omega
theorem ShiftN.more {s c k : Nat} {D : Nat → Option (List Nat)} (H : ShiftN h N N') (hD : OkD N s c D) (hk : k < N.K) : moreD N' D k = moreD N D k := by
  cases hf : D (N.fr k) with
  | none => rw [moreD_none hf, moreD_none (by rw [H.fr]; exact hf)]
  | some l =>
    have hf' : D (N'.fr k) = some l := by rw [H.fr]; exact hf
    cases ht : D (N.to k) with
    | none => rw [moreD_new hf ht, moreD_new hf' (by rw [H.to]; exact ht)]
    | some q =>
      rw [moreD_old hf ht, moreD_old hf' (by rw [H.to]; exact ht)]
      have h1 := H.len _ _ _ ((hD.1 _ _ hf).1.snoc hk)
      have h2 := H.len _ _ _ (hD.1 _ _ ht).1
      rw [Bool.eq_iff_iff, decide_eq_true_iff, decide_eq_true_iff]
      unfold LessW lessL
      omega
theorem ShiftN.step {s c k : Nat} {D : Nat → Option (List Nat)} (H : ShiftN h N N') (hD : OkD N s c D) (hk : k < N.K) : stepD N' D k = stepD N D k := by
  unfold stepD
  rw [H.fr, H.more hD hk, H.to]
theorem ShiftN.go_ {s c : Nat} {D : Nat → Option (List Nat)} (H : ShiftN h N N') (hN : N.ok) (hD : OkD N s c D) : ∀ k, k ≤ N.K → goD N' D k = goD N D k
  | 0, _ => rfl
  | k + 1, hk => by
    show stepD N' (goD N' D k) k = stepD N (goD N D k) k
    rw [H.go_ hN hD k (by omega)]
    exact H.step (hD.go_ hN k (by omega)) (by omega)
theorem ShiftN.run {s : Nat} (H : ShiftN h N N') (hN : N.ok) (hs : s < N.n) : ∀ r, runD N' s r = runD N s r
  | 0 => rfl
  | r + 1 => by
    show goD N' (runD N' s r) N'.K = goD N (runD N s r) N.K
    rw [H.run hN hs r, H.K]
    exact H.go_ hN (OkD.run hN hs r) _ (Nat.le_refl _)
theorem sinks_paths {s : Nat} : SinksP N s ↔ ∃ u q l, PathL N s u q ∧ PathL N u u l ∧ lenL N l < 0 := by
  constructor
  · rintro ⟨u, x, c, ⟨x0, c0, h0⟩, hw, hc⟩
    obtain ⟨q, _, h1, _⟩ := h0.path
    obtain ⟨l, _, h2, h3⟩ := hw.path
    exact ⟨u, q, l, h1, h2, by omega⟩
  · rintro ⟨u, q, l, h1, h2, h3⟩
    exact ⟨u, _, _, ⟨_, _, h1.walk⟩, h2.walk, h3⟩
theorem ShiftN.sinks {s : Nat} (H : ShiftN h N N') : SinksP N' s ↔ SinksP N s := by
  rw [sinks_paths, sinks_paths]
  constructor
  · rintro ⟨u, q, l, h1, h2, h3⟩
    have hp := (H.path l u u).1 h2
    have := H.len l u u hp
    exact ⟨u, q, l, (H.path q s u).1 h1, hp, by omega⟩
  · rintro ⟨u, q, l, h1, h2, h3⟩
    have := H.len l u u h2
    exact ⟨u, q, l, (H.path q s u).2 h1, (H.path l u u).2 h2, by omega⟩
end
/-- An arc with heights. -/
def shiftA (h : Nat → Int) (a : A4) : A4 := (a.1, a.2.1, a.2.2.1, a.2.2.2 + h a.1.toNat - h a.2.1.toNat)
def shiftE (h : Nat → Int) (es : List A4) : List A4 := es.map (shiftA h)
theorem shiftN_of (h : Nat → Int) (m : Nat) (es : List A4) : ShiftN h (netA m es) (netA m (shiftE h es)) := by
  have hd : ∀ k, ((shiftE h es).getD k default).1 = (es.getD k default).1 ∧ ((shiftE h es).getD k default).2.1 = (es.getD k default).2.1 := fun k => by
    unfold shiftE
    rw [List.getD_eq_getElem?_getD, List.getD_eq_getElem?_getD, List.getElem?_map]
    cases es[k]? with
    | none => exact ⟨rfl, rfl⟩
    | some a => exact ⟨rfl, rfl⟩
  refine ⟨rfl, by simp [netA, shiftE], fun k => ?_, fun k => ?_, fun k hk => ?_⟩
  · simp only [netA]; rw [(hd k).1]
  · simp only [netA]; rw [(hd k).2]
  · have hk' : k < es.length := hk
    have e1 : es.getD k default = es[k] := by rw [List.getD_eq_getElem?_getD, List.getElem?_eq_getElem hk']; rfl
    have e2 : (shiftE h es).getD k default = shiftA h es[k] := by
      unfold shiftE
      rw [List.getD_eq_getElem?_getD, List.getElem?_map, List.getElem?_eq_getElem hk']; rfl
    simp only [netA]
    rw [e1, e2]; rfl
theorem shiftE_take {h : Nat → Int} {es : List A4} {k : Nat} {a : A4} (ha : es[k]? = some a) : (shiftE h es).take (k + 1) = (shiftE h es).take k ++ [shiftA h a] := by
  obtain ⟨h1, h2⟩ := List.getElem?_eq_some_iff.1 ha
  have h3 : k < (shiftE h es).length := by simp [shiftE]; exact h1
  rw [List.take_succ_eq_append_getElem h3]
  simp [shiftE, h2]
/-- What is told is so, too. -/
theorem far_shift {h : Nat → Int} {m s t : Nat} {es : List A4} {l : List Nat} (hG : GoodN (m : Int) es) (hs : s < m) (hl : runD (netA m es) s m t = some l) : farV (netA m (shiftE h es)) (runD (netA m (shiftE h es)) s m) t = farV (netA m es) (runD (netA m es) s m) t + h s - h t := by
  have H := shiftN_of h m es
  rw [H.run (netA_ok hG) (show s < (netA m es).n from hs) m]
  unfold farV
  rw [hl]
  exact H.len l s t ((OkD.run (N := netA m es) (netA_ok hG) (show s < (netA m es).n from hs) m).1 t l hl).1
end Go.Proofs.Ytkpejmpnbdblbaa
