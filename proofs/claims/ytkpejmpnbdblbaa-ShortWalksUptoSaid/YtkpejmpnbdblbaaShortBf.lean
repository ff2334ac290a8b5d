/- The table of least lengths, as numbers; how it is told by the best walks. Plain facts, of no program. -/
import Derived.Test.YtkpejmpnbdblbaaShortP
namespace Go.Proofs.Ytkpejmpnbdblbaa

def farE : Int := 1152921504606846976
def encR : Option Int → Int
  | none => farE
  | some c => c
section
variable {N : ArcsF} {s t k j : Nat} {c M : Int}
theorem bfR_abs (hM : ∀ k, k < N.K → -M ≤ N.fee k ∧ N.fee k ≤ M) (hM0 : 0 ≤ M) (h : bfR N s k t = some c) : -(M * (k : Int)) ≤ c ∧ c ≤ M * (k : Int) := by
  obtain ⟨l, hl, hw⟩ := bf_sound k t c h
  obtain ⟨q, h1, h2, h3⟩ := hw.path
  have h4 := lenL_abs hM h2.all
  have h5 : M * (q.length : Int) ≤ M * (k : Int) := Int.mul_le_mul_of_nonneg_left (by omega) hM0
  omega
theorem bfTo_abs (hM : ∀ k, k < N.K → -M ≤ N.fee k ∧ N.fee k ≤ M) (hM0 : 0 ≤ M) (hj : j ≤ N.K) (h : bfTo N (bfR N s k) t j = some c) : -(M * (k : Int) + M) ≤ c ∧ c ≤ M * (k : Int) + M := by
  rcases bfTo_from _ h with h1 | ⟨l, a, h1, _, h3, rfl⟩
  · have := bfR_abs hM hM0 h1
    omega
  · have h4 := bfR_abs hM hM0 h3
    have h5 := hM l (by omega)
    omega
/-- What an arc changes. -/
theorem enc_step {D : Nat → Option Int} (hD : ∀ c, D (N.fr j) = some c → c < farE ∧ c + N.fee j < farE) (t : Nat) :
    encR (bfTo N D t (j + 1)) = if t = N.to j ∧ encR (D (N.fr j)) < farE ∧ encR (D (N.fr j)) + N.fee j < encR (bfTo N D (N.to j) j) then encR (D (N.fr j)) + N.fee j else encR (bfTo N D t j) := by
  show encR (match D (N.fr j) with | some a => if N.to j = t then lessO (bfTo N D t j) (a + N.fee j) else bfTo N D t j | none => bfTo N D t j) = _
  cases hd : D (N.fr j) with
  | none =>
    rw [if_neg]
    rintro ⟨_, h, _⟩
    simp [encR] at h
  | some a =>
    obtain ⟨h1, h2⟩ := hD a hd
    simp only
    by_cases ht : t = N.to j
    · subst ht
      rw [if_pos rfl]
      cases hb : bfTo N D (N.to j) j with
      | none =>
        simp only [lessO, encR]
        rw [if_pos ⟨trivial, h1, h2⟩]
      | some c =>
        simp only [lessO, encR]
        by_cases hc : a + N.fee j < c
        · rw [if_pos hc, if_pos ⟨trivial, h1, hc⟩]
        · rw [if_neg hc, if_neg (fun h => hc h.2.2)]
    · rw [if_neg (fun h => ht h.symm), if_neg (fun h => ht h.1)]
theorem encR_lt {o : Option Int} (h : ∀ c, o = some c → c < farE) : encR o < farE ↔ ∃ c, o = some c := by
  cases o with
  | none => simp [encR]
  | some c => simp only [encR]; exact ⟨fun _ => ⟨c, rfl⟩, fun _ => h c rfl⟩
theorem encR_inj {o o' : Option Int} (h : ∀ c, o = some c → c < farE) (h' : ∀ c, o' = some c → c < farE) (he : encR o = encR o') : o = o' := by
  cases o with
  | none =>
    cases o' with
    | none => rfl
    | some c => have := h' c rfl; simp only [encR] at he; omega
  | some c =>
    cases o' with
    | none => have := h c rfl; simp only [encR] at he; omega
    | some c' => simp only [encR] at he; rw [he]
/-- The walks that are told are as long as the table says. -/
theorem run_bf (hM : ∀ k, k < N.K → -M ≤ N.fee k ∧ N.fee k ≤ M) (hM0 : 0 ≤ M) (hN : N.ok) (hs : s < N.n) (hK : N.K ≤ 64) (hS : ¬ SinksP N s) {r k : Nat} (hr : N.n ≤ r + 1) (hk : N.n ≤ k + 1) (t : Nat) : bfR N s k t = (runD N s r t).map (lenL N) := by
  have h := (run_all hM hM0 hN hs hK hS hr).1 t
  cases hd : runD N s r t with
  | none =>
    cases hb : bfR N s k t with
    | none => rfl
    | some c =>
      obtain ⟨l, _, hw⟩ := bf_sound k t c hb
      obtain ⟨q, _, hq, _⟩ := hw.path
      exact absurd hq (h.2 hd q)
  | some l =>
    have hb := h.1 l hd
    obtain ⟨c, h1, h2⟩ := bf_all hN hs hS hk hb.1.walk
    rw [h1]
    obtain ⟨x, _, hw⟩ := bf_sound k t c h1
    obtain ⟨q, _, hq, hl⟩ := hw.path
    have := LessW.len_le (hb.2 q hq)
    show some c = some (lenL N l)
    congr 1; omega
end
end Go.Proofs.Ytkpejmpnbdblbaa
