/- Distances by detours: plain facts over any relation. No conditions. -/
import Derived.Test.YticickicfigpbaaWalks
namespace Go.Proofs.Yticickicfigpbaa

/-- A way of n edges from i to j whose inner nodes are below k. -/
def wkI (adj : Nat → Nat → Bool) (k : Nat) : Nat → Nat → Nat → Prop
  | 0, i, j => i = j
  | n + 1, i, j => ∃ x, (n = 0 ∨ x < k) ∧ wkI adj k n i x ∧ adj x j = true
theorem wkI_one {adj : Nat → Nat → Bool} {k i j : Nat} (h : adj i j = true) : wkI adj k 1 i j := ⟨i, .inl rfl, rfl, h⟩
theorem wkI_split {adj : Nat → Nat → Bool} {k i : Nat} : ∀ {n j : Nat}, wkI adj (k + 1) n i j → wkI adj k n i j ∨ ∃ a b, a + b ≤ n ∧ wkI adj k a i k ∧ wkI adj k b k j
  | 0, _, h => .inl h
  | n + 1, j, ⟨x, hx, hw, ha⟩ => by
    rcases wkI_split hw with h | ⟨a, b, hab, h1, h2⟩
    · by_cases hk : n = 0 ∨ x < k
      · exact .inl ⟨x, hk, h, ha⟩
      · obtain rfl : x = k := by omega
        exact .inr ⟨n, 1, Nat.le_refl _, h, wkI_one ha⟩
    · by_cases hk : b = 0 ∨ x < k
      · exact .inr ⟨a, b + 1, by omega, h1, ⟨x, hk, h2, ha⟩⟩
      · obtain rfl : x = k := by omega
        exact .inr ⟨a, 1, by omega, h1, wkI_one ha⟩
theorem wkI_of {adj : Nat → Nat → Bool} {m i : Nat} (hin : ∀ x j, adj x j = true → x < m) : ∀ {n j : Nat}, wk adj n i j → wkI adj m n i j
  | 0, _, h => h
  | _ + 1, _, ⟨x, hx, ha⟩ => ⟨x, .inr (hin _ _ ha), wkI_of hin hx, ha⟩

def upd (D : Nat → Nat → Int) (i j : Nat) (v : Int) : Nat → Nat → Int := fun a b => if a = i ∧ b = j then v else D a b
theorem upd_same (D : Nat → Nat → Int) (i j : Nat) (v : Int) : upd D i j v i j = v := by simp [upd]
theorem upd_other {D : Nat → Nat → Int} {i j a b : Nat} {v : Int} (h : ¬ (a = i ∧ b = j)) : upd D i j v a b = D a b := by simp [upd, h]

/-- What is known in the middle of the detours: all is the length of a way; ways by nodes below k are no shorter; and those by k, too, as far as one came. -/
structure FwInv (adj : Nat → Nat → Bool) (m k i j : Nat) (D : Nat → Nat → Int) : Prop where
  way : ∀ a b, a < m → b < m → D a b = -1 ∨ ∃ n : Nat, D a b = n ∧ wk adj n a b
  diag : ∀ a, a < m → D a a = 0
  all : ∀ a b, a < m → b < m → D a b ≤ 2 ^ (k + 1)
  cross : ∀ a, a < m → k < m → D a k ≤ 2 ^ k ∧ D k a ≤ 2 ^ k
  best : ∀ a b n, a < m → b < m → wkI adj k n a b → 0 ≤ D a b ∧ D a b ≤ (n : Int)
  done : ∀ a b n, a < m → b < m → (a < i ∨ (a = i ∧ b < j)) → wkI adj (k + 1) n a b → 0 ≤ D a b ∧ D a b ≤ (n : Int)
def fwStart (adj : Nat → Nat → Bool) (i j : Nat) : Int := if i = j then 0 else if adj i j = true then 1 else -1
theorem fw_start (adj : Nat → Nat → Bool) (m : Nat) : FwInv adj m 0 0 0 (fwStart adj) where
  way a b _ _ := by
    unfold fwStart
    split
    · rename_i h; exact .inr ⟨0, rfl, h⟩
    · split
      · rename_i h; exact .inr ⟨1, rfl, wk_one.2 h⟩
      · exact .inl rfl
  diag a _ := by simp [fwStart]
  all a b _ _ := by unfold fwStart; split <;> (try split) <;> decide
  cross a _ _ := by unfold fwStart; constructor <;> split <;> (try split) <;> decide
  best a b n _ _ h := by
    cases n with
    | zero => obtain rfl : a = b := h; simp [fwStart]
    | succ n =>
      obtain ⟨x, hx, hw, ha⟩ := h
      obtain rfl : n = 0 := by omega
      obtain rfl : a = x := hw
      unfold fwStart
      rw [if_pos ha]
      split <;> simp
  done a b n _ _ h := by omega
theorem fw_step {adj : Nat → Nat → Bool} {m k i j : Nat} {D : Nat → Nat → Int} (h : FwInv adj m k i j D) (hk : k < m) (hi : i < m) (hj : j < m) (h1 : 0 ≤ D i k) (h2 : 0 ≤ D k j) (h3 : D i j < 0 ∨ D i k + D k j < D i j) :
    FwInv adj m k i (j + 1) (upd D i j (D i k + D k j)) := by
  have hik : i ≠ k := fun e => by subst e; have := h.diag i hi; omega
  have hjk : j ≠ k := fun e => by subst e; have := h.diag j hj; omega
  have hij : i ≠ j := fun e => by subst e; have := h.diag i hi; omega
  have mono : ∀ a b, 0 ≤ D a b → 0 ≤ upd D i j (D i k + D k j) a b ∧ upd D i j (D i k + D k j) a b ≤ D a b := fun a b h0 => by
    unfold upd
    split
    · rename_i e; obtain ⟨rfl, rfl⟩ := e; omega
    · exact ⟨h0, Int.le_refl _⟩
  have c1 := (h.cross i hi hk).1
  have c2 := (h.cross j hj hk).2
  have hp : (2 : Int) ^ (k + 1) = 2 ^ k + 2 ^ k := by rw [Int.pow_succ]; omega
  refine ⟨fun a b ha hb => ?_, fun a ha => ?_, fun a b ha hb => ?_, fun a ha _ => ?_, fun a b n ha hb hw => ?_, fun a b n ha hb hd hw => ?_⟩
  · unfold upd
    split
    · rename_i e
      obtain ⟨rfl, rfl⟩ := e
      right
      rcases h.way a k ha hk with e | ⟨x, ex, wx⟩
      · omega
      · rcases h.way k b hk hb with e | ⟨y, ey, wy⟩
        · omega
        · exact ⟨x + y, by rw [ex, ey]; simp, wk_trans wx wy⟩
    · exact h.way a b ha hb
  · rw [upd_other (by omega)]; exact h.diag a ha
  · unfold upd
    split
    · omega
    · exact h.all a b ha hb
  · rw [upd_other (by omega), upd_other (by omega)]; exact h.cross a ha hk
  · obtain ⟨q1, q2⟩ := h.best a b n ha hb hw
    have := mono a b q1
    omega
  · rcases Nat.lt_or_ge a i with hai | hai
    · obtain ⟨q1, q2⟩ := h.done a b n ha hb (.inl hai) hw
      have := mono a b q1
      omega
    · obtain rfl : a = i := by omega
      by_cases hbj : b = j
      · subst hbj
        rw [upd_same]
        refine ⟨by omega, ?_⟩
        rcases wkI_split hw with hw | ⟨x, y, hxy, w1, w2⟩
        · have := (h.best a b n ha hb hw); omega
        · have := (h.best a k x ha hk w1).2
          have := (h.best k b y hk hb w2).2
          omega
      · obtain ⟨q1, q2⟩ := h.done a b n ha hb (.inr ⟨rfl, by omega⟩) hw
        have := mono a b q1
        omega
theorem fw_stay {adj : Nat → Nat → Bool} {m k i j : Nat} {D : Nat → Nat → Int} (h : FwInv adj m k i j D) (hk : k < m) (hi : i < m) (hj : j < m) (h0 : D i k < 0 ∨ D k j < 0 ∨ (0 ≤ D i j ∧ D i j ≤ D i k + D k j)) :
    FwInv adj m k i (j + 1) D := by
  refine ⟨h.way, h.diag, h.all, h.cross, h.best, fun a b n ha hb hd hw => ?_⟩
  by_cases hbj : a = i ∧ b = j
  · obtain ⟨rfl, rfl⟩ := hbj
    rcases wkI_split hw with hw | ⟨x, y, hxy, w1, w2⟩
    · exact h.best a b n ha hb hw
    · have := h.best a k x ha hk w1
      have := h.best k b y hk hb w2
      omega
  · exact h.done a b n ha hb (by omega) hw
theorem fw_row {adj : Nat → Nat → Bool} {m k i : Nat} {D : Nat → Nat → Int} (h : FwInv adj m k i m D) : FwInv adj m k (i + 1) 0 D :=
  ⟨h.way, h.diag, h.all, h.cross, h.best, fun a b n ha hb hd hw => h.done a b n ha hb (by omega) hw⟩
theorem fw_phase {adj : Nat → Nat → Bool} {m k : Nat} {D : Nat → Nat → Int} (h : FwInv adj m k m 0 D) : FwInv adj m (k + 1) 0 0 D := by
  have hp : (2 : Int) ^ (k + 1 + 1) = 2 ^ (k + 1) + 2 ^ (k + 1) := by rw [Int.pow_succ]; omega
  have hq : (0 : Int) ≤ 2 ^ (k + 1) := Int.le_of_lt (Int.pow_pos (by decide))
  exact ⟨h.way, h.diag, fun a b ha hb => by have := h.all a b ha hb; omega, fun a ha hk => ⟨h.all a _ ha hk, h.all _ a hk ha⟩, fun a b n ha hb hw => h.done a b n ha hb (.inl ha) hw, fun a b n _ _ hd => by omega⟩
theorem fw_end {adj : Nat → Nat → Bool} {m : Nat} {D : Nat → Nat → Int} (h : FwInv adj m m 0 0 D) (hin : ∀ x j, adj x j = true → x < m) {i j : Nat} (hi : i < m) (hj : j < m) : D i j = distI adj i j := by
  rcases distI_cases adj i j with ⟨d, hd, he⟩ | ⟨hn, he⟩
  · rw [he]
    obtain ⟨q1, q2⟩ := h.best i j d hi hj (wkI_of hin hd.1)
    rcases h.way i j hi hj with e | ⟨n, e, hw⟩
    · omega
    · have : ¬ n < d := fun hlt => hd.2 n hlt hw
      omega
  · rw [he]
    rcases h.way i j hi hj with e | ⟨n, e, hw⟩
    · exact e
    · obtain ⟨d, _, hd⟩ := dist_of_wk hw
      exact absurd hd (hn d)
end Go.Proofs.Yticickicfigpbaa
