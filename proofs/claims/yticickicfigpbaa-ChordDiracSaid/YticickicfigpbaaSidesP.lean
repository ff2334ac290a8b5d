/- Two sides and odd rings: plain facts over the edges. No conditions. -/
import Derived.Test.YticickicfigpbaaRch
namespace Go.Proofs.Yticickicfigpbaa

theorem wk_fun {adj : Nat → Nat → Bool} : ∀ {n a b : Nat}, wk adj n a b → ∃ x : Nat → Nat, x 0 = a ∧ x n = b ∧ ∀ i, i < n → adj (x i) (x (i + 1)) = true
  | 0, a, _, h => ⟨fun _ => a, rfl, h, fun i hi => by omega⟩
  | n + 1, a, b, ⟨y, hy, hb⟩ => by
    obtain ⟨x, h1, h2, h3⟩ := wk_fun hy
    refine ⟨fun i => if i ≤ n then x i else b, by simp [h1], by simp [show ¬ n + 1 ≤ n by omega], fun i hi => ?_⟩
    by_cases h : i = n
    · subst h; simp [h2, hb, show ¬ i + 1 ≤ i by omega]
    · have : i < n := by omega
      simp [show i ≤ n by omega, show i + 1 ≤ n by omega, h3 i this]
theorem wk_seg {adj : Nat → Nat → Bool} {x : Nat → Nat} {n : Nat} (h : ∀ i, i < n → adj (x i) (x (i + 1)) = true) : ∀ {d i : Nat}, i + d ≤ n → wk adj d (x i) (x (i + d))
  | 0, _, _ => rfl
  | d + 1, i, hd => ⟨x (i + d), wk_seg h (by omega), h (i + d) (by omega)⟩
theorem wk_cons {adj : Nat → Nat → Bool} {n a b c : Nat} (h : adj a b = true) (h2 : wk adj n b c) : wk adj (n + 1) a c := by
  have := wk_trans (wk_one.2 h) h2
  rwa [Nat.add_comm] at this
theorem wk_uncons {adj : Nat → Nat → Bool} : ∀ {n a c : Nat}, wk adj (n + 1) a c → ∃ b, adj a b = true ∧ wk adj n b c
  | 0, a, c, ⟨y, hy, hc⟩ => by obtain rfl : a = y := hy; exact ⟨c, hc, rfl⟩
  | n + 1, a, c, ⟨y, hy, hc⟩ => by
    obtain ⟨b, h1, h2⟩ := wk_uncons hy
    exact ⟨b, h1, ⟨y, h2, hc⟩⟩

/-- An odd number of steps for which nothing shorter comes back. -/
def OddLeast (adj : Nat → Nat → Bool) (n : Nat) : Prop := n % 2 = 1 ∧ ∀ k v, k < n → k % 2 = 1 → ¬ wk adj k v v
theorem odd_inj {adj : Nat → Nat → Bool} {n : Nat} (ho : OddLeast adj n) {x : Nat → Nat} (hx : ∀ i, i < n → adj (x i) (x (i + 1)) = true) (hc : x n = x 0) {i j : Nat} (hij : i < j) (hj : j < n) : x i ≠ x j := by
  intro e
  have h1 : wk adj (j - i) (x i) (x (i + (j - i))) := wk_seg hx (by omega)
  rw [show i + (j - i) = j by omega, ← e] at h1
  have h2 : wk adj (n - j) (x j) (x (j + (n - j))) := wk_seg hx (by omega)
  rw [show j + (n - j) = n by omega, hc] at h2
  have h3 : wk adj i (x 0) (x (0 + i)) := wk_seg hx (by omega)
  rw [Nat.zero_add] at h3
  have h4 := wk_trans h2 h3
  rw [← e] at h4
  have hn := ho.1
  rcases Nat.mod_two_eq_zero_or_one (j - i) with h | h
  · exact ho.2 _ _ (by omega) (by omega) h4
  · exact ho.2 _ _ (by omega) h h1
theorem odd_ge {adj : Nat → Nat → Bool} (hr : ∀ i, adj i i = false) {n v : Nat} (ho : n % 2 = 1) (h : wk adj n v v) : 3 ≤ n := by
  rcases Nat.lt_or_ge n 3 with hlt | hge
  · obtain rfl : n = 1 := by omega
    have := wk_one.1 h
    rw [hr] at this
    cases this
  · exact hge

theorem nodup_bd : ∀ (m : Nat) (L : List Nat), L.Nodup → (∀ x ∈ L, x < m) → L.length ≤ m
  | 0, L, _, h => by
    cases L with
    | nil => exact Nat.zero_le _
    | cons a L => have := h a (List.mem_cons_self); omega
  | m + 1, L, hn, h => by
    have h1 := nodup_bd m (L.erase m) (hn.erase m) (fun x hx => by
      have h2 := h x (List.mem_of_mem_erase hx)
      have h3 : x ≠ m := fun e => by subst e; exact (List.Nodup.not_mem_erase hn) hx
      omega)
    have h2 : L.length ≤ (L.erase m).length + 1 := by
      rw [List.length_erase]; split <;> omega
    omega
theorem odd_le {adj : Nat → Nat → Bool} {m : Nat} (hin : ∀ a b, adj a b = true → a < m) {n v : Nat} (ho : OddLeast adj n) (h : wk adj n v v) : n ≤ m := by
  obtain ⟨x, h1, h2, h3⟩ := wk_fun h
  have hc : x n = x 0 := by rw [h1, h2]
  have := nodup_bd m ((List.range n).map x) (by
    rw [List.nodup_iff_pairwise_ne, List.pairwise_map]
    refine List.Pairwise.imp_of_mem (fun {a b} ha hb hab => ?_) (List.pairwise_lt_range (n := n))
    exact odd_inj ho h3 hc hab (List.mem_range.1 hb)) (fun y hy => by
    obtain ⟨i, hi, rfl⟩ := List.mem_map.1 hy
    exact hin _ _ (h3 i (List.mem_range.1 hi)))
  simpa using this

/-- Where a closed way of an odd number of steps is, there is a least one. -/
theorem odd_exists {adj : Nat → Nat → Bool} {n v : Nat} (ho : n % 2 = 1) (h : wk adj n v v) : ∃ k u, k ≤ n ∧ OddLeast adj k ∧ wk adj k u u ∧ ∀ y, y < u → ¬ wk adj k y y := by
  obtain ⟨d, h1, ⟨h2, u, h3⟩, h4⟩ := least_of (p := fun k => k % 2 = 1 ∧ ∃ u, wk adj k u u) n ⟨ho, v, h⟩
  obtain ⟨z, _, h5, h6⟩ := least_of (p := fun u => wk adj d u u) u h3
  exact ⟨d, z, h1, ⟨h2, fun k v hk ho hw => h4 k hk ⟨ho, v, hw⟩⟩, h5, h6⟩

theorem col_par {adj : Nat → Nat → Bool} {c : Nat → Nat} (hc : ∀ a b, adj a b = true → c a ≠ c b) (h01 : ∀ a, c a < 2) : ∀ {n a b : Nat}, wk adj n a b → (c a + c b + n) % 2 = 0
  | 0, a, b, h => by obtain rfl : a = b := h; omega
  | n + 1, a, b, ⟨y, hy, hb⟩ => by
    have h1 := col_par hc h01 hy
    have h2 := hc _ _ hb
    have h3 := h01 y
    have h4 := h01 b
    omega
theorem col_none {adj : Nat → Nat → Bool} {c : Nat → Nat} (hc : ∀ a b, adj a b = true → c a ≠ c b) (h01 : ∀ a, c a < 2) {n v : Nat} (ho : n % 2 = 1) : ¬ wk adj n v v := fun h => by
  have := col_par hc h01 h
  omega

/-- The list of a way that comes back: the least next node, each time, from which the rest can come back; as far as k nodes. -/
structure RoundL (adj : Nat → Nat → Bool) (first n : Nat) (l : List Nat) (k : Nat) : Prop where
  len : l.length = k
  head : 0 < k → l.getD 0 0 = first
  back : ∀ i, i < k → wk adj (n - i) (l.getD i 0) first
  step : ∀ i, i + 1 < k → adj (l.getD i 0) (l.getD (i + 1) 0) = true
  least : ∀ i u, i + 1 < k → u < l.getD (i + 1) 0 → adj (l.getD i 0) u = true → ¬ wk adj (n - (i + 1)) u first
theorem getD_snoc {l : List Nat} {x i : Nat} : (l ++ [x]).getD i 0 = if i < l.length then l.getD i 0 else if i = l.length then x else 0 := by
  rw [List.getD_eq_getElem?_getD, List.getD_eq_getElem?_getD]
  split
  · rename_i h; rw [List.getElem?_append_left h]
  · rename_i h
    rw [List.getElem?_append_right (by omega)]
    split
    · rename_i h2; rw [h2, Nat.sub_self]; rfl
    · rename_i h2; rw [List.getElem?_eq_none (by simp; omega)]; rfl
theorem RoundL.one {adj : Nat → Nat → Bool} {first n : Nat} (h : wk adj n first first) : RoundL adj first n [first] 1 :=
  ⟨rfl, fun _ => rfl, fun i hi => by obtain rfl : i = 0 := by omega
                                     exact h, fun i hi => by omega, fun i u hi => by omega⟩
theorem RoundL.next {adj : Nat → Nat → Bool} {first n k x : Nat} {l : List Nat} (h : RoundL adj first n l k) (hk : 0 < k) (h1 : adj (l.getD (k - 1) 0) x = true) (h2 : wk adj (n - k) x first) (h3 : ∀ u, u < x → adj (l.getD (k - 1) 0) u = true → ¬ wk adj (n - k) u first) : RoundL adj first n (l ++ [x]) (k + 1) := by
  have hl := h.len
  refine ⟨by simp [hl], fun _ => ?_, fun i hi => ?_, fun i hi => ?_, fun i u hi hu ha => ?_⟩
  · rw [getD_snoc, if_pos (by omega)]; exact h.head hk
  · rw [getD_snoc]
    by_cases hik : i < k
    · rw [if_pos (by omega)]; exact h.back i hik
    · obtain rfl : i = k := by omega
      rw [if_neg (by omega), if_pos hl.symm]; exact h2
  · rw [getD_snoc, getD_snoc, if_pos (by omega)]
    by_cases hik : i + 1 < k
    · rw [if_pos (by omega)]; exact h.step i hik
    · obtain rfl : k = i + 1 := by omega
      rw [if_neg (by omega), if_pos hl.symm]; exact h1
  · rw [getD_snoc] at hu ha
    rw [if_pos (by omega)] at ha
    by_cases hik : i + 1 < k
    · rw [if_pos (by omega)] at hu; exact h.least i u hik hu ha
    · obtain rfl : k = i + 1 := by omega
      rw [if_neg (by omega), if_pos hl.symm] at hu
      exact h3 u hu ha

/-- Where nothing odd and shorter comes back, the list is a ring. -/
theorem RoundL.ring {adj : Nat → Nat → Bool} {first n : Nat} {l : List Nat} (h : RoundL adj first n l n) (ho : OddLeast adj n) : (∀ i, i < n → adj (l.getD i 0) (l.getD ((i + 1) % n) 0) = true) ∧ (∀ i j, i < j → j < n → l.getD i 0 ≠ l.getD j 0) := by
  have hn : 0 < n := by have := ho.1; omega
  have hlast : adj (l.getD (n - 1) 0) first = true := by
    have := h.back (n - 1) (by omega)
    rw [show n - (n - 1) = 1 by omega] at this
    exact wk_one.1 this
  have hstep : ∀ i, i < n → adj (l.getD i 0) (l.getD ((i + 1) % n) 0) = true := fun i hi => by
    by_cases h1 : i + 1 < n
    · rw [Nat.mod_eq_of_lt h1]; exact h.step i h1
    · obtain rfl : n = i + 1 := by omega
      rw [Nat.mod_self, h.head hn]
      exact hlast
  refine ⟨hstep, fun i j hij hj => ?_⟩
  have hx : ∀ i, i < n → adj (l.getD (i % n) 0) (l.getD ((i + 1) % n) 0) = true := fun i hi => by
    have := hstep i hi
    rwa [Nat.mod_eq_of_lt hi]
  have := odd_inj ho (x := fun i => l.getD (i % n) 0) hx (by simp) hij hj
  simp only [Nat.mod_eq_of_lt hj, Nat.mod_eq_of_lt (Nat.lt_trans hij hj)] at this
  exact this
end Go.Proofs.Yticickicfigpbaa
