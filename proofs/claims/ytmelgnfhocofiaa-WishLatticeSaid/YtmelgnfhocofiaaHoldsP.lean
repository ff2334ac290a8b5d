/- (*wish.degrees).of and (*wish.likings).mutual. Pairings: what the numbers say, and what holds; plain facts. -/
import Derived.Test.YtmelgnfhocofiaaDegP
import Derived.Test.YtmelgnfhocofiaaCouples
import Derived.Test.YtmelgnfhocofiaaDeleteF
namespace Go.Proofs.Ytmelgnfhocofiaa
open Go.RowKit

/-- Numbers that lie in a block from an offset on. -/
def DegAt (w : World) (g o : Nat) (F : Nat → Int) : Prop := ∀ k, k < 64 → w.cell? ⟨g, o + k, none⟩ = some (.int .i64 (F k))
/-- What of gives. -/
def ofF (F : Nat → Int) (i : Nat) (j : Int) : Int := if j = -1 then 0 else F (i * 8 + j.toNat)

set_option maxRecDepth 100000 in
set_option maxHeartbeats 1000000 in
theorem of_any (g o i : Nat) (j v : Int) (F : Nat → Int) (w : World) (hD : DegAt w g o F) (hi : i < 8) (hj : j = -1 ∨ (0 ≤ j ∧ j < 8)) (hv : ofF F i j = v) :
    Calls Try.prog 48 #[.pointer (some ⟨g, o, none⟩), .int .i64 (i : Int), .int .i64 j] w fun e w' => e = .returned (.int .i64 v) ∧ w' = w := by
  rcases hj with rfl | ⟨h0, h1⟩
  · have HV : Hid (v = 0) := Lib.hid (by rw [← hv]; rfl)
    clear hv hD
    go_enter Try.func48, Try.ntmps48
    go_wp2
    go_ret
    exact ⟨by rw [HV.out]; rfl, rfl⟩
  · obtain ⟨k, rfl⟩ := Int.eq_ofNat_of_zero_le h0
    have hk : k < 8 := by omega
    have HV : Hid (v = F (i * 8 + k)) := Lib.hid (by rw [← hv]; unfold ofF; rw [if_neg (by omega)]; rfl)
    have hc : w.cell? ⟨g, o + (i * 8 + k), none⟩ = some (.int .i64 v) := by rw [HV.out]; exact hD _ (by omega)
    have hc2 : w.cell? ⟨g, o + i * 8 + k, none⟩ = some (.int .i64 v) := by rw [Nat.add_assoc]; exact hc
    have i0 : (0 : Int) ≤ (i : Int) := by omega
    have i1 : (i : Int) < 8 := by omega
    have k0 : (0 : Int) ≤ (k : Int) := by omega
    have k1 : (k : Int) < 8 := by omega
    have kn : ¬ ((k : Int) = -1) := by omega
    have kn2 : ((k : Int) == -1) = false := by simp
    clear hv hD h0 h1 HV
    go_enter Try.func48, Try.ntmps48
    go_wp2_with fail
    go_ret
    exact ⟨rfl, rfl⟩

/-- Whether two wish for each other. -/
def mutF (F G : Nat → Int) (i j : Nat) : Bool := decide (0 < F (i * 8 + j)) && decide (0 < G (j * 8 + i))
set_option maxRecDepth 100000 in
set_option maxHeartbeats 1000000 in
theorem mutual_any (g i j : Nat) (b : Bool) (F G : Nat → Int) (w : World) (hD : DegAt w g 0 F) (hE : DegAt w g 64 G) (hi : i < 8) (hj : j < 8) (hb : mutF F G i j = b) :
    Calls Try.prog 47 #[.pointer (some ⟨g, 0, none⟩), .int .i64 (i : Int), .int .i64 (j : Int)] w fun e w' => e = .returned (.bool b) ∧ w' = w := by
  have hc : w.cell? ⟨g, i * 8 + j, none⟩ = some (.int .i64 (F (i * 8 + j))) := by have := hD (i * 8 + j) (by omega); rwa [Nat.zero_add] at this
  have hd : w.cell? ⟨g, 64 + (j * 8 + i), none⟩ = some (.int .i64 (G (j * 8 + i))) := hE _ (by omega)
  have hd2 : w.cell? ⟨g, 64 + j * 8 + i, none⟩ = some (.int .i64 (G (j * 8 + i))) := by rw [Nat.add_assoc]; exact hd
  unfold mutF at hb
  generalize F (i * 8 + j) = x at hc hb
  generalize G (j * 8 + i) = y at hd hd2 hb
  have i0 : (0 : Int) ≤ (i : Int) := by omega
  have i1 : (i : Int) < 8 := by omega
  have k0 : (0 : Int) ≤ (j : Int) := by omega
  have k1 : (j : Int) < 8 := by omega
  clear hD hE
  by_cases hx : 0 < x
  · by_cases hy : 0 < y
    · have HB : Hid (b = true) := Lib.hid (by rw [← hb]; simp [hx, hy])
      have hx2 : x > 0 := hx
      have hy2 : y > 0 := hy
      clear hb
      go_enter Try.func47, Try.ntmps47
      go_wp2_with fail
      go_ret
      exact ⟨by rw [HB.out]; rfl, rfl⟩
    · have HB : Hid (b = false) := Lib.hid (by rw [← hb]; simp [hy])
      have hx2 : x > 0 := hx
      have hy2 : ¬ (y > 0) := hy
      clear hb
      go_enter Try.func47, Try.ntmps47
      go_wp2_with fail
      go_ret
      exact ⟨by rw [HB.out]; rfl, rfl⟩
  · have HB : Hid (b = false) := Lib.hid (by rw [← hb]; simp [hx])
    have hx2 : ¬ (x > 0) := hx
    clear hb
    go_enter Try.func47, Try.ntmps47
    go_wp2_with fail
    go_ret
    exact ⟨by rw [HB.out]; rfl, rfl⟩
end Go.Proofs.Ytmelgnfhocofiaa
namespace Go.Proofs.Ytmelgnfhocofiaa
open Go.RowKit

/-- Two would rather have each other. -/
def wantB (F G : Nat → Int) (f h : Nat → Int) (i j : Nat) : Bool := decide (ofF F i (f i) < ofF F i (j : Int)) && decide (ofF G j (h j) < ofF G j (i : Int))
/-- Nothing is wrong with one on the left. -/
def okL (F G : Nat → Int) (n : Nat) (f h : Nat → Int) (i : Nat) : Prop := (f i ≠ -1 → mutF F G i (f i).toNat = true) ∧ ∀ j, j < n → wantB F G f h i j = false
/-- The list of one of a side. -/
def sd (Ls : List (List Int)) (i : Nat) : List Int := Ls.getD i []
theorem wishOK_of {Ls Rs : List (List Int)} (h : wishF Ls Rs = 0) : Ls.length ≤ 8 ∧ Ls.length = Rs.length ∧ (∀ xs ∈ Ls, eachB Ls.length xs = true) ∧ (∀ xs ∈ Rs, eachB Ls.length xs = true) ∧ WishOK Ls.length (sd Ls) (sd Rs) := by
  unfold wishF at h
  split at h
  · cases h
  · rename_i h1
    split at h
    · cases h
    · rename_i h2
      split at h
      · rename_i h3
        have h4 : Ls.length = Rs.length := by omega
        have h5 := List.all_eq_true.1 h3
        have q1 : ∀ xs ∈ Ls, eachB Ls.length xs = true := fun xs hx => h5 xs (List.mem_append_left _ hx)
        have q2 : ∀ xs ∈ Rs, eachB Ls.length xs = true := fun xs hx => h5 xs (List.mem_append_right _ hx)
        refine ⟨by omega, h4, q1, q2, fun i hi => ?_, fun i hi => ?_⟩
        · have e : sd Ls i = Ls[i] := by unfold sd; rw [List.getD_eq_getElem?_getD, List.getElem?_eq_getElem hi]; rfl
          rw [e]; exact eachB_iff.1 (q1 _ (List.getElem_mem _))
        · have e : sd Rs i = Rs[i]'(by omega) := by unfold sd; rw [List.getD_eq_getElem?_getD, List.getElem?_eq_getElem (by omega)]; rfl
          rw [e]; exact eachB_iff.1 (q2 _ (List.getElem_mem _))
      · cases h
section
variable {n : Nat} {Ls Rs : List (List Int)} {xs : List Int}
theorem dgF_at (i : Nat) {j : Nat} (hj : j < 8) : dgF Ls (i * 8 + j) = dg (sd Ls i) j := by
  unfold dgF sd
  rw [show (i * 8 + j) / 8 = i by omega, show (i * 8 + j) % 8 = j by omega]
theorem dg_lt {l : List Int} (hl : l.length ≤ 8) {x y : Nat} : dg l x < dg l y ↔ ahd l (y : Int) < ahd l (x : Int) := by
  have ax := ahd_le l (x : Int)
  have ay := ahd_le l (y : Int)
  unfold dg
  by_cases hx : (x : Int) ∈ l <;> by_cases hy : (y : Int) ∈ l
  · have := ahd_lt.2 hx; have := ahd_lt.2 hy
    rw [if_pos hx, if_pos hy]; omega
  · have := ahd_lt.2 hx; have := ahd_not hy
    rw [if_pos hx, if_neg hy]; omega
  · have := ahd_not hx; have := ahd_lt.2 hy
    rw [if_neg hx, if_pos hy]; omega
  · have := ahd_not hx; have := ahd_not hy
    rw [if_neg hx, if_neg hy]; omega
theorem of_lt {i : Nat} {x : Int} {y : Nat} (hl : (sd Ls i).length ≤ 8) (hn : (-1 : Int) ∉ sd Ls i) (hx : x = -1 ∨ (0 ≤ x ∧ x < 8)) (hy : y < 8) : ofF (dgF Ls) i x < ofF (dgF Ls) i (y : Int) ↔ ahd (sd Ls i) (y : Int) < ahd (sd Ls i) x := by
  have e : ofF (dgF Ls) i (y : Int) = dg (sd Ls i) y := by unfold ofF; rw [if_neg (by omega), Int.toNat_natCast, dgF_at i hy]
  rw [e]
  rcases hx with rfl | ⟨h0, h1⟩
  · rw [show ofF (dgF Ls) i (-1) = 0 from rfl, dg_pos hl, ahd_not hn, ahd_lt]
  · obtain ⟨k, rfl⟩ := Int.eq_ofNat_of_zero_le h0
    have e2 : ofF (dgF Ls) i (k : Int) = dg (sd Ls i) k := by unfold ofF; rw [if_neg (by omega), Int.toNat_natCast, dgF_at i (by omega)]
    rw [e2]
    exact dg_lt hl
theorem mut_iff {i j : Nat} (hi : i < 8) (hj : j < 8) (hl : (sd Ls i).length ≤ 8) (hr : (sd Rs j).length ≤ 8) : mutF (dgF Ls) (dgF Rs) i j = true ↔ (j : Int) ∈ sd Ls i ∧ (i : Int) ∈ sd Rs j := by
  unfold mutF
  rw [dgF_at i hj, dgF_at j hi, Bool.and_eq_true, decide_eq_true_iff, decide_eq_true_iff, dg_pos hl, dg_pos hr]
theorem ow_rng (hp : xs.length = n) (j : Int) : owP xs j = -1 ∨ (0 ≤ owP xs j ∧ owP xs j < (n : Int)) := by
  unfold owP
  split
  · rename_i h
    have := ahd_lt.2 h
    exact .inr ⟨by omega, by omega⟩
  · exact .inl rfl
/-- What the numbers say is what holds. -/
theorem okL_hold (hn : n ≤ 8) (W : WishOK n (sd Ls) (sd Rs)) (P : PairOK n xs) : (∀ i, i < n → okL (dgF Ls) (dgF Rs) n (fun i => xs.getD i (-1)) (fun j => owP xs (j : Int)) i) ↔ HoldP n (sd Ls) (sd Rs) xs := by
  have hl : ∀ i, i < n → (sd Ls i).length ≤ 8 := fun i hi => Nat.le_trans (len_le (W.left i hi).1 (W.left i hi).2) hn
  have hr : ∀ i, i < n → (sd Rs i).length ≤ 8 := fun i hi => Nat.le_trans (len_le (W.right i hi).1 (W.right i hi).2) hn
  have nl : ∀ i, i < n → (-1 : Int) ∉ sd Ls i := fun i hi h => by have := ((W.left i hi).2 _ h).1; omega
  have nr : ∀ i, i < n → (-1 : Int) ∉ sd Rs i := fun i hi h => by have := ((W.right i hi).2 _ h).1; omega
  have want : ∀ i j, i < n → j < n → (wantB (dgF Ls) (dgF Rs) (fun i => xs.getD i (-1)) (fun j => owP xs (j : Int)) i j = false ↔ (ahd (sd Ls i) (j : Int) < ahd (sd Ls i) (xs.getD i (-1)) → ¬ ahd (sd Rs j) (i : Int) < ahd (sd Rs j) (owP xs (j : Int)))) := fun i j hi hj => by
    unfold wantB
    have e1 := of_lt (y := j) (hl i hi) (nl i hi) ((P.rng i hi).imp id fun q => ⟨q.1, by omega⟩) (by omega)
    have e2 := of_lt (y := i) (hr j hj) (nr j hj) ((ow_rng P.len (j : Int)).imp id fun q => ⟨q.1, by omega⟩) (by omega)
    rw [← e1, ← e2, Bool.and_eq_false_iff, decide_eq_false_iff_not, decide_eq_false_iff_not]
    constructor
    · rintro (q | q) h; exact absurd h q; exact q
    · intro h
      by_cases g : ofF (dgF Ls) i (xs.getD i (-1)) < ofF (dgF Ls) i (j : Int)
      · exact .inr (h g)
      · exact .inl g
  constructor
  · intro H
    refine ⟨P, fun i hi h0 => ?_, fun i j hi hj => (want i j hi hj).1 ((H i hi).2 j hj)⟩
    have hlt := (P.rng i hi).resolve_left (by omega)
    have : mutF (dgF Ls) (dgF Rs) i (xs.getD i (-1)).toNat = true := (H i hi).1 (by show xs.getD i (-1) ≠ -1; omega)
    rw [mut_iff (by omega) (by omega) (hl i hi) (hr _ (by omega))] at this
    rwa [Int.toNat_of_nonneg h0] at this
  · intro H i hi
    refine ⟨fun hne => ?_, fun j hj => (want i j hi hj).2 (H.hold i j hi hj)⟩
    have hlt := (P.rng i hi).resolve_left hne
    show mutF (dgF Ls) (dgF Rs) i (xs.getD i (-1)).toNat = true
    rw [mut_iff (by omega) (by omega) (hl i hi) (hr _ (by omega)), Int.toNat_of_nonneg hlt.1]
    exact H.may i hi hlt.1

/-- A list that is a pairing. -/
def pairB (n : Nat) (xs : List Int) : Bool := eachB n (xs.filter fun x => !decide (x = -1))
theorem pairB_iff (hp : xs.length = n) : pairB n xs = true ↔ PairOK n xs := by
  unfold pairB
  rw [eachB_iff]
  have hg : ∀ i, i < n → xs.getD i (-1) ∈ xs := fun i hi => getD_mem hp hi
  have hm : ∀ x, x ∈ xs.filter (fun x => !decide (x = -1)) ↔ x ∈ xs ∧ x ≠ -1 := fun x => by simp [List.mem_filter]
  have hn : ∀ l : List Int, (l.filter fun x => !decide (x = -1)).Nodup ↔ ∀ i k, i < l.length → k < l.length → l.getD i (-1) ≠ -1 → l.getD i (-1) = l.getD k (-1) → i = k := by
    intro l
    induction l with
    | nil => simp
    | cons a l ih =>
      by_cases ha : a = -1
      · subst ha
        rw [List.filter_cons_of_neg (by simp), ih]
        constructor
        · intro h i k hi hk h1 h2
          cases i with
          | zero => exact absurd rfl h1
          | succ i =>
            cases k with
            | zero => exact absurd h2 h1
            | succ k => rw [h i k (by simpa using hi) (by simpa using hk) h1 h2]
        · intro h i k hi hk h1 h2
          have := h (i + 1) (k + 1) (by simpa using hi) (by simpa using hk) h1 h2
          omega
      · rw [List.filter_cons_of_pos (by simp [ha]), List.nodup_cons, ih]
        constructor
        · rintro ⟨h0, h⟩ i k hi hk h1 h2
          have hno : ∀ k, k < l.length → a ≠ l.getD k (-1) := fun k hk e => h0 (List.mem_filter.2 ⟨by rw [e, List.getD_eq_getElem?_getD, List.getElem?_eq_getElem hk]; exact List.getElem_mem _, by simp [ha]⟩)
          cases i with
          | zero =>
            cases k with
            | zero => rfl
            | succ k => exact absurd h2 (hno k (by simpa using hk))
          | succ i =>
            cases k with
            | zero => exact absurd h2.symm (hno i (by simpa using hi))
            | succ k => rw [h i k (by simpa using hi) (by simpa using hk) h1 h2]
        · intro h
          refine ⟨fun hma => ?_, fun i k hi hk h1 h2 => by have := h (i + 1) (k + 1) (by simpa using hi) (by simpa using hk) h1 h2; omega⟩
          have hml := (List.mem_filter.1 hma).1
          obtain ⟨k, hk, e⟩ := List.getElem_of_mem hml
          have := h 0 (k + 1) (by simp) (by simpa using hk) ha (by show a = l.getD k (-1); rw [List.getD_eq_getElem?_getD, List.getElem?_eq_getElem hk, e]; rfl)
          omega
  rw [hn]
  constructor
  · rintro ⟨h1, h2⟩
    have hr : ∀ i, i < n → xs.getD i (-1) = -1 ∨ (0 ≤ xs.getD i (-1) ∧ xs.getD i (-1) < (n : Int)) := fun i hi => by
      by_cases e : xs.getD i (-1) = -1
      · exact .inl e
      · exact .inr (h2 _ ((hm _).2 ⟨hg i hi, e⟩))
    exact ⟨hp, hr, fun i k hi hk h0 he => h1 i k (by omega) (by omega) (by omega) he⟩
  · intro P
    refine ⟨fun i k hi hk h0 he => P.one i k (by omega) (by omega) ((P.rng i (by omega)).resolve_left h0).1 he, fun x hx => ?_⟩
    obtain ⟨hx1, hx2⟩ := (hm x).1 hx
    obtain ⟨i, hi, rfl⟩ := List.getElem_of_mem hx1
    have e : xs.getD i (-1) = xs[i] := by rw [List.getD_eq_getElem?_getD, List.getElem?_eq_getElem hi]; rfl
    have := P.rng i (by omega)
    rw [e] at this
    exact this.resolve_left hx2
/-- As the reference asks it. -/
theorem pairOK_ref (hp : xs.length = n) : PairOK n xs ↔ ∀ i, i < n → -1 ≤ xs.getD i (-1) ∧ xs.getD i (-1) < (n : Int) ∧ (0 ≤ xs.getD i (-1) → owP xs (xs.getD i (-1)) = (i : Int)) := by
  constructor
  · intro P i hi
    refine ⟨by have := P.rng i hi; omega, by have := P.rng i hi; omega, fun h0 => ?_⟩
    obtain ⟨j, hj⟩ := Int.eq_ofNat_of_zero_le h0
    rw [hj]; exact ow_at P hi hj
  · intro H
    refine ⟨hp, fun i hi => by have := H i hi; omega, fun i k hi hk h0 he => ?_⟩
    have h1 := (H i hi).2.2 h0
    have h2 := (H k hk).2.2 (by omega)
    rw [he, h2] at h1
    omega

/-- Whom those on the right have, of the first k. -/
def jn (xs : List Int) : Nat → Nat → Int
  | 0 => fun _ => -1
  | k + 1 => updJ (jn xs k) (xs.getD k (-1)) (k : Int)
theorem jn_spec (P : PairOK n xs) (j : Nat) : ∀ k, k ≤ n → (jn xs k j = -1 ∧ ∀ i, i < k → xs.getD i (-1) ≠ (j : Int)) ∨ ∃ i : Nat, i < k ∧ jn xs k j = (i : Int) ∧ xs.getD i (-1) = (j : Int)
  | 0, _ => .inl ⟨rfl, fun _ h => absurd h (by omega)⟩
  | k + 1, hk => by
    have e : jn xs (k + 1) j = if (j : Int) = xs.getD k (-1) then (k : Int) else jn xs k j := rfl
    by_cases h : (j : Int) = xs.getD k (-1)
    · rw [e, if_pos h]; exact .inr ⟨k, by omega, rfl, h.symm⟩
    · rw [e, if_neg h]
      rcases jn_spec P j k (by omega) with ⟨h1, h2⟩ | ⟨i, h1, h2, h3⟩
      · refine .inl ⟨h1, fun i hi => ?_⟩
        rcases Nat.lt_or_ge i k with q | q
        · exact h2 i q
        · obtain rfl : i = k := by omega
          exact fun e => h e.symm
      · exact .inr ⟨i, by omega, h2, h3⟩
theorem jn_end (P : PairOK n xs) (j : Nat) : jn xs n j = owP xs (j : Int) := by
  rcases jn_spec P j n (Nat.le_refl _) with ⟨h1, h2⟩ | ⟨i, h1, h2, h3⟩
  · rcases ow_cases P j with ⟨q, _⟩ | ⟨i, hi, _, q⟩
    · rw [h1, q]
    · exact absurd q (h2 i hi)
  · rw [h2, ow_at P h1 h3]
end
end Go.Proofs.Ytmelgnfhocofiaa
