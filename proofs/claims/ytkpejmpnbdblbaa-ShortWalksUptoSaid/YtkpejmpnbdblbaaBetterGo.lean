/- slices.Compare of two lists of places; short.better: which of two walks is the better one. -/
import Derived.Test.YtkpejmpnbdblbaaCmpGo
import Derived.Deep.RegionHeld3
import Derived.IntWalk
namespace Go.Proofs.Ytkpejmpnbdblbaa
open Go.RowKit

/-- Places as integers. -/
def lI (l : List Nat) : List Int := l.map fun k : Nat => (k : Int)
theorem lI_len (l : List Nat) : (lI l).length = l.length := by simp [lI]
theorem lI_at {l : List Nat} {k : Nat} {x : Int} (h : (lI l)[k]? = some x) : ∃ a : Nat, l[k]? = some a ∧ x = (a : Int) := by
  unfold lI at h
  rw [List.getElem?_map] at h
  cases ha : l[k]? with
  | none => rw [ha] at h; cases h
  | some a => rw [ha] at h; exact ⟨a, rfl, by simpa using h.symm⟩
def cmpL : List Nat → List Nat → Int
  | [], [] => 0
  | [], _ :: _ => -1
  | _ :: _, [] => 1
  | a :: r, b :: s => if a < b then -1 else if b < a then 1 else cmpL r s
theorem cmpL_val : ∀ (l m p : List Nat), l.length = m.length → (∀ k ∈ l, k < 64) → (∀ k ∈ m, k < 64) → (cmpL l m < 0 ↔ valL (p ++ l) < valL (p ++ m))
  | [], [], p, _, _, _ => by simp [cmpL]
  | [], _ :: _, _, h, _, _ => by simp at h
  | _ :: _, [], _, h, _, _ => by simp at h
  | a :: r, b :: s, p, h, h1, h2 => by
    simp only [List.length_cons] at h
    have e : r.length = s.length := by omega
    have h3 : ∀ k ∈ r, k < 64 := fun k hk => h1 k (List.mem_cons_of_mem _ hk)
    have h4 : ∀ k ∈ s, k < 64 := fun k hk => h2 k (List.mem_cons_of_mem _ hk)
    rcases Nat.lt_trichotomy a b with hab | rfl | hab
    · have := valL_less (p := p) hab h3 e
      simp only [cmpL, if_pos hab]
      exact ⟨fun _ => this, fun _ => by decide⟩
    · simp only [cmpL, if_neg (Nat.lt_irrefl a)]
      have := cmpL_val r s (p ++ [a]) e h3 h4
      rwa [List.append_assoc, List.append_assoc] at this
    · have := valL_less (p := p) hab h4 e.symm
      simp only [cmpL, if_neg (show ¬ a < b by omega), if_pos hab]
      exact ⟨fun h => absurd h (by decide), fun h => absurd h (by omega)⟩
theorem cmpL_drop {l m : List Nat} {k a b : Nat} (h1 : l[k]? = some a) (h2 : m[k]? = some b) : cmpL (l.drop k) (m.drop k) = if a < b then -1 else if b < a then 1 else cmpL (l.drop (k + 1)) (m.drop (k + 1)) := by
  obtain ⟨hk, rfl⟩ := List.getElem?_eq_some_iff.1 h1
  obtain ⟨hk', rfl⟩ := List.getElem?_eq_some_iff.1 h2
  rw [List.drop_eq_getElem_cons hk, List.drop_eq_getElem_cons hk']
  rfl
theorem cmpL_more {l m : List Nat} {k : Nat} (h1 : k < l.length) (h2 : m.length ≤ k) : cmpL (l.drop k) (m.drop k) = 1 := by
  rw [List.drop_eq_getElem_cons h1, List.drop_eq_nil_of_le h2]; rfl
theorem cmpL_end {l m : List Nat} {k : Nat} (h1 : l.length ≤ k) (h2 : m.length ≤ k) : cmpL (l.drop k) (m.drop k) = 0 := by
  rw [List.drop_eq_nil_of_le h1, List.drop_eq_nil_of_le h2]; rfl
theorem cmpL_less {l m : List Nat} {k : Nat} (h1 : l.length ≤ k) (h2 : k < m.length) : cmpL (l.drop k) (m.drop k) = -1 := by
  rw [List.drop_eq_nil_of_le h1, List.drop_eq_getElem_cons h2]; rfl
theorem or3_less (x y : Int) (l m : List Nat) (h1 : ∀ k ∈ l, k < 64) (h2 : ∀ k ∈ m, k < 64) : or3 (cmpI x y) (cmpI (l.length : Nat) (m.length : Nat)) (cmpL l m) < 0 ↔ lessL x l y m := by
  unfold lessL
  rcases Int.lt_trichotomy x y with hx | rfl | hx
  · rw [cmpI_lt hx]
    exact ⟨fun _ => .inl hx, fun _ => by unfold or3; simp⟩
  · rw [cmpI_eq]
    rcases Nat.lt_trichotomy l.length m.length with hn | hn | hn
    · rw [cmpI_lt (by omega)]
      exact ⟨fun _ => .inr ⟨rfl, .inl hn⟩, fun _ => by unfold or3; simp⟩
    · rw [hn, cmpI_eq]
      have h := cmpL_val l m [] hn h1 h2
      simp only [List.nil_append] at h
      unfold or3
      simp only [ne_eq, not_true_eq_false, if_false]
      rw [h]
      exact ⟨fun h => .inr ⟨trivial, .inr ⟨trivial, h⟩⟩, fun h => by omega⟩
    · rw [cmpI_gt (by omega)]
      exact ⟨fun h => by unfold or3 at h; simp at h, fun h => by omega⟩
  · rw [cmpI_gt hx]
    exact ⟨fun h => by unfold or3 at h; simp at h, fun h => by omega⟩
set_option maxRecDepth 100000 in
set_option maxHeartbeats 1000000 in
theorem compare_any (A1 A2 : Option Addr) (n1 n2 c1 c2 : Nat) (l m : List Nat) (w : World) (h1 : IntsAt w w.heap.size A1 n1 (lI l)) (h2 : IntsAt w w.heap.size A2 n2 (lI m)) (hn1 : n1 ≤ 4000000) (_hn2 : n2 ≤ 4000000) :
    Calls Try.prog 38 #[.slice A1 n1 c1, .slice A2 n2 c2] w fun e w' => e = .returned (.int .i64 (cmpL l m)) ∧ ∃ q, w' = w.drewN q := by
  obtain ⟨v, hv⟩ : ∃ v, cmpL l m = v := ⟨_, rfl⟩
  rw [hv]
  have HL := Lib.hid (And.intro (by have := h1.1; rwa [lI_len] at this : l.length = n1) (by have := h2.1; rwa [lI_len] at this : m.length = n2))
  have HS : Hid (cmpL (l.drop 0) (m.drop 0) = v) := Lib.hid hv
  have H1 := Lib.hid h1
  have H2 := Lib.hid h2
  clear h1 h2 hv
  go_enter Try.func38, Try.ntmps38
  go_wp2_with fail
  go_loopw [5, 6, 7, 8, 11] (fun _ _ _ _ j wr => ∃ k q : Nat, k ≤ n1 ∧ j = .int .i64 k ∧ wr = w.drewN q ∧ Hid (cmpL (l.drop k) (m.drop k) = v)) (fun _ _ _ _ j _ => n1 - (intOf j).toNat)
  case atStart => exact ⟨0, 0, Nat.zero_le _, rfl, rfl, HS⟩
  case round =>
    clear HS
    obtain ⟨k, q, hk, rfl, rfl, HK⟩ := hrel
    by_cases hlt : k < n1
    · obtain ⟨b, off, x, rfl, _, hx, hc⟩ := H1.out.at_ hlt
      obtain ⟨a, ha, rfl⟩ := lI_at hx
      have hki : (k : Int) < (n1 : Int) := by omega
      have hk0 : (0 : Int) ≤ (k : Int) := by omega
      by_cases hlt2 : k < n2
      · obtain ⟨b', off', x', rfl, _, hx', hc'⟩ := H2.out.at_ hlt2
        obtain ⟨a', ha', rfl⟩ := lI_at hx'
        have hki2 : (k : Int) < (n2 : Int) := by omega
        have hge : decide ((n2 : Int) ≤ (k : Int)) = false := decide_eq_false (by omega)
        have HC := Lib.hid (cmpL_drop ha ha')
        clear hx hx' ha ha'
        go_wp2_with fail
        refine (cmpI_any a a' _).mono ?_
        rintro e w1 ⟨rfl, rfl⟩
        rcases Nat.lt_trichotomy a a' with h | h | h
        · have HE : Hid (v = -1) := Lib.hid (by rw [← HK.out, HC.out, if_pos h])
          rw [cmpI_lt (by omega)]
          clear HC HK h
          go_wp2_with fail
          go_ret
          exact ⟨by rw [HE.out]; rfl, q, rfl⟩
        · subst h
          have HN : Hid (cmpL (l.drop (k + 1)) (m.drop (k + 1)) = v) := Lib.hid (by rw [← HK.out, HC.out, if_neg (Nat.lt_irrefl a), if_neg (Nat.lt_irrefl a)])
          rw [cmpI_eq]
          clear HC HK
          go_wp2_with fail
          go_roundw
          case rel => exact ⟨k + 1, _, by omega, by go_num, rfl, HN⟩
          case measure => simp [intOf]; omega
        · have HE : Hid (v = 1) := Lib.hid (by rw [← HK.out, HC.out, if_neg (by omega), if_pos h])
          rw [cmpI_gt (by omega)]
          clear HC HK h
          go_wp2_with fail
          go_ret
          exact ⟨by rw [HE.out]; rfl, q, rfl⟩
      · have hge : (n2 : Int) ≤ (k : Int) := by omega
        have HE : Hid (v = 1) := Lib.hid (by rw [← HK.out]; exact cmpL_more (by rw [HL.out.1]; exact hlt) (by rw [HL.out.2]; omega))
        clear hx ha HK hlt2
        go_wp2_with fail
        go_ret
        exact ⟨by rw [HE.out]; rfl, q, rfl⟩
    · obtain rfl : k = n1 := by omega
      by_cases hlt2 : k < n2
      · have hki2 : (k : Int) < (n2 : Int) := by omega
        have HE : Hid (v = -1) := Lib.hid (by rw [← HK.out]; exact cmpL_less (by rw [HL.out.1]; exact Nat.le_refl _) (by rw [HL.out.2]; exact hlt2))
        clear HK
        go_wp2_with fail
        go_ret
        exact ⟨by rw [HE.out]; rfl, q, rfl⟩
      · have hki2 : ¬ (k : Int) < (n2 : Int) := by omega
        have HE : Hid (v = 0) := Lib.hid (by rw [← HK.out]; exact cmpL_end (by rw [HL.out.1]; exact Nat.le_refl _) (by rw [HL.out.2]; omega))
        clear HK
        go_wp2_with fail
        go_ret
        exact ⟨by rw [HE.out]; rfl, q, rfl⟩

theorem new_three (W : World) (q : Nat) (a b c : Value) (t : TypeId) : ((W.drewN q).alloc (.cells #[a, b, c] t)).cell? ⟨W.heap.size, 0, none⟩ = some a ∧ ((W.drewN q).alloc (.cells #[a, b, c] t)).cell? ⟨W.heap.size, 1, none⟩ = some b ∧ ((W.drewN q).alloc (.cells #[a, b, c] t)).cell? ⟨W.heap.size, 2, none⟩ = some c := by
  have h : ((W.drewN q).alloc (.cells #[a, b, c] t)).heap[W.heap.size]? = _ := (MapKept.heap_alloc (W.drewN q) (.cells #[a, b, c] t)).1
  simp only [World.cell?]
  rw [h]
  exact ⟨rfl, rfl, rfl⟩
set_option maxRecDepth 100000 in
set_option maxHeartbeats 1000000 in
theorem better_any (x y : Int) (A1 A2 : Option Addr) (n1 n2 c1 c2 : Nat) (l m : List Nat) (v : Bool) (w : World) (h1 : IntsAt w w.heap.size A1 n1 (lI l)) (h2 : IntsAt w w.heap.size A2 n2 (lI m)) (hn1 : n1 ≤ 4000000) (hn2 : n2 ≤ 4000000)
    (hl : ∀ k ∈ l, k < 64) (hm : ∀ k ∈ m, k < 64) (hv : v = decide (lessL x l y m)) :
    Calls Try.prog 33 #[.agg #[.int .i64 x, .slice A1 n1 c1], .agg #[.int .i64 y, .slice A2 n2 c2]] w fun e w' => e = .returned (.bool v) ∧ Below w.heap.size w w' := by
  have el : l.length = n1 := by have := h1.1; rwa [lI_len] at this
  have em : m.length = n2 := by have := h2.1; rwa [lI_len] at this
  have hlt : v = decide (or3 (cmpI x y) (cmpI n1 n2) (cmpL l m) < 0) := by
    rw [hv]
    have := or3_less x y l m hl hm
    rw [el, em] at this
    simp only [this]
  have HV := Lib.hid hlt
  have hB : Below w.heap.size w ((w.alloc (.cells #[.int .i64 x, .slice A1 n1 c1] 65)).alloc (.cells #[.int .i64 y, .slice A2 n2 c2] 65)) := ((Below.refl _ _).alloc (Nat.le_refl _) _).alloc (by simp) _
  have H1 := Lib.hid (h1.go_ hB)
  have H2 := Lib.hid (h2.go_ hB)
  have HB := Lib.hid hB
  clear hB h1 h2 hl hm hv hlt el em
  go_enter Try.func33, Try.ntmps33
  go_wp2_with fail
  have HS1 : Hid (((w.alloc (.cells #[.int .i64 x, .slice A1 n1 c1] 65)).alloc (.cells #[.int .i64 y, .slice A2 n2 c2] 65)).heap.size = w.heap.size + 1 + 1) := Lib.hid (by simp)
  have HC0 : Hid (((w.alloc (.cells #[.int .i64 x, .slice A1 n1 c1] 65)).alloc (.cells #[.int .i64 y, .slice A2 n2 c2] 65)).heap[w.heap.size]? = some (.cells #[.int .i64 x, .slice A1 n1 c1] 65 (0, 0)) ∧ ((w.alloc (.cells #[.int .i64 x, .slice A1 n1 c1] 65)).alloc (.cells #[.int .i64 y, .slice A2 n2 c2] 65)).heap[w.heap.size + 1]? = some (.cells #[.int .i64 y, .slice A2 n2 c2] 65 (0, 0))) := Lib.hid ⟨by
      rw [Below.heap_alloc _ _ _ (by simp)]; exact (MapKept.heap_alloc w _).1, by
      have := (MapKept.heap_alloc (w.alloc (.cells #[.int .i64 x, .slice A1 n1 c1] 65)) (.cells #[.int .i64 y, .slice A2 n2 c2] 65)).1
      rwa [World.size_alloc] at this⟩
  generalize ((w.alloc (.cells #[.int .i64 x, .slice A1 n1 c1] 65)).alloc (.cells #[.int .i64 y, .slice A2 n2 c2] 65)) = W at *
  have k0 : W.cell? ⟨w.heap.size, 0, none⟩ = some (.int .i64 x) := by simp [World.cell?, HC0.out.1]
  have k1 : W.cell? ⟨w.heap.size, 1, none⟩ = some (.slice A1 n1 c1) := by simp [World.cell?, HC0.out.1]
  have k2 : W.cell? ⟨w.heap.size + 1, 0, none⟩ = some (.int .i64 y) := by simp [World.cell?, HC0.out.2]
  have k3 : W.cell? ⟨w.heap.size + 1, 1, none⟩ = some (.slice A2 n2 c2) := by simp [World.cell?, HC0.out.2]
  go_region_held3 (fun W => W.cell? ⟨w.heap.size, 0, none⟩ = some (.int .i64 x) ∧ W.cell? ⟨w.heap.size, 1, none⟩ = some (.slice A1 n1 c1) ∧ W.cell? ⟨w.heap.size + 1, 0, none⟩ = some (.int .i64 y) ∧ W.cell? ⟨w.heap.size + 1, 1, none⟩ = some (.slice A2 n2 c2))
    (first | exact ⟨k0, k1, k2, k3⟩ | go_keep)
    (first
      | (go_at_call 36; refine (cmp64_any x y _).mono ?_; rintro e w1 ⟨rfl, rfl⟩)
      | (go_at_call 37; refine (cmpI_any n1 n2 _).mono ?_; rintro e w1 ⟨rfl, rfl⟩)
      | (go_at_call 38; refine (compare_any A1 A2 n1 n2 c1 c2 l m _ (by exact H1.out) (by exact H2.out) hn1 hn2).mono ?_; rintro e w1 ⟨rfl, q, rfl⟩)
      | (go_at_call 35; refine (or_any _ 0 (cmpI x y) (cmpI n1 n2) (cmpL l m) _ (by exact (new_three _ _ _ _ _ _).1) (by exact (new_three _ _ _ _ _ _).2.1) (by exact (new_three _ _ _ _ _ _).2.2)).mono ?_; rintro e w1 ⟨rfl, rfl⟩))
  go_wp2
  go_ret
  exact ⟨by rw [HV.out]; rfl, (HB.out.trans ((below_drewN (Below.refl _ _) _).mono HB.out.size)).alloc HB.out.size _⟩
end Go.Proofs.Ytkpejmpnbdblbaa
