/- wish.noPairs, join, part: whom each one has on the other side. -/
import Derived.Test.YtlndghclkcfedaaRepeat
namespace Go.Proofs.Ytlndghclkcfedaa
open Go.RowKit

/-- Only two blocks were written, of those that there were. -/
structure Only (a b : Nat) (w w' : World) : Prop where
  low : Below 0 w w'
  block : ∀ k, k < w.heap.size → k ≠ a → k ≠ b → w'.heap[k]? = w.heap[k]?
section
variable {a b B : Nat} {w w' w2 : World}
theorem Only.refl (a b : Nat) (w : World) : Only a b w w := ⟨Below.refl _ _, fun _ _ _ _ => rfl⟩
theorem Only.trans (h : Only a b w w') (h2 : Only a b w' w2) : Only a b w w2 :=
  ⟨h.low.trans h2.low, fun k hk h3 h4 => (h2.block k (Nat.lt_of_lt_of_le hk h.low.size) h3 h4).trans (h.block k hk h3 h4)⟩
theorem Only.below (h : Only a b w w') (ha : B ≤ a) (hb : B ≤ b) (hB : B ≤ w.heap.size) : Below B w w' :=
  ⟨h.low.os, h.low.tape, h.low.output, h.low.size, fun k hk => h.block k (by omega) (by omega) (by omega)⟩
theorem Only.of_below (h : Below w.heap.size w w') : Only a b w w' := ⟨h.mono (Nat.zero_le _), fun k hk _ _ => h.block k hk⟩
theorem Only.set_ (h : Only a b w w') {p : Addr} (hp : p.block = a ∨ p.block = b) (v : Value) : Only a b w (w'.setCell p v) :=
  ⟨h.low.setCell (Nat.zero_le _) v, fun k hk h3 h4 => (Below.heap_setCell w' p v k (by omega)).trans (h.block k hk h3 h4)⟩
theorem Only.drew (h : Only a b w w') : Only a b w w'.drew := ⟨h.low.drew, h.block⟩
theorem Only.row {g n : Nat} {f : Nat → Int} (h : Only a b w w') (hr : RowC w g n f) (h3 : g ≠ a) (h4 : g ≠ b) : RowC w' g n f := hr.of_block (h.block g hr.lt h3 h4)
end
/-- Two blocks of n: whom those on the left have, and those on the right. -/
structure Couples (w : World) (B n a b : Nat) (f h : Nat → Int) : Prop where
  ba : B ≤ a
  bb : B ≤ b
  ne : a ≠ b
  left : RowC w a n f
  right : RowC w b n h
section
variable {B n a b : Nat} {f h : Nat → Int} {w w' : World}
theorem Couples.keep (H : Couples w B n a b f h) (hb : Below w.heap.size w w') : Couples w' B n a b f h :=
  ⟨H.ba, H.bb, H.ne, H.left.of_block (hb.block _ H.left.lt), H.right.of_block (hb.block _ H.right.lt)⟩
theorem Couples.drew (H : Couples w B n a b f h) : Couples w.drew B n a b f h := ⟨H.ba, H.bb, H.ne, H.left.drew, H.right.drew⟩
theorem Couples.setL (H : Couples w B n a b f h) (j : Nat) (x : Int) : Couples (w.setCell ⟨a, j, none⟩ (.int .i64 x)) B n a b (updF f j x) h :=
  ⟨H.ba, H.bb, H.ne, H.left.set_ j x, H.right.of_block (Below.heap_setCell w _ _ _ (Ne.symm H.ne))⟩
theorem Couples.setR (H : Couples w B n a b f h) (j : Nat) (x : Int) : Couples (w.setCell ⟨b, j, none⟩ (.int .i64 x)) B n a b f (updF h j x) :=
  ⟨H.ba, H.bb, H.ne, H.left.of_block (Below.heap_setCell w _ _ _ H.ne), H.right.set_ j x⟩
theorem Couples.congr {f' h' : Nat → Int} (H : Couples w B n a b f h) (e1 : ∀ j, j < n → f j = f' j) (e2 : ∀ j, j < n → h j = h' j) : Couples w B n a b f' h' :=
  ⟨H.ba, H.bb, H.ne, H.left.congr e1, H.right.congr e2⟩
theorem Couples.far (H : Couples w B n a b f h) {p : Addr} (h1 : a ≠ p.block) (h2 : b ≠ p.block) (v : Value) : Couples (w.setCell p v) B n a b f h :=
  ⟨H.ba, H.bb, H.ne, H.left.of_block (Below.heap_setCell w p v _ h1), H.right.of_block (Below.heap_setCell w p v _ h2)⟩
end
/-- The value of two rows. -/
def coupV (n a b : Nat) : Value := .agg #[.slice (some ⟨a, 0, none⟩) n n, .slice (some ⟨b, 0, none⟩) n n]

theorem cell_new0 (w : World) (v : Value) (t : TypeId) : (w.alloc (.cells #[v] t)).cell? ⟨w.heap.size, 0, none⟩ = some v :=
  cell_of_row _ _ 0 #[v] t (0, 0) (MapKept.heap_alloc w (.cells #[v] t)).1
set_option maxRecDepth 100000 in
set_option maxHeartbeats 2000000 in
theorem noPairs_any (n : Nat) (w : World) (hn : n ≤ 8) :
    Calls Try.prog 31 #[.int .i64 (n : Int)] w fun e w' => ∃ a b, e = .returned (.agg #[.slice (some ⟨a, 0, none⟩) n n, .slice (some ⟨b, 0, none⟩) n n]) ∧ Couples w' w.heap.size n a b (fun _ => -1) (fun _ => -1) ∧ Below w.heap.size w w' := by
  go_enter Try.func31, Try.ntmps31
  go_wp2_with fail
  refine (repeat_any (w.heap.size + 1) n _ (two_cell0 ..) (by rw [two_size0]; omega) hn).mono ?_
  rintro e w1 ⟨g1, rfl, hg1, hr1, hb1⟩
  have hs1 : w.heap.size + 2 ≤ w1.heap.size := by have := hb1.size; rw [two_size0] at this; exact this
  have hr0 : RowOf w1 w.heap.size 50 [.slice none 0 0, .slice none 0 0] := by
    refine RowOf.below ?_ hb1 (by simp; omega)
    exact (show RowOf (w.alloc (.cells #[.slice none 0 0, .slice none 0 0] 50)) w.heap.size 50 [.slice none 0 0, .slice none 0 0] from (MapKept.heap_alloc w _).1).alloc _
  have hB1 : Below w.heap.size w w1 := (two_below0 ..).trans (hb1.mono (by simp; omega))
  have H1 : Hid (RowC w1 g1 n (fun _ => -1) ∧ RowOf w1 w.heap.size 50 [.slice none 0 0, .slice none 0 0] ∧ Below w.heap.size w w1 ∧ w.heap.size < g1 ∧ w.heap.size + 2 ≤ w1.heap.size) := Lib.hid ⟨hr1, hr0, hB1, by rw [two_size0] at hg1; omega, hs1⟩
  clear hr1 hb1 hg1 hs1 hr0 hB1
  go_wp2_with fail
  refine (repeat_any w1.heap.size n _ (cell_new0 ..) (by simp) hn).mono ?_
  rintro e w2 ⟨g2, rfl, hg2, hr2, hb2⟩
  have hb2' : Below w1.heap.size w1 w2 := ((Below.refl _ _).alloc (Nat.le_refl _) _).trans (hb2.mono (by simp))
  have hr0 := H1.out.2.1.below hb2' (by have := H1.out.2.2.2.2; omega)
  have H2 : Hid (Couples w2 w.heap.size n g1 g2 (fun _ => -1) (fun _ => -1) ∧ w.heap.size < g1 ∧ w.heap.size < g2 ∧ Below w.heap.size w w2) := Lib.hid (by
    obtain ⟨a1, _, a3, a4, a5⟩ := H1.out
    have hl := a1.lt
    have hg : w1.heap.size < g2 := by simp at hg2; omega
    exact ⟨⟨by omega, by omega, by omega, a1.of_block (hb2'.block _ hl), hr2⟩, a4, by omega, a3.trans (hb2'.mono (by omega))⟩)
  have c0 := hr0.cell (i := 0) rfl
  have c1 := hr0.cell (i := 1) rfl
  have f0 := hr0.frozen 0
  have f1 := hr0.frozen 1
  clear hr2 hb2 hg2 hb2' H1
  have HF : Hid (RowOf ((w2.setCell ⟨w.heap.size, 0, none⟩ (.slice (some ⟨g1, 0, none⟩) n n)).setCell ⟨w.heap.size, 1, none⟩ (.slice (some ⟨g2, 0, none⟩) n n)) w.heap.size 50 [.slice (some ⟨g1, 0, none⟩) n n, .slice (some ⟨g2, 0, none⟩) n n] ∧ Couples ((w2.setCell ⟨w.heap.size, 0, none⟩ (.slice (some ⟨g1, 0, none⟩) n n)).setCell ⟨w.heap.size, 1, none⟩ (.slice (some ⟨g2, 0, none⟩) n n)) w.heap.size n g1 g2 (fun _ => -1) (fun _ => -1) ∧ Below w.heap.size w ((w2.setCell ⟨w.heap.size, 0, none⟩ (.slice (some ⟨g1, 0, none⟩) n n)).setCell ⟨w.heap.size, 1, none⟩ (.slice (some ⟨g2, 0, none⟩) n n))) := Lib.hid (by
    obtain ⟨a1, a2, a3, a4⟩ := H2.out
    exact ⟨(hr0.set_ 0 _).set_ 1 _, (a1.far (p := ⟨w.heap.size, 0, none⟩) (by show g1 ≠ w.heap.size; omega) (by show g2 ≠ w.heap.size; omega) _).far (p := ⟨w.heap.size, 1, none⟩) (by show g1 ≠ w.heap.size; omega) (by show g2 ≠ w.heap.size; omega) _, (a4.setCell (p := ⟨w.heap.size, 0, none⟩) (Nat.le_refl _) _).setCell (p := ⟨w.heap.size, 1, none⟩) (Nat.le_refl _) _⟩)
  clear H2 hr0
  go_wp2_with fail
  generalize ((w2.setCell ⟨w.heap.size, 0, none⟩ (.slice (some ⟨g1, 0, none⟩) n n)).setCell ⟨w.heap.size, 1, none⟩ (.slice (some ⟨g2, 0, none⟩) n n)) = W at HF ⊢
  have d0 := HF.out.1.cell (i := 0) rfl
  have d1 := HF.out.1.cell (i := 1) rfl
  refine bodyPost_ret (v := coupV n g1 g2) (by simp [coupV, results, Try.results31, go_sem, d0, d1]) rfl ⟨g1, g2, rfl, HF.out.2⟩

/-- A row of numbers with another one for a number of it, if it is one of it. -/
def updJ (h : Nat → Int) (r v : Int) : Nat → Int := fun j => if (j : Int) = r then v else h j
theorem updJ_at (h : Nat → Int) (k : Nat) (v : Int) : updJ h (k : Int) v = updF h k v := by
  funext j
  unfold updJ updF
  by_cases hj : j = k
  · rw [if_pos hj, if_pos (by omega)]
  · rw [if_neg hj, if_neg (by omega)]

set_option maxRecDepth 100000 in
set_option maxHeartbeats 2000000 in
theorem join_any (B n a b i : Nat) (r : Int) (f h : Nat → Int) (w : World) (HC : Couples w B n a b f h) (hi : i < n) (hr : r = -1 ∨ (0 ≤ r ∧ r < (n : Int))) :
    Calls Try.prog 32 #[.agg #[.slice (some ⟨a, 0, none⟩) n n, .slice (some ⟨b, 0, none⟩) n n], .int .i64 (i : Int), .int .i64 r] w fun e w' => e = .returned (.tuple #[]) ∧ Couples w' B n a b (updF f i r) (updJ h r (i : Int)) ∧ Only a b w w' := by
  have c0 := HC.left.cell hi
  have f0 := HC.left.frozen i
  have hal := HC.left.lt
  have hbl := HC.right.lt
  have han : a ≠ w.heap.size := by omega
  have hbn : b ≠ w.heap.size := by omega
  have hi0 : (i : Int) < (n : Int) := by omega
  have HC' := Lib.hid HC
  clear HC
  rcases hr with rfl | ⟨h0, h1⟩
  · go_enter Try.func32, Try.ntmps32
    go_wp2
    go_end0
    refine ⟨rfl, ?_, ?_⟩
    · exact ((HC'.out.setL i (-1)).keep ((Below.refl _ _).alloc (Nat.le_refl _) _)).congr (fun _ _ => rfl) fun j _ => by unfold updJ; rw [if_neg (by omega)]
    · exact ((Only.refl a b w).set_ (p := ⟨a, i, none⟩) (.inl rfl) _).trans (Only.of_below ((Below.refl _ _).alloc (Nat.le_refl _) _))
  · obtain ⟨k, rfl⟩ := Int.eq_ofNat_of_zero_le h0
    have hk : k < n := by omega
    have c1 := (HC'.out.setL i (k : Int)).right.cell hk
    have f1 := (HC'.out.setL i (k : Int)).right.frozen k
    have hk1 : ((k : Int) != -1) = true := by simp
    go_enter Try.func32, Try.ntmps32
    go_wp2
    go_end0
    refine ⟨rfl, ?_, ?_⟩
    · exact (((HC'.out.setL i (k : Int)).setR k (i : Int)).keep ((Below.refl _ _).alloc (Nat.le_refl _) _)).congr (fun _ _ => rfl) fun j _ => by rw [updJ_at]
    · exact (((Only.refl a b w).set_ (p := ⟨a, i, none⟩) (.inl rfl) _).set_ (p := ⟨b, k, none⟩) (.inr rfl) _).trans (Only.of_below ((Below.refl _ _).alloc (Nat.le_refl _) _))

set_option maxRecDepth 100000 in
set_option maxHeartbeats 2000000 in
theorem part_any (B n a b i : Nat) (r : Int) (f h : Nat → Int) (w : World) (HC : Couples w B n a b f h) (hi : i < n) (hf : f i = r) (hr : r = -1 ∨ (0 ≤ r ∧ r < (n : Int))) :
    Calls Try.prog 40 #[.agg #[.slice (some ⟨a, 0, none⟩) n n, .slice (some ⟨b, 0, none⟩) n n], .int .i64 (i : Int)] w fun e w' => e = .returned (.tuple #[]) ∧ Couples w' B n a b (updF f i (-1)) (updJ h r (-1)) ∧ Only a b w w' := by
  have c0 := HC.left.cell hi
  have f0 := HC.left.frozen i
  have hal := HC.left.lt
  have hbl := HC.right.lt
  have han : a ≠ w.heap.size := by omega
  have hbn : b ≠ w.heap.size := by omega
  have hi0 : (i : Int) < (n : Int) := by omega
  have HC' := Lib.hid HC
  rw [hf] at c0
  clear HC hf
  rcases hr with rfl | ⟨h0, h1⟩
  · go_enter Try.func40, Try.ntmps40
    go_wp2
    go_end0
    refine ⟨rfl, ?_, ?_⟩
    · exact ((HC'.out.setL i (-1)).keep ((Below.refl _ _).alloc (Nat.le_refl _) _)).congr (fun _ _ => rfl) fun j _ => by unfold updJ; rw [if_neg (by omega)]
    · exact ((Only.refl a b w).set_ (p := ⟨a, i, none⟩) (.inl rfl) _).trans (Only.of_below ((Below.refl _ _).alloc (Nat.le_refl _) _))
  · obtain ⟨k, rfl⟩ := Int.eq_ofNat_of_zero_le h0
    have hk : k < n := by omega
    have c1 := HC'.out.right.cell hk
    have f1 := HC'.out.right.frozen k
    have c2 := (HC'.out.setR k (-1)).left.cell hi
    have f2 := (HC'.out.setR k (-1)).left.frozen i
    have hk1 : ((k : Int) != -1) = true := by simp
    go_enter Try.func40, Try.ntmps40
    go_wp2
    go_end0
    refine ⟨rfl, ?_, ?_⟩
    · exact (((HC'.out.setR k (-1)).setL i (-1)).keep ((Below.refl _ _).alloc (Nat.le_refl _) _)).congr (fun _ _ => rfl) fun j _ => by rw [updJ_at]
    · exact (((Only.refl a b w).set_ (p := ⟨b, k, none⟩) (.inr rfl) _).set_ (p := ⟨a, i, none⟩) (.inl rfl) _).trans (Only.of_below ((Below.refl _ _).alloc (Nat.le_refl _) _))
end Go.Proofs.Ytlndghclkcfedaa
