/- pairs.Most: the first of the best pairings. -/
import Derived.Test.YtblbjiogojldhaaDoorFirstRight
import Derived.Test.YtblbjiogojldhaaDoorPairCheck
namespace Go.Proofs.YtblbjiogojldhaaDoor
open Go.RowKit

theorem frZ_drop (xs : List Nat) (k n i t : Nat) : frZ (xs.drop k) n i t = frZ xs n (i + k) t := by
  have hn : ∀ j, nearF (xs.drop k) i j = nearF xs (i + k) j := fun j => by
    unfold nearF
    rw [List.getD_eq_getElem?_getD, List.getD_eq_getElem?_getD, List.getElem?_drop, Nat.add_comm]
  have hf : fitP (nearF (xs.drop k)) 8 n i (cT t) = fitP (nearF xs) 8 n (i + k) (cT t) := by
    funext j
    unfold fitP
    rw [hn j, mxR_drop, mxR_drop, show i + 1 + k = i + k + 1 by omega]
  unfold frZ
  rw [hf]
/-- The first of the best pairings of all. -/
def bestW (xs : List Nat) : List Int := bestP (nearF xs) 8 xs.length 0 (cT 0)
theorem bestW_len (xs : List Nat) : (bestW xs).length = xs.length := bestP_len _ _ _
/-- As far as the lefts below k were paired: p: with whom; t: who was taken. -/
def MostInv (xs : List Nat) (k t : Nat) (p : List Int) : Prop := p.length = k ∧ p ++ bestP (nearF xs) 8 (xs.length - k) k (cT t) = bestW xs
section
variable {xs : List Nat} {k t : Nat} {p : List Int}
theorem MostInv.start (xs : List Nat) : MostInv xs 0 0 [] := ⟨rfl, rfl⟩
theorem MostInv.next (H : MostInv xs k t p) (hk : k < xs.length) : (∃ j : Nat, j < 8 ∧ frZ xs (xs.length - k - 1) k t = (j : Int) ∧ MostInv xs (k + 1) (t ||| 2 ^ j) (p ++ [(j : Int)])) ∨ (frZ xs (xs.length - k - 1) k t = -1 ∧ MostInv xs (k + 1) t (p ++ [-1])) := by
  obtain ⟨h1, h2⟩ := H
  have e : xs.length - k = xs.length - (k + 1) + 1 := by omega
  rw [e] at h2
  simp only [bestP] at h2
  have e2 : xs.length - k - 1 = xs.length - (k + 1) := by omega
  unfold frZ
  rw [e2]
  split at h2
  · rename_i j hj
    obtain ⟨g1, g2, _⟩ := find_some hj
    obtain ⟨_, g3, _⟩ := fitP_iff.1 g2
    have ht : t.testBit j = false := by
      cases hb : t.testBit j with
      | false => rfl
      | true => unfold cT at g3; rw [hb, if_pos rfl] at g3; omega
    refine .inl ⟨j, g1, by rw [hj], by rw [List.length_append, h1]; rfl, ?_⟩
    rw [cT_dec ht] at h2
    rw [List.append_assoc]
    exact h2
  · rename_i hj
    refine .inr ⟨by rw [hj], by rw [List.length_append, h1]; rfl, ?_⟩
    rw [List.append_assoc]
    exact h2
theorem MostInv.end_ (H : MostInv xs k t p) (hk : k = xs.length) : p = bestW xs := by
  obtain ⟨h1, h2⟩ := H
  subst hk
  rw [Nat.sub_self] at h2
  simpa [bestP] using h2
end
theorem set_grow (p : List Int) (n k : Nat) (x : Int) (hp : p.length = k) (hk : k < n) : (p ++ List.replicate (n - k) 0).set k x = (p ++ [x]) ++ List.replicate (n - (k + 1)) 0 := by
  rw [show n - k = n - (k + 1) + 1 by omega, List.replicate_succ, List.set_append_right _ _ (by omega), show k - p.length = 0 by omega, List.set_cons_zero, List.append_assoc]
  rfl

set_option maxRecDepth 100000 in
set_option maxHeartbeats 1000000 in
theorem mostGo_bad (len cap : Nat) (A : Option Addr) (xs : List Nat) (v : Int) (w : World) (hA : WordsAt w w.heap.size A len xs) (hm : len ≤ maxLen) (hx : ∀ x ∈ xs, x < 4294967296) (hv : pcheck xs = v) (hv0 : v ≠ 0) :
    Calls Tryd.prog 7 #[.slice A len cap] w fun e w' => e = .returned (.tuple #[.slice none 0 0, .int .i64 v]) ∧ w = w' := by
  have hb0 : (v != 0) = true := by simpa using hv0
  have HC := Lib.hid (check_v len cap A xs v w hA hm hx hv)
  clear hA hv hx
  go_enter Tryd.func7, Tryd.ntmps7
  go_wp2_with (go_at_call 19; refine HC.out.mono ?_; rintro e w' ⟨rfl, rfl⟩)
  exact bodyPost_ret (v := .tuple #[.slice none 0 0, .int .i64 v]) (by simp [results, Tryd.results7, go_sem]) rfl ⟨rfl, rfl⟩

set_option maxRecDepth 100000 in
set_option maxHeartbeats 4000000 in
theorem mostGo_good (len cap : Nat) (A : Option Addr) (xs : List Nat) (w : World) (hA : WordsAt w w.heap.size A len xs) (hcap : len ≤ cap) (hm : cap ≤ maxLen) (hl : len ≤ 8) (hx : W8 xs) (hT : Tab w) :
    Calls Tryd.prog 7 #[.slice A len cap] w fun e w' => ∃ g, e = .returned (.tuple #[.slice (some ⟨g, 0, none⟩) len len, .int .i64 0]) ∧ RowOf w' g 3 ((bestW xs).map (Value.int .i64)) ∧ w.heap.size ≤ g ∧ Below w.heap.size w w' := by
  have hlen := hA.1
  have HL : Hid (xs.length = len) := Lib.hid hlen
  have HC := Lib.hid (check_v len cap A xs 0 w hA (by unfold maxLen; omega) (fun x h => by have := hx x h; omega) (pcheck_ok (by omega) fun i _ => hx.at_ i))
  have HA := Lib.hid hA
  have HX := Lib.hid hx
  have HT := Lib.hid hT
  unfold maxLen at hm
  clear hA hx hlen hT
  have hmk := fun W => run_make_row' (P := Tryd.prog) 23 3 (.int .i64 0) 8 Tryd.underlying23 (by kernel_rfl) rfl .i64 .i64 len (by omega) (by omega) W
  go_enter Tryd.func7, Tryd.ntmps7
  go_wp2_with (go_at_call 19; refine HC.out.mono ?_; rintro e w' ⟨rfl, rfl⟩)
  clear HC hmk
  go_loopw [6, 19] (fun tk j wr => ∃ (k t : Nat) (p : List Int), k ≤ len ∧ t < 256 ∧ j = .int .i64 k ∧ tk = .int .u32 t ∧ Hid (MostInv xs k t p) ∧ Hid (RowOf wr w.heap.size 3 ((p ++ List.replicate (len - k) 0).map (Value.int .i64))) ∧ Hid (Below w.heap.size w wr)) (fun _ j _ => len - (intOf j).toNat)
  case atStart =>
    refine ⟨0, 0, [], Nat.zero_le _, by omega, rfl, rfl, Lib.hid (MostInv.start xs), Lib.hid ?_, Lib.hid ((Below.refl _ _).alloc (Nat.le_refl _) _)⟩
    rw [List.nil_append, List.map_replicate, Nat.sub_zero]
    exact RowOf.made w _ len _
  case round =>
    obtain ⟨k, t, p, hk, ht, rfl, rfl, HI, HR, HB⟩ := hrel
    by_cases hlt : k < len
    · obtain ⟨b, off, rfl, hbl, _⟩ := HA.out.at_ hlt
      have HW : Hid (WordsAt wr wr.heap.size (some ⟨b, off, none⟩) len xs) := Lib.hid ((HA.out.below HB.out).more HB.out.size)
      have HCALL : Hid (Calls Tryd.prog 20 #[.slice (some ⟨b, off + k, none⟩) (len - k) (cap - k), .int .u32 t] wr fun e w' => e = .returned (.int .i64 (frZ xs (len - k - 1) k t)) ∧ Below wr.heap.size wr w') := Lib.hid (by
        have h1 := HW.out.drop_ (k := k) (by omega)
        obtain ⟨n, hn⟩ : ∃ n, len - k = n + 1 := ⟨len - k - 1, by omega⟩
        rw [hn] at h1 ⊢
        have h2 := firstRight_any n (cap - k) t b (off + k) (xs.drop k) wr h1 (by omega) (by omega) (by omega) (fun x hx => HX.out x (List.mem_of_mem_drop hx)) ht (HT.out.go_ HB.out)
        rw [frZ_drop, Nat.zero_add] at h2
        rw [Nat.add_sub_cancel]
        exact h2)
      have HNX := Lib.hid (HI.out.next (by rw [HL.out]; exact hlt))
      rw [HL.out] at HNX
      have hk1 : (k : Int) ≤ (len : Int) := by omega
      have hk2 : (k : Int) < (cap : Int) := by omega
      have HPL : Hid (p.length = k) := Lib.hid HI.out.1
      clear HI
      generalize frZ xs (len - k - 1) k t = z at HCALL HNX
      go_wp2_with fail
      refine HCALL.out.mono ?_
      rintro e w2 ⟨rfl, hb2⟩
      have HB2 : Hid (Below w.heap.size w w2) := Lib.hid (HB.out.trans (hb2.mono HB.out.size))
      have HR2 : Hid (RowOf w2 w.heap.size 3 ((p ++ List.replicate (len - k) 0).map (Value.int .i64))) := Lib.hid (HR.out.keep hb2)
      have ck : w2.cell? ⟨w.heap.size, k, none⟩ = some (.int .i64 0) := HR2.out.cell (by
        rw [List.getElem?_map, List.getElem?_append_right (by have := HPL.out; omega), List.getElem?_replicate, if_pos (by have := HPL.out; omega)]; rfl)
      have fk := HR2.out.frozen k
      have HST : Hid (∀ x : Int, RowOf (w2.setCell ⟨w.heap.size, k, none⟩ (.int .i64 x)) w.heap.size 3 (((p ++ [x]) ++ List.replicate (len - (k + 1)) 0).map (Value.int .i64)) ∧ Below w.heap.size w (w2.setCell ⟨w.heap.size, k, none⟩ (.int .i64 x))) := Lib.hid fun x =>
        ⟨by rw [← set_grow p len k x HPL.out hlt, List.map_set]; exact HR2.out.set_ k _, HB2.out.setCell (p := ⟨w.heap.size, k, none⟩) (Nat.le_refl _) _⟩
      have ik0 : (0 : Int) ≤ (k : Int) := by omega
      have ik1 : (k : Int) < (len : Int) := by omega
      clear hb2 HR HB HCALL HW
      rcases HNX.out with ⟨j, hj, rfl, hN⟩ | ⟨rfl, hN⟩
      · have HN := Lib.hid hN
        have hpj : 2 ^ j < 2 ^ 8 := Nat.pow_lt_pow_right (by decide) hj
        rw [show 2 ^ 8 = 256 from rfl] at hpj
        have hq : t ||| 2 ^ j < 256 := or_pow_lt ht hj
        have hsj : (2 : Int) ^ j % 4294967296 = ((2 ^ j : Nat) : Int) := pow_mod j (by omega)
        have htj : IntKind.u32.wrap ((2 : Int) ^ j) = ((2 ^ j : Nat) : Int) := by rw [wrap_u32n]; exact hsj
        have hor := or_u32 t (2 ^ j) (by omega) (by omega)
        clear hN HNX
        generalize t ||| 2 ^ j = q at hq hor HN
        generalize 2 ^ j = pj at hpj hsj htj hor
        go_wp2_with fail
        go_roundw
        case rel => exact ⟨k + 1, q, _, by omega, hq, by go_num, rfl, HN, Lib.hid (HST.out _).1, Lib.hid (HST.out _).2⟩
        case measure => simp [intOf]; omega
      · have HN := Lib.hid hN
        clear hN HNX
        go_wp2_with fail
        go_roundw
        case rel => exact ⟨k + 1, t, _, by omega, ht, by go_num, rfl, HN, Lib.hid (HST.out _).1, Lib.hid (HST.out _).2⟩
        case measure => simp [intOf]; omega
    · obtain rfl : k = len := by omega
      have HE : Hid (RowOf wr w.heap.size 3 ((bestW xs).map (Value.int .i64))) := Lib.hid (by
        have h1 := HR.out
        rw [Nat.sub_self, HI.out.end_ HL.out.symm] at h1
        simpa using h1)
      go_wp2_with fail
      go_ret2
      exact ⟨_, rfl, HE.out, Nat.le_refl _, HB.out⟩
end Go.Proofs.YtblbjiogojldhaaDoor
