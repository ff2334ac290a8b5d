/- The reference's ring from nothing on; its first odd ring. -/
import Derived.Test.YthfgbgmkiggjmabDoorRefRing2
namespace Go.Proofs.YthfgbgmkiggjmabDoor
open Go.RowKit

theorem ring_calls (m : Nat) (A : Option Addr) (len cap size : Nat) (es : List E3) (hl : len ≤ 45) (hm : m ≤ 10) (hs3 : 3 ≤ size) (hs : size ≤ 10) : ∀ (f k : Nat), k + f = size → 1 ≤ k → RingCall m A len cap size es f k
  | 0, k, hk, _ => by
    obtain rfl : k = size := by omega
    exact fun l Al capl w hE hI hc hlt hnd => refRing_zero m A Al len cap k capl es l w hE hl hI hc hs3 hs hlt hnd
  | f + 1, k, hk, h1 => by
    obtain ⟨q, rfl⟩ : ∃ q, k = q + 1 := ⟨k - 1, by omega⟩
    exact ring_step m A len cap size q f es hl hm hs (by omega) (ring_calls m A len cap size es hl hm hs3 hs f (q + 1 + 1) (by omega) (by omega))

set_option maxRecDepth 100000 in
set_option maxHeartbeats 4000000 in
theorem ring_top (m : Nat) (A : Option Addr) (len cap size f : Nat) (es : List E3) (w : World) (hE : EdgesAt w w.heap.size A len es) (_hl : len ≤ 45) (hm : m ≤ 10) (hs : size ≤ 10) (hf : 1 + f = size) (ih : RingCall m A len cap size es f 1) :
    Calls Tryd.prog 61 #[.agg #[.int .i64 m, .slice A len cap], .slice none 0 0, .int .i64 size, .bool false] w fun e w' => RingOut size (refRing (adjE es) m (f + 1) []) e w' ∧ Below w.heap.size w w' := by
  have HIH := Lib.hid ih
  have HX := Lib.hid (BoxG.start (n := m) (cap := cap) hE)
  have HF := Lib.hid hf
  clear hE ih
  obtain ⟨i0, hi, hz0, hz1, hz2⟩ := info_parts infoInt
  have HJ := Lib.hid hi
  have HJ0 := Lib.hid hz0
  have HJ1 := Lib.hid hz1
  have HJ2 := Lib.hid hz2
  clear hi hz0 hz1 hz2
  have hs0 : decide (0 < (size : Int)) = true := by simp; omega
  have hs1 : decide (0 < size) = true := by simp; omega
  have hs2 : 0 < size := by omega
  have hs3 : ((0 : Int) == (size : Int)) = false := by simp; omega
  have hs4 : ¬ (0 : Int) = (size : Int) := by omega
  clear hf
  go_enter Tryd.func61, Tryd.ntmps61
  go_wp2
  go_loopw [9, 10, 11] (fun j _ _ wr => ∃ i : Nat, i ≤ m ∧ j = .int .i64 i ∧ Hid (∀ y, y < i → ringF es m f [] y = none) ∧ Hid (BoxG w m A len cap es wr)) (fun j _ _ _ => m - (intOf j).toNat)
  case atStart => exact ⟨0, Nat.zero_le _, rfl, Lib.hid (fun y hy => by omega), HX⟩
  case round =>
    obtain ⟨i, hi, rfl, HN, HB⟩ := hrel
    have hc0 := HB.out.c0
    have hc1 := HB.out.c1
    by_cases him : i < m
    · have HNX : Hid (ringF es m f [] i = none → ∀ y, y < i + 1 → ringF es m f [] y = none) := Lib.hid fun h y hy => by
        rcases Nat.lt_or_ge y i with h1 | h1
        · exact HN.out y h1
        · obtain rfl : y = i := by omega
          exact h
      have HRF : Hid (ringF es m f [] i = refRing (adjE es) m f [i]) := Lib.hid (by unfold ringF; rw [if_pos (by simp [candB])]; rfl)
      have HHF : Hid (hasI ([] : List Int) (i : Int) = false) := Lib.hid rfl
      have ii1 : (i : Int) < (m : Int) := by omega
      go_wp2
      go_quiet ((go_at_call 45; exact Calls.quiet_of_same ((has_v 0 0 (i : Int) false none [] _ (IntsAt.nil_ _ _ _) (by omega) HHF.out).mono fun e w' h => ⟨h.1, h.2.symm⟩)))
      have HBq : Hid (BoxG w m A len cap es (wr.drewN nq)) := Lib.hid (HB.out.next (below_drewN (Below.refl _ _) _))
      clear hc0 hc1
      generalize wr.drewN nq = W at HBq ⊢
      have HOW : Hid ((W.alloc (.cells #[] 3)).ownsRow W.heap.size 3 1 (.slice (some ⟨W.heap.size, 0, none⟩) 0 0) 0 []) := Lib.hid ⟨rfl, .inr ⟨W.heap.size, 0, _, rfl, Nat.le_refl _, (MapKept.heap_alloc W _).1, Nat.le_refl _, by unfold maxLen; omega, rfl, rfl⟩⟩
      go_wp2_with (at_builtin; refine wpList_append_own _ rfl _ _ 25 rfl W.heap.size 3 i0 (.int .i64 0) 1 8 Tryd.underlying25 HJ.out HJ0.out HJ1.out HJ2.out rfl (by decide) _ _ _ rfl (HOW.out.alloc _) ⟨W.heap.size + 1, 0, none⟩ 1 1 [.int .i64 (i : Int)] rfl rfl ?d1 ?d2 ?d3 ?d4 ?d5 ?_)
      try (case d1 => intro j u hj; rcases j with _ | j <;> simp at hj; subst hj; simp [go_sem, Addr.add])
      case d2 => simp [Value.oneCell']
      case d3 => unfold maxLen; omega
      case d4 => omega
      case d5 => simp; omega
      intro v2 w6 hown6 hgrow6 _
      obtain ⟨g2, c2, HV2⟩ : ∃ g2 c2, Hid (v2 = .slice (some ⟨g2, 0, none⟩) 1 c2) := by
        obtain ⟨g2, c2, hv⟩ := own_some2 hown6 (by omega)
        exact ⟨g2, c2, Lib.hid hv⟩
      obtain rfl := HV2.out
      have HI6 : Hid (IntsAt w6 w6.heap.size (some ⟨g2, 0, none⟩) 1 (natsL [i])) := Lib.hid (IntsAt.of_own (t := 3) hown6 (Nat.le_refl _))
      have hc2 : 1 ≤ c2 := own_cap2 hown6
      have HB6 : Hid (BoxG w m A len cap es w6) := Lib.hid (HBq.out.next ((((Below.refl _ _).alloc (Nat.le_refl _) _).alloc (by simp) _).grown hgrow6 (by simp; omega) (fun g hg => by simp [Value.ownBlock] at hg; omega)))
      clear hown6 hgrow6 HV2 HOW
      have HLT6 : Hid (∀ j, j < 1 → [i].getD j 0 < m) := Lib.hid fun j hj => by
        obtain rfl : j = 0 := by omega
        exact him
      have HND6 : Hid (∀ a b, a < b → b < 1 → [i].getD a 0 ≠ [i].getD b 0) := Lib.hid fun a b hab hb => by omega
      have hd0 := HB6.out.c0
      have hd1 := HB6.out.c1
      have HCALL := Lib.hid (HIH.out [i] (some ⟨g2, 0, none⟩) c2 w6 HB6.out.edges HI6.out hc2 HLT6.out HND6.out)
      clear HIH HLT6 HND6 HI6
      cases hr : refRing (adjE es) m f [i] with
      | some r =>
        have HO := Lib.hid (ringF_one HN.out him (by rw [HRF.out]; exact hr))
        have HR := Lib.hid hr
        clear hr
        go_wp2_with (go_at_call 61; refine HCALL.out.mono ?_; rintro e w7 ⟨ho, hb7⟩; obtain ⟨A7, cap7, rfl, hi7⟩ := ho.some_ r HR.out; have HI7 := Lib.hid hi7; have HB7 := Lib.hid (HB6.out.next hb7); clear ho hi7 hb7)
        go_ret
        exact ⟨⟨fun r' h => (by rw [HO.out] at h; injection h with h; subst h; exact ⟨_, _, rfl, HI7.out⟩), fun h => (by rw [HO.out] at h; cases h)⟩, HB7.out.below⟩
      | none =>
        have HN2 := Lib.hid (HNX.out (by rw [HRF.out]; exact hr))
        have HR := Lib.hid hr
        clear hr
        go_wp2_with (go_at_call 61; refine HCALL.out.mono ?_; rintro e w7 ⟨ho, hb7⟩; obtain rfl := ho.none_ HR.out; have HB7 := Lib.hid (HB6.out.next hb7); clear ho hb7)
        go_roundw
        case rel => exact ⟨i + 1, by omega, by go_num, HN2, HB7⟩
        case measure => simp [intOf]; omega
    · have HO := Lib.hid (ringF_all (fun y hy => HN.out y (by omega)))
      go_wp2
      go_ret
      exact ⟨⟨fun r h => (by rw [HO.out] at h; cases h), fun _ => rfl⟩, HB.out.below⟩

set_option maxRecDepth 100000 in
/-- The first ring of a size, from nothing on. -/
theorem ring_nil (m : Nat) (A : Option Addr) (len cap size : Nat) (es : List E3) (o : Option (List Nat)) (w : World) (hE : EdgesAt w w.heap.size A len es) (hl : len ≤ 45) (hm : m ≤ 10) (hs3 : 3 ≤ size) (hs : size ≤ 10) (ho : refRing (adjE es) m size [] = o) :
    Calls Tryd.prog 61 #[.agg #[.int .i64 m, .slice A len cap], .slice none 0 0, .int .i64 size, .bool false] w fun e w' => RingOut size o e w' ∧ Below w.heap.size w w' := by
  obtain ⟨f, rfl⟩ : ∃ f, size = f + 1 := ⟨size - 1, by omega⟩
  subst ho
  exact ring_top m A len cap (f + 1) f es w hE hl hm hs (by omega) (ring_calls m A len cap (f + 1) es hl hm hs3 hs f 1 (by omega) (Nat.le_refl _))

/-- What OddRing tells. -/
def OddOut (o : Option (List Nat)) (e : Ending) (w' : World) : Prop := (∀ r, o = some r → ∃ A cap, e = .returned (.slice A r.length cap) ∧ IntsAt w' w'.heap.size A r.length (natsL r)) ∧ (o = none → e = .returned (.slice none 0 0))
set_option maxRecDepth 100000 in
set_option maxHeartbeats 1000000 in
/-- The first ring of the least odd size that has one. -/
theorem oddRing_some (m : Nat) (A : Option Addr) (len cap n : Nat) (es : List E3) (r : List Nat) (w : World) (hE : EdgesAt w w.heap.size A len es) (hl : len ≤ 45) (hm : m ≤ 10) (hn3 : 3 ≤ n) (hnm : n ≤ m) (hodd : n % 2 = 1) (hr : refRing (adjE es) m n [] = some r) (h0 : ∀ k, k < n → k % 2 = 1 → refRing (adjE es) m k [] = none) :
    Calls Tryd.prog 33 #[.agg #[.int .i64 m, .slice A len cap]] w fun e w' => (∃ A cap, e = .returned (.slice A n cap) ∧ IntsAt w' w'.heap.size A n (natsL r)) ∧ Below w.heap.size w w' := by
  have HX := Lib.hid (BoxG.start (n := m) (cap := cap) hE)
  have HR := Lib.hid hr
  have H0 := Lib.hid h0
  have HOD := Lib.hid hodd
  clear hE hr h0 hodd
  go_enter Tryd.func33, Tryd.ntmps33
  go_wp2
  go_loopw [3, 4] (fun j _ wr => ∃ k : Nat, 3 ≤ k ∧ k ≤ n ∧ j = .int .i64 k ∧ Hid (k % 2 = 1) ∧ Hid (BoxG w m A len cap es wr)) (fun j _ _ => n + 2 - (intOf j).toNat)
  case atStart => exact ⟨3, Nat.le_refl _, hn3, rfl, Lib.hid rfl, HX⟩
  case round =>
    obtain ⟨k, hk3, hkn, rfl, HK, HB⟩ := hrel
    have hc0 := HB.out.c0
    have hc1 := HB.out.c1
    have hkm : (k : Int) ≤ (m : Int) := by omega
    by_cases hk : k = n
    · subst hk
      have HC := Lib.hid (ring_nil m A len cap k es (some r) wr HB.out.edges hl hm hk3 (by omega) HR.out)
      have hs0 : decide (0 < (k : Int)) = true := by simp; omega
      have hs1 : decide (0 < k) = true := by simp; omega
      have hs2 : 0 < k := by omega
      go_wp2_with (go_at_call 61; refine HC.out.mono ?_; rintro e w7 ⟨ho, hb7⟩; obtain ⟨A7, cap7, rfl, hi7⟩ := ho.some_ r rfl; have HI7 := Lib.hid hi7; have HB7 := Lib.hid (HB.out.next hb7); clear ho hi7 hb7)
      go_ret
      exact ⟨⟨_, _, rfl, HI7.out⟩, HB7.out.below⟩
    · have HC := Lib.hid (ring_nil m A len cap k es none wr HB.out.edges hl hm hk3 (by omega) (H0.out k (by omega) HK.out))
      have hk2 : k + 2 ≤ n := by have := HK.out; have := HOD.out; omega
      have HK2 : Hid ((k + 2) % 2 = 1) := Lib.hid (by have := HK.out; omega)
      go_wp2_with (go_at_call 61; refine HC.out.mono ?_; rintro e w7 ⟨ho, hb7⟩; obtain rfl := ho.none_ rfl; have HB7 := Lib.hid (HB.out.next hb7); clear ho hb7)
      go_roundw
      case rel => exact ⟨k + 2, by omega, hk2, by go_num, HK2, HB7⟩
      case measure => simp [intOf]; omega
set_option maxRecDepth 100000 in
set_option maxHeartbeats 1000000 in
theorem oddRing_none (m : Nat) (A : Option Addr) (len cap : Nat) (es : List E3) (w : World) (hE : EdgesAt w w.heap.size A len es) (hl : len ≤ 45) (hm : m ≤ 10) (h0 : ∀ k, k % 2 = 1 → refRing (adjE es) m k [] = none) :
    Calls Tryd.prog 33 #[.agg #[.int .i64 m, .slice A len cap]] w fun e w' => e = .returned (.slice none 0 0) ∧ Below w.heap.size w w' := by
  have HX := Lib.hid (BoxG.start (n := m) (cap := cap) hE)
  have H0 := Lib.hid h0
  clear hE h0
  go_enter Tryd.func33, Tryd.ntmps33
  go_wp2
  go_loopw [3, 4] (fun j _ wr => ∃ k : Nat, 3 ≤ k ∧ k ≤ m + 4 ∧ j = .int .i64 k ∧ Hid (k % 2 = 1) ∧ Hid (BoxG w m A len cap es wr)) (fun j _ _ => m + 6 - (intOf j).toNat)
  case atStart => exact ⟨3, Nat.le_refl _, by omega, rfl, Lib.hid rfl, HX⟩
  case round =>
    obtain ⟨k, hk3, hkn, rfl, HK, HB⟩ := hrel
    have hc0 := HB.out.c0
    have hc1 := HB.out.c1
    by_cases hk : k ≤ m
    · have hkm : (k : Int) ≤ (m : Int) := by omega
      have HC := Lib.hid (ring_nil m A len cap k es none wr HB.out.edges hl hm hk3 (by omega) (H0.out k HK.out))
      have HK2 : Hid ((k + 2) % 2 = 1) := Lib.hid (by have := HK.out; omega)
      go_wp2_with (go_at_call 61; refine HC.out.mono ?_; rintro e w7 ⟨ho, hb7⟩; obtain rfl := ho.none_ rfl; have HB7 := Lib.hid (HB.out.next hb7); clear ho hb7)
      go_roundw
      case rel => exact ⟨k + 2, by omega, by omega, by go_num, HK2, HB7⟩
      case measure => simp [intOf]; omega
    · have hkm : ¬ (k : Int) ≤ (m : Int) := by omega
      go_wp2
      go_ret
      exact ⟨rfl, HB.out.below⟩
end Go.Proofs.YthfgbgmkiggjmabDoor
