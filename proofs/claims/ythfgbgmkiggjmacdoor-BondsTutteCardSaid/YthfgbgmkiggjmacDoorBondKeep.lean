/- The reference's Has. The keepers' once: over the reference's Has. The keepers' inside. The keepers' good: may a graph be? The keepers' bond: is a list of places a bond? No conditions. -/
import Derived.Test.YthfgbgmkiggjmacDoorRows2
import Derived.Test.YthfgbgmkiggjmacDoorNear
import Derived.Test.YthfgbgmkiggjmacDoorCheckGo
import Derived.Test.YthfgbgmkiggjmacDoorBondsP
import Derived.Test.YthfgbgmkiggjmacDoorBoxG
import Derived.Test.YthfgbgmkiggjmacDoorIntsAny
import Derived.Test.YthfgbgmkiggjmacDoorOwn
import Derived.Deep.AppendLies
import Derived.Deep.RegionLaw
namespace Go.Proofs.YthfgbgmkiggjmacDoor
open Go.RowKit

def hasI (xs : List Int) (v : Int) : Bool := xs.contains v
theorem hasI_iff {xs : List Int} {v : Int} : hasI xs v = true ↔ v ∈ xs := by unfold hasI; rw [List.contains_iff_mem]
set_option maxRecDepth 100000 in
set_option maxHeartbeats 400000 in
theorem has_any (n cap : Nat) (v : Int) (A : Option Addr) (xs : List Int) (w : World) (hA : IntsAt w w.heap.size A n xs) (hn : n ≤ 9223372036854775807) :
    Calls Tryd.prog 44 #[.slice A n cap, .int .i64 v] w fun e w' => e = .returned (.bool (hasI xs v)) ∧ w = w' := by
  have HA := Lib.hid hA
  clear hA
  go_enter Tryd.func44, Tryd.ntmps44
  go_wp2
  go_loop [9] (fun j => ∃ i : Nat, i ≤ n ∧ j = .int .i64 i ∧ Hid (v ∉ xs.take i)) (fun j => n - (intOf j).toNat)
  case atStart => exact ⟨0, Nat.zero_le _, rfl, Lib.hid (by simp)⟩
  case round =>
    obtain ⟨i, hi, rfl, HT⟩ := hrel
    by_cases hin : i < n
    · obtain ⟨b, off, x, rfl, _, hx, hc⟩ := HA.out.at_ hin
      have ix0 : (0 : Int) ≤ (i : Int) := by omega
      have ix1 : (i : Int) < (n : Int) := by omega
      by_cases hvx : v = x
      · subst hvx
        have HR : Hid (hasI xs v = true) := Lib.hid (by rw [hasI_iff]; exact List.mem_of_getElem? hx)
        clear hx
        go_wp2
        go_ret
        exact ⟨ret_bool HR.out.symm, rfl⟩
      · have hne : (v == x) = false := by simpa using hvx
        have HN : Hid (v ∉ xs.take (i + 1)) := Lib.hid (by
          obtain ⟨h1, h2⟩ := List.getElem?_eq_some_iff.1 hx
          rw [List.take_succ_eq_append_getElem h1, h2, List.mem_append, List.mem_singleton]
          exact fun h => h.elim HT.out hvx)
        clear hx
        go_wp2
        go_round
        case rel => exact ⟨i + 1, by omega, by go_num, HN⟩
        case measure => simp [intOf]; omega
    · have HR : Hid (hasI xs v = false) := Lib.hid (by
        unfold hasI
        have := HT.out
        rw [List.take_of_length_le (by have := HA.out.1; omega)] at this
        simpa using this)
      go_wp2
      go_ret
      exact ⟨ret_bool HR.out.symm, rfl⟩
set_option maxRecDepth 100000 in
theorem has_v (n cap : Nat) (v : Int) (b : Bool) (A : Option Addr) (xs : List Int) (w : World) (hA : IntsAt w w.heap.size A n xs) (hn : n ≤ 9223372036854775807) (hb : hasI xs v = b) :
    Calls Tryd.prog 44 #[.slice A n cap, .int .i64 v] w fun e w' => e = .returned (.bool b) ∧ w = w' := by
  subst hb; exact has_any n cap v A xs w hA hn
end Go.Proofs.YthfgbgmkiggjmacDoor
namespace Go.Proofs.YthfgbgmkiggjmacDoor
open Go.RowKit

theorem IntsAt.take_ {w : World} {B n k : Nat} {A : Option Addr} {xs : List Int} (h : IntsAt w B A n xs) (hk : k ≤ n) : IntsAt w B A k (xs.take k) :=
  ⟨by rw [List.length_take, h.1]; omega, fun hk0 => by
    obtain ⟨b, off, e, hb, hc⟩ := h.2 (by omega)
    exact ⟨b, off, e, hb, fun i x hx => hc i x (by rw [List.getElem?_take] at hx; split at hx <;> simp_all)⟩⟩

def onceB (xs : List Int) : Bool := decide xs.Nodup
set_option maxRecDepth 100000 in
set_option maxHeartbeats 400000 in
theorem once_any (A : Option Addr) (n c : Nat) (xs : List Int) (w : World) (h1 : IntsAt w w.heap.size A n xs) (hn : n ≤ 9223372036854775807) (hnc : n ≤ c) :
    Calls Tryd.prog 37 #[.slice A n c] w fun e w' => e = .returned (.bool (onceB xs)) ∧ w = w' := by
  have H1 := Lib.hid h1
  clear h1
  go_enter Tryd.func37, Tryd.ntmps37
  go_wp2
  go_loop [7] (fun j => ∃ k : Nat, k ≤ n ∧ j = .int .i64 k ∧ Hid ((xs.take k).Nodup)) (fun j => n - (intOf j).toNat)
  case atStart => exact ⟨0, Nat.zero_le _, rfl, Lib.hid (by simp)⟩
  case round =>
    obtain ⟨k, hk, rfl, HD⟩ := hrel
    by_cases hlt : k < n
    · obtain ⟨b, off, y, rfl, _, hy, hc⟩ := H1.out.at_ hlt
      have HT := Lib.hid (H1.out.take_ hk)
      by_cases hv : y ∈ xs.take k
      · have HR : Hid (onceB xs = false) := Lib.hid (by
          unfold onceB
          rw [decide_eq_false_iff_not]
          intro hnd
          obtain ⟨h2, h3⟩ := List.getElem?_eq_some_iff.1 hy
          have h4 : (xs.take (k + 1)).Nodup := hnd.sublist (List.take_sublist _ _)
          rw [List.take_succ_eq_append_getElem h2, h3, List.nodup_append] at h4
          exact h4.2.2 y hv y (List.mem_singleton.2 rfl) rfl)
        have HV := Lib.hid (hasI_iff.2 hv)
        clear hv hy
        go_wp2_with (go_at_call 44; refine (has_v k c y true _ (xs.take k) _ (by exact HT.out) (by omega) HV.out).mono ?_; rintro e w' ⟨rfl, rfl⟩)
        go_ret
        exact ⟨ret_bool HR.out.symm, rfl⟩
      · have HD2 : Hid ((xs.take (k + 1)).Nodup) := Lib.hid (by
          obtain ⟨h2, h3⟩ := List.getElem?_eq_some_iff.1 hy
          rw [List.take_succ_eq_append_getElem h2, h3, List.nodup_append]
          refine ⟨HD.out, by simp, fun a ha b hb => ?_⟩
          rw [List.mem_singleton.1 hb]
          rintro rfl
          exact hv ha)
        have HV := Lib.hid (show hasI (xs.take k) y = false by rw [Bool.eq_false_iff, Ne, hasI_iff]; exact hv)
        clear hv hy
        go_wp2_with (go_at_call 44; refine (has_v k c y false _ (xs.take k) _ (by exact HT.out) (by omega) HV.out).mono ?_; rintro e w' ⟨rfl, rfl⟩)
        go_round
        case rel => exact ⟨k + 1, by omega, by go_num, HD2⟩
        case measure => simp [intOf]; omega
    · have HR : Hid (onceB xs = true) := Lib.hid (by
        have h := HD.out
        rw [List.take_of_length_le (by have := H1.out.1; omega)] at h
        unfold onceB
        exact decide_eq_true h)
      go_wp2
      go_ret
      exact ⟨ret_bool HR.out.symm, rfl⟩
set_option maxRecDepth 100000 in
theorem once_v (A : Option Addr) (n c : Nat) (xs : List Int) (v : Bool) (w : World) (h1 : IntsAt w w.heap.size A n xs) (hn : n ≤ 9223372036854775807) (hnc : n ≤ c) (hv : onceB xs = v) :
    Calls Tryd.prog 37 #[.slice A n c] w fun e w' => e = .returned (.bool v) ∧ w = w' := by
  subst hv; exact once_any A n c xs w h1 hn hnc
end Go.Proofs.YthfgbgmkiggjmacDoor
namespace Go.Proofs.YthfgbgmkiggjmacDoor
open Go.RowKit

set_option maxRecDepth 100000 in
set_option maxHeartbeats 400000 in
theorem inside_v (n : Int) (A : Option Addr) (k c : Nat) (xs : List Int) (v : Bool) (w : World) (h1 : IntsAt w w.heap.size A k xs) (hn : k ≤ 9223372036854775807) (hv : xs.all (isIn n) = v) :
    Calls Tryd.prog 36 #[.int .i64 n, .slice A k c] w fun e w' => e = .returned (.bool v) ∧ w = w' := by
  have H1 := Lib.hid h1
  have HV := Lib.hid hv
  clear h1 hv
  go_enter Tryd.func36, Tryd.ntmps36
  go_wp2
  go_loop [9] (fun j => ∃ i : Nat, i ≤ k ∧ j = .int .i64 i ∧ Hid ((xs.take i).all (isIn n) = true)) (fun j => k - (intOf j).toNat)
  case atStart => exact ⟨0, Nat.zero_le _, rfl, Lib.hid rfl⟩
  case round =>
    obtain ⟨i, hi, rfl, HN⟩ := hrel
    by_cases hlt : i < k
    · obtain ⟨b, off, y, rfl, _, hy, hc⟩ := H1.out.at_ hlt
      by_cases he : isIn n y = true
      · have HN2 : Hid ((xs.take (i + 1)).all (isIn n) = true) := Lib.hid (by
          obtain ⟨hkl, hye⟩ := List.getElem?_eq_some_iff.1 hy
          rw [List.take_succ_eq_append_getElem hkl, hye, List.all_append, HN.out]
          simp [he])
        have hy0 : 0 ≤ y ∧ y < n := by simpa [isIn] using he
        obtain ⟨hy1, hy2⟩ := hy0
        clear hy he
        go_wp2
        go_round
        case rel => exact ⟨i + 1, by omega, by go_num, HN2⟩
        case measure => simp [intOf]; omega
      · have HR : Hid (v = false) := Lib.hid (by
          rw [← HV.out]
          cases hall : xs.all (isIn n) with
          | false => rfl
          | true => exact absurd (List.all_eq_true.1 hall y (List.mem_of_getElem? hy)) he)
        have hw : y < 0 ∨ (0 ≤ y ∧ n ≤ y) := by simp [isIn] at he; omega
        clear hy he
        rcases hw with h | ⟨h1, h2⟩
        all_goals
          go_wp2
          go_ret
          exact ⟨ret_bool HR.out.symm, rfl⟩
    · have HR : Hid (v = true) := Lib.hid (by
        rw [← HV.out]
        have := HN.out
        rwa [List.take_of_length_le (by have := H1.out.1; omega)] at this)
      go_wp2
      go_ret
      exact ⟨ret_bool HR.out.symm, rfl⟩
end Go.Proofs.YthfgbgmkiggjmacDoor
namespace Go.Proofs.YthfgbgmkiggjmacDoor
open Go.RowKit

set_option maxRecDepth 100000 in
set_option maxHeartbeats 400000 in
theorem good_any (n : Int) (A : Option Addr) (len cap : Nat) (es : List E3) (w : World) (hE : EdgesAt w w.heap.size A len es) (hcap : len ≤ cap) :
    Calls Tryd.prog 18 #[.agg #[.int .i64 n, .slice A len cap]] w fun e w' => e = .returned (.bool (gcheck n es == 0)) ∧ Below w.heap.size w w' := by
  have HE := Lib.hid (show EdgesAt (bx w n A len cap) (bx w n A len cap).heap.size A len es from (hE.alloc (Nat.le_refl _) _).more (by simp [bx]))
  clear hE
  go_enter Tryd.func18, Tryd.ntmps18
  go_wp2_with (go_at_call 10; refine (graphCheck_any n A len cap es _ (by exact HE.out) hcap).mono ?_; rintro e w2 ⟨rfl, hb2⟩)
  go_ret
  exact ⟨rfl, ((Below.refl _ _).alloc (Nat.le_refl _) _).trans (hb2.mono (by simp))⟩
set_option maxRecDepth 100000 in
theorem good_v (n : Int) (A : Option Addr) (len cap : Nat) (es : List E3) (v : Bool) (w : World) (hE : EdgesAt w w.heap.size A len es) (hcap : len ≤ cap) (hv : (gcheck n es == 0) = v) :
    Calls Tryd.prog 18 #[.agg #[.int .i64 n, .slice A len cap]] w fun e w' => e = .returned (.bool v) ∧ Below w.heap.size w w' := by
  subst hv; exact good_any n A len cap es w hE hcap

end Go.Proofs.YthfgbgmkiggjmacDoor
namespace Go.Proofs.YthfgbgmkiggjmacDoor
open Go.RowKit

/-- The nodes that the edges of some places have. -/
def metL (es : List E3) (xs : List Int) : List Int := xs.flatMap fun i => [(eA es i.toNat : Int), (eB es i.toNat : Int)]
def BondI (es : List E3) (xs : List Int) : Prop := xs.all (isIn (es.length : Int)) = true ∧ xs.Pairwise (· < ·) ∧ (metL es xs).Nodup
theorem metL_cons (es : List E3) (k : Nat) (L : List Nat) : metL es ((k :: L).map fun k : Nat => (k : Int)) = (eA es k : Int) :: (eB es k : Int) :: metL es (L.map fun k : Nat => (k : Int)) := by simp [metL]
theorem metL_mem {es : List E3} {i : Nat} : ∀ {L : List Nat}, (i : Int) ∈ metL es (L.map fun k : Nat => (k : Int)) ↔ ∃ k ∈ L, tchK es k i = true
  | [] => by simp [metL]
  | k :: L => by
    rw [metL_cons, List.mem_cons, List.mem_cons, metL_mem (L := L)]
    constructor
    · rintro (h | h | ⟨x, h1, h2⟩)
      · exact ⟨k, List.mem_cons_self .., tchK_iff.2 (.inl (by omega))⟩
      · exact ⟨k, List.mem_cons_self .., tchK_iff.2 (.inr (by omega))⟩
      · exact ⟨x, List.mem_cons_of_mem _ h1, h2⟩
    · rintro ⟨x, h1, h2⟩
      rcases List.mem_cons.1 h1 with rfl | h1
      · rcases tchK_iff.1 h2 with h | h
        · exact .inl (by omega)
        · exact .inr (.inl (by omega))
      · exact .inr (.inr ⟨x, h1, h2⟩)
theorem bondL_iff {n : Nat} {es : List E3} (hg : goodE n es) : ∀ {L : List Nat}, BondL es L ↔ (∀ k ∈ L, k < es.length) ∧ L.Pairwise (· < ·) ∧ (metL es (L.map fun k : Nat => (k : Int))).Nodup
  | [] => ⟨fun _ => ⟨by simp, .nil, by simp [metL]⟩, fun _ => BondL.nil⟩
  | k :: L => by
    rw [bond_cons, bondL_iff hg (L := L), metL_cons, List.nodup_cons, List.nodup_cons, List.mem_cons, metL_mem, metL_mem, List.pairwise_cons]
    constructor
    · rintro ⟨h1, ⟨h2, h3, h4⟩, h5, h6⟩
      obtain ⟨_, _, _, _, hne, _⟩ := ends hg h1
      refine ⟨fun x hx => ?_, ⟨h5, h3⟩, ?_, ?_, h4⟩
      · rcases List.mem_cons.1 hx with rfl | hx
        · exact h1
        · exact h2 x hx
      · rintro (h | ⟨x, hx, ht⟩)
        · omega
        · exact h6 x hx ⟨_, tchK_iff.2 (.inl rfl), ht⟩
      · rintro ⟨x, hx, ht⟩
        exact h6 x hx ⟨_, tchK_iff.2 (.inr rfl), ht⟩
    · rintro ⟨h1, ⟨h5, h3⟩, h6, h7, h4⟩
      refine ⟨h1 k (List.mem_cons_self ..), ⟨fun x hx => h1 x (List.mem_cons_of_mem _ hx), h3, h4⟩, h5, ?_⟩
      rintro x hx ⟨i, t1, t2⟩
      rcases tchK_iff.1 t1 with rfl | rfl
      · exact h6 (.inr ⟨x, hx, t2⟩)
      · exact h7 ⟨x, hx, t2⟩
theorem bondI_map {n : Nat} {es : List E3} (hg : goodE n es) {L : List Nat} : BondI es (L.map fun k : Nat => (k : Int)) ↔ BondL es L := by
  rw [bondL_iff hg]
  unfold BondI
  rw [List.all_map, List.pairwise_map]
  refine and_congr ⟨fun h k hk => ?_, fun h => List.all_eq_true.2 fun k hk => ?_⟩ (and_congr ⟨fun h => h.imp fun h => by omega, fun h => h.imp fun h => by omega⟩ Iff.rfl)
  · have := List.all_eq_true.1 h k hk
    simp [isIn] at this
    omega
  · have := h k hk
    simp [isIn]
    omega
theorem bondI_some {es : List E3} {xs : List Int} (h : BondI es xs) : ∃ L : List Nat, xs = L.map fun k : Nat => (k : Int) := by
  refine ⟨xs.map Int.toNat, ?_⟩
  rw [List.map_map]
  refine (List.map_id xs).symm.trans (List.map_congr_left fun y hy => ?_)
  have := List.all_eq_true.1 h.1 y hy
  simp [isIn] at this
  show y = ((y.toNat : Nat) : Int)
  omega
theorem metL_snoc {es : List E3} {xs : List Int} {k : Nat} {y : Int} (h : xs[k]? = some y) : metL es (xs.take (k + 1)) = metL es (xs.take k) ++ [(eA es y.toNat : Int), (eB es y.toNat : Int)] := by
  obtain ⟨h2, h3⟩ := List.getElem?_eq_some_iff.1 h
  rw [List.take_succ_eq_append_getElem h2, h3]
  simp [metL]
def InR (len : Nat) (xs : List Int) (k : Nat) : Prop := (xs.take k).all (isIn (len : Int)) = true ∧ (xs.take k).Pairwise (· < ·)
theorem rise_len : ∀ (xs : List Int) (lo hi : Int), lo ≤ hi → (∀ x ∈ xs, lo ≤ x ∧ x < hi) → xs.Pairwise (· < ·) → (xs.length : Int) ≤ hi - lo
  | [], lo, hi, h, _, _ => by simp; omega
  | x :: xs, lo, hi, h, h1, h2 => by
    obtain ⟨h3, h4⟩ := List.pairwise_cons.1 h2
    have h5 := h1 x (List.mem_cons_self ..)
    have := rise_len xs (x + 1) hi (by omega) (fun y hy => ⟨by have := h3 y hy; omega, (h1 y (List.mem_cons_of_mem _ hy)).2⟩) h4
    simp only [List.length_cons]
    omega
theorem InR.len {l k : Nat} {xs : List Int} (h : InR l xs k) (hk : k ≤ xs.length) : k ≤ l := by
  have h1 := rise_len (xs.take k) 0 l (by omega) (fun x hx => by have := List.all_eq_true.1 h.1 x hx; simp [isIn] at this; exact this) h.2
  rw [List.length_take, Nat.min_eq_left hk] at h1
  omega
theorem InR.next {l k : Nat} {xs : List Int} {y : Int} (h : InR l xs k) (hy : xs[k]? = some y) (hi : isIn (l : Int) y = true) (hr : ∀ q z, k = q + 1 → xs[q]? = some z → z < y) : InR l xs (k + 1) := by
  obtain ⟨h2, h3⟩ := List.getElem?_eq_some_iff.1 hy
  unfold InR
  rw [List.take_succ_eq_append_getElem h2, h3, List.all_append, List.pairwise_append]
  refine ⟨by rw [h.1]; simp [hi], h.2, by simp, fun a ha b hb => ?_⟩
  rw [List.mem_singleton.1 hb]
  obtain ⟨i, hi1, rfl⟩ := List.getElem_of_mem ha
  rw [List.length_take] at hi1
  rcases Nat.eq_or_lt_of_le (show i + 1 ≤ k by omega) with he | he
  · rw [List.getElem_take]
    exact hr i _ he.symm (List.getElem?_eq_getElem (by omega))
  · have hq : k - 1 < xs.length := by omega
    have h4 := (List.pairwise_iff_getElem.1 h.2) i (k - 1) (by rw [List.length_take]; omega) (by rw [List.length_take]; omega) (by omega)
    rw [List.getElem_take (j := k) (i := k - 1)] at h4
    exact Int.lt_trans h4 (hr (k - 1) _ (by omega) (List.getElem?_eq_getElem hq))
theorem BondI.in_ {es : List E3} {xs : List Int} {k : Nat} {y : Int} (h : BondI es xs) (hy : xs[k]? = some y) : isIn (es.length : Int) y = true := List.all_eq_true.1 h.1 y (List.mem_of_getElem? hy)
theorem BondI.rise {es : List E3} {xs : List Int} {q : Nat} {y z : Int} (h : BondI es xs) (hz : xs[q]? = some z) (hy : xs[q + 1]? = some y) : z < y := by
  obtain ⟨h1, rfl⟩ := List.getElem?_eq_some_iff.1 hz
  obtain ⟨h2, rfl⟩ := List.getElem?_eq_some_iff.1 hy
  exact (List.pairwise_iff_getElem.1 h.2.1) q (q + 1) h1 h2 (by omega)
theorem BondI.all {es : List E3} {xs : List Int} {n : Nat} (h : InR es.length xs n) (hn : xs.length ≤ n) : BondI es xs ↔ (metL es xs).Nodup := by
  unfold InR at h
  rw [List.take_of_length_le hn] at h
  exact ⟨fun h => h.2.2, fun h2 => ⟨h.1, h.2, h2⟩⟩
theorem one_int (w : World) (x : Int) (t : TypeId) : IntsAt (w.alloc (.cells #[.int .i64 x] t)) (w.alloc (.cells #[.int .i64 x] t)).heap.size (some ⟨w.heap.size, 0, none⟩) 1 [x] := by
  have h := (MapKept.heap_alloc w (.cells #[.int .i64 x] t)).1
  have hr : RowOf (w.alloc (.cells #[.int .i64 x] t)) w.heap.size t ([x].map (Value.int .i64)) := h
  exact IntsAt.of_row hr (by simp)
theorem eA_of {es : List E3} {p : Nat} {a : E3} (h : es[p]? = some a) : eA es p = a.1.toNat := by unfold eA; rw [List.getD_eq_getElem?_getD, h]; rfl
theorem eB_of {es : List E3} {p : Nat} {a : E3} (h : es[p]? = some a) : eB es p = a.2.1.toNat := by unfold eB; rw [List.getD_eq_getElem?_getD, h]; rfl

set_option maxRecDepth 100000 in
set_option maxHeartbeats 4000000 in
theorem bondK_any (m len cap n cp : Nat) (A B : Option Addr) (es : List E3) (xs : List Int) (v : Bool) (w : World) (hE : EdgesAt w w.heap.size A len es) (hI : IntsAt w w.heap.size B n xs) (hn : n ≤ 9223372036854775807) (hnc : n ≤ cp) (hlen : len ≤ 45) (hg : goodE m es) (hv : v = true ↔ BondI es xs) :
    Calls Tryd.prog 19 #[.agg #[.int .i64 m, .slice A len cap], .slice B n cp] w fun e w' => e = .returned (.bool v) ∧ Below w.heap.size w w' := by
  have HS := Lib.hid (BoxG.start (n := (m : Int)) (cap := cap) hE)
  have HI : Hid (IntsAt (bx w m A len cap) (bx w m A len cap).heap.size B n xs) := Lib.hid (hI.go_ HS.out.below)
  have HEL : Hid (es.length = len) := Lib.hid hE.1
  have HXL : Hid (xs.length = n) := Lib.hid hI.1
  have HG := Lib.hid hg
  have HV : Hid (v = true ↔ BondI es xs) := Lib.hid hv
  obtain ⟨i0, hi, hz0, hz1, hz2⟩ := info_parts infoInt
  have HI9 := Lib.hid hi
  have HI0 := Lib.hid hz0
  have HI1 := Lib.hid hz1
  have HI2 := Lib.hid hz2
  clear hi hz0 hz1 hz2 hE hI hg hv
  go_enter Tryd.func19, Tryd.ntmps19
  go_wp2_with fail
  go_loopw [5, 10] (fun t j wr => ∃ k : Nat, k ≤ n ∧ j = .int .i64 k ∧ Hid (wr.ownsRow (bx w m A len cap).heap.size 3 1 t (2 * k) ((metL es (xs.take k)).map (Value.int .i64))) ∧ Hid (InR len xs k) ∧ Hid (Below (bx w m A len cap).heap.size (bx w m A len cap) wr)) (fun _ j _ => n - (intOf j).toNat)
  case atStart => exact ⟨0, Nat.zero_le _, rfl, Lib.hid (World.ownsRow_nil ..), Lib.hid ⟨by simp, by simp⟩, Lib.hid (Below.refl _ _)⟩
  case round =>
    obtain ⟨k, hk, rfl, HO, HR, HB⟩ := hrel
    have HX := Lib.hid (HS.out.next HB.out)
    have HIr := Lib.hid (HI.out.go_ HB.out)
    have hb0 := HX.out.c0
    have hb1 := HX.out.c1
    have hbl := HX.out.lt
    have hk45 : k ≤ 45 := by have := HR.out.len (by rw [HXL.out]; exact hk); omega
    by_cases hlt : k < n
    · obtain ⟨b, off, y, rfl, hbw, hy, hc⟩ := HIr.out.at_ hlt
      have HY := Lib.hid hy
      have HK1 := Lib.hid (fun (vv : Bool) (h : isIn (len : Int) y = vv) (W : World) => inside_v (len : Int) (some ⟨W.heap.size, 0, none⟩) 1 1 [y] vv (W.alloc (.cells #[.int .i64 y] 3)) (one_int W y _) (by omega) (by simpa using h))
      clear hy
      by_cases hin : isIn (len : Int) y = true
      · have HK := Lib.hid (HK1.out true hin wr)
        have hyb : 0 ≤ y ∧ y < (len : Int) := by simpa [isIn] using hin
        obtain ⟨hyb1, hyb2⟩ := hyb
        obtain ⟨p, rfl⟩ := Int.eq_ofNat_of_zero_le hyb1
        have hpl : p < len := by omega
        have HIN := Lib.hid hin
        clear hin HK1
        by_cases hok : ∀ q z, k = q + 1 → xs[q]? = some z → z < (p : Int)
        · have HR2 := Lib.hid (HR.out.next HY.out HIN.out hok)
          obtain ⟨be, offe, ⟨a0, a1, a2⟩, rfl, hbe, hxe, hc0, hc1, _⟩ := HX.out.edges.at_ hpl
          obtain ⟨c2, hx2, _, _, _, _⟩ := ends HG.out (show p < es.length by rw [HEL.out]; exact hpl)
          rw [hx2] at hxe
          injection hxe with hxe
          injection hxe with e0 hxe
          injection hxe with e1 e2
          subst e0 e1 e2
          simp only at hc0 hc1
          have HMS : Hid (metL es (xs.take (k + 1)) = metL es (xs.take k) ++ [(eA es p : Int), (eB es p : Int)]) := Lib.hid (metL_snoc HY.out)
          clear hx2
          generalize eA es p = ea at hc0 hc1 HMS
          generalize eB es p = eb at hc0 hc1 HMS
          have HZ : Hid (∀ q, k = q + 1 → ∃ z : Int, wr.cell? ⟨b, off + q, none⟩ = some (.int .i64 z) ∧ z < (p : Int)) := Lib.hid fun q hq => by
            obtain ⟨b2, off2, z2, hbo, _, hz2, hcz⟩ := HIr.out.at_ (show q < n by omega)
            injection hbo with hbo
            injection hbo with e1 e2
            subst e1 e2
            exact ⟨z2, hcz, hok q z2 hq hz2⟩
          have HW : Hid (∀ w2, wr.alloc (.cells #[.int .i64 (p : Int)] 3) = w2 → BoxG w m (some ⟨be, offe, none⟩) len cap es w2 ∧ w2.ownsRow (bx w m (some ⟨be, offe, none⟩) len cap).heap.size 3 1 u5 (2 * k) ((metL es (xs.take k)).map (Value.int .i64)) ∧ Below (bx w m (some ⟨be, offe, none⟩) len cap).heap.size (bx w m (some ⟨be, offe, none⟩) len cap) w2 ∧ w2.cell? ⟨be, offe + p * 3, none⟩ = some (.int .i64 (ea : Int)) ∧ w2.cell? ⟨be, offe + p * 3 + 1, none⟩ = some (.int .i64 (eb : Int)) ∧ wr.heap.size ≤ w2.heap.size) := Lib.hid fun w2 h => by
            subst h
            exact ⟨HX.out.next ((Below.refl _ _).alloc (Nat.le_refl _) _), HO.out.alloc _, HB.out.alloc HB.out.size _, by rw [World.cell?_alloc_lt _ _ _ hbe]; exact hc0, by rw [World.cell?_alloc_lt _ _ _ hbe]; exact hc1, by simp⟩
          have hbs : (bx w m (some ⟨be, offe, none⟩) len cap).heap.size = w.heap.size + 1 := by simp [bx]
          clear hok hc0 hc1
          have hp0 : (0 : Int) ≤ (p : Int) := by omega
          rcases Nat.eq_zero_or_pos k with hk0 | hk0
          · have hd0 : decide ((0 : Int) < (k : Int)) = false := decide_eq_false (by omega)
            have hd1 : decide (0 < k) = false := decide_eq_false (by omega)
            have HKK := Lib.hid hk0
            clear HZ hk0
            go_wp2_with fail
            refine HK.out.mono ?_
            rintro e w2 ⟨rfl, hw2⟩
            obtain ⟨hX2, hO2, hB2, hd2, hd3, hs2⟩ := HW.out w2 hw2
            have HX2 := Lib.hid hX2
            have HO2 := Lib.hid hO2
            have HB2 := Lib.hid hB2
            have f0 := hX2.c0
            have f1 := hX2.c1
            have f2 := hX2.lt
            clear hw2 hX2 hO2 hB2 HW
            go_wp2
            go_region_law ((refine step_append_lies _ (by rfl) (.tmp 35) (.tmp 48) 33 (by rfl) (bx w m (some ⟨be, offe, none⟩) len cap).heap.size 3 i0 (.int .i64 0) 1 8 Tryd.underlying33 HI9.out HI0.out HI1.out HI2.out rfl (by decide) u5 (2 * k) ((metL es (xs.take (k))).map (Value.int .i64)) (by rfl) (HO2.out.drew.alloc _) ⟨w2.heap.size, 0, none⟩ 2 2 [.int .i64 (ea : Int), .int .i64 (eb : Int)] (by rfl) (by rfl) (World.news_of_block (cs := #[.int .i64 (ea : Int), .int .i64 (eb : Int)]) (t := 3) (fr := (0, 0)) (heap_alloc_new w2.drew _)) (by simp [Value.oneCell']) (by decide) (by unfold maxLen; omega) (by omega) (by simp; omega) (w2.heap.size + 1) (by simp) ?_; intro g5 cap5 w5 hown5 hgrow5 hat5 hlt5))
            all_goals
              have HO5 : Hid (w5.ownsRow (bx w m (some ⟨be, offe, none⟩) len cap).heap.size 3 1 (.slice (some ⟨g5, 0, none⟩) (2 * (k + 1)) cap5) (2 * (k + 1)) ((metL es (xs.take (k + 1))).map (Value.int .i64))) := Lib.hid (by rw [HMS.out, List.map_append]; exact hown5)
              have HB5 : Hid (Below (bx w m (some ⟨be, offe, none⟩) len cap).heap.size (bx w m (some ⟨be, offe, none⟩) len cap) w5) := Lib.hid ((HB2.out.drew.alloc HB2.out.size _).grown hgrow5 (by simp; omega) (fun g hg => own_base HO2.out g hg))
              clear hown5 hgrow5 hat5
              go_wp2
              go_roundw
              case rel => exact ⟨k + 1, by omega, by go_num, HO5, HR2, HB5⟩
              case measure => simp [intOf]; omega
          · obtain ⟨q, rfl⟩ : ∃ q, k = q + 1 := ⟨k - 1, by omega⟩
            obtain ⟨z, hcz, hzp⟩ := HZ.out q rfl
            have hcmp : decide ((p : Int) ≤ z) = false := decide_eq_false (by omega)
            clear HZ hk0 hzp
            go_wp2_with fail
            refine HK.out.mono ?_
            rintro e w2 ⟨rfl, hw2⟩
            have hcz2 : w2.cell? ⟨b, off + q, none⟩ = some (.int .i64 z) := by rw [← hw2, World.cell?_alloc_lt _ _ _ hbw]; exact hcz
            obtain ⟨hX2, hO2, hB2, hd2, hd3, hs2⟩ := HW.out w2 hw2
            have HX2 := Lib.hid hX2
            have HO2 := Lib.hid hO2
            have HB2 := Lib.hid hB2
            have f0 := hX2.c0
            have f1 := hX2.c1
            have f2 := hX2.lt
            clear hw2 hX2 hO2 hB2 HW
            go_wp2
            go_region_law ((refine step_append_lies _ (by rfl) (.tmp 35) (.tmp 48) 33 (by rfl) (bx w m (some ⟨be, offe, none⟩) len cap).heap.size 3 i0 (.int .i64 0) 1 8 Tryd.underlying33 HI9.out HI0.out HI1.out HI2.out rfl (by decide) u5 (2 * (q + 1)) ((metL es (xs.take ((q + 1)))).map (Value.int .i64)) (by rfl) (HO2.out.drew.alloc _) ⟨w2.heap.size, 0, none⟩ 2 2 [.int .i64 (ea : Int), .int .i64 (eb : Int)] (by rfl) (by rfl) (World.news_of_block (cs := #[.int .i64 (ea : Int), .int .i64 (eb : Int)]) (t := 3) (fr := (0, 0)) (heap_alloc_new w2.drew _)) (by simp [Value.oneCell']) (by decide) (by unfold maxLen; omega) (by omega) (by simp; omega) (w2.heap.size + 1) (by simp) ?_; intro g5 cap5 w5 hown5 hgrow5 hat5 hlt5))
            all_goals
              have HO5 : Hid (w5.ownsRow (bx w m (some ⟨be, offe, none⟩) len cap).heap.size 3 1 (.slice (some ⟨g5, 0, none⟩) (2 * ((q + 1) + 1)) cap5) (2 * ((q + 1) + 1)) ((metL es (xs.take ((q + 1) + 1))).map (Value.int .i64))) := Lib.hid (by rw [HMS.out, List.map_append]; exact hown5)
              have HB5 : Hid (Below (bx w m (some ⟨be, offe, none⟩) len cap).heap.size (bx w m (some ⟨be, offe, none⟩) len cap) w5) := Lib.hid ((HB2.out.drew.alloc HB2.out.size _).grown hgrow5 (by simp; omega) (fun g hg => own_base HO2.out g hg))
              clear hown5 hgrow5 hat5
              go_wp2
              go_roundw
              case rel => exact ⟨(q + 1) + 1, by omega, by go_num, HO5, HR2, HB5⟩
              case measure => simp [intOf]; omega
        · have HF : Hid (v = false) := Lib.hid (by
            cases hvv : v with
            | false => rfl
            | true =>
              exfalso
              have hb := HV.out.1 hvv
              exact hok fun q z h1 h2 => hb.rise h2 (by rw [← h1]; exact HY.out))
          obtain ⟨q, z, hqk, hz, hzp⟩ : ∃ q z, k = q + 1 ∧ xs[q]? = some z ∧ (p : Int) ≤ z := by
            apply Classical.byContradiction
            intro hno
            exact hok fun q z h1 h2 => by
              apply Classical.byContradiction
              intro h3
              exact hno ⟨q, z, h1, h2, by omega⟩
          subst hqk
          obtain ⟨b2, off2, z2, hbo, _, hz2, hcz⟩ := HIr.out.at_ (show q < n by omega)
          injection hbo with hbo
          injection hbo with e1 e2
          subst e1 e2
          obtain rfl : z = z2 := by rw [hz] at hz2; injection hz2
          have hcmp : decide ((p : Int) ≤ z) = true := decide_eq_true hzp
          clear hok hz hz2 hzp
          go_wp2_with fail
          refine HK.out.mono ?_
          rintro e w2 ⟨rfl, rfl⟩
          go_wp2_with fail
          go_ret
          exact ⟨ret_bool HF.out.symm, HX.out.below.alloc (by have := HX.out.lt; omega) _⟩
      · have hin2 : isIn (len : Int) y = false := by simpa using hin
        have HK := Lib.hid (HK1.out false hin2 wr)
        have HF : Hid (v = false) := Lib.hid (by
          cases hvv : v with
          | false => rfl
          | true =>
            exfalso
            have hb := (HV.out.1 hvv).in_ HY.out
            rw [HEL.out] at hb
            exact hin hb)
        clear hin hin2 HK1
        go_wp2_with fail
        refine HK.out.mono ?_
        rintro e w2 ⟨rfl, rfl⟩
        go_wp2_with fail
        go_ret
        exact ⟨ret_bool HF.out.symm, HX.out.below.alloc (by have := HX.out.lt; omega) _⟩
    · obtain rfl : k = n := by omega
      obtain ⟨At, ct, HT⟩ : ∃ At ct, Hid (u5 = Value.slice At (2 * k) ct) := by
        obtain ⟨At, ct, h⟩ := own_form HO.out
        exact ⟨At, ct, Lib.hid h⟩
      obtain rfl := HT.out
      have HIT : Hid (IntsAt wr wr.heap.size At (2 * k) (metL es xs)) := Lib.hid (by
        have h := HO.out
        rw [List.take_of_length_le (by rw [HXL.out]; exact Nat.le_refl _)] at h
        exact IntsAt.of_own h (Nat.le_refl _))
      have hct : 2 * k ≤ ct := by
        rcases HO.out.2 with ⟨h4, h5⟩ | ⟨g, cap', cur, h4, _, _, h5, _⟩
        · injection h4; omega
        · injection h4 with _ _ h6
          omega
      have HVV : Hid (onceB (metL es xs) = v) := Lib.hid (by
        have h := BondI.all (es := es) (xs := xs) (n := k) (by rw [HEL.out]; exact HR.out) (by rw [HXL.out]; exact Nat.le_refl _)
        unfold onceB
        cases hvv : v with
        | true => exact decide_eq_true (h.1 (HV.out.1 hvv))
        | false =>
          refine decide_eq_false fun h2 => ?_
          have := HV.out.2 (h.2 h2)
          rw [hvv] at this; cases this)
      clear HT HO
      go_wp2_with fail
      refine (once_v At (2 * k) ct (metL es xs) v _ (by exact HIT.out) (by omega) hct HVV.out).mono ?_
      rintro e w2 ⟨rfl, rfl⟩
      go_wp2_with fail
      go_ret
      exact ⟨rfl, HX.out.below⟩
end Go.Proofs.YthfgbgmkiggjmacDoor
