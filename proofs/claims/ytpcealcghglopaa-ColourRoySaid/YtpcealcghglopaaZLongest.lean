/- The keepers' longest: how many nodes the longest row has that goes along edges, as an order has them. Conditions: a graph without fault, an order of its nodes. -/
import Derived.Test.YtpcealcghglopaaZRefGreedy
import Derived.Test.YtpcealcghglopaaZb9
import Derived.Test.YtpcealcghglopaaZb2
import Derived.Deep.RegionHeld3
namespace Go.Proofs.Ytpcealcghglopaa
open Go.RowKit

/-- The rows of the first k nodes of an order. -/
structure RowB (adj : Nat → Nat → Bool) (o : List Nat) (k : Nat) (b : Nat → Nat) : Prop where
  row : ∀ t i, t < k → o[t]? = some i → (∀ j ∈ o.take t, adj i j = true → b j + 1 ≤ b i) ∧ (b i = 1 ∨ ∃ j, j ∈ o.take t ∧ adj i j = true ∧ b i = b j + 1)
  le : ∀ i, b i ≤ k
structure MostB (o : List Nat) (k : Nat) (b : Nat → Nat) (m : Nat) : Prop where
  ge : ∀ j ∈ o.take k, b j ≤ m
  att : (m = 0 ∧ k = 0) ∨ ∃ j, j ∈ o.take k ∧ b j = m
/-- The row that ends in the next node, behind the first t. -/
structure CurB (adj : Nat → Nat → Bool) (o : List Nat) (k : Nat) (b : Nat → Nat) (i t cur : Nat) : Prop where
  ge : ∀ j ∈ o.take t, adj i j = true → b j + 1 ≤ cur
  att : cur = 1 ∨ ∃ j, j ∈ o.take t ∧ adj i j = true ∧ cur = b j + 1
  le : cur ≤ k + 1
section
variable {adj : Nat → Nat → Bool} {o : List Nat} {k i t cur : Nat} {b : Nat → Nat}
theorem RowB.start : RowB adj o 0 (fun _ => 0) := ⟨fun _ _ h => absurd h (by omega), fun _ => Nat.le_refl _⟩
theorem MostB.start (b : Nat → Nat) : MostB o 0 b 0 := ⟨fun j hj => by simp at hj, .inl ⟨rfl, rfl⟩⟩
theorem CurB.start (b : Nat → Nat) : CurB adj o k b i 0 1 := ⟨fun j hj => by simp at hj, .inl rfl, by omega⟩
theorem mem_take_succ {j x : Nat} (h : o[t]? = some j) : x ∈ o.take (t + 1) ↔ x ∈ o.take t ∨ x = j := by
  obtain ⟨h1, h2⟩ := List.getElem?_eq_some_iff.1 h
  rw [List.take_succ_eq_append_getElem h1, h2, List.mem_append, List.mem_singleton]
theorem CurB.step (h : CurB adj o k b i t cur) (hR : RowB adj o k b) {j : Nat} (hj : o[t]? = some j) : CurB adj o k b i (t + 1) (if adj i j = true ∧ cur < b j + 1 then b j + 1 else cur) := by
  have hb := hR.le j
  refine ⟨fun x hx ha => ?_, ?_, ?_⟩
  · rcases (mem_take_succ hj).1 hx with hx | rfl
    · have := h.ge x hx ha
      split
      · rename_i hc; omega
      · exact this
    · by_cases hc : cur < b x + 1
      · rw [if_pos ⟨ha, hc⟩]; exact Nat.le_refl _
      · rw [if_neg fun h => hc h.2]; omega
  · split
    · rename_i hc
      exact .inr ⟨j, (mem_take_succ hj).2 (.inr rfl), hc.1, rfl⟩
    · rcases h.att with e | ⟨x, h1, h2, h3⟩
      · exact .inl e
      · exact .inr ⟨x, (mem_take_succ hj).2 (.inl h1), h2, h3⟩
  · have := h.le
    split <;> omega
theorem RowB.step (h : RowB adj o k b) (hnd : o.Nodup) (hi : o[k]? = some i) (hc : CurB adj o k b i k cur) : RowB adj o (k + 1) (updN b i cur) := by
  have hni : ∀ t, t ≤ k → ∀ j ∈ o.take t, updN b i cur j = b j := fun t ht j hj => by
    unfold updN
    rw [if_neg]
    rintro rfl
    exact get_ahead hnd hi ht hj
  refine ⟨fun t x ht hx => ?_, fun x => ?_⟩
  · by_cases e : t = k
    · subst e
      rw [hi] at hx
      injection hx with hx
      subst hx
      have hu : updN b i cur i = cur := if_pos rfl
      rw [hu]
      refine ⟨fun j hj ha => by rw [hni t (Nat.le_refl _) j hj]; exact hc.ge j hj ha, ?_⟩
      rcases hc.att with e | ⟨j, h1, h2, h3⟩
      · exact .inl e
      · exact .inr ⟨j, h1, h2, by rw [hni t (Nat.le_refl _) j h1]; exact h3⟩
    · have htk : t < k := by omega
      have hxi : updN b i cur x = b x := hni (t + 1) (by omega) x ((mem_take_succ hx).2 (.inr rfl))
      obtain ⟨h1, h2⟩ := h.row t x htk hx
      rw [hxi]
      refine ⟨fun j hj ha => by rw [hni t (by omega) j hj]; exact h1 j hj ha, ?_⟩
      rcases h2 with e | ⟨j, h3, h4, h5⟩
      · exact .inl e
      · exact .inr ⟨j, h3, h4, by rw [hni t (by omega) j h3]; exact h5⟩
  · unfold updN
    split
    · exact hc.le
    · have := h.le x; omega
theorem MostB.step {m : Nat} (h : MostB o k b m) (hnd : o.Nodup) (hi : o[k]? = some i) (h1 : 1 ≤ cur) : MostB o (k + 1) (updN b i cur) (if m < cur then cur else m) := by
  have hni : ∀ j ∈ o.take k, updN b i cur j = b j := fun j hj => by
    unfold updN
    rw [if_neg]
    rintro rfl
    exact get_ahead hnd hi (Nat.le_refl _) hj
  have hu : updN b i cur i = cur := if_pos rfl
  refine ⟨fun j hj => ?_, .inr ?_⟩
  · rcases (mem_take_succ hi).1 hj with hj | rfl
    · rw [hni j hj]
      have := h.ge j hj
      split <;> omega
    · rw [hu]; split <;> omega
  · split
    · exact ⟨i, (mem_take_succ hi).2 (.inr rfl), hu⟩
    · rename_i hc
      rcases h.att with ⟨e, _⟩ | ⟨j, h2, h3⟩
      · omega
      · exact ⟨j, (mem_take_succ hi).2 (.inl h2), by rw [hni j h2]; exact h3⟩
end
set_option maxRecDepth 100000 in
set_option maxHeartbeats 4000000 in
theorem longest_any (n : Nat) (A : Option Addr) (len cap : Nat) (es : List E3) (A2 : Option Addr) (c2 : Nat) (o : List Nat) (w : World) (hE : EdgesAt w w.heap.size A len es) (hI : IntsAt w w.heap.size A2 n (natG o)) (hn10 : n ≤ 10) (hl : len ≤ 45) (hc2 : n ≤ c2) (hnd : o.Nodup) (hlt : ∀ i ∈ o, i < n) :
    Calls Try.prog 31 #[.agg #[.int .i64 (n : Int), .slice A len cap], .slice A2 n c2] w fun e w' => (∃ b m : Nat → Nat, ∃ q : Nat, q = m 0 ∧ e = .returned (.int .i64 (q : Int)) ∧ RowB (adjE es) o n b ∧ MostB o n b q) ∧ Below w.heap.size w w' := by
  have HE := Lib.hid hE
  have HI := Lib.hid hI
  have HND := Lib.hid hnd
  have HLT := Lib.hid hlt
  have hmk := fun W => run_make_row' (P := Try.prog) 25 3 (.int .i64 0) 8 Try.underlying25 (by kernel_rfl) rfl .i64 .i64 n (by omega) (by omega) W
  clear hE hI hnd hlt
  go_enter Try.func31, Try.ntmps31
  go_wp2_with fail
  clear hmk
  obtain ⟨W0, hW0⟩ : ∃ W0, W0 = (w.alloc (.cells #[.int .i64 n, .slice A len cap] 24)).alloc (.cells (madeCells #[.int .i64 0] n) 3) := ⟨_, rfl⟩
  rw [← hW0]
  have HG0 : Hid (GreeW w n A len cap (fun _ => 0) W0) := Lib.hid (by
    rw [hW0]
    have h := (MapKept.heap_alloc (w.alloc (.cells #[.int .i64 n, .slice A len cap] 24)) (.cells (madeCells #[.int .i64 0] n) 3)).1
    rw [World.size_alloc] at h
    exact ⟨((Below.refl _ _).alloc (Nat.le_refl _) _).alloc (by simp) _, (Below.heap_alloc _ _ _ (by simp)).trans (MapKept.heap_alloc w _).1, ⟨madeCells #[.int .i64 0] n, h, fun j hj => by simp [madeCells, Nat.mod_one, hj]⟩⟩)
  clear hW0
  go_loopw [6, 16] (fun x y wr => ∃ k m : Nat, k ≤ n ∧ m ≤ 10 ∧ x = .int .i64 m ∧ y = .int .i64 k ∧ Hid (∃ b, GreeW w n A len cap b wr ∧ RowB (adjE es) o k b ∧ MostB o k b m)) (fun _ y _ => n - (intOf y).toNat)
  case atStart => exact ⟨0, 0, Nat.zero_le _, by omega, rfl, rfl, Lib.hid ⟨_, HG0.out, RowB.start, MostB.start _⟩⟩
  case round =>
    clear HG0
    obtain ⟨k, m, hk, hm10, rfl, rfl, HC⟩ := hrel
    by_cases hkn : k < n
    · obtain ⟨b, HGW, HRB, HMB⟩ : ∃ b, Hid (GreeW w n A len cap b wr) ∧ Hid (RowB (adjE es) o k b) ∧ Hid (MostB o k b m) := by
        obtain ⟨b, h1, h2, h3⟩ := HC.out
        exact ⟨b, Lib.hid h1, Lib.hid h2, Lib.hid h3⟩
      obtain ⟨b2, o2, x, rfl, _, hx, hcx⟩ := (HI.out.go_ HGW.out.below).at_ hkn
      obtain ⟨i, hi, rfl⟩ := natG_get hx
      have hin : i < n := HLT.out i (List.mem_of_getElem? hi)
      have HOI := Lib.hid hi
      have ik0 : (0 : Int) ≤ (k : Int) := by omega
      have ik1 : (k : Int) < (n : Int) := by omega
      have ii0 : (0 : Int) ≤ (i : Int) := by omega
      have ii1 : (i : Int) < (n : Int) := by omega
      have hkc : k ≤ c2 := by omega
      have cf := HGW.out.row.frozen i
      have ci := HGW.out.row.cell hin
      have HG1 : Hid (GreeW w n A len cap (updN b i 1) (wr.setCell ⟨w.heap.size + 1, i, none⟩ (.int .i64 1))) := Lib.hid (HGW.out.set_ i 1)
      clear hx hi HC
      obtain ⟨wo, rfl⟩ : ∃ wo : World, wo = wr := ⟨_, rfl⟩
      go_wp2_with fail
      clear hcx cf ci
      generalize (wo.setCell ⟨w.heap.size + 1, i, none⟩ (.int .i64 1)) = W1 at HG1 ⊢
      go_loopw [28] (fun y wr => ∃ t cur : Nat, t ≤ k ∧ y = .int .i64 t ∧ Hid (CurB (adjE es) o k b i t cur) ∧ Hid (GreeW w n A len cap (updN b i cur) wr)) (fun y _ => k - (intOf y).toNat)
      case atStart => exact ⟨0, 1, Nat.zero_le _, rfl, Lib.hid (CurB.start b), HG1⟩
      case round =>
        clear HG1 HGW
        obtain ⟨t, cur, ht, rfl, HCB, HGW⟩ := hrel
        by_cases htk : t < k
        · obtain ⟨x, hx, hcx⟩ := (HI.out.go_ HGW.out.below).at_some (show t < n by omega)
          obtain ⟨j, hj, rfl⟩ := natG_get hx
          have hjn : j < n := HLT.out j (List.mem_of_getElem? hj)
          have hji : j ≠ i := fun e => get_ahead HND.out HOI.out (show t + 1 ≤ k by omega) ((mem_take_succ hj).2 (.inr e.symm))
          have HST := Lib.hid (HCB.out.step HRB.out hj)
          obtain ⟨v, hv⟩ : ∃ v, adjE es i j = v := ⟨_, rfl⟩
          have HV : Hid (nearI es (i : Int) (j : Int) = v) := Lib.hid hv
          rw [hv] at HST
          have HED := Lib.hid (HE.out.go_ HGW.out.below)
          have hc0 := HGW.out.c0
          have hc1 := HGW.out.c1
          have hri := HGW.out.row.cell hin
          have hrj := HGW.out.row.cell hjn
          have hrf := HGW.out.row.frozen i
          have hui : updN b i cur i = cur := if_pos rfl
          have huj : updN b i cur j = b j := if_neg hji
          rw [hui] at hri
          rw [huj] at hrj
          have hbj := HRB.out.le j
          have hcl := HCB.out.le
          have hlt1 : w.heap.size + 1 < wr.heap.size := HGW.out.row.lt
          have it0 : (0 : Int) ≤ (t : Int) := by omega
          have it1 : (t : Int) < (k : Int) := by omega
          have ij0 : (0 : Int) ≤ (j : Int) := by omega
          have ij1 : (j : Int) < (n : Int) := by omega
          clear hx hj hv hui huj hji
          generalize b j = bj at HST hrj hbj
          have hbw : IntKind.i64.wrap ((bj : Int) + 1) = ((bj + 1 : Nat) : Int) := by rw [IntWalk.i64_in _ (by omega)]; omega
          cases v with
          | false =>
            have HN : Hid (CurB (adjE es) o k b i (t + 1) cur) := Lib.hid (by
              have h := HST.out
              rw [if_neg (show ¬ (false = true ∧ cur < bj + 1) from fun h => by cases h.1)] at h
              exact h)
            clear HST HCB
            go_wp2_with fail
            go_region_with (go_at_call 43; refine (near_v (n : Int) (i : Int) (j : Int) A len cap es false _ (by exact HED.out) (by omega) HV.out).mono ?_; rintro e W4 ⟨rfl, hb4⟩; have HB4 : Hid (Below wr.heap.size wr W4) := Lib.hid (by first | exact hb4 | exact (Below.refl _ _).drew.trans hb4); clear hb4; go_wp2; refine wpAny_take (i := 4) (v := .bool false) rfl (by kernel_rfl) (by kernel_rfl) (by kernel_rfl) (fun _ _ _ h => h) (Or.inl ⟨by kernel_rfl, fun w => by go_simp⟩) ?_; refine take_up (i := 5) rfl (by kernel_rfl) (by kernel_rfl) (by kernel_rfl) (fun _ _ _ h => h) (by kernel_rfl) ?_ ; refine take_up (i := 6) rfl (by kernel_rfl) (by kernel_rfl) (by kernel_rfl) (fun _ _ _ h => h) (by kernel_rfl) ?_ ; refine take_up (i := 7) rfl (by kernel_rfl) (by kernel_rfl) (by kernel_rfl) (fun _ _ _ h => h) (by kernel_rfl) ?_ ; refine take_up (i := 8) rfl (by kernel_rfl) (by kernel_rfl) (by kernel_rfl) (fun _ _ _ h => h) (by kernel_rfl) ?_ ; refine take_up (i := 9) rfl (by kernel_rfl) (by kernel_rfl) (by kernel_rfl) (fun _ _ _ h => h) (by kernel_rfl) ?_ ; refine take_up (i := 10) rfl (by kernel_rfl) (by kernel_rfl) (by kernel_rfl) (fun _ _ _ h => h) (by kernel_rfl) ?_ ; refine take_up (i := 11) rfl (by kernel_rfl) (by kernel_rfl) (by kernel_rfl) (fun _ _ _ h => h) (by kernel_rfl) ?_ ; refine take_up (i := 12) rfl (by kernel_rfl) (by kernel_rfl) (by kernel_rfl) (fun _ _ _ h => h) (by kernel_rfl) ?_ ; refine take_up (i := 13) rfl (by kernel_rfl) (by kernel_rfl) (by kernel_rfl) (fun _ _ _ h => h) (by kernel_rfl) ?_ ; refine take_up (i := 14) rfl (by kernel_rfl) (by kernel_rfl) (by kernel_rfl) (fun _ _ _ h => h) (by kernel_rfl) ?_)
            go_simp
            all_goals
              have HGX : Hid (GreeW w n A len cap (updN b i cur) W4) := Lib.hid (HGW.out.later HB4.out)
              clear HB4 hc0 hc1 hri hrj hcx
              go_wp2_with fail
              go_roundw
              case rel => exact ⟨t + 1, cur, by omega, by go_num, HN, HGX⟩
              case measure => simp [intOf]; omega
          | true =>
            by_cases hlc : cur < bj + 1
            · have HN : Hid (CurB (adjE es) o k b i (t + 1) (bj + 1)) := Lib.hid (by
                have h := HST.out
                rw [if_pos ⟨rfl, hlc⟩] at h
                exact h)
              have g1 : decide ((cur : Int) < ((bj + 1 : Nat) : Int)) = true := by simp; omega
              have g2 : decide (cur < bj + 1) = true := by simp; omega
              have g3 : (cur : Int) < (bj : Int) + 1 := by omega
              have g4 : decide ((cur : Int) < (bj : Int) + 1) = true := by simp; omega
              clear HST HCB
              go_wp2_with fail
              go_region_held3 (fun W => W.cell? ⟨w.heap.size, 0, none⟩ = some (.int .i64 n) ∧ W.cell? ⟨w.heap.size, 1, none⟩ = some (.slice A len cap) ∧ W.cell? ⟨w.heap.size + 1, i, none⟩ = some (.int .i64 cur) ∧ W.cell? ⟨w.heap.size + 1, j, none⟩ = some (.int .i64 bj))
                (first | exact ⟨hc0, hc1, hri, hrj⟩ | exact ⟨q0, q1, q2, q3⟩ | go_keep)
                (first
                  | (go_at_call 43; refine (near_v (n : Int) (i : Int) (j : Int) A len cap es true _ (by exact HED.out) (by omega) HV.out).mono ?_; rintro e W4 ⟨rfl, hb4⟩; have q0 := (hb4.cell (p := ⟨w.heap.size, 0, none⟩) (by show w.heap.size < wr.heap.size; omega)).trans hc0; have q1 := (hb4.cell (p := ⟨w.heap.size, 1, none⟩) (by show w.heap.size < wr.heap.size; omega)).trans hc1; have q2 := (hb4.cell (p := ⟨w.heap.size + 1, i, none⟩) (by exact hlt1)).trans hri; have q3 := (hb4.cell (p := ⟨w.heap.size + 1, j, none⟩) (by exact hlt1)).trans hrj; have HB4 := Lib.hid hb4; clear hb4))
              have HGX : Hid (GreeW w n A len cap (updN b i cur) W4) := Lib.hid (HGW.out.later (((Below.refl _ _).drew).trans HB4.out))
              have HGS : Hid (GreeW w n A len cap (updN b i (bj + 1)) (W4.setCell ⟨w.heap.size + 1, i, none⟩ (.int .i64 ((bj + 1 : Nat) : Int)))) := Lib.hid (by
                have h := HGX.out.set_ i (bj + 1)
                rw [show updN (updN b i cur) i (bj + 1) = updN b i (bj + 1) from funext fun y => by unfold updN; split <;> rfl] at h
                exact h)
              have f4 := HGX.out.row.frozen i
              clear HB4 hc0 hc1 q0 q1 hri hrj hcx
              go_wp2_with fail
              go_roundw
              case rel => exact ⟨t + 1, bj + 1, by omega, by go_num, HN, HGS⟩
              case measure => simp [intOf]; omega
            · have HN : Hid (CurB (adjE es) o k b i (t + 1) cur) := Lib.hid (by
                have h := HST.out
                rw [if_neg fun h => hlc h.2] at h
                exact h)
              have g1 : decide ((cur : Int) < ((bj + 1 : Nat) : Int)) = false := by simp; omega
              have g2 : decide (cur < bj + 1) = false := by simp; omega
              have g3 : ¬ (cur : Int) < (bj : Int) + 1 := by omega
              have g4 : decide ((cur : Int) < (bj : Int) + 1) = false := by simp; omega
              clear HST HCB hlc
              go_wp2_with fail
              go_region_held3 (fun W => W.cell? ⟨w.heap.size, 0, none⟩ = some (.int .i64 n) ∧ W.cell? ⟨w.heap.size, 1, none⟩ = some (.slice A len cap) ∧ W.cell? ⟨w.heap.size + 1, i, none⟩ = some (.int .i64 cur) ∧ W.cell? ⟨w.heap.size + 1, j, none⟩ = some (.int .i64 bj))
                (first | exact ⟨hc0, hc1, hri, hrj⟩ | exact ⟨q0, q1, q2, q3⟩ | go_keep)
                (first
                  | (go_at_call 43; refine (near_v (n : Int) (i : Int) (j : Int) A len cap es true _ (by exact HED.out) (by omega) HV.out).mono ?_; rintro e W4 ⟨rfl, hb4⟩; have q0 := (hb4.cell (p := ⟨w.heap.size, 0, none⟩) (by show w.heap.size < wr.heap.size; omega)).trans hc0; have q1 := (hb4.cell (p := ⟨w.heap.size, 1, none⟩) (by show w.heap.size < wr.heap.size; omega)).trans hc1; have q2 := (hb4.cell (p := ⟨w.heap.size + 1, i, none⟩) (by exact hlt1)).trans hri; have q3 := (hb4.cell (p := ⟨w.heap.size + 1, j, none⟩) (by exact hlt1)).trans hrj; have HB4 := Lib.hid hb4; clear hb4))
              have HGX : Hid (GreeW w n A len cap (updN b i cur) W4) := Lib.hid (HGW.out.later (((Below.refl _ _).drew).trans HB4.out))
              clear HB4 hc0 hc1 q0 q1 q2 q3 hri hrj hcx
              go_wp2_with fail
              go_roundw
              case rel => exact ⟨t + 1, cur, by omega, by go_num, HN, HGX⟩
              case measure => simp [intOf]; omega
        · obtain rfl : t = k := by omega
          have hri := HGW.out.row.cell hin
          have hui : updN b i cur i = cur := if_pos rfl
          rw [hui] at hri
          have hcl := HCB.out.le
          have h1 : 1 ≤ cur := by rcases HCB.out.att with e | ⟨j, _, _, e⟩ <;> omega
          have HRN := Lib.hid (HRB.out.step HND.out HOI.out HCB.out)
          have HMN := Lib.hid (HMB.out.step HND.out HOI.out h1)
          clear hui
          by_cases hmc : m < cur
          · have HM2 : Hid (MostB o (t + 1) (updN b i cur) cur) := Lib.hid (by have h := HMN.out; rwa [if_pos hmc] at h)
            have g2 : decide (m < cur) = true := by simp; omega
            have g3 : (m : Int) < (cur : Int) := by omega
            clear HMN HCB
            go_wp2_with fail
            go_roundw
            case rel => exact ⟨t + 1, cur, by omega, by omega, rfl, by go_num, Lib.hid ⟨_, HGW.out, HRN.out, HM2.out⟩⟩
            case measure => simp [intOf]; omega
          · have HM2 : Hid (MostB o (t + 1) (updN b i cur) m) := Lib.hid (by have h := HMN.out; rwa [if_neg hmc] at h)
            have g2 : decide (m < cur) = false := by simp; omega
            have g3 : ¬ (m : Int) < (cur : Int) := by omega
            clear HMN HCB hmc
            go_wp2_with fail
            go_roundw
            case rel => exact ⟨t + 1, m, by omega, hm10, rfl, by go_num, Lib.hid ⟨_, HGW.out, HRN.out, HM2.out⟩⟩
            case measure => simp [intOf]; omega
    · obtain rfl : k = n := by omega
      have HRET : Hid (∀ e, e = Ending.returned (.int .i64 (m : Int)) → (∃ b m' : Nat → Nat, ∃ q : Nat, q = m' 0 ∧ e = .returned (.int .i64 (q : Int)) ∧ RowB (adjE es) o k b ∧ MostB o k b q) ∧ Below w.heap.size w wr) := Lib.hid fun e he => by
        obtain ⟨b, h1, h2, h3⟩ := HC.out
        exact ⟨⟨b, fun _ => m, m, rfl, he, h2, h3⟩, h1.below⟩
      clear HC
      go_wp2_with fail
      go_ret
      exact HRET.out _ rfl
end Go.Proofs.Ytpcealcghglopaa
