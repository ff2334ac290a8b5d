/- The reference's Greedy, walked. Conditions: a graph without fault, an order of its nodes. -/
import Derived.Test.YtpcealcghglopaaZBoxB
import Derived.Test.YtpcealcghglopaaZNear
import Derived.Test.YtpcealcghglopaaZb2
import Derived.Test.YtpcealcghglopaaZb1
import Derived.Lib.AppendZeros
namespace Go.Proofs.Ytpcealcghglopaa
open Go.RowKit

def natG (l : List Nat) : List Int := l.map fun n : Nat => (n : Int)
theorem natG_get {l : List Nat} {k : Nat} {x : Int} (h : (natG l)[k]? = some x) : ∃ i, l[k]? = some i ∧ x = (i : Int) := by
  unfold natG at h
  rw [List.getElem?_map] at h
  cases hl : l[k]? with
  | none => rw [hl] at h; cases h
  | some i =>
    rw [hl] at h
    injection h with h
    exact ⟨i, rfl, h.symm⟩
theorem used_push {adj : Nat → Nat → Bool} {l : List Nat} {col : Nat → Nat} {i c t j : Nat} (h : l[t]? = some j) : usedB adj (l.take (t + 1)) col i c = (usedB adj (l.take t) col i c || (adj i j && col j == c)) := by
  obtain ⟨h1, h2⟩ := List.getElem?_eq_some_iff.1 h
  unfold usedB
  rw [List.take_succ_eq_append_getElem h1, h2, List.any_append]
  simp
theorem take_take_ {l : List Nat} {t k : Nat} (h : t ≤ k) : (l.take k).take t = l.take t := by rw [List.take_take, Nat.min_eq_left h]
def agN : Value → Nat
  | .bool true => 1
  | _ => 0
/-- The world of Greedy. -/
structure GreeW (w : World) (n : Nat) (A : Option Addr) (len cap : Nat) (col : Nat → Nat) (wr : World) : Prop where
  below : Below w.heap.size w wr
  box : wr.heap[w.heap.size]? = some (.cells #[.int .i64 n, .slice A len cap] 24 (0, 0))
  row : RowC wr (w.heap.size + 1) n (fun j => (col j : Int))
section
variable {w wr w2 : World} {n : Nat} {A : Option Addr} {len cap : Nat} {col : Nat → Nat}
theorem GreeW.later (h : GreeW w n A len cap col wr) (hb : Below wr.heap.size wr w2) : GreeW w n A len cap col w2 :=
  ⟨h.below.trans (hb.mono h.below.size), (hb.block _ (by have := h.row.lt; omega)).trans h.box, h.row.of_block (hb.block _ h.row.lt)⟩
theorem GreeW.c0 (h : GreeW w n A len cap col wr) : wr.cell? ⟨w.heap.size, 0, none⟩ = some (.int .i64 n) := by simp [World.cell?, h.box]
theorem GreeW.c1 (h : GreeW w n A len cap col wr) : wr.cell? ⟨w.heap.size, 1, none⟩ = some (.slice A len cap) := by simp [World.cell?, h.box]
theorem GreeW.set_ (h : GreeW w n A len cap col wr) (i c : Nat) : GreeW w n A len cap (updN col i c) (wr.setCell ⟨w.heap.size + 1, i, none⟩ (.int .i64 (c : Int))) :=
  ⟨h.below.setCell (p := ⟨w.heap.size + 1, i, none⟩) (Nat.le_succ _) _, (Below.heap_setCell _ _ _ _ (by show w.heap.size ≠ w.heap.size + 1; omega)).trans h.box, (h.row.set_ i (c : Int)).congr fun j _ => by
    unfold updN updF
    split <;> rfl⟩
theorem IntsAt.at_some {B b off k : Nat} {xs : List Int} (h : IntsAt w B (some ⟨b, off, none⟩) n xs) (hk : k < n) : ∃ x, xs[k]? = some x ∧ w.cell? ⟨b, off + k, none⟩ = some (.int .i64 x) := by
  obtain ⟨b', off', x, e, _, hx, hc⟩ := h.at_ hk
  injection e with e
  injection e with e1 e2
  subst e1 e2
  exact ⟨x, hx, hc⟩
end
set_option maxRecDepth 100000 in
set_option maxHeartbeats 4000000 in
theorem refGreedy_any (n : Nat) (A : Option Addr) (len cap : Nat) (es : List E3) (A2 : Option Addr) (c2 : Nat) (o : List Nat) (w : World) (hE : EdgesAt w w.heap.size A len es) (hI : IntsAt w w.heap.size A2 n (natG o)) (hn10 : n ≤ 10) (hl : len ≤ 45) (hc2 : n ≤ c2) (hnd : o.Nodup) (hlt : ∀ i ∈ o, i < n) :
    Calls Try.prog 21 #[.agg #[.int .i64 (n : Int), .slice A len cap], .slice A2 n c2] w fun e w' => ∃ g col, e = .returned (.slice (some ⟨g, 0, none⟩) n n) ∧ RowC w' g n (fun j => ((col j : Nat) : Int)) ∧ GreedL (adjE es) o n col ∧ w.heap.size ≤ g ∧ Below w.heap.size w w' := by
  have HE := Lib.hid hE
  have HI := Lib.hid hI
  have HND := Lib.hid hnd
  have HLT := Lib.hid hlt
  have HOL : Hid (o.length = n) := Lib.hid (by have := hI.1; simpa [natG] using this)
  have hmk := fun W => run_make_row' (P := Try.prog) 25 3 (.int .i64 0) 8 Try.underlying25 (by kernel_rfl) rfl .i64 .i64 n (by omega) (by omega) W
  clear hE hI hnd hlt
  go_enter Try.func21, Try.ntmps21
  go_wp2_with fail
  clear hmk
  obtain ⟨W0, hW0⟩ : ∃ W0, W0 = (w.alloc (.cells #[.int .i64 n, .slice A len cap] 24)).alloc (.cells (madeCells #[.int .i64 0] n) 3) := ⟨_, rfl⟩
  rw [← hW0]
  have HG0 : Hid (GreeW w n A len cap (fun _ => 0) W0) := Lib.hid (by
    rw [hW0]
    have h := (MapKept.heap_alloc (w.alloc (.cells #[.int .i64 n, .slice A len cap] 24)) (.cells (madeCells #[.int .i64 0] n) 3)).1
    rw [World.size_alloc] at h
    exact ⟨((Below.refl _ _).alloc (Nat.le_refl _) _).alloc (by simp) _, (Below.heap_alloc _ _ _ (by simp)).trans (MapKept.heap_alloc w _).1, ⟨madeCells #[.int .i64 0] n, h, fun j hj => by simp [madeCells, Nat.mod_one, hj]⟩⟩)
  clear hW0
  go_loopw [17] (fun y wr => ∃ k : Nat, k ≤ n ∧ y = .int .i64 k ∧ Hid (∃ col, GreeW w n A len cap col wr ∧ GreedL (adjE es) o k col)) (fun y _ => n - (intOf y).toNat)
  case atStart => exact ⟨0, Nat.zero_le _, rfl, Lib.hid ⟨_, HG0.out, GreedL.start⟩⟩
  case round =>
    clear HG0
    obtain ⟨k, hk, rfl, HC⟩ := hrel
    by_cases hkn : k < n
    · obtain ⟨col, HGW, HGL⟩ : ∃ col, Hid (GreeW w n A len cap col wr) ∧ Hid (GreedL (adjE es) o k col) := by
        obtain ⟨col, h1, h2⟩ := HC.out
        exact ⟨col, Lib.hid h1, Lib.hid h2⟩
      obtain ⟨b2, o2, x, rfl, _, hx, hcx⟩ := (HI.out.go_ HGW.out.below).at_ hkn
      obtain ⟨i, hi, rfl⟩ := natG_get hx
      have hin : i < n := HLT.out i (List.mem_of_getElem? hi)
      have HOI := Lib.hid hi
      have ik0 : (0 : Int) ≤ (k : Int) := by omega
      have ik1 : (k : Int) < (n : Int) := by omega
      have ii0 : (0 : Int) ≤ (i : Int) := by omega
      have ii1 : (i : Int) < (n : Int) := by omega
      have hkc : k ≤ c2 := by omega
      obtain ⟨wo, rfl⟩ : ∃ wo : World, wo = wr := ⟨_, rfl⟩
      clear hx hi HC
      go_wp2_with fail
      clear hcx
      go_loopw [8, 9] (fun y z wr => ∃ (c : Nat) (ag : Bool), c ≤ k ∧ y = .int .i64 c ∧ z = .bool ag ∧ Hid (GreeW w n A len cap col wr) ∧ Hid ((∀ c', c' < c → usedB (adjE es) (o.take k) col i c' = true) ∧ (ag = false → usedB (adjE es) (o.take k) col i c = false))) (fun y z _ => (k + 1 - (intOf y).toNat) * 2 + agN z)
      case atStart => exact ⟨0, true, Nat.zero_le _, rfl, rfl, HGW, Lib.hid ⟨fun _ h => absurd h (by omega), fun h => by cases h⟩⟩
      case round =>
        clear HGW
        obtain ⟨c, ag, hck, rfl, rfl, HGW, HU⟩ := hrel
        cases ag with
        | false =>
          have HNX : Hid (∃ col', GreeW w n A len cap col' (wr.setCell ⟨w.heap.size + 1, i, none⟩ (.int .i64 (c : Int))) ∧ GreedL (adjE es) o (k + 1) col') := Lib.hid ⟨_, HGW.out.set_ i c, HGL.out.step HND.out HOI.out HU.out.1 (HU.out.2 rfl)⟩
          have cf := HGW.out.row.frozen i
          have ci := HGW.out.row.cell hin
          clear HU HGL HGW
          go_wp2_with fail
          go_roundw
          case rel => exact ⟨k + 1, by omega, by go_num, HNX⟩
          case measure => simp [intOf]; omega
        | true =>
          obtain ⟨w4, rfl⟩ : ∃ w4 : World, w4 = wr := ⟨_, rfl⟩
          go_wp2_with fail
          go_loopw [9, 27] (fun z y wr => ∃ t : Nat, t ≤ k ∧ y = .int .i64 t ∧ z = .bool (usedB (adjE es) (o.take t) col i c) ∧ Hid (GreeW w n A len cap col wr)) (fun _ y _ => k - (intOf y).toNat)
          case atStart => exact ⟨0, Nat.zero_le _, rfl, rfl, HGW⟩
          case round =>
            clear HGW
            obtain ⟨t, ht, rfl, rfl, HGW⟩ := hrel
            by_cases htk : t < k
            · obtain ⟨x, hx, hcx⟩ := (HI.out.go_ HGW.out.below).at_some (show t < n by omega)
              obtain ⟨j, hj, rfl⟩ := natG_get hx
              have hjn : j < n := HLT.out j (List.mem_of_getElem? hj)
              have HPS := Lib.hid (used_push (adj := adjE es) (col := col) (i := i) (c := c) hj)
              obtain ⟨v, hv⟩ : ∃ v, adjE es i j = v := ⟨_, rfl⟩
              have HV : Hid (nearI es (i : Int) (j : Int) = v) := Lib.hid hv
              have HED := Lib.hid (HE.out.go_ HGW.out.below)
              have k0 := HGW.out.c0
              have k1 := HGW.out.c1
              have it0 : (0 : Int) ≤ (t : Int) := by omega
              have it1 : (t : Int) < (k : Int) := by omega
              have ij0 : (0 : Int) ≤ (j : Int) := by omega
              have ij1 : (j : Int) < (n : Int) := by omega
              rw [hv] at HPS
              obtain ⟨u1, hu1⟩ : ∃ u1, usedB (adjE es) (o.take (t + 1)) col i c = u1 := ⟨_, rfl⟩
              have HU1 := Lib.hid hu1
              rw [hu1] at HPS
              clear hx hj hv hu1
              generalize usedB (adjE es) (o.take t) col i c = u0 at *
              cases v with
              | false =>
                have HN : Hid (u1 = u0) := Lib.hid (by rw [HPS.out]; simp)
                go_wp2_with fail
                refine (near_v (n : Int) (i : Int) (j : Int) A len cap es false _ (by exact HED.out) (by omega) HV.out).mono ?_
                rintro e w5 ⟨rfl, hB⟩
                have HGX := Lib.hid (HGW.out.later hB)
                clear hB k0 k1 hcx
                go_wp2_with fail
                go_roundw
                case rel => exact ⟨t + 1, by omega, by go_num, by rw [HU1.out, HN.out], HGX⟩
                case measure => simp [intOf]; omega
              | true =>
                obtain ⟨q, hq⟩ : ∃ q, (((col j : Nat) : Int) == (c : Int)) = q := ⟨_, rfl⟩
                have HN : Hid (u1 = (u0 || q)) := Lib.hid (by
                  rw [HPS.out, ← hq, Bool.true_and]
                  congr 1
                  rw [Bool.eq_iff_iff, beq_iff_eq, beq_iff_eq]
                  omega)
                go_wp2_with fail
                refine (near_v (n : Int) (i : Int) (j : Int) A len cap es true _ (by exact HED.out) (by omega) HV.out).mono ?_
                rintro e w5 ⟨rfl, hB⟩
                have HGX := Lib.hid (HGW.out.later hB)
                have cj := HGX.out.row.cell hjn
                clear hB k0 k1 hcx
                cases q with
                | true =>
                  have HN2 : Hid (u1 = true) := Lib.hid (by rw [HN.out, Bool.or_true])
                  go_wp2_with fail
                  go_roundw
                  case rel => exact ⟨t + 1, by omega, by go_num, by rw [HU1.out, HN2.out], HGX⟩
                  case measure => simp [intOf]; omega
                | false =>
                  have HN2 : Hid (u1 = u0) := Lib.hid (by rw [HN.out, Bool.or_false])
                  go_wp2_with fail
                  go_roundw
                  case rel => exact ⟨t + 1, by omega, by go_num, by rw [HU1.out, HN2.out], HGX⟩
                  case measure => simp [intOf]; omega
            · obtain rfl : t = k := by omega
              obtain ⟨u, hu⟩ : ∃ u, usedB (adjE es) (o.take t) col i c = u := ⟨_, rfl⟩
              rw [hu]
              cases u with
              | true =>
                have HC2 : Hid (∀ c', c' < c + 1 → usedB (adjE es) (o.take t) col i c' = true) := Lib.hid fun c' hc => by
                  by_cases e : c' = c
                  · subst e; exact hu
                  · exact HU.out.1 c' (by omega)
                have hct : c < t := by
                  have h := used_lt (c := c) (fun c' hc => HC2.out c' (by omega))
                  rw [List.length_take] at h
                  omega
                clear hu
                go_wp2_with fail
                go_roundw
                case rel => exact ⟨c + 1, true, by omega, by go_num, rfl, HGW, Lib.hid ⟨HC2.out, fun h => by cases h⟩⟩
                case measure => simp [intOf, agN]; omega
              | false =>
                have HC2 : Hid (usedB (adjE es) (o.take t) col i c = false) := Lib.hid hu
                clear hu
                go_wp2_with fail
                go_roundw
                case rel => exact ⟨c, false, by omega, rfl, rfl, HGW, Lib.hid ⟨HU.out.1, fun _ => HC2.out⟩⟩
                case measure => simp [intOf, agN]
    · obtain rfl : k = n := by omega
      have HR : Hid (∃ col, RowC wr (w.heap.size + 1) k (fun j => ((col j : Nat) : Int)) ∧ GreedL (adjE es) o k col ∧ Below w.heap.size w wr) := Lib.hid (by
        obtain ⟨col, h1, h2⟩ := HC.out
        exact ⟨col, h1.row, h2, h1.below⟩)
      clear HC
      go_wp2_with fail
      go_ret
      obtain ⟨col, h1, h2, h3⟩ := HR.out
      exact ⟨w.heap.size + 1, col, rfl, h1, h2, Nat.le_succ _, h3⟩
end Go.Proofs.Ytpcealcghglopaa
