/- span.edgeTable: of each node how many edges it has, and -1 where two have one. -/
import Derived.Test.YthfgbgmkiggjmabDoorLapM
import Derived.Test.YthfgbgmkiggjmabDoorRefCheck
import Derived.RegionTactic
import Derived.BigRegion
import Derived.ChangeAlike
namespace Go.Proofs.YthfgbgmkiggjmabDoor
open Go.RowKit

structure EtInv (w : World) (n k : Nat) (W0 wr : World) : Prop where
  top : ∃ cur : Array Value, wr.heap[w.heap.size + 1]? = some (.cells cur 98 (0, 0)) ∧ cur.size = n ∧ (∀ q, q < k → cur[q]? = some (.slice (some ⟨w.heap.size + 2 + q, 0, none⟩) n n)) ∧ (∀ q, k ≤ q → q < n → cur[q]? = some (.slice none 0 0))
  row : ∀ q, q < k → RowL wr (w.heap.size + 2 + q) n (fun _ => 0)
  size : wr.heap.size = w.heap.size + 2 + k
  below : Below (w.heap.size + 1) W0 wr
set_option maxRecDepth 100000 in
theorem EtInv.start (w : World) (n : Nat) (A : Option Addr) (len cap : Nat) : EtInv w n 0 (bx w n A len cap) ((bx w n A len cap).alloc (.cells (madeCells #[Value.slice none 0 0] n) 98)) := by
  refine ⟨⟨madeCells #[Value.slice none 0 0] n, ?_, by simp [madeCells], fun q hq => by omega, fun q _ hq => by simp [madeCells, hq, Nat.mod_one]⟩, fun q hq => by omega, by simp [bx], (Below.refl _ _).alloc (by simp [bx]) _⟩
  have h := (MapKept.heap_alloc (bx w n A len cap) (.cells (madeCells #[Value.slice none 0 0] n) 98)).1
  rw [show (bx w n A len cap).heap.size = w.heap.size + 1 by simp [bx]] at h
  exact h
set_option maxRecDepth 100000 in
theorem EtInv.next {w : World} {n k : Nat} {W0 wr : World} (h : EtInv w n k W0 wr) (hk : k < n) : EtInv w n (k + 1) W0 ((wr.setCell ⟨w.heap.size + 1, k, none⟩ (.slice (some ⟨wr.heap.size, 0, none⟩) n n)).alloc (.cells (madeCells #[Value.int .i64 0] n) 2)) := by
  obtain ⟨cur, h1, h2, h3, h4⟩ := h.top
  have hss : (wr.setCell ⟨w.heap.size + 1, k, none⟩ (.slice (some ⟨wr.heap.size, 0, none⟩) n n)).heap.size = wr.heap.size := by simp
  have far : ∀ b, b ≠ w.heap.size + 1 → b < wr.heap.size → ((wr.setCell ⟨w.heap.size + 1, k, none⟩ (.slice (some ⟨wr.heap.size, 0, none⟩) n n)).alloc (.cells (madeCells #[Value.int .i64 0] n) 2)).heap[b]? = wr.heap[b]? := fun b hb hl => (Below.heap_alloc _ _ b (by rw [hss]; exact hl)).trans (Below.heap_setCell _ _ _ b hb)
  refine ⟨⟨cur.setIfInBounds k (.slice (some ⟨wr.heap.size, 0, none⟩) n n), ?_, by simp [h2], fun q hq => ?_, fun q hq hqn => ?_⟩, fun q hq => ?_, ?_, ?_⟩
  · refine (Below.heap_alloc _ _ _ (by rw [hss]; have := h.size; omega)).trans ?_
    simp [World.setCell, Array.getElem?_modify, h1]
  · rw [Array.getElem?_setIfInBounds]
    by_cases hqk : k = q
    · subst hqk
      rw [if_pos rfl, if_pos (by omega), h.size]
    · rw [if_neg hqk]; exact h3 q (by omega)
  · rw [Array.getElem?_setIfInBounds, if_neg (by omega)]
    exact h4 q (by omega) hqn
  · by_cases hqk : q = k
    · subst hqk
      refine ⟨madeCells #[Value.int .i64 0] n, ?_, fun j hj => by simp [madeCells, hj, Nat.mod_one]⟩
      rw [← h.size]
      have hh := (MapKept.heap_alloc (wr.setCell ⟨w.heap.size + 1, q, none⟩ (.slice (some ⟨wr.heap.size, 0, none⟩) n n)) (.cells (madeCells #[Value.int .i64 0] n) 2)).1
      rw [hss] at hh
      exact hh
    · exact (h.row q (by omega)).of_block (far _ (by omega) (by have := h.size; omega))
  · simp; have := h.size; omega
  · exact (h.below.setCell (p := ⟨w.heap.size + 1, k, none⟩) (Nat.le_refl _) _).alloc (by rw [hss]; have := h.size; omega) _
theorem EtInv.tbl {w : World} {n : Nat} {W0 wr : World} (h : EtInv w n n W0 wr) : Tbl wr (w.heap.size + 1) (w.heap.size + 1) n n (fun q => w.heap.size + 2 + q) (fun _ => n) (lapM []) := by
  obtain ⟨cur, h1, _, h3, _⟩ := h.top
  exact ⟨Nat.le_refl _, ⟨cur, h1, h3⟩, fun k hk => ⟨by omega, h.row k hk⟩, fun k l _ _ he => by omega⟩

def TableOut (w : World) (n : Nat) (es : List E3) (e : Ending) (w' : World) : Prop :=
  ∃ g bs cs, e = .returned (.slice (some ⟨g, 0, none⟩) n n) ∧ Tbl w' w.heap.size g n n bs cs (lapM es) ∧ Below w.heap.size w w'

set_option maxRecDepth 100000 in
set_option maxHeartbeats 4000000 in
theorem edgeTable_any (n : Nat) (A : Option Addr) (len cap : Nat) (es : List E3) (w : World) (hE : EdgesAt w w.heap.size A len es) (hg : goodE n es) (hn : n ≤ 10) (hl : len ≤ 45) :
    Calls Tryd.prog 69 #[.agg #[.int .i64 n, .slice A len cap]] w (TableOut w n es) := by
  have HE := Lib.hid (show EdgesAt (bx w n A len cap) (bx w n A len cap).heap.size A len es from (hE.alloc (Nat.le_refl _) _).more (by simp [bx]))
  have HG := Lib.hid hg
  have HLen := Lib.hid hE.1
  have HS := Lib.hid (EtInv.start w n A len cap)
  clear hE hg
  have hmk := fun W => run_make_row' (P := Tryd.prog) 78 98 (.slice none 0 0) 24 Tryd.underlying78 (by kernel_rfl) rfl .i64 .i64 n (by omega) (by omega) W
  go_enter Tryd.func69, Tryd.ntmps69
  go_wp2
  clear hmk
  go_loopw [12] (fun j wr => ∃ k : Nat, k ≤ n ∧ j = .int .i64 k ∧ Hid (EtInv w n k (bx w n A len cap) wr)) (fun j _ => n - (intOf j).toNat)
  case atStart => exact ⟨0, Nat.zero_le _, rfl, Lib.hid HS.out⟩
  case round =>
    clear HS
    obtain ⟨k, hk, rfl, HI⟩ := hrel
    have hsz : w.heap.size + 1 < wr.heap.size := by have := HI.out.size; omega
    by_cases hkn : k < n
    · have hb0 : wr.cell? ⟨w.heap.size, 0, none⟩ = some (.int .i64 n) := by rw [HI.out.below.cell (p := ⟨w.heap.size, 0, none⟩) (Nat.lt_succ_self _)]; simp [bx, go_sem]
      have hc0 : wr.cell? ⟨w.heap.size + 1, k, none⟩ = some (.slice none 0 0) := by
        obtain ⟨cur, h1, h2, h3, h4⟩ := HI.out.top
        simp [World.cell?, h1, h4 k (Nat.le_refl _) hkn]
      have hf0 : wr.frozen? ⟨w.heap.size + 1, k, none⟩ = false := by
        obtain ⟨cur, h1, h2, h3, h4⟩ := HI.out.top
        simp [World.frozen?, h1]
      have HN := Lib.hid (HI.out.next hkn)
      have hmk2 := fun W => run_make_row' (P := Tryd.prog) 98 2 (.int .i64 0) 8 Tryd.underlying98 (by kernel_rfl) rfl .i64 .i64 n (by omega) (by omega) W
      have ik0 : (0 : Int) ≤ (k : Int) := by omega
      have ik1 : (k : Int) < (n : Int) := by omega
      clear HI
      go_wp2
      clear hmk2
      go_roundw
      case rel => exact ⟨k + 1, by omega, by go_num, HN⟩
      case measure => simp [intOf]; omega
    · obtain rfl : k = n := by omega
      have HT0 := Lib.hid HI.out.tbl
      have HB0 := Lib.hid HI.out.below
      have hb1 : wr.cell? ⟨w.heap.size, 1, none⟩ = some (.slice A len cap) := by rw [HI.out.below.cell (p := ⟨w.heap.size, 1, none⟩) (Nat.lt_succ_self _)]; simp [bx, go_sem]
      obtain ⟨bs, hbs⟩ : ∃ bs : Nat → Nat, bs = fun q => w.heap.size + 2 + q := ⟨_, rfl⟩
      have HT1 : Hid (Tbl wr (w.heap.size + 1) (w.heap.size + 1) k k bs (fun _ => k) (lapM (es.take 0))) := Lib.hid (by rw [hbs]; exact HT0.out)
      obtain ⟨wo, rfl⟩ : ∃ wo : World, wo = wr := ⟨_, rfl⟩
      clear HT0 HI hbs hkn
      go_wp2
      go_loopw [25] (fun j wr => ∃ q : Nat, q ≤ len ∧ j = .int .i64 q ∧ Hid (Tbl wr (w.heap.size + 1) (w.heap.size + 1) k k bs (fun _ => k) (lapM (es.take q))) ∧ Hid (Below (w.heap.size + 1) (bx w k A len cap) wr)) (fun j _ => len - (intOf j).toNat)
      case atStart => exact ⟨0, Nat.zero_le _, rfl, HT1, HB0⟩
      case round =>
        clear HT1 HB0
        obtain ⟨q, hq, rfl, HT, HB⟩ := hrel
        by_cases hql : q < len
        · obtain ⟨b, off, ⟨a0, a1, a2⟩, rfl, hb, hx, hc0, hc1, hc2⟩ := (HE.out.below (HB.out.mono (by simp [bx]))).at_ hql
          obtain ⟨p0, p1, p2, p3, p4, _⟩ := edge_ok (HG.out q _ hx)
          simp only at p0 p1 p2 p3 p4 hc0 hc1 hc2
          obtain ⟨i, rfl⟩ := Int.eq_ofNat_of_zero_le p0
          obtain ⟨j, rfl⟩ := Int.eq_ofNat_of_zero_le p2
          have hi : i < k := by omega
          have hj : j < k := by omega
          have hij : ¬ i = j := by omega
          have hji : ¬ j = i := by omega
          have HNX := Lib.hid (lapM_next HG.out hx)
          have hgl := HT.out.tlt
          have ti := HT.out.tcell hi
          have tj := HT.out.tcell hj
          have cii := HT.out.cell hi hi
          have cjj := HT.out.cell hj hj
          have cij := HT.out.cell hi hj
          have cji := HT.out.cell hj hi
          have fii := HT.out.frozen hi i
          have fjj := HT.out.frozen hj j
          have fij := HT.out.frozen hi j
          have fji := HT.out.frozen hj i
          have li := HT.out.rlt hi
          have lj := HT.out.rlt hj
          have gi := HT.out.apart hi
          have gj := HT.out.apart hj
          have nij : ¬ bs i = bs j := fun h => hij (HT.out.inj i j hi hj h)
          have nji : ¬ bs j = bs i := fun h => hji (HT.out.inj j i hj hi h)
          have bi := (HT.out.row i hi).1
          have bj := (HT.out.row j hj).1
          have hbr : b < wr.heap.size := by have := HB.out.size; simp [bx] at this hb; omega
          have ei : ¬ bs i = wr.heap.size := by omega
          have ej : ¬ bs j = wr.heap.size := by omega
          have d1 := lapM_diag (es.take q) i
          have d2 := lapM_diag (es.take q) j
          have hlt := List.length_take_le q es
          have HTS := HT
          generalize lapM (es.take q) i i = x at cii d1 HNX
          generalize lapM (es.take q) j j = y at cjj d2 HNX
          generalize lapM (es.take q) i j = u at cij
          generalize lapM (es.take q) j i = v at cji
          have hi0 : (0 : Int) ≤ (i : Int) := by omega
          have hik : (i : Int) < (k : Int) := by omega
          have hj0 : (0 : Int) ≤ (j : Int) := by omega
          have hjk : (j : Int) < (k : Int) := by omega
          have iq0 : (0 : Int) ≤ (q : Int) := by omega
          have iq1 : (q : Int) < (len : Int) := by omega
          clear hx p4
          go_wp2
          go_region
          go_wp2
          go_region
          go_wp2
          go_region
          go_wp2
          go_region
          go_wp2
          go_roundw
          case rel =>
            refine ⟨q + 1, by omega, by go_num, Lib.hid ?_, Lib.hid ?_⟩
            · exact ((((((((HT.out.set_ (j := i) hi (x + 1)).set_ (j := j) hj (y + 1)).set_ (j := j) hi (-1)).set_ (j := i) hj (-1)).alloc _).congr fun a b _ _ => HNX.out a b).drew).drew.drew).drew
            · exact ((((((HB.out.setCell (p := ⟨bs i, i, none⟩) bi _).setCell (p := ⟨bs j, j, none⟩) bj _).setCell (p := ⟨bs i, j, none⟩) bi _).setCell (p := ⟨bs j, i, none⟩) bj _).alloc (by simp; omega) _).drew).drew.drew.drew
          case measure => simp [intOf]; omega
        · obtain rfl : q = len := by omega
          have HO : Hid (TableOut w k es (.returned (.slice (some ⟨w.heap.size + 1, 0, none⟩) k k)) wr) := Lib.hid (by
            have h := HT.out
            rw [List.take_of_length_le (by have := HLen.out; omega)] at h
            refine ⟨_, bs, _, rfl, ⟨by omega, h.top, fun a ha => ⟨by have := (h.row a ha).1; omega, (h.row a ha).2⟩, h.inj⟩, ?_⟩
            exact ((Below.refl _ _).alloc (Nat.le_refl _) _).trans (HB.out.mono (by omega)))
          go_wp2
          go_ret
          exact HO.out
end Go.Proofs.YthfgbgmkiggjmabDoor
