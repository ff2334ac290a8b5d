/- The keepers' round: does something come round, as edges are turned by a word? -/
import Derived.Test.YtpcealcghglopaaColourTop
import Derived.Test.YtpcealcghglopaaBit
import Derived.Test.YtpcealcghglopaaAcycP
namespace Go.Proofs.Ytpcealcghglopaa
open Go.RowKit

/-- A row of bools that a call owns. -/
def RowU (w : World) (b m : Nat) (f : Nat → Bool) : Prop := ∃ cur : Array Value, w.heap[b]? = some (.cells cur 4 (0, 0)) ∧ ∀ j, j < m → cur[j]? = some (.bool (f j))
theorem RowU.lt {w : World} {b m : Nat} {f : Nat → Bool} (h : RowU w b m f) : b < w.heap.size := by obtain ⟨cur, h, _⟩ := h; exact (Array.getElem?_eq_some_iff.1 h).1
theorem RowU.cell {w : World} {b m : Nat} {f : Nat → Bool} (h : RowU w b m f) {j : Nat} (hj : j < m) : w.cell? ⟨b, j, none⟩ = some (.bool (f j)) := by
  obtain ⟨cur, h, hc⟩ := h
  simp [World.cell?, h, hc j hj]
theorem RowU.frozen {w : World} {b m : Nat} {f : Nat → Bool} (h : RowU w b m f) (j : Nat) : w.frozen? ⟨b, j, none⟩ = false := by
  obtain ⟨cur, h, hc⟩ := h
  simp [World.frozen?, h]
theorem RowU.of_block {w w' : World} {b m : Nat} {f : Nat → Bool} (h : RowU w b m f) (hb : w'.heap[b]? = w.heap[b]?) : RowU w' b m f := by
  obtain ⟨cur, h, hc⟩ := h
  exact ⟨cur, hb.trans h, hc⟩
theorem RowU.set_ {w : World} {b m : Nat} {f : Nat → Bool} (h : RowU w b m f) (j : Nat) (x : Bool) : RowU (w.setCell ⟨b, j, none⟩ (.bool x)) b m (setG f j x) := by
  obtain ⟨cur, hc, hv⟩ := h
  refine ⟨cur.setIfInBounds j (.bool x), ?_, fun y hy => ?_⟩
  · simp [World.setCell, Array.getElem?_modify, hc]
  · rw [Array.getElem?_setIfInBounds]
    by_cases hyj : j = y
    · subst hyj
      have hlt : j < cur.size := (Array.getElem?_eq_some_iff.1 (hv j hy)).1
      simp [hlt, setG]
    · rw [if_neg hyj, hv y hy, setG, if_neg (by omega)]
structure GoneW (w : World) (n : Nat) (A : Option Addr) (len cap : Nat) (gone : Nat → Bool) (wr : World) : Prop where
  below : Below w.heap.size w wr
  box : wr.heap[w.heap.size]? = some (.cells #[.int .i64 n, .slice A len cap] 24 (0, 0))
  row : RowU wr (w.heap.size + 1) n gone
section
variable {w wr w2 : World} {n : Nat} {A : Option Addr} {len cap : Nat} {gone : Nat → Bool}
theorem GoneW.later (h : GoneW w n A len cap gone wr) (hb : Below wr.heap.size wr w2) : GoneW w n A len cap gone w2 :=
  ⟨h.below.trans (hb.mono h.below.size), (hb.block _ (by have := h.row.lt; omega)).trans h.box, h.row.of_block (hb.block _ h.row.lt)⟩
theorem GoneW.c0 (h : GoneW w n A len cap gone wr) : wr.cell? ⟨w.heap.size, 0, none⟩ = some (.int .i64 n) := by simp [World.cell?, h.box]
theorem GoneW.c1 (h : GoneW w n A len cap gone wr) : wr.cell? ⟨w.heap.size, 1, none⟩ = some (.slice A len cap) := by simp [World.cell?, h.box]
theorem GoneW.set_ (h : GoneW w n A len cap gone wr) (i : Nat) (c : Bool) : GoneW w n A len cap (setG gone i c) (wr.setCell ⟨w.heap.size + 1, i, none⟩ (.bool c)) :=
  ⟨h.below.setCell (p := ⟨w.heap.size + 1, i, none⟩) (Nat.le_succ _) _, (Below.heap_setCell _ _ _ _ (by show w.heap.size ≠ w.heap.size + 1; omega)).trans h.box, h.row.set_ i c⟩
theorem GoneW.alloc (h : GoneW w n A len cap gone wr) (o : Obj) : GoneW w n A len cap gone (wr.alloc o) := h.later ((Below.refl _ _).alloc (Nat.le_refl _) o)
end
theorem edg_ends {m : Nat} {es : List E3} (hg : goodE m es) (o k : Nat) (hk : k < (edgP es).m) : (edgP es).to o k < m ∧ (edgP es).fr o k < m := by
  have hk' : k < es.length := hk
  have e : es.getD k default = es[k] := by rw [List.getD_eq_getElem?_getD, List.getElem?_eq_getElem hk']; rfl
  obtain ⟨p0, p1, p2, p3⟩ := InE.of_good hg _ (List.getElem_mem hk')
  have ha : (edgP es).a k < m := by
    show (es.getD k default).1.toNat < m
    rw [e]; omega
  have hb : (edgP es).b k < m := by
    show (es.getD k default).2.1.toNat < m
    rw [e]; omega
  unfold EdgP.to EdgP.fr
  split <;> exact ⟨by assumption, by assumption⟩
theorem edg_at {es : List E3} {k x y : Nat} {c : Int} (h : es[k]? = some ((x : Int), (y : Int), c)) (o : Nat) : (edgP es).to o k = (if o.testBit k = true then x else y) ∧ (edgP es).fr o k = (if o.testBit k = true then y else x) := by
  have e : es.getD k default = ((x : Int), (y : Int), c) := by rw [List.getD_eq_getElem?_getD, h]; rfl
  show (if o.testBit k = true then (es.getD k default).1.toNat else (es.getD k default).2.1.toNat) = _ ∧ (if o.testBit k = true then (es.getD k default).2.1.toNat else (es.getD k default).1.toNat) = _
  rw [e]
  exact ⟨rfl, rfl⟩
set_option maxRecDepth 100000 in
set_option maxHeartbeats 4000000 in
theorem round_v (m : Nat) (A : Option Addr) (len cap : Nat) (es : List E3) (o : Nat) (v : Bool) (w : World) (hE : EdgesAt w w.heap.size A len es) (hm10 : m ≤ 10) (hl : len ≤ 9) (hg : goodE m es) (ho : o < 4294967296) (hv : v = true ↔ ¬ AcycW (edgP es) o (2 ^ m - 1)) :
    Calls Try.prog 34 #[.agg #[.int .i64 (m : Int), .slice A len cap], .int .u32 o] w fun e w' => e = .returned (.bool v) ∧ Below w.heap.size w w' := by
  have HE := Lib.hid hE
  have HG := Lib.hid hg
  have HV := Lib.hid hv
  have HEL : Hid ((edgP es).m = len) := Lib.hid hE.1
  have hmk := fun W => run_make_row' (P := Try.prog) 75 4 (.bool false) 1 Try.underlying75 (by kernel_rfl) rfl .i64 .i64 m (by omega) (by omega) W
  clear hE hg hv
  go_enter Try.func34, Try.ntmps34
  go_wp2_with fail
  clear hmk
  obtain ⟨W0, hW0⟩ : ∃ W0, W0 = (w.alloc (.cells #[.int .i64 m, .slice A len cap] 24)).alloc (.cells (madeCells #[.bool false] m) 4) := ⟨_, rfl⟩
  rw [← hW0]
  have HG0 : Hid (GoneW w m A len cap (fun _ => false) W0) := Lib.hid (by
    rw [hW0]
    have h := (MapKept.heap_alloc (w.alloc (.cells #[.int .i64 m, .slice A len cap] 24)) (.cells (madeCells #[.bool false] m) 4)).1
    rw [World.size_alloc] at h
    exact ⟨((Below.refl _ _).alloc (Nat.le_refl _) _).alloc (by simp) _, (Below.heap_alloc _ _ _ (by simp)).trans (MapKept.heap_alloc w _).1, ⟨madeCells #[.bool false] m, h, fun j hj => by simp [madeCells, Nat.mod_one, hj]⟩⟩)
  clear hW0
  go_loopw [6] (fun x wr => ∃ t : Nat, t ≤ m ∧ x = .int .i64 t ∧ Hid (∃ gone, GoneW w m A len cap gone wr ∧ PassI (edgP es) o m t 0 gone)) (fun x _ => m - (intOf x).toNat)
  case atStart => exact ⟨0, Nat.zero_le _, rfl, Lib.hid ⟨_, HG0.out, PassI.start _ _ _⟩⟩
  case round =>
    clear HG0
    obtain ⟨t, ht, rfl, HC⟩ := hrel
    obtain ⟨gone0, HW0, HP0⟩ : ∃ gone, Hid (GoneW w m A len cap gone wr) ∧ Hid (PassI (edgP es) o m t 0 gone) := by
      obtain ⟨b, h1, h2⟩ := HC.out
      exact ⟨b, Lib.hid h1, Lib.hid h2⟩
    clear HC
    have c0 := HW0.out.c0
    by_cases htm : t < m
    · go_wp2_with fail
      clear c0
      go_loopw [7] (fun x wr => ∃ i : Nat, i ≤ m ∧ x = .int .i64 i ∧ Hid (∃ gone, GoneW w m A len cap gone wr ∧ PassI (edgP es) o m t i gone)) (fun x _ => m - (intOf x).toNat)
      case atStart => exact ⟨0, Nat.zero_le _, rfl, Lib.hid ⟨_, HW0.out, HP0.out⟩⟩
      case round =>
        clear HW0 HP0
        obtain ⟨i, hi, rfl, HC⟩ := hrel
        obtain ⟨gone, HW1, HP1⟩ : ∃ gone, Hid (GoneW w m A len cap gone wr) ∧ Hid (PassI (edgP es) o m t i gone) := by
          obtain ⟨b, h1, h2⟩ := HC.out
          exact ⟨b, Lib.hid h1, Lib.hid h2⟩
        clear HC
        have c0 := HW1.out.c0
        have c1 := HW1.out.c1
        by_cases him : i < m
        · go_wp2_with fail
          clear c0 c1
          go_loopw [8, 32] (fun x y wr => ∃ k : Nat, ∃ cb : Bool, k ≤ len ∧ x = .bool cb ∧ y = .int .i64 k ∧ Hid (comesTo (edgP es) o gone i k = cb) ∧ Hid (GoneW w m A len cap gone wr)) (fun _ y _ => len - (intOf y).toNat)
          case atStart => exact ⟨0, false, Nat.zero_le _, rfl, rfl, Lib.hid rfl, HW1⟩
          case round =>
            clear HW1
            obtain ⟨k, cb, hk, rfl, rfl, HCT, HW2⟩ := hrel
            by_cases hkl : k < len
            · obtain ⟨b', off, ⟨a0, a1, a2⟩, rfl, hb, hx, hc0, hc1, hc2⟩ := (HE.out.go_ HW2.out.below).at_ hkl
              have ik0 : (0 : Int) ≤ (k : Int) := by omega
              have ik1 : (k : Int) < (len : Int) := by omega
              obtain ⟨p0, p1, p2, p3⟩ := InE.of_good HG.out _ (List.mem_of_getElem? hx)
              simp only at p0 p1 p2 p3 hc0 hc1 hc2
              obtain ⟨x, rfl⟩ := Int.eq_ofNat_of_zero_le p0
              obtain ⟨y, rfl⟩ := Int.eq_ofNat_of_zero_le p2
              have HBX := Lib.hid (fun b hb W => bit_nat o k b ho (by omega) hb W)
              have HAT := Lib.hid (edg_at hx o)
              have HWA : Hid (GoneW w m (some ⟨b', off, none⟩) len cap gone (wr.alloc (.cells #[.int .i64 (x : Int), .int .i64 (y : Int), .int .i64 a2] 61))) := Lib.hid (HW2.out.alloc _)
              have gx := HWA.out.row.cell (show x < m by omega)
              have gy := HWA.out.row.cell (show y < m by omega)
              obtain ⟨vx, hvx⟩ : ∃ vx, gone x = vx := ⟨_, rfl⟩
              obtain ⟨vy, hvy⟩ : ∃ vy, gone y = vy := ⟨_, rfl⟩
              rw [hvx] at gx
              rw [hvy] at gy
              have HVX := Lib.hid hvx
              have HVY := Lib.hid hvy
              obtain ⟨bo, hbo⟩ : ∃ bo, o.testBit k = bo := ⟨_, rfl⟩
              have HBO := Lib.hid hbo
              clear hx hvx hvy hbo
              have HNX : Hid (comesTo (edgP es) o gone i (k + 1) = (cb || (decide ((if bo = true then x else y) = i) && !(if bo = true then vy else vx)))) := Lib.hid (by
                rw [comesTo, HCT.out, HAT.out.1, HAT.out.2, HBO.out]
                cases bo <;> simp [HVX.out, HVY.out])
              have HBF := Lib.hid (HBX.out bo HBO.out)
              clear HAT HBO HBX HVX HVY HCT
              cases bo with
              | true =>
                have if0 : (0 : Int) ≤ (y : Int) := by omega
                have if1 : (y : Int) < (m : Int) := by omega
                cases cb with
                | true =>
                  have HN : Hid (comesTo (edgP es) o gone i (k + 1) = true) := Lib.hid (by rw [HNX.out]; rfl)
                  clear HNX
                  go_wp2_with fail
                  refine (HBF.out _).mono ?_
                  rintro e w1 ⟨rfl, rfl⟩
                  go_wp2_with fail
                  go_roundw
                  case rel => exact ⟨k + 1, true, by omega, rfl, by go_num, HN, HWA⟩
                  case measure => simp [intOf]; omega
                | false =>
                  by_cases hti : x = i
                  · have j1 : ((x : Int) == (i : Int)) = true := by simp; omega
                    have HN : Hid (comesTo (edgP es) o gone i (k + 1) = !vy) := Lib.hid (by rw [HNX.out]; simp [hti])
                    clear HNX hti
                    go_wp2_with fail
                    refine (HBF.out _).mono ?_
                    rintro e w1 ⟨rfl, rfl⟩
                    go_wp2_with fail
                    go_roundw
                    case rel => exact ⟨k + 1, !vy, by omega, rfl, by go_num, HN, HWA⟩
                    case measure => simp [intOf]; omega
                  · have j1 : ((x : Int) == (i : Int)) = false := by simp; omega
                    have HN : Hid (comesTo (edgP es) o gone i (k + 1) = false) := Lib.hid (by rw [HNX.out]; simp [hti])
                    clear HNX hti
                    go_wp2_with fail
                    refine (HBF.out _).mono ?_
                    rintro e w1 ⟨rfl, rfl⟩
                    go_wp2_with fail
                    go_roundw
                    case rel => exact ⟨k + 1, false, by omega, rfl, by go_num, HN, HWA⟩
                    case measure => simp [intOf]; omega
              | false =>
                have if0 : (0 : Int) ≤ (x : Int) := by omega
                have if1 : (x : Int) < (m : Int) := by omega
                cases cb with
                | true =>
                  have HN : Hid (comesTo (edgP es) o gone i (k + 1) = true) := Lib.hid (by rw [HNX.out]; rfl)
                  clear HNX
                  go_wp2_with fail
                  refine (HBF.out _).mono ?_
                  rintro e w1 ⟨rfl, rfl⟩
                  go_wp2_with fail
                  go_roundw
                  case rel => exact ⟨k + 1, true, by omega, rfl, by go_num, HN, HWA⟩
                  case measure => simp [intOf]; omega
                | false =>
                  by_cases hti : y = i
                  · have j1 : ((y : Int) == (i : Int)) = true := by simp; omega
                    have HN : Hid (comesTo (edgP es) o gone i (k + 1) = !vx) := Lib.hid (by rw [HNX.out]; simp [hti])
                    clear HNX hti
                    go_wp2_with fail
                    refine (HBF.out _).mono ?_
                    rintro e w1 ⟨rfl, rfl⟩
                    go_wp2_with fail
                    go_roundw
                    case rel => exact ⟨k + 1, !vx, by omega, rfl, by go_num, HN, HWA⟩
                    case measure => simp [intOf]; omega
                  · have j1 : ((y : Int) == (i : Int)) = false := by simp; omega
                    have HN : Hid (comesTo (edgP es) o gone i (k + 1) = false) := Lib.hid (by rw [HNX.out]; simp [hti])
                    clear HNX hti
                    go_wp2_with fail
                    refine (HBF.out _).mono ?_
                    rintro e w1 ⟨rfl, rfl⟩
                    go_wp2_with fail
                    go_roundw
                    case rel => exact ⟨k + 1, false, by omega, rfl, by go_num, HN, HWA⟩
                    case measure => simp [intOf]; omega
            · obtain rfl : k = len := by omega
              have HST := Lib.hid (HP1.out.step)
              rw [HEL.out, HCT.out] at HST
              obtain ⟨gi, hgi⟩ : ∃ gi, gone i = gi := ⟨_, rfl⟩
              rw [hgi] at HST
              have ci := HW2.out.row.cell him
              have cf := HW2.out.row.frozen i
              rw [hgi] at ci
              have ii0 : (0 : Int) ≤ (i : Int) := by omega
              have ii1 : (i : Int) < (m : Int) := by omega
              have HSE := Lib.hid (fun b => HW2.out.set_ i b)
              clear hgi HCT
              cases gi <;> cases cb
              all_goals
                go_wp2_with fail
                go_roundw
                case rel => exact ⟨i + 1, by omega, by go_num, Lib.hid ⟨_, HSE.out _, HST.out⟩⟩
                case measure => simp [intOf]; omega
        · obtain rfl : i = m := by omega
          have HTN := Lib.hid (HP1.out.turn fun k hk => (edg_ends HG.out o k hk).2)
          go_wp2_with fail
          go_roundw
          case rel => exact ⟨t + 1, by omega, by go_num, Lib.hid ⟨_, HW1.out, HTN.out⟩⟩
          case measure => simp [intOf]; omega
    · obtain rfl : t = m := by omega
      have HFI := Lib.hid (HP0.out.fin fun k hk => (edg_ends HG.out o k hk).1)
      go_wp2_with fail
      clear c0
      go_loopw [13] (fun x wr => ∃ i : Nat, i ≤ t ∧ x = .int .i64 i ∧ Hid (∀ x, x < i → gone0 x = true) ∧ Hid (GoneW w t A len cap gone0 wr)) (fun x _ => t - (intOf x).toNat)
      case atStart => exact ⟨0, Nat.zero_le _, rfl, Lib.hid (fun _ h => absurd h (by omega)), HW0⟩
      case round =>
        clear HW0
        obtain ⟨i, hi, rfl, HA, HW1⟩ := hrel
        have c0 := HW1.out.c0
        by_cases him : i < t
        · have ci := HW1.out.row.cell him
          obtain ⟨gi, hgi⟩ : ∃ gi, gone0 i = gi := ⟨_, rfl⟩
          have HGI := Lib.hid hgi
          rw [hgi] at ci
          have ii0 : (0 : Int) ≤ (i : Int) := by omega
          have ii1 : (i : Int) < (t : Int) := by omega
          clear hgi
          cases gi with
          | true =>
            have HA2 : Hid (∀ x, x < i + 1 → gone0 x = true) := Lib.hid fun x hx => by
              rcases Nat.lt_or_eq_of_le (Nat.le_of_lt_succ hx) with h | h
              · exact HA.out x h
              · rw [h]; exact HGI.out
            clear HA HGI
            go_wp2_with fail
            go_roundw
            case rel => exact ⟨i + 1, by omega, by go_num, HA2, HW1⟩
            case measure => simp [intOf]; omega
          | false =>
            have HT : Hid (v = true) := Lib.hid (HV.out.2 fun ha => by
              have := HFI.out.2 ha i him
              rw [HGI.out] at this; cases this)
            have HBW := Lib.hid HW1.out.below
            clear HGI HA
            go_wp2_with fail
            go_ret
            exact ⟨by rw [HT.out]; first | done | rfl, HBW.out⟩
        · obtain rfl : i = t := by omega
          have HT : Hid (v = false) := Lib.hid (by
            rw [← Bool.not_eq_true]
            exact fun h => HV.out.1 h (HFI.out.1 HA.out))
          have HBW := Lib.hid HW1.out.below
          clear HA
          go_wp2_with fail
          go_ret
          exact ⟨by rw [HT.out]; first | done | rfl, HBW.out⟩
end Go.Proofs.Ytpcealcghglopaa
