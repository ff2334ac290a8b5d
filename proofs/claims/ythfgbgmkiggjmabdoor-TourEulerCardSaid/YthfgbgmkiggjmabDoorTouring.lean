/- The reference's touring: may all edges be met, each once, from a to b? -/
import Derived.Test.YthfgbgmkiggjmabDoorDegree
import Derived.Test.YthfgbgmkiggjmabDoorPairs
import Derived.Test.YthfgbgmkiggjmabDoorInts
namespace Go.Proofs.YthfgbgmkiggjmabDoor
open Go.RowKit

/-- What is asked of one node. -/
def OkAt (G : List Pr) (a b y : Nat) : Prop := degP G y % 2 = (if (y = a ↔ y = b) then 0 else 1) ∧ (0 < degP G y → Lk G a y)
theorem tg_iff {m : Nat} {G : List Pr} {a b : Nat} (hs : Simp G) (hin : InG m G) (ha : a < m) (hb : b < m) : Tg G a b ↔ ∀ y, y < m → OkAt G a b y := by
  constructor
  · intro h y _; exact ⟨h.1 y, h.2 y⟩
  · intro h
    refine ⟨fun y => ?_, fun y hy => ?_⟩
    · rcases Nat.lt_or_ge y m with hy | hy
      · exact (h y hy).1
      · rw [degP_out hs hin hy, if_pos (by omega)]
    · rcases Nat.lt_or_ge y m with hym | hym
      · exact (h y hym).2 hy
      · rw [degP_out hs hin hym] at hy; omega
theorem lk_dist {m : Nat} {es : List E3} (hin : InE m es) (a y : Nat) : Lk (prsE es) a y ↔ 0 ≤ distI (adjE es) a y := by
  have e : adjE es = adjP (prsE es) := by funext i j; exact adjE_pairs hin i j
  rw [distI_nonneg, e]
  rfl

theorem par_bool (d i a b : Nat) : (d % 2 = (if (i = a ↔ i = b) then 0 else 1)) ↔ ((d : Int) % 2 == 1) = (((i : Int) == (a : Int)) != ((i : Int) == (b : Int))) := by
  have e1 : ((i : Int) == (a : Int)) = decide (i = a) := by rw [Bool.eq_iff_iff]; simp; omega
  have e2 : ((i : Int) == (b : Int)) = decide (i = b) := by rw [Bool.eq_iff_iff]; simp; omega
  have e0 : ((d : Int) % 2 == 1) = decide (d % 2 = 1) := by rw [Bool.eq_iff_iff]; simp; omega
  rw [e0, e1, e2]
  by_cases h1 : i = a
  · by_cases h2 : i = b
    · rw [if_pos (by omega), decide_eq_true h1, decide_eq_true h2]; simp
    · rw [if_neg (by omega), decide_eq_true h1, decide_eq_false h2]; simp
  · by_cases h2 : i = b
    · rw [if_neg (by omega), decide_eq_false h1, decide_eq_true h2]; simp
    · rw [if_pos (by omega), decide_eq_false h1, decide_eq_false h2]; simp

set_option maxRecDepth 100000 in
set_option maxHeartbeats 2000000 in
theorem touring_v (m a b : Nat) (A : Option Addr) (len cap : Nat) (es : List E3) (v : Bool) (w : World) (hE : EdgesAt w w.heap.size A len es) (hm10 : m ≤ 10) (hlen : len ≤ 45) (hs : SomeE m es) (ha : a < m) (hb : b < m) (hv : v = true ↔ Tg (prsE es) a b) :
    Calls Tryd.prog 52 #[.agg #[.int .i64 m, .slice A len cap], .int .i64 a, .int .i64 b] w fun e w' => e = .returned (.bool v) ∧ Below w.heap.size w w' := by
  have HE := Lib.hid (show EdgesAt (bx w m A len cap) (bx w m A len cap).heap.size A len es from (hE.alloc (Nat.le_refl _) _).more (by simp [bx]))
  have HIN := Lib.hid hs.inn
  have HV : Hid (v = true ↔ ∀ y, y < m → OkAt (prsE es) a b y) := Lib.hid (hv.trans (tg_iff hs.simp hs.inG ha hb))
  clear hE hs hv
  go_enter Tryd.func52, Tryd.ntmps52
  go_wp2_with (go_at_call 21; refine (refDist_any m A len cap es _ (by exact HE.out) hm10 hlen HIN.out).mono ?_; rintro e w1 ⟨ho, hb1⟩; have HB1 := Lib.hid hb1; clear hb1; obtain ⟨vd, bs, cs, HR, rfl⟩ : ∃ v bs cs, Hid (Rows1 w1 (w.heap.size + 1) m m v bs cs (distI (adjE es))) ∧ e = .returned v := (by obtain ⟨v, bs, cs, he, hr⟩ := ho; exact ⟨v, bs, cs, Lib.hid (by simpa using hr), he⟩); clear ho)
  have HBx : Hid (Below (w.heap.size + 1) (bx w m A len cap) w1) := Lib.hid (HB1.out.mono (by simp))
  have HE1 := Lib.hid (HE.out.go_ HB1.out)
  have hs1 : w.heap.size < w1.heap.size := by have := HBx.out.size; simp [bx] at this; omega
  clear HE HB1
  obtain ⟨g, capg, HVd, HC⟩ : ∃ g capg, Hid (vd = Value.slice (some ⟨g, 0, none⟩) m capg) ∧ Hid (w1.cell? ⟨g, a, none⟩ = some (.slice (some ⟨bs a, 0, none⟩) m (cs a))) := by
    obtain ⟨g, capg, h1, _, _, h2⟩ := HR.out.top (by omega)
    exact ⟨g, capg, Lib.hid h1, Lib.hid (h2 a ha)⟩
  obtain rfl := HVd.out
  clear HVd
  have HBL : Hid (∀ (p : Addr) (v : Value), w1.cell? p = some v → p.block < w1.heap.size) := Lib.hid (fun p v h => by
    rcases Nat.lt_or_ge p.block w1.heap.size with h1 | h1
    · exact h1
    · simp [World.cell?, Array.getElem?_eq_none h1] at h)
  have HX0 : Hid (w1.cell? ⟨w.heap.size, 0, none⟩ = some (.int .i64 m)) := Lib.hid (by
    rw [HBx.out.cell (p := ⟨w.heap.size, 0, none⟩) (Nat.lt_succ_self _)]; simp [bx, go_sem])
  have HX1 : Hid (w1.cell? ⟨w.heap.size, 1, none⟩ = some (.slice A len cap)) := Lib.hid (by
    rw [HBx.out.cell (p := ⟨w.heap.size, 1, none⟩) (Nat.lt_succ_self _)]; simp [bx, go_sem])
  go_loopw [8] (fun j wr => ∃ i : Nat, i ≤ m ∧ j = .int .i64 i ∧ Hid (∀ y, y < i → OkAt (prsE es) a b y) ∧ Below w1.heap.size w1 wr) (fun j _ => m - (intOf j).toNat)
  case atStart => exact ⟨0, Nat.zero_le _, rfl, Lib.hid (fun y hy => by omega), Below.refl _ _⟩
  case round =>
    obtain ⟨i, hi, rfl, HO, hB⟩ := hrel
    have hz0 : wr.cell? ⟨w.heap.size, 0, none⟩ = some (.int .i64 m) := (hB.cell (p := ⟨w.heap.size, 0, none⟩) hs1).trans HX0.out
    have hz1 : wr.cell? ⟨w.heap.size, 1, none⟩ = some (.slice A len cap) := (hB.cell (p := ⟨w.heap.size, 1, none⟩) hs1).trans HX1.out
    by_cases hlt : i < m
    · have HE2 := Lib.hid (HE1.out.go_ hB)
      have HDeg := Lib.hid (degree_any m i A len cap es wr HE2.out hlen)
      have HD : Hid (degN es (i : Int) = degP (prsE es) i) := Lib.hid (degE_pairs HIN.out i)
      have hDl := degN_le es (i : Int)
      have HLk := Lib.hid (lk_dist HIN.out a i)
      have hdist := HR.out.cell ha hlt
      have HDI := Lib.hid hdist
      have hszw := hB.size
      have hlle : es.length ≤ 45 := by have := HE1.out.1; omega
      clear hdist
      go_wp2_with fail
      refine HDeg.out.mono ?_
      rintro e wd ⟨rfl, hbd⟩
      have HBd : Hid (Below w1.heap.size w1 wd) := Lib.hid (hB.trans (hbd.mono hszw))
      have HEd := Lib.hid (HE2.out.go_ hbd)
      have hy0 : wd.cell? ⟨w.heap.size, 0, none⟩ = some (.int .i64 m) := (HBd.out.cell (p := ⟨w.heap.size, 0, none⟩) hs1).trans HX0.out
      have hy1 : wd.cell? ⟨w.heap.size, 1, none⟩ = some (.slice A len cap) := (HBd.out.cell (p := ⟨w.heap.size, 1, none⟩) hs1).trans HX1.out
      clear hz0 hz1 hbd
      have HDeg2 := Lib.hid (degree_any m i A len cap es wd HEd.out hlen)
      generalize degN es (i : Int) = D at *
      obtain ⟨x, hx⟩ : ∃ x : Bool, ((i : Int) == (a : Int)) = x := ⟨_, rfl⟩
      obtain ⟨y, hy⟩ : ∃ y : Bool, ((i : Int) == (b : Int)) = y := ⟨_, rfl⟩
      obtain ⟨q, hq⟩ : ∃ q : Bool, ((D : Int) % 2 == 1) = q := ⟨_, rfl⟩
      have HPar : Hid ((degP (prsE es) i % 2 = (if (i = a ↔ i = b) then 0 else 1)) ↔ q = (x != y)) := Lib.hid (by
        rw [← HD.out, ← hx, ← hy, ← hq]
        exact par_bool D i a b)
      have hD45 : D ≤ 45 := by omega
      have HBw : Hid (Below w.heap.size w w1) := Lib.hid (((Below.refl _ _).alloc (Nat.le_refl _) _).trans (HBx.out.mono (Nat.le_succ _)))
      by_cases hpar : q = (x != y)
      · have HPOK := Lib.hid (HPar.out.2 hpar)
        have HNEXT : Hid ((0 < D → 0 ≤ distI (adjE es) a i) → ∀ z, z < i + 1 → OkAt (prsE es) a b z) := Lib.hid fun h z hz => by
          rcases Nat.lt_or_ge z i with h1 | h1
          · exact HO.out z h1
          · obtain rfl : z = i := by omega
            exact ⟨HPOK.out, fun h0 => HLk.out.2 (h (by rw [HD.out]; exact h0))⟩
        have HFAIL : Hid (0 < D → distI (adjE es) a i < 0 → v = false) := Lib.hid fun h0 h1 => by
          cases hvv : v with
          | false => rfl
          | true =>
            have := HLk.out.1 ((HV.out.1 hvv i hlt).2 (by rw [← HD.out]; exact h0))
            omega
        have hds : distI (adjE es) a i < 0 ∨ 0 ≤ distI (adjE es) a i := by omega
        have ia0 : (0 : Int) ≤ (a : Int) := by omega
        have ia1 : (a : Int) < (m : Int) := by omega
        have ii0 : (0 : Int) ≤ (i : Int) := by omega
        have ii1 : (i : Int) < (m : Int) := by omega
        clear HO HPar HLk HPOK HV HD
        generalize distI (adjE es) a i = d at *
        cases x <;> cases y <;> cases q <;> simp at hpar
        all_goals
          go_wp2_with fail
          refine HDeg2.out.mono ?_
          rintro e we ⟨rfl, hbe⟩
          have HBe : Hid (Below w1.heap.size w1 we) := Lib.hid (HBd.out.trans (hbe.mono HBd.out.size))
          have hy0 : we.cell? ⟨w.heap.size, 0, none⟩ = some (.int .i64 m) := (HBe.out.cell (p := ⟨w.heap.size, 0, none⟩) hs1).trans HX0.out
          have hv1 : we.cell? ⟨g, a, none⟩ = some (.slice (some ⟨bs a, 0, none⟩) m (cs a)) := (HBe.out.cell (p := ⟨g, a, none⟩) (HBL.out _ _ HC.out)).trans HC.out
          have hv2 : we.cell? ⟨bs a, i, none⟩ = some (.int .i64 d) := (HBe.out.cell (p := ⟨bs a, i, none⟩) (HBL.out _ _ HDI.out)).trans HDI.out
          clear hbe
          by_cases hD0 : D = 0
          · have hDb : decide ((0 : Int) < (D : Int)) = false := by simp; omega
            have hDb2 : decide (0 < D) = false := by simp; omega
            have HN := Lib.hid (HNEXT.out (fun h => by omega))
            clear hD0 HNEXT HFAIL
            go_wp2_with fail
            go_roundw
            case rel => exact ⟨i + 1, by omega, by go_num, HN, HBe.out⟩
            case measure => simp [intOf]; omega
          · have hDp : (0 : Int) < (D : Int) := by omega
            have hDn : 0 < D := by omega
            rcases hds with hd | hd
            · have HF := Lib.hid (HFAIL.out hDn hd)
              clear HNEXT HFAIL
              go_wp2_with fail
              go_ret
              exact ⟨ret_bool HF.out.symm, HBw.out.trans (HBe.out.mono HBw.out.size)⟩
            · have hdb : decide (d < 0) = false := by simp; omega
              have HN := Lib.hid (HNEXT.out (fun _ => hd))
              clear HNEXT HFAIL
              go_wp2_with fail
              go_roundw
              case rel => exact ⟨i + 1, by omega, by go_num, HN, HBe.out⟩
              case measure => simp [intOf]; omega
      · have HF : Hid (v = false) := Lib.hid (by
          cases hvv : v with
          | false => rfl
          | true => exact absurd (HPar.out.1 (HV.out.1 hvv i hlt).1) hpar)
        clear HO HDeg2
        cases x <;> cases y <;> cases q <;> simp at hpar
        all_goals
          go_wp2_with fail
          go_ret
          exact ⟨ret_bool HF.out.symm, HBw.out.trans (HBd.out.mono HBw.out.size)⟩
    · have HT : Hid (v = true) := Lib.hid (HV.out.2 fun y hy => HO.out y (by omega))
      go_wp2_with fail
      go_ret
      exact ⟨ret_bool HT.out.symm, ((Below.refl _ _).alloc (Nat.le_refl _) _).trans ((HBx.out.mono (Nat.le_succ _)).trans (hB.mono (by omega)))⟩
end Go.Proofs.YthfgbgmkiggjmabDoor
