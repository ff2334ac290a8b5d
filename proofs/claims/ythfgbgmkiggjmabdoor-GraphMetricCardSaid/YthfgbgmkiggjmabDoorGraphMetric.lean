/- For every graph and any three nodes: it is as far there as back; nobody else is at no distance; a detour is no shorter; and those at one have an edge. No conditions. -/
import Derived.Test.YthfgbgmkiggjmabDoorGraphLinked
import Derived.Test.YthfgbgmkiggjmabDoorInside
import Derived.Deep.RegionHeld3
import Derived.IntWalk
import Derived.Deep.QuietTactic
import Derived.BigQuiet
namespace Go.Proofs.YthfgbgmkiggjmabDoor
open Go.RowKit

set_option maxRecDepth 100000 in
set_option maxHeartbeats 400000 in
theorem graphMetric_bad (n x1 x2 x3 : Int) (A : Option Addr) (len cap : Nat) (es : List E3) (v : Int) (w : World) (hE : EdgesAt w w.heap.size A len es) (hcap : len ≤ cap) (hv : gcheck n es = v) (hv0 : v ≠ 0) :
    Calls Tryd.prog 5 #[.agg #[.int .i64 n, .slice A len cap], .int .i64 x1, .int .i64 x2, .int .i64 x3] w fun e w' => e = .returned (.bool true) ∧ Below w.heap.size w w' := by
  have HE := Lib.hid (show EdgesAt (bx w n A len cap) (bx w n A len cap).heap.size A len es from (hE.alloc (Nat.le_refl _) _).more (by simp [bx]))
  have HV := Lib.hid hv
  have HV0 := Lib.hid hv0
  have HG : Hid ((gcheck n es == 0) = false) := Lib.hid (by rw [hv]; simpa using hv0)
  have hb0 : (v != 0) = true := by simpa using hv0
  clear hE hv hv0
  go_enter Tryd.func5, Tryd.ntmps5
  go_wp2_with (first
    | (go_at_call 19; refine (dist_bad n A len cap es v _ (by exact HE.out) HV.out HV0.out).mono ?_; rintro e w1 ⟨rfl, hb1⟩; obtain ⟨hcc, hff⟩ := bcell hb1; have HE1 := Lib.hid (EdgesAt.go_ HE.out hb1))
    | (go_at_call 22; refine (good_v n A len cap es false _ (by exact HE1.out) hcap HG.out).mono ?_; rintro e w2 ⟨rfl, hb2⟩))
  go_ret
  exact ⟨rfl, (((Below.refl _ _).alloc (Nat.le_refl _) _).trans (hb1.mono (by simp))).trans (hb2.mono (by have := hb1.size; simp at this; omega))⟩

theorem dist_lay {m : Nat} {es : List E3} (hm : m ≤ 10) (hg : goodE m es) {s j d : Nat} (hs : s < m) (hD : IsDist (adjE es) s j d) : ∀ far, far ≤ d → ∃ layer met, LayInv m es s far layer met ∧ far + 1 ≤ met
  | 0, _ => ⟨2 ^ s, 2 ^ s, layInv_start hs, Nat.two_pow_pos s⟩
  | far + 1, h => by
    obtain ⟨layer, met, hI, hle⟩ := dist_lay hm hg hs hD far (by omega)
    refine ⟨_, _, layInv_next hm hg hs hI, ?_⟩
    obtain ⟨x, hx⟩ := dist_down hD (far + 1) h
    have hb := ((layInv_next hm hg hs hI).2.2.1 x).2 hx
    have hn0 : nextL m (nbL m es) layer met ≠ 0 := fun h0 => by rw [h0] at hb; simp at hb
    have := met_grows hm (nbL_words hg) layer met hI.2.1 hn0
    omega
theorem distI_lt {m : Nat} {es : List E3} (hm : m ≤ 10) (hg : goodE m es) {s : Nat} (hs : s < m) (j : Nat) : distI (adjE es) s j < 1024 := by
  rcases distI_cases (adjE es) s j with ⟨d, hd, he⟩ | ⟨_, he⟩
  · obtain ⟨layer, met, hI, hle⟩ := dist_lay hm hg hs hd d (Nat.le_refl _)
    have := pow10 hm hI.2.1
    omega
  · omega

theorem three_ints (w : World) (x1 x2 x3 : Int) (t : TypeId) : IntsAt (w.alloc (.cells #[.int .i64 x1, .int .i64 x2, .int .i64 x3] t)) (w.heap.size + 1) (some ⟨w.heap.size, 0, none⟩) 3 [x1, x2, x3] := by
  have h := (MapKept.heap_alloc w (.cells #[.int .i64 x1, .int .i64 x2, .int .i64 x3] t)).1
  have hr : RowOf (w.alloc (.cells #[.int .i64 x1, .int .i64 x2, .int .i64 x3] t)) w.heap.size t ([x1, x2, x3].map (Value.int .i64)) := h
  exact IntsAt.of_row hr (Nat.lt_succ_self _)

set_option maxRecDepth 100000 in
set_option maxHeartbeats 1000000 in
theorem graphMetric_out (m : Nat) (x1 x2 x3 : Int) (A : Option Addr) (len cap : Nat) (es : List E3) (w : World) (hE : EdgesAt w w.heap.size A len es) (hcap : len ≤ cap) (hv : gcheck m es = 0) (hT : Tab w) (hin : [x1, x2, x3].all (isIn m) = false) :
    Calls Tryd.prog 5 #[.agg #[.int .i64 m, .slice A len cap], .int .i64 x1, .int .i64 x2, .int .i64 x3] w fun e w' => e = .returned (.bool true) ∧ Below w.heap.size w w' := by
  have HE := Lib.hid (show EdgesAt (bx w m A len cap) (bx w m A len cap).heap.size A len es from (hE.alloc (Nat.le_refl _) _).more (by simp [bx]))
  have HT := Lib.hid (show Tab (bx w m A len cap) from hT.alloc _)
  have HV := Lib.hid hv
  have HG : Hid ((gcheck m es == 0) = true) := Lib.hid (by rw [hv]; rfl)
  have HIN := Lib.hid hin
  clear hE hv hT hin
  go_enter Tryd.func5, Tryd.ntmps5
  go_wp2_with (first
    | (go_at_call 19; refine (dist_good m A len cap es _ (by exact HE.out) HV.out (by exact HT.out)).mono ?_; rintro e w1 ⟨gd, rfl, hmat, hgd, hb1⟩; have HM1 := Lib.hid hmat; have HB1 := Lib.hid hb1; have HE1 := Lib.hid (EdgesAt.go_ HE.out hb1); have hx0 : w1.cell? ⟨w.heap.size, 0, none⟩ = some (.int .i64 m) := (by rw [hb1.cell (p := ⟨w.heap.size, 0, none⟩) (by simp)]; simp [go_sem]); have hx1 : w1.cell? ⟨w.heap.size, 1, none⟩ = some (.slice A len cap) := (by rw [hb1.cell (p := ⟨w.heap.size, 1, none⟩) (by simp)]; simp [go_sem]); have hs1 : w.heap.size < w1.heap.size := (by have := hb1.size; simp at this; omega); clear hmat hb1)
    | (go_at_call 22; refine (good_v m A len cap es true _ (by exact HE1.out) hcap HG.out).mono ?_; rintro e w2 ⟨rfl, hb2⟩; have HB2 := Lib.hid hb2; have hz0 : w2.cell? ⟨w.heap.size, 0, none⟩ = some (.int .i64 m) := ((hb2.cell (p := ⟨w.heap.size, 0, none⟩) hs1).trans hx0); clear hb2 hx0 hx1)
    | (go_at_call 23; refine (inside_v m (some ⟨w2.heap.size, 0, none⟩) 3 3 [x1, x2, x3] false _ (by have h := three_ints w2 x1 x2 x3 3; simpa using h) (by omega) HIN.out).mono ?_; rintro e w3 ⟨rfl, rfl⟩))
  go_ret
  exact ⟨rfl, ((((Below.refl _ _).alloc (Nat.le_refl _) _).trans (HB1.out.mono (by simp))).trans (HB2.out.mono (by have := HB1.out.size; simp at this; omega))).alloc (by have h1 := HB1.out.size; have h2 := HB2.out.size; simp at h1; omega) _⟩

set_option maxRecDepth 100000 in
set_option maxHeartbeats 4000000 in
theorem graphMetric_in (m a b c : Nat) (A : Option Addr) (len cap : Nat) (es : List E3) (w : World) (hE : EdgesAt w w.heap.size A len es) (hcap : len ≤ cap) (hv : gcheck m es = 0) (hT : Tab w) (ha : a < m) (hb : b < m) (hc : c < m) :
    Calls Tryd.prog 5 #[.agg #[.int .i64 m, .slice A len cap], .int .i64 a, .int .i64 b, .int .i64 c] w fun e w' => e = .returned (.bool true) ∧ Below w.heap.size w w' := by
  obtain ⟨_, hm10', hl45, hgood⟩ := good_of_gcheck hv
  have hm10 : m ≤ 10 := by omega
  have hlen : len ≤ 45 := by have := hE.1; omega
  have HE := Lib.hid (show EdgesAt (bx w m A len cap) (bx w m A len cap).heap.size A len es from (hE.alloc (Nat.le_refl _) _).more (by simp [bx]))
  have HT := Lib.hid (show Tab (bx w m A len cap) from hT.alloc _)
  have HV := Lib.hid hv
  have HG : Hid ((gcheck m es == 0) = true) := Lib.hid (by rw [hv]; rfl)
  have HD := Lib.hid hgood
  have HIN : Hid ([(a : Int), (b : Int), (c : Int)].all (isIn m) = true) := Lib.hid (by simp [isIn]; omega)
  have hirr : ∀ i, adjE es i i = false := fun i => by
    cases h : adjE es i i with
    | false => rfl
    | true => exact absurd rfl (adjE_lt hgood h).2.2
  have HZ := Lib.hid (distI_zero (adj := adjE es) a b)
  have HO := Lib.hid (distI_one hirr a b)
  have HS := Lib.hid (distI_symm (adjE_symm es) a b)
  have HTR := Lib.hid (distI_tri (adj := adjE es) a b c)
  have HLT := Lib.hid (distI_lt hm10 hgood ha b)
  have HLT2 := Lib.hid (distI_lt hm10 hgood hb c)
  clear hE hv hT hgood hl45 hirr
  go_enter Tryd.func5, Tryd.ntmps5
  go_wp2_with (first
    | (go_at_call 19; refine (dist_good m A len cap es _ (by exact HE.out) HV.out (by exact HT.out)).mono ?_; rintro e w1 ⟨gd, rfl, hmat, hgd, hb1⟩; have HM1 := Lib.hid hmat; have HB1 := Lib.hid hb1; have HE1 := Lib.hid (EdgesAt.go_ HE.out hb1); have hx0 : w1.cell? ⟨w.heap.size, 0, none⟩ = some (.int .i64 m) := (by rw [hb1.cell (p := ⟨w.heap.size, 0, none⟩) (by simp)]; simp [go_sem]); have hx1 : w1.cell? ⟨w.heap.size, 1, none⟩ = some (.slice A len cap) := (by rw [hb1.cell (p := ⟨w.heap.size, 1, none⟩) (by simp)]; simp [go_sem]); have hs1 : w.heap.size < w1.heap.size := (by have := hb1.size; simp at this; omega); clear hmat hb1)
    | (go_at_call 22; refine (good_v m A len cap es true _ (by exact HE1.out) hcap HG.out).mono ?_; rintro e w2 ⟨rfl, hb2⟩; have HB2 := Lib.hid hb2; have hz0 : w2.cell? ⟨w.heap.size, 0, none⟩ = some (.int .i64 m) := ((hb2.cell (p := ⟨w.heap.size, 0, none⟩) hs1).trans hx0); have hz1 : w2.cell? ⟨w.heap.size, 1, none⟩ = some (.slice A len cap) := ((hb2.cell (p := ⟨w.heap.size, 1, none⟩) hs1).trans hx1); clear hb2 hx0 hx1)
    | (go_at_call 23; refine (inside_v m (some ⟨w2.heap.size, 0, none⟩) 3 3 [(a : Int), (b : Int), (c : Int)] true _ (by have h := three_ints w2 a b c 3; simpa using h) (by omega) HIN.out).mono ?_; rintro e w3 ⟨rfl, rfl⟩))
  have hB2 : Below (w.heap.size + 1) (bx w m A len cap) w2 := (HB1.out.mono (by simp)).trans (HB2.out.mono (by have := HB1.out.size; simp at this; omega))
  have hs2 : w.heap.size < w2.heap.size := by have := hB2.size; simp [bx] at this; omega
  have HE2 := Lib.hid (HE1.out.go_ HB2.out)
  have hM2 := HM1.out.keep HB2.out
  obtain ⟨ba, ra, da⟩ := hM2.at_ hm10 HD.out ha
  obtain ⟨bb, rb, db⟩ := hM2.at_ hm10 HD.out hb
  have dab := da b hb
  have dac := da c hc
  have dba := db a ha
  have dbc := db c hc
  rw [← HS.out] at dba
  have HE3 := Lib.hid (show EdgesAt (w2.alloc (.cells #[.int .i64 a, .int .i64 b, .int .i64 c] 3)) (w2.alloc (.cells #[.int .i64 a, .int .i64 b, .int .i64 c] 3)).heap.size A len es from (HE2.out.alloc (Nat.le_refl _) _).more (by simp))
  have hold : Below w2.heap.size w2 (w2.alloc (.cells #[.int .i64 a, .int .i64 b, .int .i64 c] 3)) := (Below.refl _ _).alloc (Nat.le_refl _) _
  have bl : ∀ {p : Addr} {v : Value}, w2.cell? p = some v → p.block < w2.heap.size := fun {p v} h => by
    rcases Nat.lt_or_ge p.block w2.heap.size with h1 | h1
    · exact h1
    · simp [World.cell?, Array.getElem?_eq_none h1] at h
  have k0 := (hold.cell (p := ⟨w.heap.size, 0, none⟩) (bl hz0)).trans hz0
  have k1 := (hold.cell (p := ⟨w.heap.size, 1, none⟩) (bl hz1)).trans hz1
  have k2 := (hold.cell (p := ⟨gd, a, none⟩) (bl ra)).trans ra
  have k3 := (hold.cell (p := ⟨gd, b, none⟩) (bl rb)).trans rb
  have k4 := (hold.cell (p := ⟨ba, b, none⟩) (bl dab)).trans dab
  have k5 := (hold.cell (p := ⟨bb, a, none⟩) (bl dba)).trans dba
  have k6 := (hold.cell (p := ⟨ba, c, none⟩) (bl dac)).trans dac
  have k7 := (hold.cell (p := ⟨bb, c, none⟩) (bl dbc)).trans dbc
  have HBW : Hid (Below w.heap.size w (w2.alloc (.cells #[.int .i64 a, .int .i64 b, .int .i64 c] 3))) := Lib.hid ((((Below.refl _ _).alloc (Nat.le_refl _) _).trans (hB2.mono (Nat.le_succ _))).alloc (by omega) _)
  clear hold bl hz0 hz1 ra rb dab dba dac dbc da db hM2 HM1 HB1 HB2 hB2 HE HE1 HE2 hs2
  generalize w2.alloc (.cells #[.int .i64 a, .int .i64 b, .int .i64 c] 3) = W3 at *
  have hz := HZ.out
  have ho := HO.out
  have htr := HTR.out
  have hlt := HLT.out
  have hlt2 := HLT2.out
  generalize distI (adjE es) a b = d at k4 k5 hz ho htr hlt
  generalize distI (adjE es) b c = f at k7 htr hlt2
  generalize distI (adjE es) a c = g at k6 htr
  obtain ⟨e0, he0⟩ : ∃ e0 : Bool, ((a : Int) == (b : Int)) = e0 := ⟨_, rfl⟩
  obtain ⟨e1, he1⟩ : ∃ e1 : Bool, nearI es a b = e1 := ⟨_, rfl⟩
  have hd0 : (d == 0) = e0 := by
    rw [← he0, Bool.eq_iff_iff, beq_iff_eq, beq_iff_eq, hz]; omega
  have hd1 : (d == 1) = e1 := by
    rw [← he1, nearI_nat, Bool.eq_iff_iff, beq_iff_eq, ho]
  have HE1b := Lib.hid he1
  have HTR' := Lib.hid htr
  clear hz ho htr he1 HZ HO HS HTR HLT HLT2
  have ha0 : (0 : Int) ≤ (a : Int) := by omega
  have ham : (a : Int) < (m : Int) := by omega
  have hb0 : (0 : Int) ≤ (b : Int) := by omega
  have hbm : (b : Int) < (m : Int) := by omega
  have hc0 : (0 : Int) ≤ (c : Int) := by omega
  have hcm : (c : Int) < (m : Int) := by omega
  have HBL : Hid (∀ (p : Addr) (v : Value), W3.cell? p = some v → p.block < W3.heap.size) := Lib.hid (fun p v h => by
    rcases Nat.lt_or_ge p.block W3.heap.size with h1 | h1
    · exact h1
    · simp [World.cell?, Array.getElem?_eq_none h1] at h)
  go_region_held3 (fun W => W.cell? ⟨w.heap.size, 0, none⟩ = some (.int .i64 m) ∧ W.cell? ⟨w.heap.size, 1, none⟩ = some (.slice A len cap) ∧ W.cell? ⟨gd, a, none⟩ = some (.slice (some ⟨ba, 0, none⟩) m m) ∧ W.cell? ⟨gd, b, none⟩ = some (.slice (some ⟨bb, 0, none⟩) m m) ∧ W.cell? ⟨ba, b, none⟩ = some (.int .i64 d) ∧ W.cell? ⟨bb, a, none⟩ = some (.int .i64 d) ∧ W.cell? ⟨ba, c, none⟩ = some (.int .i64 g) ∧ W.cell? ⟨bb, c, none⟩ = some (.int .i64 f))
    (first | exact ⟨k0, k1, k2, k3, k4, k5, k6, k7⟩ | exact ⟨q0, q1, q2, q3, q4, q5, q6, q7⟩ | go_keep)
    (first | (go_at_call 24; refine (near_v m a b A len cap es e1 _ (by exact HE3.out) hlen HE1b.out).mono ?_; rintro e W4 ⟨rfl, hb4⟩; have q0 := (hb4.cell (p := ⟨w.heap.size, 0, none⟩) (HBL.out _ _ k0)).trans k0; have q1 := (hb4.cell (p := ⟨w.heap.size, 1, none⟩) (HBL.out _ _ k1)).trans k1; have q2 := (hb4.cell (p := ⟨gd, a, none⟩) (HBL.out _ _ k2)).trans k2; have q3 := (hb4.cell (p := ⟨gd, b, none⟩) (HBL.out _ _ k3)).trans k3; have q4 := (hb4.cell (p := ⟨ba, b, none⟩) (HBL.out _ _ k4)).trans k4; have q5 := (hb4.cell (p := ⟨bb, a, none⟩) (HBL.out _ _ k5)).trans k5; have q6 := (hb4.cell (p := ⟨ba, c, none⟩) (HBL.out _ _ k6)).trans k6; have q7 := (hb4.cell (p := ⟨bb, c, none⟩) (HBL.out _ _ k7)).trans k7; have HB4 := Lib.hid hb4; clear hb4))
  have HBE : Hid (Below w.heap.size w W4) := Lib.hid (HBW.out.drew.trans (HB4.out.mono HBW.out.size))
  clear HBL HB4 HBW k0 k1 k2 k3 k4 k5 k6 k7 HE3 HE1b hd0 hd1
  go_wp2
  by_cases hd : d < 0
  · go_quiet (fail)
    go_wp2
    go_ret
    exact ⟨rfl, below_drewN HBE.out _⟩
  · have hdd : decide (d < 0) = false := by simpa using hd
    by_cases hf : f < 0
    · go_quiet (fail)
      go_wp2
      go_ret
      exact ⟨rfl, below_drewN HBE.out _⟩
    · have hff : decide (f < 0) = false := by simpa using hf
      obtain ⟨hg0, hg1⟩ := HTR'.out (by omega) (by omega)
      have hsum : IntKind.i64.wrap (d + f) = d + f := IntWalk.i64_in _ (by omega)
      go_quiet (fail)
      go_wp2
      go_ret
      exact ⟨rfl, below_drewN HBE.out _⟩

set_option maxRecDepth 100000 in
theorem graphMetric_any (n : Int) (A : Option Addr) (len cap : Nat) (es : List E3) (x1 x2 x3 : Int) (w : World) (hE : EdgesAt w w.heap.size A len es) (hcap : len ≤ cap) (_ : ∀ e ∈ es, WfE e) (_ : (Lit.int .i64 n).wf = true) (_ : (Lit.int .i64 x1).wf = true) (_ : (Lit.int .i64 x2).wf = true) (_ : (Lit.int .i64 x3).wf = true) (hT : Tab w) :
    Calls Tryd.prog 5 #[.agg #[.int .i64 n, .slice A len cap], .int .i64 x1, .int .i64 x2, .int .i64 x3] w fun e w' => e = .returned (.bool true) ∧ Below w.heap.size w w' := by
  by_cases h : gcheck n es = 0
  · obtain ⟨m, rfl⟩ := Int.eq_ofNat_of_zero_le (good_of_gcheck h).1
    cases hin : [x1, x2, x3].all (isIn m) with
    | false => exact graphMetric_out m x1 x2 x3 A len cap es w hE hcap h hT hin
    | true =>
      simp [isIn] at hin
      obtain ⟨⟨a1, a2⟩, ⟨b1, b2⟩, c1, c2⟩ := hin
      obtain ⟨a, rfl⟩ := Int.eq_ofNat_of_zero_le a1
      obtain ⟨b, rfl⟩ := Int.eq_ofNat_of_zero_le b1
      obtain ⟨c, rfl⟩ := Int.eq_ofNat_of_zero_le c1
      exact graphMetric_in m a b c A len cap es w hE hcap h hT (by omega) (by omega) (by omega)
  · exact graphMetric_bad n x1 x2 x3 A len cap es _ w hE hcap rfl h
end Go.Proofs.YthfgbgmkiggjmabDoor
