/- The keepers' merged: both nodes of an edge in one. -/
import Derived.Test.YtpcealcghglopaaMergeE
import Derived.Test.YtpcealcghglopaaEdgesOwn
import Derived.Test.YtpcealcghglopaaFewer
import Derived.Test.YtpcealcghglopaaNear
namespace Go.Proofs.Ytpcealcghglopaa
open Go.RowKit

def mgW (w : World) (n m : Int) (A : Option Addr) (len cap : Nat) : World := ((w.alloc (.cells #[.int .i64 n, .slice A len cap] 24)).alloc (.cells #[.int .i64 0, .slice none 0 0] 24)).alloc (.cells #[.int .i64 m, .slice none 0 0] 24)
theorem mgW_size (w : World) (n m : Int) (A : Option Addr) (len cap : Nat) : (mgW w n m A len cap).heap.size = w.heap.size + 3 := by simp [mgW]
theorem mgW_below (w : World) (n m : Int) (A : Option Addr) (len cap : Nat) : Below w.heap.size w (mgW w n m A len cap) := (((Below.refl _ _).alloc (Nat.le_refl _) _).alloc (by simp) _).alloc (by simp; omega) _
def MgInv (m : Nat) (h : List E3) (w W wr : World) : Prop :=
  ∃ v, RowOf wr (w.heap.size + 1 + 1) 24 [.int .i64 m, v] ∧ wr.ownsRow (w.heap.size + 3) 61 3 v h.length (cellsE h) ∧ Below (w.heap.size + 2) W wr
/-- An edge in hand, and the pointers to its ends. -/
structure TwoI (wo : World) (P S : Nat) (v0 v1 c : Int) (wr : World) : Prop where
  below : Below wo.heap.size wo wr
  size : wr.heap.size = S
  x : wr.heap[wo.heap.size]? = some (.cells #[.int .i64 v0, .int .i64 v1, .int .i64 c] 61 (0, 0))
  p : wr.heap[P]? = some (.cells #[.pointer (some ⟨wo.heap.size, 0, none⟩), .pointer (some ⟨wo.heap.size, 1, none⟩)] 73 (0, 0))
section
variable {wo wr : World} {P S : Nat} {v0 v1 c v : Int}
theorem TwoI.x0 (h : TwoI wo P S v0 v1 c wr) : wr.cell? ⟨wo.heap.size, 0, none⟩ = some (.int .i64 v0) := by simp [World.cell?, h.x]
theorem TwoI.x1 (h : TwoI wo P S v0 v1 c wr) : wr.cell? ⟨wo.heap.size, 1, none⟩ = some (.int .i64 v1) := by simp [World.cell?, h.x]
theorem TwoI.x2 (h : TwoI wo P S v0 v1 c wr) : wr.cell? ⟨wo.heap.size, 2, none⟩ = some (.int .i64 c) := by simp [World.cell?, h.x]
theorem TwoI.p0 (h : TwoI wo P S v0 v1 c wr) : wr.cell? ⟨P, 0, none⟩ = some (.pointer (some ⟨wo.heap.size, 0, none⟩)) := by simp [World.cell?, h.p]
theorem TwoI.p1 (h : TwoI wo P S v0 v1 c wr) : wr.cell? ⟨P, 1, none⟩ = some (.pointer (some ⟨wo.heap.size, 1, none⟩)) := by simp [World.cell?, h.p]
theorem TwoI.f (h : TwoI wo P S v0 v1 c wr) (j : Nat) : wr.frozen? ⟨wo.heap.size, j, none⟩ = false := by simp [World.frozen?, h.x]
theorem TwoI.set0 (h : TwoI wo P S v0 v1 c wr) (hP : P ≠ wo.heap.size) (v : Int) : TwoI wo P S v v1 c (wr.setCell ⟨wo.heap.size, 0, none⟩ (.int .i64 v)) :=
  ⟨h.below.setCell (p := ⟨wo.heap.size, 0, none⟩) (Nat.le_refl _) _, by simp [World.setCell, h.size], by simp [World.setCell, Array.getElem?_modify, h.x], (Below.heap_setCell _ _ _ _ hP).trans h.p⟩
theorem TwoI.set1 (h : TwoI wo P S v0 v1 c wr) (hP : P ≠ wo.heap.size) (v : Int) : TwoI wo P S v0 v c (wr.setCell ⟨wo.heap.size, 1, none⟩ (.int .i64 v)) :=
  ⟨h.below.setCell (p := ⟨wo.heap.size, 1, none⟩) (Nat.le_refl _) _, by simp [World.setCell, h.size], by simp [World.setCell, Array.getElem?_modify, h.x], (Below.heap_setCell _ _ _ _ hP).trans h.p⟩
theorem TwoI.start (wo : World) (v0 v1 c : Int) : TwoI wo (wo.heap.size + 1) (wo.heap.size + 2) v0 v1 c ((wo.alloc (.cells #[.int .i64 v0, .int .i64 v1, .int .i64 c] 61)).alloc (.cells #[.pointer (some ⟨wo.heap.size, 0, none⟩), .pointer (some ⟨wo.heap.size, 1, none⟩)] 73)) := by
  refine ⟨((Below.refl _ _).alloc (Nat.le_refl _) _).alloc (by simp) _, by simp, (Below.heap_alloc _ _ _ (by simp)).trans (MapKept.heap_alloc wo _).1, ?_⟩
  have h := (MapKept.heap_alloc (wo.alloc (.cells #[.int .i64 v0, .int .i64 v1, .int .i64 c] 61)) (.cells #[.pointer (some ⟨wo.heap.size, 0, none⟩), .pointer (some ⟨wo.heap.size, 1, none⟩)] 73)).1
  rwa [World.size_alloc] at h
theorem TwoI.again (h : TwoI wo P S v0 v1 c wr) (hS : wo.heap.size < S) : TwoI wo S (S + 1) v0 v1 c (wr.alloc (.cells #[.pointer (some ⟨wo.heap.size, 0, none⟩), .pointer (some ⟨wo.heap.size, 1, none⟩)] 73)) := by
  refine ⟨h.below.alloc h.below.size _, by simp [h.size], (Below.heap_alloc _ _ _ (by rw [h.size]; exact hS)).trans h.x, ?_⟩
  have h1 := (MapKept.heap_alloc wr (.cells #[.pointer (some ⟨wo.heap.size, 0, none⟩), .pointer (some ⟨wo.heap.size, 1, none⟩)] 73)).1
  rwa [h.size] at h1
theorem MgInv.go_ {m : Nat} {h : List E3} {w W : World} (hI : MgInv m h w W wo) (hb : Below wo.heap.size wo wr) (hs : w.heap.size + 3 ≤ wo.heap.size) : MgInv m h w W wr := by
  obtain ⟨v, h1, h2, h3⟩ := hI
  refine ⟨v, (hb.block _ (by omega)).trans h1, ⟨h2.1, ?_⟩, h3.trans (hb.mono (by omega))⟩
  rcases h2.2 with h0 | ⟨g, cap, cur, hv, hg, hr, hrest⟩
  · exact .inl h0
  · exact .inr ⟨g, cap, cur, hv, hg, (hb.block _ (Array.getElem?_eq_some_iff.1 hr).1).trans hr, hrest⟩
end
set_option maxRecDepth 100000 in
set_option maxHeartbeats 4000000 in
theorem merged_any (m k x y : Nat) (c : Int) (A : Option Addr) (len cap : Nat) (es : List E3) (w : World) (hE : EdgesAt w w.heap.size A len es) (hlen : len ≤ 45) (hm10 : m + 1 ≤ 10) (hg : goodE ((m + 1 : Nat) : Int) es) (hk : es[k]? = some ((x : Int), (y : Int), c)) :
    Calls Try.prog 33 #[.agg #[.int .i64 ((m + 1 : Nat) : Int), .slice A len cap], .int .i64 k] w fun e w' => LessOutC m w.heap.size (mgE x y es) e w' ∧ Below w.heap.size w w' := by
  have HE := Lib.hid (show EdgesAt w w.heap.size A len es from hE)
  have HG := Lib.hid hg
  have hkl : k < len := by have := (List.getElem?_eq_some_iff.1 hk).1; have := hE.1; omega
  obtain ⟨bk, ok, ⟨z0, z1, z2⟩, rfl, hbk, hxk, hk0, hk1, hk2⟩ := hE.at_ hkl
  rw [hk] at hxk
  injection hxk with hxk
  injection hxk with e0 hxk
  injection hxk with e1 e2
  subst e0 e1 e2
  simp only at hk0 hk1 hk2
  have hxy : x < m + 1 ∧ y < m + 1 ∧ x ≠ y := by
    obtain ⟨_, p1, _, p3, p4, _⟩ := edge_ok (hg k _ hk)
    simp only at p1 p3 p4
    omega
  have HXY := Lib.hid hxy
  obtain ⟨n1, hn1⟩ : ∃ n1 : Int, ((m + 1 : Nat) : Int) = n1 := ⟨_, rfl⟩
  have hnw : IntKind.i64.wrap (n1 - 1) = (m : Int) := by rw [IntWalk.i64_in _ (by omega)]; omega
  rw [hn1]
  have ik0 : (0 : Int) ≤ (k : Int) := by omega
  have ik1 : (k : Int) < (len : Int) := by omega
  clear hE hg hk hn1 hxy
  obtain ⟨i0, hi, hz0, hz1, hz2⟩ := info_parts infoEdge
  have HI := Lib.hid hi
  have HI0 := Lib.hid hz0
  have HI1 := Lib.hid hz1
  have HI2 := Lib.hid hz2
  clear hi hz0 hz1 hz2
  go_enter Try.func33, Try.ntmps33
  go_wp2_with fail
  have HS : Hid (MgInv m (mgE x y (es.take 0)) w (mgW w n1 m (some ⟨bk, ok, none⟩) len cap) (mgW w n1 m (some ⟨bk, ok, none⟩) len cap)) := Lib.hid (by
    refine ⟨.slice none 0 0, ?_, by simp [cellsE, mgE, World.ownsRow_nil], Below.refl _ _⟩
    have h := (MapKept.heap_alloc ((w.alloc (.cells #[.int .i64 n1, .slice (some ⟨bk, ok, none⟩) len cap] 24)).alloc (.cells #[.int .i64 0, .slice none 0 0] 24)) (.cells #[.int .i64 m, .slice none 0 0] 24)).1
    rw [show ((w.alloc (.cells #[.int .i64 n1, .slice (some ⟨bk, ok, none⟩) len cap] 24)).alloc (.cells #[.int .i64 0, .slice none 0 0] 24)).heap.size = w.heap.size + 1 + 1 by simp] at h
    exact h)
  clear hk0 hk1 hk2 hnw
  go_loopw [33] (fun j wr => ∃ a : Nat, a ≤ len ∧ j = .int .i64 a ∧ Hid (MgInv m (mgE x y (es.take a)) w (mgW w n1 m (some ⟨bk, ok, none⟩) len cap) wr) ∧ Hid (w.heap.size + 3 ≤ wr.heap.size)) (fun j _ => len - (intOf j).toNat)
  case atStart => exact ⟨0, Nat.zero_le _, rfl, HS, Lib.hid (by simp)⟩
  case round =>
    clear HS
    obtain ⟨a, ha, rfl, HL, HSZ⟩ := hrel
    by_cases hlt : a < len
    · have hsz := HSZ.out
      have hB : Below (w.heap.size + 2) (mgW w n1 m (some ⟨bk, ok, none⟩) len cap) wr := by
        obtain ⟨_, _, _, h⟩ := HL.out
        exact h
      have HE2 := Lib.hid (((HE.out.below (mgW_below w n1 m (some ⟨bk, ok, none⟩) len cap)).below (hB.mono (by omega))))
      obtain ⟨b, off, ⟨a0, a1, a2⟩, he, hb, hx, hc0, hc1, hc2⟩ := HE2.out.at_ hlt
      injection he with he
      injection he with he1 he2
      subst he1 he2
      simp only at hc0 hc1 hc2
      have HX := Lib.hid hx
      have ia0 : (0 : Int) ≤ (a : Int) := by omega
      have ia1 : (a : Int) < (len : Int) := by omega
      clear hx HE2 hB
      obtain ⟨wo, rfl⟩ : ∃ wo : World, wo = wr := ⟨_, rfl⟩
      have HT0 := Lib.hid (TwoI.start wo a0 a1 a2)
      have HAB : Hid ((0 ≤ a0 ∧ a0 ≤ 10) ∧ (0 ≤ a1 ∧ a1 ≤ 10)) := Lib.hid (by
        obtain ⟨q0, q1, q2, q3⟩ := InE.of_good HG.out _ (List.mem_of_getElem? HX.out)
        simp only at q0 q1 q2 q3
        omega)
      have hxyn : x ≠ y := HXY.out.2.2
      go_wp2_with fail
      clear hc0 hc1 hc2
      go_loopw [41] (fun j wr => ∃ (q : Nat) (v0 v1 : Int), q ≤ 2 ∧ j = .int .i64 q ∧ Hid ((q = 0 ∧ v0 = a0 ∧ v1 = a1) ∨ (q = 1 ∧ v0 = subZ x y a0 ∧ v1 = a1) ∨ (q = 2 ∧ v0 = subZ x y a0 ∧ v1 = subZ x y a1)) ∧ Hid (TwoI wo (wo.heap.size + 1) (wo.heap.size + 2) v0 v1 a2 wr)) (fun j _ => 2 - (intOf j).toNat)
      case atStart => exact ⟨0, a0, a1, by omega, rfl, Lib.hid (.inl ⟨rfl, rfl, rfl⟩), HT0⟩
      case round =>
        clear HT0
        obtain ⟨q, v0, v1, hq, rfl, HQ, HT⟩ := hrel
        have p0 := HT.out.p0
        have p1 := HT.out.p1
        have x0 := HT.out.x0
        have x1 := HT.out.x1
        have f0 := HT.out.f 0
        have f1 := HT.out.f 1
        rcases HQ.out with ⟨rfl, e0, e1⟩ | ⟨rfl, e0, e1⟩ | ⟨rfl, e0, e1⟩
        · by_cases hv : v0 = y
          · have j1 : (v0 == (y : Int)) = true := by simpa using hv
            have HN : Hid (TwoI wo (wo.heap.size + 1) (wo.heap.size + 2) (x : Int) v1 a2 (wr.setCell ⟨wo.heap.size, 0, none⟩ (.int .i64 x))) := Lib.hid (HT.out.set0 (by omega) _)
            have HR : Hid ((1 = 0 ∧ (x : Int) = a0 ∧ v1 = a1) ∨ (1 = 1 ∧ (x : Int) = subZ x y a0 ∧ v1 = a1) ∨ (1 = 2 ∧ (x : Int) = subZ x y a0 ∧ v1 = subZ x y a1)) := Lib.hid (.inr (.inl ⟨rfl, by rw [← e0]; exact (if_pos hv).symm, e1⟩))
            clear e0 e1 hv HQ
            go_wp2_with fail
            go_roundw
            case rel => exact ⟨1, x, v1, by omega, rfl, HR, HN⟩
            case measure => simp [intOf]
          · have j1 : (v0 == (y : Int)) = false := by simpa using hv
            have HR : Hid ((1 = 0 ∧ v0 = a0 ∧ v1 = a1) ∨ (1 = 1 ∧ v0 = subZ x y a0 ∧ v1 = a1) ∨ (1 = 2 ∧ v0 = subZ x y a0 ∧ v1 = subZ x y a1)) := Lib.hid (.inr (.inl ⟨rfl, by rw [← e0]; exact (if_neg hv).symm, e1⟩))
            clear e0 e1 hv HQ
            go_wp2_with fail
            go_roundw
            case rel => exact ⟨1, v0, v1, by omega, rfl, HR, HT⟩
            case measure => simp [intOf]
        · by_cases hv : v1 = y
          · have j1 : (v1 == (y : Int)) = true := by simpa using hv
            have HN : Hid (TwoI wo (wo.heap.size + 1) (wo.heap.size + 2) v0 (x : Int) a2 (wr.setCell ⟨wo.heap.size, 1, none⟩ (.int .i64 x))) := Lib.hid (HT.out.set1 (by omega) _)
            have HR : Hid ((2 = 0 ∧ v0 = a0 ∧ (x : Int) = a1) ∨ (2 = 1 ∧ v0 = subZ x y a0 ∧ (x : Int) = a1) ∨ (2 = 2 ∧ v0 = subZ x y a0 ∧ (x : Int) = subZ x y a1)) := Lib.hid (.inr (.inr ⟨rfl, e0, by rw [← e1]; exact (if_pos hv).symm⟩))
            clear e0 e1 hv HQ
            go_wp2_with fail
            go_roundw
            case rel => exact ⟨2, v0, x, by omega, rfl, HR, HN⟩
            case measure => simp [intOf]
          · have j1 : (v1 == (y : Int)) = false := by simpa using hv
            have HR : Hid ((2 = 0 ∧ v0 = a0 ∧ v1 = a1) ∨ (2 = 1 ∧ v0 = subZ x y a0 ∧ v1 = a1) ∨ (2 = 2 ∧ v0 = subZ x y a0 ∧ v1 = subZ x y a1)) := Lib.hid (.inr (.inr ⟨rfl, e0, by rw [← e1]; exact (if_neg hv).symm⟩))
            clear e0 e1 hv HQ
            go_wp2_with fail
            go_roundw
            case rel => exact ⟨2, v0, v1, by omega, rfl, HR, HT⟩
            case measure => simp [intOf]
        · have HV0 : Hid (v0 = subZ x y a0 ∧ 0 ≤ v0 ∧ v0 ≤ 10) := Lib.hid (by
            have := HAB.out; have := HXY.out; rw [e0]; unfold subZ; split <;> omega)
          have HV1 : Hid (v1 = subZ x y a1 ∧ 0 ≤ v1 ∧ v1 ≤ 10) := Lib.hid (by
            have := HAB.out; have := HXY.out; rw [e1]; unfold subZ; split <;> omega)
          clear e0 e1 HQ
          have HM := Lib.hid (HL.out.go_ HT.out.below hsz)
          have HSZ2 : Hid (w.heap.size + 3 ≤ wr.heap.size) := Lib.hid (by have := HT.out.size; omega)
          by_cases hveq : v0 = v1
          · have j1 : (v0 == v1) = true := by simpa using hveq
            have HN : Hid (MgInv m (mgE x y (es.take (a + 1))) w (mgW w n1 m (some ⟨bk, ok, none⟩) len cap) wr) := Lib.hid (by
              rw [mgE_next HX.out, mgStep, if_pos (show subZ (x : Int) y a0 = subZ x y a1 by rw [← HV0.out.1, ← HV1.out.1]; exact hveq)]
              exact HM.out)
            clear hveq HM HT
            go_wp2_with fail
            go_roundw
            case rel => exact ⟨a + 1, by omega, by go_num, HN, HSZ2⟩
            case measure => simp [intOf]; omega
          · have j1 : (v0 == v1) = false := by simpa using hveq
            have hsw := HT.out.size
            have HT3 := Lib.hid (HT.out.again (by omega))
            go_wp2_with fail
            clear p0 p1 x0 x1 f0 f1 hsw j1
            obtain ⟨u0, rfl⟩ : ∃ u0, u0 = v0 := ⟨_, rfl⟩
            obtain ⟨u1, rfl⟩ : ∃ u1, u1 = v1 := ⟨_, rfl⟩
            have HNE := Lib.hid hveq
            clear hveq
            have HU : Hid ((0 ≤ u0 ∧ u0 ≤ 10) ∧ (0 ≤ u1 ∧ u1 ≤ 10)) := Lib.hid ⟨HV0.out.2, HV1.out.2⟩
            go_loopw [63] (fun j wr => ∃ (q : Nat) (v0 v1 : Int), q ≤ 2 ∧ j = .int .i64 q ∧ Hid ((q = 0 ∧ v0 = u0 ∧ v1 = u1) ∨ (q = 1 ∧ v0 = dnZ y u0 ∧ v1 = u1) ∨ (q = 2 ∧ v0 = dnZ y u0 ∧ v1 = dnZ y u1)) ∧ Hid (TwoI wo (wo.heap.size + 2) (wo.heap.size + 3) v0 v1 a2 wr)) (fun j _ => 2 - (intOf j).toNat)
            case atStart => exact ⟨0, u0, u1, by omega, rfl, Lib.hid (.inl ⟨rfl, rfl, rfl⟩), HT3⟩
            case round =>
              clear HT3 HT HM HSZ2
              obtain ⟨q, v0, v1, hq, rfl, HQ, HT⟩ := hrel
              have p0 := HT.out.p0
              have p1 := HT.out.p1
              have x0 := HT.out.x0
              have x1 := HT.out.x1
              have f0 := HT.out.f 0
              have f1 := HT.out.f 1
              have hu := HU.out
              rcases HQ.out with ⟨rfl, e0, e1⟩ | ⟨rfl, e0, e1⟩ | ⟨rfl, e0, e1⟩
              · by_cases hv : (y : Int) < v0
                · have j1 : decide ((y : Int) < v0) = true := decide_eq_true hv
                  have hsub : IntKind.i64.wrap (v0 - 1) = v0 - 1 := IntWalk.i64_in _ (by have := HU.out; rw [e0]; omega)
                  have HN : Hid (TwoI wo (wo.heap.size + 2) (wo.heap.size + 3) (v0 - 1) v1 a2 (wr.setCell ⟨wo.heap.size, 0, none⟩ (.int .i64 (v0 - 1)))) := Lib.hid (HT.out.set0 (by omega) _)
                  have HR : Hid ((1 = 0 ∧ (v0 - 1) = u0 ∧ v1 = u1) ∨ (1 = 1 ∧ (v0 - 1) = dnZ y u0 ∧ v1 = u1) ∨ (1 = 2 ∧ (v0 - 1) = dnZ y u0 ∧ v1 = dnZ y u1)) := Lib.hid (.inr (.inl ⟨rfl, by rw [← e0]; exact (if_pos hv).symm, e1⟩))
                  clear e0 e1 HQ
                  go_wp2_with fail
                  go_roundw
                  case rel => exact ⟨1, (v0 - 1), v1, by omega, rfl, HR, HN⟩
                  case measure => simp [intOf]
                · have j1 : decide ((y : Int) < v0) = false := decide_eq_false hv
                  have HR : Hid ((1 = 0 ∧ v0 = u0 ∧ v1 = u1) ∨ (1 = 1 ∧ v0 = dnZ y u0 ∧ v1 = u1) ∨ (1 = 2 ∧ v0 = dnZ y u0 ∧ v1 = dnZ y u1)) := Lib.hid (.inr (.inl ⟨rfl, by rw [← e0]; exact (if_neg hv).symm, e1⟩))
                  clear e0 e1 HQ
                  go_wp2_with fail
                  go_roundw
                  case rel => exact ⟨1, v0, v1, by omega, rfl, HR, HT⟩
                  case measure => simp [intOf]
              · by_cases hv : (y : Int) < v1
                · have j1 : decide ((y : Int) < v1) = true := decide_eq_true hv
                  have hsub : IntKind.i64.wrap (v1 - 1) = v1 - 1 := IntWalk.i64_in _ (by have := HU.out; rw [e1]; omega)
                  have HN : Hid (TwoI wo (wo.heap.size + 2) (wo.heap.size + 3) v0 (v1 - 1) a2 (wr.setCell ⟨wo.heap.size, 1, none⟩ (.int .i64 (v1 - 1)))) := Lib.hid (HT.out.set1 (by omega) _)
                  have HR : Hid ((2 = 0 ∧ v0 = u0 ∧ (v1 - 1) = u1) ∨ (2 = 1 ∧ v0 = dnZ y u0 ∧ (v1 - 1) = u1) ∨ (2 = 2 ∧ v0 = dnZ y u0 ∧ (v1 - 1) = dnZ y u1)) := Lib.hid (.inr (.inr ⟨rfl, e0, by rw [← e1]; exact (if_pos hv).symm⟩))
                  clear e0 e1 HQ
                  go_wp2_with fail
                  go_roundw
                  case rel => exact ⟨2, v0, (v1 - 1), by omega, rfl, HR, HN⟩
                  case measure => simp [intOf]
                · have j1 : decide ((y : Int) < v1) = false := decide_eq_false hv
                  have HR : Hid ((2 = 0 ∧ v0 = u0 ∧ v1 = u1) ∨ (2 = 1 ∧ v0 = dnZ y u0 ∧ v1 = u1) ∨ (2 = 2 ∧ v0 = dnZ y u0 ∧ v1 = dnZ y u1)) := Lib.hid (.inr (.inr ⟨rfl, e0, by rw [← e1]; exact (if_neg hv).symm⟩))
                  clear e0 e1 HQ
                  go_wp2_with fail
                  go_roundw
                  case rel => exact ⟨2, v0, v1, by omega, rfl, HR, HT⟩
                  case measure => simp [intOf]
              · have HM := Lib.hid (HL.out.go_ HT.out.below hsz)
                have hsw := HT.out.size
                have HSZ2 : Hid (w.heap.size + 3 ≤ wr.heap.size) := Lib.hid (by omega)
                obtain ⟨h, hh⟩ : ∃ h, mgE (x : Int) y (es.take a) = h := ⟨_, rfl⟩
                have hll := mgE_len (a := x) (b := y) es a
                rw [hh] at hll
                obtain ⟨nb, hnb⟩ : ∃ nb, nearI h v0 v1 = nb := ⟨_, rfl⟩
                have HST : Hid (mgE (x : Int) y (es.take (a + 1)) = if nb = true then h else h ++ [(v0, v1, a2)]) := Lib.hid (by
                  rw [mgE_next HX.out, hh, mgStep]
                  simp only
                  rw [if_neg (by rw [← HV0.out.1, ← HV1.out.1]; exact HNE.out), ← HV0.out.1, ← HV1.out.1, ← e0, ← e1, hnb])
                rw [hh] at HM HL
                have HNB := Lib.hid hnb
                clear hnb hh e0 e1 HQ
                obtain ⟨v, r1, r2, r3⟩ := HM.out
                obtain ⟨A3, cap3, rfl⟩ := own_form3 r2
                have HOW := Lib.hid r2
                have hg0 : wr.cell? ⟨w.heap.size + 1 + 1, 0, none⟩ = some (.int .i64 m) := r1.cell rfl
                have hg1 : wr.cell? ⟨w.heap.size + 1 + 1, 1, none⟩ = some (.slice A3 h.length cap3) := r1.cell rfl
                have HNV := Lib.hid (near_v m v0 v1 A3 h.length cap3 h nb wr (EdgesAt.of_own3 r2) (by omega) HNB.out)
                have x2 := HT.out.x2
                clear r1 r2 r3
                go_wp2_with fail
                refine HNV.out.mono ?_
                rintro e w4 ⟨rfl, hB⟩
                have HM4 := Lib.hid (HM.out.go_ hB HSZ2.out)
                have HSZ4 : Hid (w.heap.size + 3 ≤ w4.heap.size) := Lib.hid (by have := hB.size; omega)
                have y0 := (hB.cell (p := ⟨wo.heap.size, 0, none⟩) (by show wo.heap.size < wr.heap.size; omega)).trans x0
                have y1 := (hB.cell (p := ⟨wo.heap.size, 1, none⟩) (by show wo.heap.size < wr.heap.size; omega)).trans x1
                have y2 := (hB.cell (p := ⟨wo.heap.size, 2, none⟩) (by show wo.heap.size < wr.heap.size; omega)).trans x2
                clear x0 x1 x2 p0 p1 f0 f1 hg0 hg1 HNV HT hB HM HOW HSZ2
                cases nb with
                | true =>
                  have HN : Hid (MgInv m (mgE x y (es.take (a + 1))) w (mgW w n1 m (some ⟨bk, ok, none⟩) len cap) w4) := Lib.hid (by rw [HST.out, if_pos rfl]; exact HM4.out)
                  clear HM4
                  go_wp2_with fail
                  go_roundw
                  case rel => exact ⟨a + 1, by omega, by go_num, HN, HSZ4⟩
                  case measure => simp [intOf]; omega
                | false =>
                  have HSN : Hid (mgE (x : Int) y (es.take (a + 1)) = h ++ [(v0, v1, a2)]) := Lib.hid (by rw [HST.out]; rfl)
                  clear HST
                  obtain ⟨v, r1, r2, r3⟩ := HM4.out
                  obtain ⟨A4, cap4, rfl⟩ := own_form3 r2
                  have HRo := Lib.hid r1
                  have HOw := Lib.hid r2
                  have HB3 := Lib.hid r3
                  have hsz4 := HSZ4.out
                  have hlt2 : w.heap.size + 1 + 1 < w4.heap.size := by omega
                  have hg1 : w4.cell? ⟨w.heap.size + 1 + 1, 1, none⟩ = some (.slice A4 h.length cap4) := r1.cell rfl
                  clear r1 r2 r3 HM4
                  go_wp2_with (at_builtin; refine wpList_append_own _ rfl _ _ 22 rfl (w.heap.size + 3) 61 i0 (.agg #[.int .i64 0, .int .i64 0, .int .i64 0]) 3 24 Try.underlying22 HI.out HI0.out HI1.out HI2.out rfl (by decide) _ _ _ rfl (HOw.out.alloc _) ⟨w4.heap.size, 0, none⟩ 1 1 [.int .i64 v0, .int .i64 v1, .int .i64 a2] rfl rfl ?c1 ?c2 ?c3 ?c4 ?c5 ?_)
                  try (case c1 => intro j u hj; rcases j with _ | _ | _ | j <;> simp at hj <;> subst hj <;> simp [go_sem, Addr.add])
                  case c2 => simp [Value.oneCell']
                  case c3 => unfold maxLen; omega
                  case c4 => omega
                  case c5 => simp; omega
                  intro v' w3 hown' hgrow _
                  obtain ⟨A', cap', rfl⟩ := own_form3 hown'
                  have hne : ∀ g, g < w.heap.size + 3 → some g ≠ (Value.slice A4 h.length cap4).ownBlock := fun g hg he => by have := own_base3 HOw.out g he.symm; omega
                  have hR3 : RowOf w3 (w.heap.size + 1 + 1) 24 [.int .i64 m, .slice A4 h.length cap4] := (hgrow.block _ (by simp; omega) (hne _ (by omega))).trans (HRo.out.alloc _)
                  have hv3 : w3.cell? ⟨w.heap.size + 1 + 1, 1, none⟩ = some (.slice A4 h.length cap4) := hR3.cell rfl
                  have hf3 := hR3.frozen 1
                  have hb3 : Below (w.heap.size + 2) (mgW w n1 m (some ⟨bk, ok, none⟩) len cap) w3 := (HB3.out.alloc (by omega) _).grown hgrow (by simp; omega) (fun g hg => by have := own_base3 HOw.out g hg; omega)
                  have HN : Hid (MgInv m (mgE x y (es.take (a + 1))) w (mgW w n1 m (some ⟨bk, ok, none⟩) len cap) (w3.setCell ⟨w.heap.size + 1 + 1, 1, none⟩ (.slice A' (h.length + 1) cap'))) := Lib.hid (by
                    rw [HSN.out]
                    refine ⟨_, hR3.set_ 1 _, ?_, hb3.setCell (p := ⟨w.heap.size + 1 + 1, 1, none⟩) (Nat.le_refl _) _⟩
                    rw [List.length_append, cellsE_snoc]
                    refine ⟨hown'.1, ?_⟩
                    rcases hown'.2 with h0 | ⟨g, capg, cur, hv, hg, hr, hrest⟩
                    · exact .inl h0
                    · exact .inr ⟨g, capg, cur, hv, hg, (Below.heap_setCell _ _ _ g (by show g ≠ w.heap.size + 1 + 1; omega)).trans hr, hrest⟩)
                  have HSZ5 : Hid (w.heap.size + 3 ≤ (w3.setCell ⟨w.heap.size + 1 + 1, 1, none⟩ (.slice A' (h.length + 1) cap')).heap.size) := Lib.hid (by
                    have := hgrow.size
                    simp at this ⊢
                    omega)
                  clear hown' hgrow hne hR3 hb3 y0 y1 y2 hg1
                  go_wp2_with fail
                  go_roundw
                  case rel => exact ⟨a + 1, by omega, by go_num, HN, HSZ5⟩
                  case measure => simp [intOf]; omega
    · obtain rfl : a = len := by omega
      obtain ⟨h, hh⟩ : ∃ h, mgE (x : Int) y es = h := ⟨_, rfl⟩
      have hll := mgE_len (a := x) (b := y) es a
      have hta : es.take a = es := List.take_of_length_le (by have := HE.out.1; omega)
      rw [hta, hh] at hll HL
      have HH := Lib.hid hh
      obtain ⟨v, r1, r2, r3⟩ := HL.out
      obtain ⟨A', cap', rfl⟩ := own_form3 r2
      have hsz := HSZ.out
      have h0 : wr.cell? ⟨w.heap.size + 1 + 1, 0, none⟩ = some (.int .i64 m) := r1.cell rfl
      have h1 : wr.cell? ⟨w.heap.size + 1 + 1, 1, none⟩ = some (.slice A' h.length cap') := r1.cell rfl
      have r0 : wr.cell? ⟨w.heap.size + 1, 0, none⟩ = some (.int .i64 0) := by rw [r3.cell (p := ⟨w.heap.size + 1, 0, none⟩) (by show w.heap.size + 1 < w.heap.size + 2; omega)]; simp [mgW, go_sem]
      have rr1 : wr.cell? ⟨w.heap.size + 1, 1, none⟩ = some (.slice none 0 0) := by rw [r3.cell (p := ⟨w.heap.size + 1, 1, none⟩) (by show w.heap.size + 1 < w.heap.size + 2; omega)]; simp [mgW, go_sem]
      have f0 : wr.frozen? ⟨w.heap.size + 1, 0, none⟩ = false := by rw [r3.frozen (p := ⟨w.heap.size + 1, 0, none⟩) (by show w.heap.size + 1 < w.heap.size + 2; omega)]; simp [mgW, go_sem]
      have f1 : wr.frozen? ⟨w.heap.size + 1, 1, none⟩ = false := by rw [r3.frozen (p := ⟨w.heap.size + 1, 1, none⟩) (by show w.heap.size + 1 < w.heap.size + 2; omega)]; simp [mgW, go_sem]
      have HB2 : Hid (Below w.heap.size w wr) := Lib.hid ((mgW_below w n1 m (some ⟨bk, ok, none⟩) a cap).trans (r3.mono (by omega)))
      have HEA := Lib.hid r2
      clear r1 r2 r3 hh hll hta HL
      generalize hn : h.length = n at *
      have HN := Lib.hid hn
      clear hn
      go_wp2
      have HFIN : Hid (((wr.setCell ⟨w.heap.size + 1, 0, none⟩ (.int .i64 m)).setCell ⟨w.heap.size + 1, 1, none⟩ (.slice A' n cap')).ownsRow (w.heap.size + 3) 61 3 (.slice A' n cap') n (cellsE h)) := Lib.hid (own_keep3 HEA.out fun g hg => (Below.heap_setCell _ _ _ g (by show g ≠ w.heap.size + 1; omega)).trans (Below.heap_setCell _ _ _ g (by show g ≠ w.heap.size + 1; omega)))
      refine bodyPost_ret (v := .agg #[.int .i64 m, .slice A' n cap']) (by simp [results, Try.results33, go_sem, r0, rr1]) rfl ⟨⟨A', cap', by rw [HH.out, HN.out]; exact own_cap3 HFIN.out, by rw [HH.out, HN.out], ?_, fun a ha => ?_⟩, ?_⟩
      · rw [HH.out, HN.out]
        exact EdgesAt.of_own3 HFIN.out
      · obtain ⟨p1, p2⟩ := own_addr3 HFIN.out a ha
        exact ⟨by omega, p2⟩
      · exact (HB2.out.setCell (p := ⟨w.heap.size + 1, 0, none⟩) (Nat.le_succ _) _).setCell (p := ⟨w.heap.size + 1, 1, none⟩) (Nat.le_succ _) _
end Go.Proofs.Ytpcealcghglopaa
