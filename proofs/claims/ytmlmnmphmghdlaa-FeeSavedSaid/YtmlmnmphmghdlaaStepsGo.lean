/- The program's steps, ranged over: each round is handed a step by which something can be sent, in the order of the arcs. -/
import Derived.Test.YtmlmnmphmghdlaaFillAt
import Derived.Test.YtmlmnmphmghdlaaRangeAll
namespace Go.Proofs.Ytmlmnmphmghdlaa
open Go.RowKit Go.Shelf
attribute [local go_sem] Oper.semAt_some

def encS (x : St) : Value := .agg #[.int .i64 x.fr, .int .i64 x.to, .int .i64 x.arc, .int .i64 x.room, .int .i64 x.sign]

theorem but_box {S : Nat → Prop} {W W' : World} {o : Obj} (h : But S (W.alloc o) W') (hn : ¬ S W.heap.size) : W'.heap[W.heap.size]? = some o :=
  (h.block _ (by simp) hn).trans (World.alloc_heap_new W o)
set_option maxRecDepth 100000 in
set_option maxHeartbeats 2000000 in
theorem steps_any (m F g B : Nat) (n : Int) (A : Option Addr) (len cap : Nat) (es : List A4) (f : Nat → Int) (l : Nat) (S : Nat → Prop) (J : List St → World → Prop) (w : World)
    (hF : FillAt w F g B n A len cap es f) (hG : BigN n es) (hM : MayP (netP n es) f) (hS : ∀ b, S b → F < b ∧ b < w.heap.size)
    (hJ : ∀ pre W W', J pre W → Below W.heap.size W W' → J pre W')
    (hY : ∀ pre x W1, OkSt (netP n es) f x → J pre W1 → YieldAt Fence.wide m Try.prog l #[encS x] W1 fun e W' => e = .returned (.bool true) ∧ J (pre ++ [x]) W' ∧ But S W1 W')
    (h0 : J [] w) :
    CallsIn Fence.wide (m + 1) Try.prog 41 #[.pointer (some ⟨F, 0, none⟩), .func (.yield l) #[] #[]] w fun e W' => (∃ v, e = .returned v) ∧ J (stepsTo (netP n es) f len) W' := by
  have HF := Lib.hid hF
  have HG := Lib.hid hG
  have HM := Lib.hid hM
  have HS := Lib.hid hS
  have HJ := Lib.hid hJ
  have HY := Lib.hid hY
  have H0 := Lib.hid h0
  have c1 := hF.c1
  have hlen := hF.arcs.1
  have hl30 : len ≤ 100 := by have := hG.len; omega
  replace hlen := Lib.hid hlen
  clear hF hG hM hS hJ hY h0
  refine callsIn_of_wp Try.func41 rfl trivial ?_ rfl
  simp only [Try.ntmps41, List.size_toArray, List.length_cons, List.length_nil, Nat.reduceAdd, Nat.reduceSub, Array.replicate_succ, Array.replicate_zero, List.push_toArray, List.append_toArray, List.nil_append, List.cons_append]
  gi_wp2
  gi_loopw [13] (fun j wr => ∃ k : Nat, k ≤ len ∧ j = .int .i64 k ∧ Hid (J (stepsTo (netP n es) f k) wr) ∧ Hid (But S w wr)) (fun j _ => len - (intOf j).toNat)
  case atStart => exact ⟨0, Nat.zero_le _, rfl, H0, Lib.hid (But.refl _ _)⟩
  case round =>
    obtain ⟨k, hk, rfl, HJk, HB⟩ := hrel
    have HFr : Hid (FillAt wr F g B n A len cap es f) := Lib.hid (HF.out.keep fun b hb => HB.out.block b (by have := HF.out.lt; omega) fun hs => by have := HS.out b hs; omega)
    have hsz := HB.out.size
    by_cases hlt : k < len
    · obtain ⟨b, off, ⟨a0, a1, a2, a3⟩, rfl, hb, hx, q0, q1, q2, q3⟩ := HFr.out.arcs.at_ hlt
      obtain ⟨e0, e1, e2, l0, l1, l2, l3, l4⟩ := netP_arc HG.out hx
      have qg := HFr.out.row.cell hlt
      have qF := HFr.out.c2
      have hFlt : F < wr.heap.size := HFr.out.lt
      have hglt : g < wr.heap.size := by have := HFr.out.up; omega
      have hblt : b < wr.heap.size := by have := HFr.out.up; have := HFr.out.lo; omega
      have hm := HM.out k (by have := hlen.out; simp only [netP]; omega)
      have hkK : Hid (k < (netP n es).K) := Lib.hid (by have := hlen.out; simp only [netP]; omega)
      have hFW : Hid (fwS (netP n es) f k = ⟨(netP n es).fr k, (netP n es).to k, k, (netP n es).mo k - f k, 1⟩) := Lib.hid rfl
      have hBK : Hid (bkS (netP n es) f k = ⟨(netP n es).to k, (netP n es).fr k, k, f k, -1⟩) := Lib.hid rfl
      have hOF : Hid (f k < (netP n es).mo k → OkSt (netP n es) f (fwS (netP n es) f k)) := Lib.hid (OkSt.fw hkK.out)
      have hOB : Hid (0 < f k → OkSt (netP n es) f (bkS (netP n es) f k)) := Lib.hid (OkSt.bk hkK.out)
      have hSF : Hid (stF (netP n es) f k = if f k < (netP n es).mo k then [fwS (netP n es) f k] else []) := Lib.hid rfl
      have hSB : Hid (stB (netP n es) f k = if 0 < f k then [bkS (netP n es) f k] else []) := Lib.hid rfl
      have hST : Hid (stepsTo (netP n es) f (k + 1) = (stepsTo (netP n es) f k ++ stF (netP n es) f k) ++ stB (netP n es) f k) := Lib.hid rfl
      simp only at e0 e1 e2
      rw [e0] at q0
      rw [e1] at q1
      rw [e2] at q2
      clear e0 e1 e2 hx
      obtain ⟨m0, m1⟩ := hm
      generalize (netP n es).fr k = u at *
      generalize (netP n es).to k = v at *
      generalize (netP n es).mo k = mk at *
      generalize f k = fk at *
      generalize stF (netP n es) f k = lF at *
      generalize stB (netP n es) f k = lB at *
      generalize fwS (netP n es) f k = xF at *
      generalize bkS (netP n es) f k = xB at *
      generalize stepsTo (netP n es) f k = lk at HJk hST
      have ik0 : (0 : Int) ≤ (k : Int) := by omega
      have ik1 : (k : Int) < (len : Int) := by omega
      have HJa : Hid (J lk (wr.alloc (.cells #[.int .i64 u, .int .i64 v, .int .i64 mk, .int .i64 a3] 31))) := Lib.hid (HJ.out _ _ _ HJk.out ((Below.refl _ _).alloc (Nat.le_refl _) _))
      have HBa : Hid (But S w (wr.alloc (.cells #[.int .i64 u, .int .i64 v, .int .i64 mk, .int .i64 a3] 31))) := Lib.hid (HB.out.alloc _)
      have HnS : Hid (¬ S wr.heap.size) := Lib.hid (fun hs => by have := HS.out _ hs; omega)
      by_cases h1 : fk < mk
      · have hOF1 := Lib.hid (hOF.out h1)
        have hlF : Hid (lF = [xF]) := Lib.hid (by rw [hSF.out, if_pos h1])
        obtain ⟨fn, tmps, assign, body, hy, hR⟩ := HY.out lk xF _ hOF1.out HJa.out
        rw [hFW.out] at hy
        simp only [encS] at hy
        by_cases h2 : 0 < fk
        · have hOB1 := Lib.hid (hOB.out h2)
          have hlB : Hid (lB = [xB]) := Lib.hid (by rw [hSB.out, if_pos h2])
          gi_wp2
          refine hR.mono ?_
          clear hy hR
          rintro e W2 ⟨rfl, hJ2, hk2⟩
          have HB2 : Hid (But S w W2) := Lib.hid (HBa.out.trans hk2)
          have hbox := but_box hk2 HnS.out
          have p0 : W2.cell? ⟨wr.heap.size, 0, none⟩ = some (.int .i64 u) := by simp [World.cell?, hbox]
          have p1 : W2.cell? ⟨wr.heap.size, 1, none⟩ = some (.int .i64 v) := by simp [World.cell?, hbox]
          obtain ⟨fn2, tmps2, assign2, body2, hy2, hR2⟩ := HY.out (lk ++ [xF]) xB _ hOB1.out hJ2
          rw [hBK.out] at hy2
          simp only [encS] at hy2
          clear hbox hk2 hJ2
          gi_wp2
          refine hR2.mono ?_
          clear hy2 hR2
          rintro e W3 ⟨rfl, hJ3, hk3⟩
          have HB3 : Hid (But S w W3) := Lib.hid (HB2.out.trans hk3)
          have HJ3 : Hid (J (stepsTo (netP n es) f (k + 1)) W3) := Lib.hid (by rw [hST.out, hlF.out, hlB.out]; exact hJ3)
          clear hJ3 hk3
          gi_wp2
          go_roundw
          case rel => exact ⟨k + 1, by omega, by go_num, HJ3, HB3⟩
          case measure => simp [intOf]; omega
        · have hlB : Hid (lB = []) := Lib.hid (by rw [hSB.out, if_neg h2])
          gi_wp2
          refine hR.mono ?_
          clear hy hR
          rintro e W2 ⟨rfl, hJ2, hk2⟩
          have HB2 : Hid (But S w W2) := Lib.hid (HBa.out.trans hk2)
          have HJ2 : Hid (J (stepsTo (netP n es) f (k + 1)) W2) := Lib.hid (by rw [hST.out, hlF.out, hlB.out, List.append_nil]; exact hJ2)
          clear hJ2 hk2
          gi_wp2
          refine ⟨fun _ h => (by cases h), ?_⟩
          gi_wp2
          go_roundw
          case rel => exact ⟨k + 1, by omega, by go_num, HJ2, HB2⟩
          case measure => simp [intOf]; omega
      · have hlF : Hid (lF = []) := Lib.hid (by rw [hSF.out, if_neg h1])
        by_cases h2 : 0 < fk
        · have hOB1 := Lib.hid (hOB.out h2)
          have hlB : Hid (lB = [xB]) := Lib.hid (by rw [hSB.out, if_pos h2])
          obtain ⟨fn2, tmps2, assign2, body2, hy2, hR2⟩ := HY.out lk xB _ hOB1.out HJa.out
          rw [hBK.out] at hy2
          simp only [encS] at hy2
          gi_wp2
          refine ⟨fun _ h => (by cases h), ?_⟩
          gi_wp2
          refine hR2.mono ?_
          clear hy2 hR2
          rintro e W3 ⟨rfl, hJ3, hk3⟩
          have HB3 : Hid (But S w W3) := Lib.hid (HBa.out.trans hk3)
          have HJ3 : Hid (J (stepsTo (netP n es) f (k + 1)) W3) := Lib.hid (by rw [hST.out, hlF.out, hlB.out, List.append_nil]; exact hJ3)
          clear hJ3 hk3
          gi_wp2
          go_roundw
          case rel => exact ⟨k + 1, by omega, by go_num, HJ3, HB3⟩
          case measure => simp [intOf]; omega
        · have hlB : Hid (lB = []) := Lib.hid (by rw [hSB.out, if_neg h2])
          have HJ2 : Hid (J (stepsTo (netP n es) f (k + 1)) (wr.alloc (.cells #[.int .i64 u, .int .i64 v, .int .i64 mk, .int .i64 a3] 31))) := Lib.hid (by rw [hST.out, hlF.out, hlB.out, List.append_nil, List.append_nil]; exact HJa.out)
          gi_wp2
          refine ⟨fun _ h => (by cases h), ?_⟩
          gi_wp2
          go_roundw
          case rel => exact ⟨k + 1, by omega, by go_num, HJ2, HBa⟩
          case measure => simp [intOf]; omega
    · obtain rfl : k = len := by omega
      gi_wp2
      go_end0
      exact ⟨⟨_, rfl⟩, HJk.out⟩
end Go.Proofs.Ytmlmnmphmghdlaa
