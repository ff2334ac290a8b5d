/- The reference's Early: when each job may begin. Conditions: jobs without fault, ranked. -/
import Derived.Test.YthjhndbhebnmjaaTurnP
import Derived.Test.YthjhndbhebnmjaaMatQ
import Derived.Lib.AppendZeros
import Derived.RegionTactic
import Derived.BigQuiet
import Derived.IntWalk
namespace Go.Proofs.Ythjhndbhebnmjaa
open Go.RowKit

theorem job_at {js : List JobV} {k : Nat} {j : JobV} (h : js[k]? = some j) : js.getD k jobD = j := by rw [List.getD_eq_getElem?_getD, h]; rfl
theorem early_bound {js : List JobV} {rk : Nat → Nat} {E : Nat → Int} (hz : jobsF js = 0) (R : RankP (jobsP js) rk) (hE : IsE (jobsP js) E) : ∀ i, i < js.length → 0 ≤ E i ∧ E i ≤ 10485760 := fun i hi => by
  obtain ⟨h1, h2⟩ := jobsF_zero hz
  have hb : ∀ k, k < (jobsP js).n → (jobsP js).time k ≤ 1048576 := fun k hk => by
    have hk' : k < js.length := hk
    show (js.getD k jobD).time ≤ _
    rw [List.getD_eq_getElem?_getD, List.getElem?_eq_getElem hk']
    exact (h2 _ (List.getElem_mem _)).2.2.1
  have h3 := e_le R hE hb (by decide) (rk i + 1) i (by omega) hi
  have h4 : rk i < js.length := R.lt i hi
  have h5 := e_nonneg hE (i := i) hi
  omega
set_option maxRecDepth 100000 in
set_option maxHeartbeats 4000000 in
theorem refEarly_any (A : Option Addr) (n c : Nat) (js : List JobV) (rk : Nat → Nat) (E : Nat → Int) (w : World) (S : JobsAt w w.heap.size A n js) (hz : jobsF js = 0) (hR : RankP (jobsP js) rk) (hE : IsE (jobsP js) E) :
    Calls Try.prog 18 #[.slice A n c] w fun e w' => ∃ g, e = .returned (.slice (some ⟨g, 0, none⟩) n n) ∧ RowQ w' g n E ∧ w.heap.size ≤ g ∧ Below w.heap.size w w' := by
  have HS := Lib.hid S
  have HLN := Lib.hid S.len
  obtain ⟨hl, hj⟩ := jobsF_zero hz
  have hn10 : n ≤ 10 := by have := S.len; omega
  have HJ := Lib.hid hj
  have HR := Lib.hid hR
  have HE := Lib.hid hE
  have HEB := Lib.hid (early_bound hz hR hE)
  have hmk := fun W => run_make_row' (P := Try.prog) 32 2 (.int .i64 0) 8 Try.underlying32 (by kernel_rfl) rfl .i64 .i64 n (by omega) (by omega) W
  clear hl hj hz S hR hE
  go_enter Try.func18, Try.ntmps18
  go_wp2_with fail
  clear hmk
  obtain ⟨W0, hW0⟩ : ∃ W0, W0 = w.alloc (.cells (madeCells #[.int .i64 0] n) 2) := ⟨_, rfl⟩
  rw [← hW0]
  have HX0 : Hid (RowQ W0 w.heap.size n (fun _ => 0) ∧ Below w.heap.size w W0) := Lib.hid (by
    rw [hW0]
    exact ⟨⟨madeCells #[.int .i64 0] n, (MapKept.heap_alloc w _).1, fun j hj => by simp [madeCells, Nat.mod_one, hj]⟩, (Below.refl _ _).alloc (Nat.le_refl _) _⟩)
  clear hW0
  go_loopw [4] (fun y wr => ∃ r : Nat, r ≤ n ∧ y = .int .i64 r ∧ Hid (∃ x, RowQ wr w.heap.size n x ∧ EarlyI (jobsP js) rk E r x) ∧ Hid (Below w.heap.size w wr)) (fun y _ => n - (intOf y).toNat)
  case atStart => exact ⟨0, Nat.zero_le _, rfl, Lib.hid ⟨_, HX0.out.1, EarlyI.start HE.out⟩, Lib.hid HX0.out.2⟩
  case round =>
    clear HX0
    obtain ⟨r, hr, rfl, HXX, HB⟩ := hrel
    by_cases hrn : r < n
    · have HX1 : Hid (∃ x, RowQ wr w.heap.size n x ∧ TurnI js rk E r 0 0 x) := Lib.hid (by
        obtain ⟨x, h1, h2⟩ := HXX.out
        exact ⟨x, h1, TurnI.start h2⟩)
      clear HXX
      obtain ⟨wo, rfl⟩ : ∃ wo : World, wo = wr := ⟨_, rfl⟩
      go_wp2_with fail
      go_loopw [5] (fun y wr => ∃ i : Nat, i ≤ n ∧ y = .int .i64 i ∧ Hid (∃ x, RowQ wr w.heap.size n x ∧ TurnI js rk E r i 0 x) ∧ Hid (Below w.heap.size w wr)) (fun y _ => n - (intOf y).toNat)
      case atStart => exact ⟨0, Nat.zero_le _, rfl, HX1, HB⟩
      case round =>
        clear HX1 HB
        obtain ⟨i, hi, rfl, HX1, HB⟩ := hrel
        by_cases hin : i < n
        · obtain ⟨b, off, j, A', c', rfl, hbB, hx, _, hc1', _, _, hI, _, _⟩ := HS.out.get hin
          have hc1 := (HB.out.cell (p := ⟨b, off + i * 4 + 1, none⟩) hbB).trans hc1'
          have HJX := Lib.hid (job_at hx)
          have hl10 : j.aft.length ≤ 10 := (HJ.out j (List.mem_of_getElem? hx)).1
          have HRA := Lib.hid (HJ.out j (List.mem_of_getElem? hx)).2.2.2
          have HI := Lib.hid hI
          have ii0 : (0 : Int) ≤ (i : Int) := by omega
          have ii1 : (i : Int) < (n : Int) := by omega
          obtain ⟨wq, rfl⟩ : ∃ wq : World, wq = wr := ⟨_, rfl⟩
          clear hx hc1' hI
          go_wp2_with fail
          clear hc1
          go_loopw [29] (fun y wr => ∃ t : Nat, t ≤ j.aft.length ∧ y = .int .i64 t ∧ Hid (∃ x, RowQ wr w.heap.size n x ∧ TurnI js rk E r i t x) ∧ Hid (Below w.heap.size w wr)) (fun y _ => j.aft.length - (intOf y).toNat)
          case atStart => exact ⟨0, Nat.zero_le _, rfl, HX1, HB⟩
          case round =>
            clear HX1 HB
            obtain ⟨t, ht, rfl, HX1, HB⟩ := hrel
            by_cases htl : t < j.aft.length
            · obtain ⟨b', off', z, rfl, _, hx, hcx⟩ := (HI.out.below HB.out).at_ htl
              obtain ⟨z0, z1⟩ := HRA.out z (List.mem_of_getElem? hx)
              rw [HLN.out] at z1
              obtain ⟨k, rfl⟩ := Int.eq_ofNat_of_zero_le z0
              have hkn : k < n := by omega
              have HAT : Hid ((js.getD i jobD).aft[t]? = some (k : Int)) := Lib.hid (by rw [HJX.out]; exact hx)
              obtain ⟨jk, _, _, _, hxk, htk, _⟩ := HS.out.get_some hkn
              have hct := (HB.out.cell (p := ⟨b, off + k * 4, none⟩) hbB).trans htk
              have HJK := Lib.hid (job_at hxk)
              obtain ⟨t0, t1⟩ : 0 ≤ jk.time ∧ jk.time ≤ 1048576 := by have h := (HJ.out jk (List.mem_of_getElem? hxk)).2; exact ⟨h.1, h.2.1⟩
              obtain ⟨x, HRW, HTU⟩ : ∃ x, Hid (RowQ wr w.heap.size n x) ∧ Hid (TurnI js rk E r i t x) := by
                obtain ⟨x, h1, h2⟩ := HX1.out
                exact ⟨x, Lib.hid h1, Lib.hid h2⟩
              have hci := HRW.out.cell hin
              have hck := HRW.out.cell hkn
              have hfi := HRW.out.frozen i
              obtain ⟨x0, x1⟩ : 0 ≤ x k ∧ x k ≤ 10485760 := by
                have h1 := HTU.out.early.nonneg k (by show k < js.length; have := HLN.out; omega)
                have h2 := HTU.out.early.le k (by show k < js.length; have := HLN.out; omega)
                have h3 := HEB.out k (by have := HLN.out; omega)
                omega
              have HNXT : Hid (x i < x k + jk.time → TurnI js rk E r i (t + 1) (updI x i (x k + jk.time))) := Lib.hid fun h => by
                have e := HJK.out
                have h2 := HTU.out.relax HR.out HE.out (by have := HLN.out; omega) HAT.out (by rw [e]; exact h)
                rwa [e] at h2
              have HSKP : Hid (x k + jk.time ≤ x i → TurnI js rk E r i (t + 1) x) := Lib.hid fun h => HTU.out.skip HR.out (by have := HLN.out; omega) HAT.out (by rw [HJK.out]; exact h)
              have HSET : Hid (∀ q v, RowQ ((wr.drewN q).setCell ⟨w.heap.size, i, none⟩ (.int .i64 v)) w.heap.size n (updI x i v) ∧ Below w.heap.size w ((wr.drewN q).setCell ⟨w.heap.size, i, none⟩ (.int .i64 v))) := Lib.hid fun q v =>
                ⟨(HRW.out.of_block (w' := wr.drewN q) rfl).set_ i v, (below_drewN HB.out q).setCell (p := ⟨w.heap.size, i, none⟩) (Nat.le_refl _) (.int .i64 v)⟩
              have ik0 : (0 : Int) ≤ (k : Int) := by omega
              have ik1 : (k : Int) < (n : Int) := by omega
              have it0 : (0 : Int) ≤ (t : Int) := by omega
              have it1 : (t : Int) < (j.aft.length : Int) := by omega
              clear hx htk hxk z0 z1 HX1
              have HXI := Lib.hid (Eq.refl (x i))
              generalize x k = xk at *
              generalize x i = xi at hci HNXT HSKP
              generalize jk.time = tk at *
              have hw1 : IntKind.i64.wrap (xk + tk) = xk + tk := IntWalk.i64_in _ (by omega)
              have hg : w.heap.size < wr.heap.size := HRW.out.lt
              by_cases hlt : xi < xk + tk
              · have HN := Lib.hid (HNXT.out hlt)
                have hd : decide (xi < xk + tk) = true := decide_eq_true hlt
                clear hlt HNXT HSKP HXI
                go_wp2_with fail
                go_quiet (fail)
                go_wp2_with fail
                go_region
                go_wp2
                go_roundw
                case rel => exact ⟨t + 1, by omega, by go_num, Lib.hid ⟨_, (HSET.out _ _).1, HN.out⟩, Lib.hid (HSET.out _ _).2⟩
                case measure => simp [intOf]; omega
              · have HN := Lib.hid (HSKP.out (by omega))
                have hd : decide (xi < xk + tk) = false := decide_eq_false hlt
                clear hlt HNXT HSKP HXI HSET
                go_wp2_with fail
                go_quiet (fail)
                go_wp2
                go_roundw
                case rel => exact ⟨t + 1, by omega, by go_num, Lib.hid ⟨x, HRW.out.of_block rfl, HN.out⟩, Lib.hid (below_drewN HB.out _)⟩
                case measure => simp [intOf]; omega
            · obtain rfl : t = j.aft.length := by omega
              have HN : Hid (∃ x, RowQ wr w.heap.size n x ∧ TurnI js rk E r (i + 1) 0 x) := Lib.hid (by
                obtain ⟨x, h1, h2⟩ := HX1.out
                refine ⟨x, h1, TurnI.next ?_⟩
                rw [HJX.out]; exact h2)
              clear HX1
              go_wp2_with fail
              go_roundw
              case rel => exact ⟨i + 1, by omega, by go_num, HN, HB⟩
              case measure => simp [intOf]; omega
        · obtain rfl : i = n := by omega
          have HN : Hid (∃ x, RowQ wr w.heap.size i x ∧ EarlyI (jobsP js) rk E (r + 1) x) := Lib.hid (by
            obtain ⟨x, h1, h2⟩ := HX1.out
            refine ⟨x, h1, TurnI.end_ HE.out ?_⟩
            rw [HLN.out]; exact h2)
          clear HX1
          go_wp2_with fail
          go_roundw
          case rel => exact ⟨r + 1, by omega, by go_num, HN, HB⟩
          case measure => simp [intOf]; omega
    · obtain rfl : r = n := by omega
      have HN : Hid (RowQ wr w.heap.size r E) := Lib.hid (by
        obtain ⟨x, h1, h2⟩ := HXX.out
        refine h1.congr fun i hi => ?_
        have hi' : i < js.length := by have := HLN.out; omega
        exact h2.right i hi' (by have h : _ < js.length := HR.out.lt i hi'; have := HLN.out; omega))
      clear HXX
      go_wp2_with fail
      go_ret
      exact ⟨_, rfl, HN.out, Nat.le_refl _, HB.out⟩
end Go.Proofs.Ythjhndbhebnmjaa
