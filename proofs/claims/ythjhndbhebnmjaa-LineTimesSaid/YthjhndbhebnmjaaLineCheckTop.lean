/- line.check, whole: jobsF. No conditions. -/
import Derived.Test.YthjhndbhebnmjaaLineCheckGo
namespace Go.Proofs.Ythjhndbhebnmjaa
open Go.RowKit

set_option maxRecDepth 100000 in
set_option maxHeartbeats 2000000 in
theorem lineCheck_any (A : Option Addr) (n c : Nat) (js : List JobV) (w : World) (S : JobsAt w w.heap.size A n js) :
    Calls Try.prog 20 #[.slice A n c] w fun e w' => e = .returned (.int .i64 (jobsF js)) ∧ Below w.heap.size w w' := by
  have HS := Lib.hid S
  have hlen : js.length = n := S.len
  have HLN := Lib.hid hlen
  clear S
  by_cases h8 : 10 < n
  · have HL : Hid (jobsF js = 1) := Lib.hid (jobsF_large (by omega))
    have h8i : (10 : Int) < (n : Int) := by omega
    clear hlen
    go_enter Try.func20, Try.ntmps20
    go_wp2
    go_ret
    exact ⟨by rw [HL.out]; first | done | rfl, (Below.refl _ _).alloc (Nat.le_refl _) _⟩
  · have h8i : ¬ (10 : Int) < (n : Int) := by omega
    have hB0 : ∀ o, Hid (Below w.heap.size w (w.alloc o)) := fun o => Lib.hid ((Below.refl _ _).alloc (Nat.le_refl _) o)
    obtain ⟨v, hv⟩ : ∃ v : Bool, v = true ↔ LongA js := by
      by_cases h : LongA js
      · exact ⟨true, fun _ => h, fun _ => rfl⟩
      · exact ⟨false, fun h => (by cases h), fun h' => absurd h' h⟩
    have HCL := Lib.hid (fun W hW => containsLong_v n c A js v W hW (by omega) hv)
    have HV := Lib.hid hv
    clear hlen hv
    cases v with
    | true =>
      have HL : Hid (jobsF js = 1) := Lib.hid (by
        obtain ⟨j, hj, h1⟩ := HV.out.1 rfl
        exact jobsF_long hj h1)
      go_enter Try.func20, Try.ntmps20
      go_wp2_with fail
      refine (HCL.out _ (HS.out.go_ (hB0 _).out)).mono ?_
      rintro e w1 ⟨rfl, hb⟩
      have HB := Lib.hid ((hB0 _).out.trans (hb.mono (hB0 _).out.size))
      clear hb
      go_wp2
      go_ret
      exact ⟨by rw [HL.out]; first | done | rfl, HB.out⟩
    | false =>
      have HF0 : Hid (jobsF js = firstF n js) := Lib.hid (by
        rw [← HLN.out]
        refine jobsF_first (by have := HLN.out; omega) fun j hj => ?_
        exact Classical.byContradiction fun h => by have := HV.out.2 ⟨j, hj, by omega⟩; cases this)
      have HA : Hid (∀ j ∈ js, j.aft.length ≤ 10) := Lib.hid fun j hj => Classical.byContradiction fun h => by have := HV.out.2 ⟨j, hj, by omega⟩; cases this
      go_enter Try.func20, Try.ntmps20
      go_wp2_with fail
      refine (HCL.out _ (HS.out.go_ (hB0 _).out)).mono ?_
      rintro e w1 ⟨rfl, hb⟩
      have HB1 := Lib.hid ((hB0 _).out.trans (hb.mono (hB0 _).out.size))
      have hc0 : w1.cell? ⟨w.heap.size, 0, none⟩ = some (.slice A n c) := (hb.cell (p := ⟨w.heap.size, 0, none⟩) (by simp)).trans (by simp [go_sem])
      have hs1 : w.heap.size < w1.heap.size := by have := hb.size; simp at this; omega
      have HC0 := Lib.hid (And.intro hc0 hs1)
      clear hb hs1 HCL hB0
      go_wp2_with fail
      clear hc0
      go_loopw [18] (fun y wr => ∃ q : Nat, q ≤ n ∧ y = .int .i64 q ∧ Hid (∀ i r, i < q → js[i]? = some r → jobF n r = 0) ∧ Hid (Below w1.heap.size w1 wr)) (fun y _ => n - (intOf y).toNat)
      case atStart => exact ⟨0, Nat.zero_le _, rfl, Lib.hid (fun i r hi => by omega), Lib.hid (Below.refl _ _)⟩
      case round =>
        obtain ⟨q, hq, rfl, HQ, HB⟩ := hrel
        have HBW : Hid (Below w.heap.size w wr) := Lib.hid (HB1.out.trans (HB.out.mono HB1.out.size))
        by_cases hqn : q < n
        · obtain ⟨b, off, j, A', c', rfl, _, hx, hc0, hc1, hc2, hc3, hI, _, _⟩ := (HS.out.go_ HBW.out).get hqn
          have ik0 : (0 : Int) ≤ (q : Int) := by omega
          have ik1 : (q : Int) < (n : Int) := by omega
          have HBA : ∀ o, Hid (Below w1.heap.size w1 (wr.alloc o)) := fun o => Lib.hid (HB.out.alloc HB.out.size o)
          have HX := Lib.hid hx
          have HI : ∀ o, Hid (IntsAt (wr.alloc o) (wr.alloc o).heap.size A' j.aft.length j.aft) := fun o => Lib.hid (hI.go_ ((Below.refl _ _).alloc (Nat.le_refl _) o))
          have hl10 : j.aft.length ≤ 10 := HA.out j (List.mem_of_getElem? hx)
          have HFI : Hid (∀ v, jobF n j = v → v ≠ 0 → jobsF js = v) := Lib.hid fun v hv h0 => by
            rw [HF0.out, ← hv]; exact firstF_at js q j HQ.out HX.out (by rw [hv]; exact h0)
          clear hx hI
          by_cases hlo : j.time < 0
          · have HF : Hid (jobsF js = 4) := Lib.hid (HFI.out 4 (jobF_time (Or.inl hlo)) (by decide))
            go_wp2
            go_ret
            exact ⟨by rw [HF.out]; first | done | rfl, HB1.out.trans ((HBA _).out.mono HB1.out.size)⟩
          · by_cases hhi : 1048576 < j.time
            · have HF : Hid (jobsF js = 4) := Lib.hid (HFI.out 4 (jobF_time (Or.inr hhi)) (by decide))
              go_wp2
              go_ret
              exact ⟨by rw [HF.out]; first | done | rfl, HB1.out.trans ((HBA _).out.mono HB1.out.size)⟩
            · have HT0 : Hid (¬ (j.time < 0 ∨ 1048576 < j.time)) := Lib.hid (by omega)
              have HCN : Hid (∀ o u, (u = true ↔ ∃ x ∈ j.aft, NoJob n x) → Calls Try.prog 29 #[.slice A' j.aft.length c', .func (.func 28) #[] #[.pointer (some ⟨w.heap.size, 0, none⟩)]] (wr.alloc o) fun e w' => e = .returned (.bool u) ∧ w' = wr.alloc o) := Lib.hid fun o u hu =>
                containsNo_v j.aft.length c' w.heap.size n c A' _ j.aft u (wr.alloc o) (HI o).out (by omega) (((HBA o).out.cell (p := ⟨w.heap.size, 0, none⟩) HC0.out.2).trans HC0.out.1) hu
              by_cases hr : RightA n j
              · have HQ2 : Hid (∀ i r, i < q + 1 → js[i]? = some r → jobF n r = 0) := Lib.hid fun i r hi hr' => by
                  by_cases e : i = q
                  · subst e; rw [HX.out] at hr'; injection hr' with hr'; rw [← hr']; exact jobF_ok HT0.out hr
                  · exact HQ.out i r (by omega) hr'
                have HCF := Lib.hid (fun o => HCN.out o false ⟨fun h => (by cases h), fun h => absurd hr (rightA_iff.1 h)⟩)
                clear HCN hr HQ
                go_wp2_with fail
                refine (HCF.out _).mono ?_
                rintro e w2 ⟨rfl, rfl⟩
                go_wp2
                go_roundw
                case rel => exact ⟨q + 1, by omega, by go_num, HQ2, HBA _⟩
                case measure => simp [intOf]; omega
              · have HF : Hid (jobsF js = 2) := Lib.hid (HFI.out 2 (jobF_arg HT0.out hr) (by decide))
                have HCF := Lib.hid (fun o => HCN.out o true ⟨fun _ => rightA_iff.2 hr, fun _ => rfl⟩)
                clear HCN hr HQ
                go_wp2_with fail
                refine (HCF.out _).mono ?_
                rintro e w2 ⟨rfl, rfl⟩
                go_wp2
                go_ret
                exact ⟨by rw [HF.out]; first | done | rfl, HB1.out.trans ((HBA _).out.mono HB1.out.size)⟩
        · obtain rfl : q = n := by omega
          have HF : Hid (jobsF js = 0) := Lib.hid (by
            rw [HF0.out]
            refine firstF_ok js fun j hj => ?_
            obtain ⟨i, hi⟩ := List.getElem?_of_mem hj
            exact HQ.out i j (by have := (List.getElem?_eq_some_iff.1 hi).1; have := HLN.out; omega) hi)
          clear HQ
          go_wp2
          go_ret
          exact ⟨by rw [HF.out]; first | done | rfl, HBW.out⟩
end Go.Proofs.Ythjhndbhebnmjaa
