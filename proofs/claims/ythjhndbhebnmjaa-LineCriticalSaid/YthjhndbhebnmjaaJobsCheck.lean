/- The reference's JobsCheck: jobsF. No conditions. -/
import Derived.Test.YthjhndbhebnmjaaJobs
namespace Go.Proofs.Ythjhndbhebnmjaa
open Go.RowKit

def RightA (n : Nat) (j : JobV) : Prop := ∀ k ∈ j.aft, 0 ≤ k ∧ k < (n : Int)
open Classical in
/-- What is wrong with one job. -/
noncomputable def jobF (n : Nat) (j : JobV) : Int := if j.time < 0 ∨ 1048576 < j.time then 4 else if RightA n j then 0 else 2
open Classical in
/-- What is wrong with the first job that has something. -/
noncomputable def firstF (n : Nat) : List JobV → Int
  | [] => 0
  | j :: r => if jobF n j = 0 then firstF n r else jobF n j
open Classical in
/-- What is wrong with jobs. -/
noncomputable def jobsF (js : List JobV) : Int := if 10 < js.length then 1 else if ∀ j ∈ js, j.aft.length ≤ 10 then firstF js.length js else 1
section
variable {n : Nat} {j : JobV} {js : List JobV}
theorem jobF_time (h : j.time < 0 ∨ 1048576 < j.time) : jobF n j = 4 := by unfold jobF; rw [if_pos h]
theorem jobF_arg (h : ¬ (j.time < 0 ∨ 1048576 < j.time)) (hr : ¬ RightA n j) : jobF n j = 2 := by unfold jobF; rw [if_neg h, if_neg hr]
theorem jobF_ok (h : ¬ (j.time < 0 ∨ 1048576 < j.time)) (hr : RightA n j) : jobF n j = 0 := by unfold jobF; rw [if_neg h, if_pos hr]
theorem jobF_zero (h : jobF n j = 0) : 0 ≤ j.time ∧ j.time ≤ 1048576 ∧ RightA n j := by
  unfold jobF at h
  split at h
  · cases h
  · split at h
    · rename_i h1 h2
      exact ⟨by omega, by omega, h2⟩
    · cases h
theorem firstF_at : ∀ (js : List JobV) (k : Nat) (j : JobV), (∀ i x, i < k → js[i]? = some x → jobF n x = 0) → js[k]? = some j → jobF n j ≠ 0 → firstF n js = jobF n j
  | [], k, j, _, h, _ => by simp at h
  | x :: r, 0, j, _, h, h0 => by
    simp only [List.getElem?_cons_zero, Option.some.injEq] at h
    subst h
    exact if_neg h0
  | x :: r, k + 1, j, hz, h, h0 => by
    have h1 : jobF n x = 0 := hz 0 x (by omega) rfl
    show (if jobF n x = 0 then firstF n r else jobF n x) = _
    rw [if_pos h1]
    exact firstF_at r k j (fun i y hi hy => hz (i + 1) y (by omega) (by simpa using hy)) (by simpa using h) h0
theorem firstF_ok : ∀ (js : List JobV), (∀ j ∈ js, jobF n j = 0) → firstF n js = 0
  | [], _ => rfl
  | x :: r, h => by
    show (if jobF n x = 0 then firstF n r else jobF n x) = _
    rw [if_pos (h x (List.mem_cons_self ..))]
    exact firstF_ok r fun j hj => h j (List.mem_cons_of_mem _ hj)
theorem firstF_zero : ∀ (js : List JobV), firstF n js = 0 → ∀ j ∈ js, jobF n j = 0
  | [], _, j, hj => by cases hj
  | x :: r, h, j, hj => by
    by_cases h0 : jobF n x = 0
    · have h1 : (if jobF n x = 0 then firstF n r else jobF n x) = 0 := h
      rw [if_pos h0] at h1
      rcases List.mem_cons.1 hj with rfl | hj
      · exact h0
      · exact firstF_zero r h1 j hj
    · have h1 : (if jobF n x = 0 then firstF n r else jobF n x) = 0 := h
      rw [if_neg h0] at h1
      exact absurd h1 h0
theorem jobsF_large (h : 10 < js.length) : jobsF js = 1 := if_pos h
theorem jobsF_long (hj : j ∈ js) (hl : 10 < j.aft.length) : jobsF js = 1 := by
  unfold jobsF
  split
  · rfl
  · rw [if_neg fun h => by have := h j hj; omega]
theorem jobsF_first (h : ¬ 10 < js.length) (ha : ∀ j ∈ js, j.aft.length ≤ 10) : jobsF js = firstF js.length js := by unfold jobsF; rw [if_neg h, if_pos ha]
theorem jobsF_zero (h : jobsF js = 0) : js.length ≤ 10 ∧ (∀ j ∈ js, j.aft.length ≤ 10 ∧ 0 ≤ j.time ∧ j.time ≤ 1048576 ∧ RightA js.length j) := by
  unfold jobsF at h
  split at h
  · cases h
  · split at h
    · rename_i h1 h2
      exact ⟨by omega, fun j hj => ⟨h2 j hj, jobF_zero (firstF_zero js h j hj)⟩⟩
    · cases h
end
set_option maxRecDepth 100000 in
set_option maxHeartbeats 2000000 in
theorem jobsCheck_any (A : Option Addr) (n c : Nat) (js : List JobV) (w : World) (S : JobsAt w w.heap.size A n js) :
    Calls Try.prog 8 #[.slice A n c] w fun e w' => e = .returned (.int .i64 (jobsF js)) ∧ Below w.heap.size w w' := by
  have HS := Lib.hid S
  have hlen : js.length = n := S.len
  have HLN := Lib.hid hlen
  clear S
  by_cases h8 : 10 < n
  · have HL : Hid (jobsF js = 1) := Lib.hid (jobsF_large (by omega))
    have h8i : (10 : Int) < (n : Int) := by omega
    clear hlen
    go_enter Try.func8, Try.ntmps8
    go_wp2
    go_ret
    exact ⟨by rw [HL.out]; first | done | rfl, Below.refl _ _⟩
  · have h8i : ¬ (10 : Int) < (n : Int) := by omega
    clear hlen
    go_enter Try.func8, Try.ntmps8
    go_wp2
    go_loopw [14] (fun y wr => ∃ k : Nat, k ≤ n ∧ y = .int .i64 k ∧ Hid (∀ i r, i < k → js[i]? = some r → r.aft.length ≤ 10) ∧ Hid (Below w.heap.size w wr)) (fun y _ => n - (intOf y).toNat)
    case atStart => exact ⟨0, Nat.zero_le _, rfl, Lib.hid (fun i r hi => by omega), Lib.hid (Below.refl _ _)⟩
    case round =>
      obtain ⟨k, hk, rfl, HK, HB⟩ := hrel
      by_cases hkn : k < n
      · obtain ⟨b, off, j, A', c', rfl, _, hx, hc0, hc1, hc2, hc3, _, _, _⟩ := (HS.out.go_ HB.out).get hkn
        have ik0 : (0 : Int) ≤ (k : Int) := by omega
        have ik1 : (k : Int) < (n : Int) := by omega
        have HBA : ∀ o, Hid (Below w.heap.size w (wr.alloc o)) := fun o => Lib.hid (HB.out.alloc HB.out.size o)
        have HX := Lib.hid hx
        by_cases hl : 10 < j.aft.length
        · have HF : Hid (jobsF js = 1) := Lib.hid (jobsF_long (List.mem_of_getElem? hx) hl)
          have hli : (10 : Int) < (j.aft.length : Int) := by omega
          generalize j.aft.length = xl at hc1 hli hl
          clear hx HK
          go_wp2
          go_ret
          exact ⟨by rw [HF.out]; first | done | rfl, (HBA _).out⟩
        · have HK2 : Hid (∀ i r, i < k + 1 → js[i]? = some r → r.aft.length ≤ 10) := Lib.hid fun i r hi hr => by
            by_cases e : i = k
            · subst e; rw [HX.out] at hr; injection hr with hr; rw [← hr]; omega
            · exact HK.out i r (by omega) hr
          have hli : ¬ (10 : Int) < (j.aft.length : Int) := by omega
          generalize j.aft.length = xl at hc1 hli hl
          clear hx HK
          go_wp2
          go_roundw
          case rel => exact ⟨k + 1, by omega, by go_num, HK2, HBA _⟩
          case measure => simp [intOf]; omega
      · obtain rfl : k = n := by omega
        have HA : Hid (∀ j ∈ js, j.aft.length ≤ 10) := Lib.hid fun r hr => by
          obtain ⟨i, hi⟩ := List.getElem?_of_mem hr
          exact HK.out i r (by have := (List.getElem?_eq_some_iff.1 hi).1; have := HLN.out; omega) hi
        have HJ : Hid (jobsF js = firstF k js) := Lib.hid (by rw [jobsF_first (by have := HLN.out; omega) HA.out, HLN.out])
        clear HK
        obtain ⟨wo, rfl⟩ : ∃ wo : World, wo = wr := ⟨_, rfl⟩
        go_wp2
        go_loopw [25] (fun y wr => ∃ q : Nat, q ≤ k ∧ y = .int .i64 q ∧ Hid (∀ i r, i < q → js[i]? = some r → jobF k r = 0) ∧ Hid (Below w.heap.size w wr)) (fun y _ => k - (intOf y).toNat)
        case atStart => exact ⟨0, Nat.zero_le _, rfl, Lib.hid (fun i r hi => by omega), HB⟩
        case round =>
          clear HB
          obtain ⟨q, hq, rfl, HQ, HB⟩ := hrel
          by_cases hqn : q < k
          · obtain ⟨b, off, j, A', c', rfl, _, hx, hc0, hc1, hc2, hc3, hI, _, _⟩ := (HS.out.go_ HB.out).get hqn
            have ik0 : (0 : Int) ≤ (q : Int) := by omega
            have ik1 : (q : Int) < (k : Int) := by omega
            have HBA : ∀ o, Hid (Below w.heap.size w (wr.alloc o)) := fun o => Lib.hid (HB.out.alloc HB.out.size o)
            have HX := Lib.hid hx
            have HI : ∀ o, Hid (IntsAt (wr.alloc o) (wr.alloc o).heap.size A' j.aft.length j.aft) := fun o => Lib.hid (hI.go_ ((Below.refl _ _).alloc (Nat.le_refl _) o))
            have hl10 : j.aft.length ≤ 10 := HA.out j (List.mem_of_getElem? hx)
            have HFI : Hid (∀ v, jobF k j = v → v ≠ 0 → jobsF js = v) := Lib.hid fun v hv h0 => by
              rw [HJ.out, ← hv]; exact firstF_at js q j HQ.out HX.out (by rw [hv]; exact h0)
            clear hx hI
            by_cases hlo : j.time < 0
            · have HF : Hid (jobsF js = 4) := Lib.hid (HFI.out 4 (jobF_time (Or.inl hlo)) (by decide))
              go_wp2
              go_ret
              exact ⟨by rw [HF.out]; first | done | rfl, (HBA _).out⟩
            · by_cases hhi : 1048576 < j.time
              · have HF : Hid (jobsF js = 4) := Lib.hid (HFI.out 4 (jobF_time (Or.inr hhi)) (by decide))
                go_wp2
                go_ret
                exact ⟨by rw [HF.out]; first | done | rfl, (HBA _).out⟩
              · have HT0 : Hid (¬ (j.time < 0 ∨ 1048576 < j.time)) := Lib.hid (by omega)
                go_wp2
                obtain ⟨W1, hW1⟩ : ∃ W1, W1 = wr.alloc (.cells #[.int .i64 j.time, .slice A' j.aft.length c', .int .i64 j.due, .int .i64 j.worth] 40) := ⟨_, rfl⟩
                rw [← hW1]
                have HI1 : Hid (IntsAt W1 W1.heap.size A' j.aft.length j.aft) := Lib.hid (by rw [hW1]; exact (HI _).out)
                have HB1 : Hid (Below w.heap.size w W1) := Lib.hid (by rw [hW1]; exact (HBA _).out)
                clear hW1 HI HBA hc0 hc1 hc2 hc3
                go_loop [8, 40] (fun _ y => ∃ t : Nat, t ≤ j.aft.length ∧ y = .int .i64 t ∧ Hid (∀ i x, i < t → j.aft[i]? = some x → 0 ≤ x ∧ x < (k : Int))) (fun _ y => j.aft.length - (intOf y).toNat)
                case atStart => exact ⟨0, Nat.zero_le _, rfl, Lib.hid (fun i x hi => by omega)⟩
                case round =>
                  obtain ⟨t, ht, rfl, HT⟩ := hrel
                  by_cases htl : t < j.aft.length
                  · obtain ⟨b', off', x, rfl, _, hx, hcx⟩ := HI1.out.at_ htl
                    have it0 : (0 : Int) ≤ (t : Int) := by omega
                    have it1 : (t : Int) < (j.aft.length : Int) := by omega
                    by_cases hxl : x < 0
                    · have HF : Hid (jobsF js = 2) := Lib.hid (HFI.out 2 (jobF_arg HT0.out fun h => by have := (h x (List.mem_of_getElem? hx)).1; omega) (by decide))
                      clear hx HT
                      go_wp2
                      go_ret
                      exact ⟨by rw [HF.out]; first | done | rfl, HB1.out⟩
                    · by_cases hxh : (k : Int) ≤ x
                      · have HF : Hid (jobsF js = 2) := Lib.hid (HFI.out 2 (jobF_arg HT0.out fun h => by have := (h x (List.mem_of_getElem? hx)).2; omega) (by decide))
                        clear hx HT
                        go_wp2
                        go_ret
                        exact ⟨by rw [HF.out]; first | done | rfl, HB1.out⟩
                      · have HT2 : Hid (∀ i y, i < t + 1 → j.aft[i]? = some y → 0 ≤ y ∧ y < (k : Int)) := Lib.hid fun i y hi hy => by
                          by_cases e : i = t
                          · subst e; rw [hx] at hy; injection hy with hy; omega
                          · exact HT.out i y (by omega) hy
                        clear hx HT
                        go_wp2
                        go_round
                        case rel => exact ⟨t + 1, by omega, by go_num, HT2⟩
                        case measure => simp [intOf]; omega
                  · obtain rfl : t = j.aft.length := by omega
                    have HQ2 : Hid (∀ i r, i < q + 1 → js[i]? = some r → jobF k r = 0) := Lib.hid fun i r hi hr => by
                      by_cases e : i = q
                      · subst e; rw [HX.out] at hr; injection hr with hr; rw [← hr]
                        refine jobF_ok HT0.out fun x hx => ?_
                        obtain ⟨i', hi'⟩ := List.getElem?_of_mem hx
                        exact HT.out i' x (List.getElem?_eq_some_iff.1 hi').1 hi'
                      · exact HQ.out i r (by omega) hr
                    clear HT HQ
                    go_wp2
                    go_roundw
                    case rel => exact ⟨q + 1, by omega, by go_num, HQ2, HB1⟩
                    case measure => simp [intOf]; omega
          · obtain rfl : q = k := by omega
            have HF : Hid (jobsF js = 0) := Lib.hid (by
              rw [HJ.out]
              refine firstF_ok js fun j hj => ?_
              obtain ⟨i, hi⟩ := List.getElem?_of_mem hj
              exact HQ.out i j (by have := (List.getElem?_eq_some_iff.1 hi).1; have := HLN.out; omega) hi)
            clear HQ
            go_wp2
            go_ret
            exact ⟨by rw [HF.out]; first | done | rfl, HB.out⟩
end Go.Proofs.Ythjhndbhebnmjaa
