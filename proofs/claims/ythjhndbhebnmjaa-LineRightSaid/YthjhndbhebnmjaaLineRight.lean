/- LineRight, walked, over what Order tells. -/
import Derived.Test.YthjhndbhebnmjaaLineTop
import Derived.Test.YthjhndbhebnmjaaEach
namespace Go.Proofs.Ythjhndbhebnmjaa
open Go.RowKit

theorem natI_take (l : List Nat) (k : Nat) : (natI l).take k = natI (l.take k) := by unfold natI; rw [List.map_take]
theorem natI_nodup {l : List Nat} (h : l.Nodup) : (natI l).Nodup := by
  unfold natI
  rw [List.Nodup, List.pairwise_map]
  exact h.imp fun hne e => hne (by omega)
theorem natI_get {l : List Nat} {k : Nat} {x : Int} (h : (natI l)[k]? = some x) : ∃ i, l[k]? = some i ∧ x = (i : Int) := by
  unfold natI at h
  rw [List.getElem?_map] at h
  cases hl : l[k]? with
  | none => rw [hl] at h; cases h
  | some i =>
    rw [hl] at h
    injection h with h
    exact ⟨i, rfl, h.symm⟩
/-- Whatever is ahead of a job in After stands ahead of it in the order. -/
theorem order_has {js : List JobV} {l : List Nat} {k i : Nat} {z : Int} (hA : ∀ j ∈ js, RightA js.length j) (ho : OrderP (jobsP js) l) (hi : l[k]? = some i) (hz : z ∈ (js.getD i jobD).aft) : hasI ((natI l).take k) z = true := by
  have hin : i < js.length := ho.lt i (List.mem_of_getElem? hi)
  have hj : js.getD i jobD ∈ js := by
    rw [List.getD_eq_getElem?_getD, List.getElem?_eq_getElem hin]
    exact List.getElem_mem _
  obtain ⟨q, rfl⟩ := Int.eq_ofNat_of_zero_le (hA _ hj z hz).1
  rw [natI_take]
  refine hasI_nat.2 (ho.wait (l.take k) i (l.drop (k + 1)) ?_ q (hasI_iff.2 hz))
  obtain ⟨h1, h2⟩ := List.getElem?_eq_some_iff.1 hi
  have h3 := List.take_append_drop k l
  rw [List.drop_eq_getElem_cons h1, h2] at h3
  exact h3.symm
set_option maxRecDepth 100000 in
set_option maxHeartbeats 2000000 in
theorem lineRight_of (A : Option Addr) (n c : Nat) (js : List JobV) (w : World) (S : JobsAt w w.heap.size A n js)
    (HO : ∀ W, JobsAt W W.heap.size A n js → Calls Try.prog 7 #[.slice A n c] W (OrdTop W n js)) :
    Calls Try.prog 5 #[.slice A n c] w fun e w' => e = .returned (.bool true) ∧ Below w.heap.size w w' := by
  have HS := Lib.hid S
  have HOO := Lib.hid HO
  obtain ⟨x, hx⟩ : ∃ x, jobsF js = x := ⟨_, rfl⟩
  have HX := Lib.hid hx
  have HLN := Lib.hid S.len
  by_cases h0 : x = 0
  · subst h0
    have hn10 : n ≤ 10 := by have := (jobsF_zero hx).1; have := S.len; omega
    have HJ := Lib.hid (jobsF_zero hx).2
    obtain ⟨v, hv⟩ : ∃ v, ordF js n [] = v := ⟨_, rfl⟩
    have HV := Lib.hid hv
    have HRO := Lib.hid (fun W hW => refOrder_any A n c js v W hW hx hv)
    have HY : Hid (ordX js = if v = none then 5 else 0) := Lib.hid (by unfold ordX; rw [if_pos hx, HLN.out, hv])
    clear hx S HO hv
    cases v with
    | none =>
      have HY5 : Hid (ordX js = 5) := Lib.hid (by rw [HY.out]; rfl)
      go_enter Try.func5, Try.ntmps5
      go_wp2_with fail
      refine (HOO.out _ HS.out).mono ?_
      rintro e w1 ⟨h1, _, hB⟩
      obtain rfl := h1 (by rw [HY5.out]; decide)
      rw [HY5.out]
      have HB1 := Lib.hid hB
      clear h1 hB HOO
      go_wp2_with fail
      refine (jobsCheck_v A n c js 0 _ (HS.out.go_ HB1.out) HX.out).mono ?_
      rintro e w2 ⟨rfl, hB⟩
      have HB2 := Lib.hid (HB1.out.trans (hB.mono HB1.out.size))
      clear hB
      go_wp2_with fail
      refine (HRO.out _ (HS.out.go_ HB2.out)).mono ?_
      rintro e w3 ⟨h1, _, hB⟩
      obtain rfl := h1 rfl
      have HB3 := Lib.hid (HB2.out.trans (hB.mono HB2.out.size))
      clear hB h1
      go_wp2_with fail
      go_ret
      exact ⟨rfl, HB3.out⟩
    | some l =>
      have HY0 : Hid (ordX js = 0) := Lib.hid (by rw [HY.out]; rfl)
      obtain ⟨hop, hol⟩ := ord_ok (fun j hj => (HJ.out j hj).2.2.2) js.length [] l (OrderP.nil _) (by rw [HLN.out]; exact HV.out)
      have HOP := Lib.hid hop
      have HND := Lib.hid (natI_nodup hop.nd)
      have HLT : Hid (∀ x ∈ natI l, 0 ≤ x ∧ x < (n : Int)) := Lib.hid fun x hx => by
        obtain ⟨k, hk⟩ := List.getElem?_of_mem hx
        obtain ⟨i, hi, rfl⟩ := natI_get hk
        have h1 : i < js.length := hop.lt i (List.mem_of_getElem? hi)
        have := HLN.out
        omega
      have HHAS := Lib.hid (fun k i z (hi : l[k]? = some i) hz => order_has (z := z) (fun j hj => (HJ.out j hj).2.2.2) hop hi hz)
      clear hop hol
      go_enter Try.func5, Try.ntmps5
      go_wp2_with fail
      refine (HOO.out _ HS.out).mono ?_
      rintro e w1 ⟨_, h2, hB⟩
      obtain ⟨A1, c1, rfl, hi, hnc⟩ := h2 HY0.out l (by rw [HLN.out]; exact HV.out)
      have HB1 := Lib.hid hB
      have HI1 := Lib.hid hi
      clear h2 hB hi HOO
      go_wp2_with fail
      refine (jobsCheck_v A n c js 0 _ (HS.out.go_ HB1.out) HX.out).mono ?_
      rintro e w2 ⟨rfl, hB⟩
      have HB2 := Lib.hid (HB1.out.trans (hB.mono HB1.out.size))
      have HI2 := Lib.hid (HI1.out.go_ hB)
      clear hB
      go_wp2_with fail
      refine (HRO.out _ (HS.out.go_ HB2.out)).mono ?_
      rintro e w3 ⟨_, h2, hB⟩
      obtain ⟨A2, c2, rfl, _⟩ := h2 l rfl
      have HB3 := Lib.hid (HB2.out.trans (hB.mono HB2.out.size))
      have HI3 := Lib.hid (HI2.out.go_ hB)
      have HS3 := Lib.hid (HS.out.go_ HB3.out)
      clear hB h2
      go_wp2_with fail
      refine (each_true A1 n c1 (natI l) _ HI3.out (by omega) hnc HND.out HLT.out).mono ?_
      rintro e w4 ⟨rfl, rfl⟩
      go_wp2_with fail
      go_loop [42] (fun y => ∃ k : Nat, k ≤ n ∧ y = .int .i64 k) (fun y => n - (intOf y).toNat)
      case atStart => exact ⟨0, Nat.zero_le _, rfl⟩
      case round =>
        obtain ⟨k, hk, rfl⟩ := hrel
        by_cases hkn : k < n
        · obtain ⟨b, off, xi, rfl, _, hy, hci⟩ := HI3.out.at_ hkn
          obtain ⟨i, hi, rfl⟩ := natI_get hy
          have hin : i < n := by have := HLT.out _ (List.mem_of_getElem? hy); omega
          obtain ⟨b2, off2, j, A', c', rfl, _, hxj, _, hca, _, _, hIa, _, _⟩ := HS3.out.get hin
          have HIA := Lib.hid hIa
          have hl10 : j.aft.length ≤ 10 := (HJ.out j (List.mem_of_getElem? hxj)).1
          have HTK := Lib.hid (HI3.out.takeE hk)
          have HHK : Hid (∀ z ∈ j.aft, hasI ((natI l).take k) z = true) := Lib.hid fun z hz => HHAS.out k i z hi (by rw [List.getD_eq_getElem?_getD, hxj]; exact hz)
          have ik0 : (0 : Int) ≤ (k : Int) := by omega
          have ik1 : (k : Int) < (n : Int) := by omega
          have ii0 : (0 : Int) ≤ (i : Int) := by omega
          have ii1 : (i : Int) < (n : Int) := by omega
          clear hy hi hxj hIa
          go_wp2_with fail
          go_loop [53] (fun y => ∃ t : Nat, t ≤ j.aft.length ∧ y = .int .i64 t) (fun y => j.aft.length - (intOf y).toNat)
          case atStart => exact ⟨0, Nat.zero_le _, rfl⟩
          case round =>
            obtain ⟨t, ht, rfl⟩ := hrel
            by_cases htl : t < j.aft.length
            · obtain ⟨b', off', z, rfl, _, hz, hcz⟩ := HIA.out.at_ htl
              have HV2 := Lib.hid (HHK.out z (List.mem_of_getElem? hz))
              have it0 : (0 : Int) ≤ (t : Int) := by omega
              have it1 : (t : Int) < (j.aft.length : Int) := by omega
              clear hz
              go_wp2_with fail
              refine (has_v k c1 z true _ ((natI l).take k) _ (by exact HTK.out) (by omega) HV2.out).mono ?_
              rintro e w' ⟨rfl, rfl⟩
              go_wp2_with fail
              go_round
              case rel => exact ⟨t + 1, by omega, by go_num⟩
              case measure => simp [intOf]; omega
            · obtain rfl : t = j.aft.length := by omega
              go_wp2_with fail
              go_round
              case rel => exact ⟨k + 1, by omega, by go_num⟩
              case measure => simp [intOf]; omega
        · obtain rfl : k = n := by omega
          go_wp2_with fail
          go_ret
          exact ⟨rfl, HB3.out⟩
  · have HX2 : Hid (ordX js = x) := Lib.hid (by unfold ordX; rw [if_neg (by rw [hx]; exact h0), hx])
    have HH0 := Lib.hid h0
    have hx0 : (x != 0) = true := by simpa using h0
    clear hx S HO h0
    go_enter Try.func5, Try.ntmps5
    go_wp2_with fail
    refine (HOO.out _ HS.out).mono ?_
    rintro e w1 ⟨h1, _, hB⟩
    obtain rfl := h1 (by rw [HX2.out]; exact HH0.out)
    rw [HX2.out]
    have HB1 := Lib.hid hB
    clear h1 hB HOO
    go_wp2_with fail
    refine (jobsCheck_v A n c js x _ (HS.out.go_ HB1.out) HX.out).mono ?_
    rintro e w2 ⟨rfl, hB⟩
    have HB2 := Lib.hid (HB1.out.trans (hB.mono HB1.out.size))
    clear hB
    go_wp2_with fail
    go_ret
    exact ⟨rfl, HB2.out⟩
end Go.Proofs.Ythjhndbhebnmjaa
