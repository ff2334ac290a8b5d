/- The reference's Order: ordF. Condition: jobs without fault. -/
import Derived.Test.YthjhndbhebnmjaaOrdP
import Derived.Test.YthjhndbhebnmjaaOwn
import Derived.Deep.AppendLies
import Derived.Laws.OwnMore
namespace Go.Proofs.Ythjhndbhebnmjaa
open Go.RowKit

def prevI : Nat → Int
  | 0 => -1
  | i + 1 => (i : Int)
def lenS : Value → Nat
  | .slice _ k _ => k
  | _ => 0
def nxI : Option Nat → Int
  | none => -1
  | some k => (k : Int)
theorem prevI_sub (i : Nat) : (i : Int) - 1 = prevI i := by
  cases i with
  | zero => rfl
  | succ i => show ((i + 1 : Nat) : Int) - 1 = (i : Int); omega
theorem own_room {w : World} {base n c : Nat} {t : TypeId} {A : Option Addr} {xs : List Value} (h : w.ownsRow base t 1 (.slice A n c) n xs) : n ≤ c := by
  rcases h.2 with ⟨hv, h0⟩ | ⟨g, cap, cur, hv, _, _, hle, _⟩
  · omega
  · injection hv with _ _ hc; omega
/-- What Order tells. -/
def OrdOut (w : World) (n : Nat) (v : Option (List Nat)) (e : Ending) (w' : World) : Prop :=
  (v = none → e = .returned (.tuple #[.slice none 0 0, .bool false])) ∧ (∀ l, v = some l → ∃ A' c', e = .returned (.tuple #[.slice A' n c', .bool true]) ∧ IntsAt w' w'.heap.size A' n (natI l) ∧ n ≤ c') ∧ Below w.heap.size w w'
theorem natI_snoc (l : List Nat) (i : Nat) : (natI (l ++ [i])).map (Value.int .i64) = (natI l).map (Value.int .i64) ++ [.int .i64 (i : Int)] := by simp [natI]
set_option maxRecDepth 100000 in
set_option maxHeartbeats 4000000 in
theorem refOrder_any (A : Option Addr) (n c : Nat) (js : List JobV) (v : Option (List Nat)) (w : World) (S : JobsAt w w.heap.size A n js) (hz : jobsF js = 0) (hv : ordF js n [] = v) :
    Calls Try.prog 9 #[.slice A n c] w (OrdOut w n v) := by
  have HS := Lib.hid S
  have HV := Lib.hid hv
  have HLN := Lib.hid S.len
  obtain ⟨hl, hj⟩ := jobsF_zero hz
  have hn10 : n ≤ 10 := by have := S.len; omega
  have HJ := Lib.hid hj
  obtain ⟨i0, hi, hz0, hz1, hz2⟩ := info_parts infoInt
  have HI := Lib.hid hi
  have HI0 := Lib.hid hz0
  have HI1 := Lib.hid hz1
  have HI2 := Lib.hid hz2
  clear hi hz0 hz1 hz2 hl hj hz hv S
  have hw0 : IntKind.i64.wrap ((n : Int) - 1) = (n : Int) - 1 := IntWalk.i64_in _ (by omega)
  go_enter Try.func9, Try.ntmps9
  go_wp2_with fail
  go_loopw [4] (fun a wr => ∃ (k c1 : Nat) (A1 : Option Addr) (l : List Nat), a = .slice A1 k c1 ∧ k ≤ n ∧ Hid (wr.ownsRow w.heap.size 3 1 (.slice A1 k c1) k ((natI l).map (Value.int .i64))) ∧ Hid (ordF js (n - k) l = v) ∧ Hid (Below w.heap.size w wr)) (fun a _ => n - lenS a)
  case atStart => exact ⟨0, 0, none, [], rfl, Nat.zero_le _, Lib.hid (World.ownsRow_nil ..), HV, Lib.hid (Below.refl _ _)⟩
  case round =>
    obtain ⟨k, c1, A1, l, rfl, hk, HO, HD, HB⟩ := hrel
    by_cases hkn : k < n
    · have HLI : Hid (IntsAt wr wr.heap.size A1 k (natI l)) := Lib.hid (IntsAt.of_own HO.out (Nat.le_refl _))
      have hki : (k : Int) < (n : Int) := by omega
      go_wp2_with fail
      go_loop [5, 6] (fun y z => ∃ i : Nat, i ≤ n ∧ y = .int .i64 (nxI (nextF (readyB js l) n i)) ∧ z = .int .i64 (prevI i)) (fun _ z => (intOf z + 1).toNat)
      case atStart => exact ⟨n, Nat.le_refl _, by rw [nextF_end]; rfl, by rw [← prevI_sub]⟩
      case round =>
        obtain ⟨i, hi, rfl, rfl⟩ := hrel
        cases i with
        | zero =>
          rw [show prevI 0 = -1 from rfl]
          cases hq : nextF (readyB js l) n 0 with
          | none =>
            rw [show nxI none = -1 from rfl]
            have HVN : Hid (v = none) := Lib.hid (by
              rw [← HD.out, show n - k = (n - k - 1) + 1 by omega]
              exact ordF_stuck (by rw [HLN.out]; exact hq))
            have HR : Hid (∀ e, e = Ending.returned (.tuple #[.slice none 0 0, .bool false]) → OrdOut w n v e wr) := Lib.hid fun e he => by
              rw [HVN.out]
              exact ⟨fun _ => he, (fun l h => by cases h), HB.out⟩
            clear hq
            go_wp2_with fail
            go_ret2
            exact HR.out _ rfl
          | some x =>
            rw [show nxI (some x) = (x : Int) from rfl]
            obtain ⟨_, hxn, _⟩ := nextF_some hq
            have HD2 : Hid (ordF js (n - (k + 1)) (l ++ [x]) = v) := Lib.hid (by
              rw [← HD.out, show n - k = (n - (k + 1)) + 1 by omega]
              exact (ordF_step (by rw [HLN.out]; exact hq)).symm)
            have HSN := Lib.hid (natI_snoc l x)
            have hx0 : (0 : Int) ≤ (x : Int) := by omega
            clear hq
            go_wp2_with (at_builtin; refine wpList_append_own _ rfl _ _ 23 rfl w.heap.size 3 i0 (.int .i64 0) 1 8 Try.underlying23 HI.out HI0.out HI1.out HI2.out rfl (by decide) _ _ _ rfl (HO.out.alloc _) ⟨wr.heap.size, 0, none⟩ 1 1 [.int .i64 (x : Int)] rfl rfl ?c1 ?c2 ?c3 ?c4 ?c5 ?_)
            try (case c1 => exact cell_one_new _ _ _)
            case c2 => simp [Value.oneCell']
            case c3 => unfold maxLen; omega
            case c4 => omega
            case c5 => have := HB.out.size; simp; omega
            intro v' w3 hown' hgrow _
            obtain ⟨A3, c3, rfl⟩ := own_form hown'
            have HO' : Hid (w3.ownsRow w.heap.size 3 1 (.slice A3 (k + 1) c3) (k + 1) ((natI (l ++ [x])).map (Value.int .i64))) := Lib.hid (by rw [HSN.out]; exact hown')
            have HB3 : Hid (Below w.heap.size w w3) := Lib.hid ((HB.out.alloc HB.out.size _).grown hgrow (by have := HB.out.size; simp; omega) (own_base HO.out))
            clear hown' hgrow
            go_wp2
            go_roundw
            case rel => exact ⟨k + 1, c3, A3, l ++ [x], rfl, by omega, HO', HD2, HB3⟩
            case measure => show n - (k + 1) < n - k; omega
        | succ i =>
          rw [show prevI (i + 1) = (i : Int) from rfl]
          have hiw : IntKind.i64.wrap ((i : Int) - 1) = (i : Int) - 1 := IntWalk.i64_in _ (by omega)
          have ii0 : (0 : Int) ≤ (i : Int) := by omega
          have ii1 : (i : Int) < (n : Int) := by omega
          obtain ⟨b, off, j, A', c', rfl, _, hx, _, hc1, _, _, hI, _, _⟩ := (HS.out.go_ HB.out).get (show i < n by omega)
          have HX : Hid (js.getD i jobD = j) := Lib.hid (by rw [List.getD_eq_getElem?_getD, hx]; rfl)
          have HIJ := Lib.hid hI
          have hl10 : j.aft.length ≤ 10 := (HJ.out j (List.mem_of_getElem? hx)).1
          have HNS := Lib.hid (nextF_step (f := readyB js l) (n := n) (i := i) (by omega))
          obtain ⟨q, hq⟩ : ∃ q, hasI (natI l) (i : Int) = q := ⟨_, rfl⟩
          have HQ := Lib.hid hq
          clear hx hI hq
          go_wp2_with fail
          refine (has_v k c1 (i : Int) q A1 (natI l) wr HLI.out (by omega) HQ.out).mono ?_
          rintro e w2 ⟨rfl, rfl⟩
          go_wp2_with fail
          go_loop [7, 32] (fun y z => ∃ t : Nat, t ≤ j.aft.length ∧ y = .bool (!q && (j.aft.take t).all (hasI (natI l))) ∧ z = .int .i64 t) (fun _ z => j.aft.length - (intOf z).toNat)
          case atStart => exact ⟨0, Nat.zero_le _, by simp, rfl⟩
          case round =>
            obtain ⟨t, ht, rfl, rfl⟩ := hrel
            by_cases htl : t < j.aft.length
            · obtain ⟨b', off', x, rfl, _, hx, hcx⟩ := HIJ.out.at_ htl
              have it0 : (0 : Int) ≤ (t : Int) := by omega
              have it1 : (t : Int) < (j.aft.length : Int) := by omega
              have HT : Hid ((j.aft.take (t + 1)).all (hasI (natI l)) = ((j.aft.take t).all (hasI (natI l)) && hasI (natI l) x)) := Lib.hid (by
                obtain ⟨h1, h2⟩ := List.getElem?_eq_some_iff.1 hx
                rw [List.take_succ_eq_append_getElem h1, h2, List.all_append]; simp)
              obtain ⟨g, hg⟩ : ∃ g, hasI (natI l) x = g := ⟨_, rfl⟩
              have HG := Lib.hid hg
              clear hx hg
              generalize (j.aft.take t).all (hasI (natI l)) = a at HT
              cases hb : (!q && a) with
              | true =>
                have HN : Hid ((!q && (j.aft.take (t + 1)).all (hasI (natI l))) = g) := Lib.hid (by rw [HT.out, HG.out, ← Bool.and_assoc, hb, Bool.true_and])
                clear hb
                go_wp2_with fail
                refine (has_v k c1 x g A1 (natI l) wr HLI.out (by omega) HG.out).mono ?_
                rintro e w2 ⟨rfl, rfl⟩
                go_wp2_with fail
                go_round
                case rel => exact ⟨t + 1, by omega, by rw [HN.out], by go_num⟩
                case measure => simp [intOf]; omega
              | false =>
                have HN : Hid ((!q && (j.aft.take (t + 1)).all (hasI (natI l))) = false) := Lib.hid (by rw [HT.out, ← Bool.and_assoc, hb, Bool.false_and])
                clear hb
                go_wp2_with fail
                go_round
                case rel => exact ⟨t + 1, by omega, by rw [HN.out], by go_num⟩
                case measure => simp [intOf]; omega
            · obtain rfl : t = j.aft.length := by omega
              have HRB : Hid (readyB js l i = (!q && (j.aft.take j.aft.length).all (hasI (natI l)))) := Lib.hid (by unfold readyB; rw [HX.out, HQ.out, List.take_length])
              generalize (j.aft.take j.aft.length).all (hasI (natI l)) = a at HRB
              cases hb : (!q && a) with
              | true =>
                have HN : Hid (nextF (readyB js l) n i = some i) := Lib.hid (by rw [HNS.out, HRB.out, hb]; rfl)
                clear hb
                go_wp2_with fail
                go_round
                case rel => exact ⟨i, by omega, by rw [HN.out]; rfl, by rw [← prevI_sub]⟩
                case measure => simp [intOf]
              | false =>
                have HN : Hid (nextF (readyB js l) n i = nextF (readyB js l) n (i + 1)) := Lib.hid (by rw [HNS.out, HRB.out, hb]; rfl)
                clear hb
                go_wp2_with fail
                go_round
                case rel => exact ⟨i, by omega, by rw [HN.out], by rw [← prevI_sub]⟩
                case measure => simp [intOf]
    · obtain rfl : k = n := by omega
      have HR : Hid (∀ e, e = Ending.returned (.tuple #[.slice A1 k c1, .bool true]) → OrdOut w k v e wr) := Lib.hid fun e he => by
        have h := HD.out
        rw [Nat.sub_self] at h
        rw [← h]
        refine ⟨(fun h => by cases h), fun l' h => ⟨A1, c1, he, ?_⟩, HB.out⟩
        injection h with h
        subst h
        exact ⟨IntsAt.of_own HO.out (Nat.le_refl _), own_room HO.out⟩
      go_wp2_with fail
      go_ret2
      exact HR.out _ rfl
end Go.Proofs.Ythjhndbhebnmjaa
