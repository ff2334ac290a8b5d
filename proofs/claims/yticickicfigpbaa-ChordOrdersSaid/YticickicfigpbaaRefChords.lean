/- The reference's Chords: elimF. Conditions: at most ten nodes, 45 edges. -/
import Derived.Test.YticickicfigpbaaElimP
import Derived.Test.YticickicfigpbaaRefSimple
import Derived.Test.YticickicfigpbaaOwn
import Derived.Deep.AppendLies
import Derived.Laws.OwnMore
import Derived.IntWalk
namespace Go.Proofs.Yticickicfigpbaa
open Go.RowKit

def prevZ : Nat → Int
  | 0 => -1
  | i + 1 => (i : Int)
def lenZ : Value → Nat
  | .slice _ k _ => k
  | _ => 0
def nxZ : Option Nat → Int
  | none => -1
  | some k => (k : Int)
theorem prevZ_sub (i : Nat) : (i : Int) - 1 = prevZ i := by
  cases i with
  | zero => rfl
  | succ i => show ((i + 1 : Nat) : Int) - 1 = (i : Int); omega
theorem own_roomC {w : World} {base n c : Nat} {t : TypeId} {A : Option Addr} {xs : List Value} (h : w.ownsRow base t 1 (.slice A n c) n xs) : n ≤ c := by
  rcases h.2 with ⟨hv, h0⟩ | ⟨g, cap, cur, hv, _, _, hle, _⟩
  · omega
  · injection hv with _ _ hc; omega
theorem own_keepC {w w' : World} {base n : Nat} {t : TypeId} {v : Value} {xs : List Value} (h : w.ownsRow base t 1 v n xs) (hb : Below w.heap.size w w') : w'.ownsRow base t 1 v n xs := by
  refine ⟨h.1, ?_⟩
  rcases h.2 with h0 | ⟨g, cap, cur, hv, hg, hr, hrest⟩
  · exact .inl h0
  · exact .inr ⟨g, cap, cur, hv, hg, (hb.block g (Array.getElem?_eq_some_iff.1 hr).1).trans hr, hrest⟩
/-- What Chords tells. -/
def ChoOut (w : World) (n : Nat) (v : Option (List Nat)) (e : Ending) (w' : World) : Prop :=
  (v = none → e = .returned (.tuple #[.slice none 0 0, .bool false])) ∧ (∀ l, v = some l → ∃ A' c', e = .returned (.tuple #[.slice A' n c', .bool true]) ∧ IntsAt w' w'.heap.size A' n (natG l) ∧ n ≤ c') ∧ Below w.heap.size w w'
theorem natG_add (l : List Nat) (i : Nat) : (natG (l ++ [i])).map (Value.int .i64) = (natG l).map (Value.int .i64) ++ [.int .i64 (i : Int)] := by simp [natG]
theorem simpB_bad {adj : Nat → Nat → Bool} {n i : Nat} {l : List Nat} (r : Bool) (hr : r = true ↔ ∀ a b, b < a → a < n → badB adj l i a b = false) : simpB adj n l i = (!decide (i ∈ l) && r) := by
  unfold simpB
  congr 1
  rw [Bool.eq_iff_iff, hr, List.all_eq_true]
  constructor
  · intro h a b hba han
    have h1 := h a (List.mem_range.2 han)
    rw [List.all_eq_true] at h1
    have h2 := h1 b (List.mem_range.2 hba)
    rw [Bool.not_eq_true'] at h2
    exact h2
  · intro h a ha
    rw [List.all_eq_true]
    intro b hb
    have h1 := h a b (List.mem_range.1 hb) (List.mem_range.1 ha)
    unfold badB at h1
    rw [h1]; rfl
set_option maxRecDepth 100000 in
set_option maxHeartbeats 8000000 in
theorem refChords_any (n : Nat) (A : Option Addr) (len cap : Nat) (es : List E3) (v : Option (List Nat)) (w : World) (hE : EdgesAt w w.heap.size A len es) (hn10 : n ≤ 10) (hl : len ≤ 45) (hv : elimF (adjE es) n n [] = v) :
    Calls Try.prog 9 #[.agg #[.int .i64 (n : Int), .slice A len cap]] w (ChoOut w n v) := by
  have HST := Lib.hid (BoxG.start (n := (n : Int)) (cap := cap) hE)
  have HV := Lib.hid hv
  obtain ⟨i0, hi, hz0, hz1, hz2⟩ := info_parts infoInt
  have HI := Lib.hid hi
  have HI0 := Lib.hid hz0
  have HI1 := Lib.hid hz1
  have HI2 := Lib.hid hz2
  have HSI := Lib.hid (fun (i : Nat) (A1 : Option Addr) (k c1 : Nat) (l : List Nat) (r : Bool) (hk : k ≤ 1000) (hr : r = true ↔ ∀ a b, b < a → a < n → badB (adjE es) l i a b = false) W (hW : EdgesAt W W.heap.size A len es) (hI : IntsAt W W.heap.size A1 k (natG l)) => refSimple_any n i A len cap es A1 k c1 l r W hW hI hn10 hl hk hr)
  have HBS : Hid ((bx w (n : Int) A len cap).heap.size = w.heap.size + 1) := Lib.hid (by simp [bx])
  clear hi hz0 hz1 hz2 hv hE
  have hw0 : IntKind.i64.wrap ((n : Int) - 1) = (n : Int) - 1 := IntWalk.i64_in _ (by omega)
  go_enter Try.func9, Try.ntmps9
  go_wp2_with fail
  go_loopw [4, 5, 6] (fun a _ _ wr => ∃ (k c1 : Nat) (A1 : Option Addr) (l : List Nat), a = .slice A1 k c1 ∧ k ≤ n ∧ Hid (wr.ownsRow (w.heap.size + 1) 3 1 (.slice A1 k c1) k ((natG l).map (Value.int .i64))) ∧ Hid (elimF (adjE es) n (n - k) l = v) ∧ Hid (Below (w.heap.size + 1) (bx w (n : Int) A len cap) wr)) (fun a _ _ _ => n - lenZ a)
  case atStart => exact ⟨0, 0, none, [], rfl, Nat.zero_le _, Lib.hid (World.ownsRow_nil ..), HV, Lib.hid (Below.refl _ _)⟩
  case round =>
    obtain ⟨k, c1, A1, l, rfl, hk, HO, HD, HB⟩ := hrel
    have HXr := Lib.hid (HST.out.next (by rw [HBS.out]; exact HB.out))
    have k0 := HXr.out.c0
    by_cases hkn : k < n
    · have HLI : Hid (IntsAt wr wr.heap.size A1 k (natG l)) := Lib.hid (IntsAt.of_own HO.out (Nat.le_refl _))
      have hki : (k : Int) < (n : Int) := by omega
      obtain ⟨wo, hwo⟩ : ∃ wo : World, wo = wr := ⟨_, rfl⟩
      rw [← hwo] at HO HB HXr k0 HLI ⊢
      clear hwo
      go_wp2_with fail
      go_loopw [5, 6] (fun y z wr => ∃ i : Nat, i ≤ n ∧ y = .int .i64 (nxZ (nextF (simpB (adjE es) n l) n i)) ∧ z = .int .i64 (prevZ i) ∧ Hid (Below wo.heap.size wo wr)) (fun _ z _ => (intOf z + 1).toNat)
      case atStart => exact ⟨n, Nat.le_refl _, by rw [nextF_end]; rfl, by rw [← prevZ_sub], Lib.hid (Below.refl _ _)⟩
      case round =>
        obtain ⟨i, hi, rfl, rfl, HBq⟩ := hrel
        have HBQ : Hid (Below (w.heap.size + 1) (bx w (n : Int) A len cap) wr) := Lib.hid (HB.out.trans (HBq.out.mono (by have := HB.out.size; have := HBS.out; omega)))
        have HXq := Lib.hid (HST.out.next (by rw [HBS.out]; exact HBQ.out))
        have HOq := Lib.hid (own_keepC HO.out HBq.out)
        have HLq := Lib.hid (HLI.out.go_ HBq.out)
        cases i with
        | zero =>
          rw [show prevZ 0 = -1 from rfl]
          cases hq : nextF (simpB (adjE es) n l) n 0 with
          | none =>
            rw [show nxZ none = -1 from rfl]
            have HVN : Hid (v = none) := Lib.hid (by
              rw [← HD.out, show n - k = (n - k - 1) + 1 by omega]
              exact elim_stuck hq)
            have HR : Hid (∀ e, e = Ending.returned (.tuple #[.slice none 0 0, .bool false]) → ChoOut w n v e wr) := Lib.hid fun e he => by
              rw [HVN.out]
              exact ⟨fun _ => he, (fun l h => by cases h), HXq.out.below⟩
            clear hq
            go_wp2_with fail
            go_ret2
            exact HR.out _ rfl
          | some x =>
            rw [show nxZ (some x) = (x : Int) from rfl]
            obtain ⟨_, hxn, _⟩ := nextF_some hq
            have HD2 : Hid (elimF (adjE es) n (n - (k + 1)) (l ++ [x]) = v) := Lib.hid (by
              rw [← HD.out, show n - k = (n - (k + 1)) + 1 by omega]
              exact (elim_step hq).symm)
            have HSN := Lib.hid (natG_add l x)
            have hx0 : (0 : Int) ≤ (x : Int) := by omega
            clear hq
            go_wp2_with (at_builtin; refine wpList_append_own _ rfl _ _ 25 rfl (w.heap.size + 1) 3 i0 (.int .i64 0) 1 8 Try.underlying25 HI.out HI0.out HI1.out HI2.out rfl (by decide) _ _ _ rfl (HOq.out.alloc _) ⟨wr.heap.size, 0, none⟩ 1 1 [.int .i64 (x : Int)] rfl rfl ?c1 ?c2 ?c3 ?c4 ?c5 ?_)
            try (case c1 => exact cell_one_new _ _ _)
            case c2 => simp [Value.oneCell']
            case c3 => unfold maxLen; omega
            case c4 => omega
            case c5 => have := HBQ.out.size; have := HBS.out; simp; omega
            intro v' w3 hown' hgrow _
            obtain ⟨A3, c3, rfl⟩ := own_form hown'
            have HO' : Hid (w3.ownsRow (w.heap.size + 1) 3 1 (.slice A3 (k + 1) c3) (k + 1) ((natG (l ++ [x])).map (Value.int .i64))) := Lib.hid (by rw [HSN.out]; exact hown')
            have HB3 : Hid (Below (w.heap.size + 1) (bx w (n : Int) A len cap) w3) := Lib.hid ((HBQ.out.alloc (by have := HBQ.out.size; have := HBS.out; omega) _).grown hgrow (by have := HBQ.out.size; have := HBS.out; simp; omega) (own_base HOq.out))
            clear hown' hgrow
            go_wp2
            go_roundw
            case rel => exact ⟨k + 1, c3, A3, l ++ [x], rfl, by omega, HO', HD2, HB3⟩
            case measure => show n - (k + 1) < n - k; omega
        | succ i =>
          rw [show prevZ (i + 1) = (i : Int) from rfl]
          have hiw : IntKind.i64.wrap ((i : Int) - 1) = (i : Int) - 1 := IntWalk.i64_in _ (by omega)
          have ii0 : (0 : Int) ≤ (i : Int) := by omega
          have ii1 : (i : Int) < (n : Int) := by omega
          have HNS := Lib.hid (nextF_step (f := simpB (adjE es) n l) (n := n) (i := i) (by omega))
          obtain ⟨r, hr⟩ : ∃ r : Bool, r = true ↔ ∀ a b, b < a → a < n → badB (adjE es) l i a b = false := by
            by_cases h : ∀ a b, b < a → a < n → badB (adjE es) l i a b = false
            · exact ⟨true, fun _ => h, fun _ => rfl⟩
            · exact ⟨false, fun h2 => (by cases h2), fun h2 => absurd h2 h⟩
          have HSB := Lib.hid (simpB_bad r hr)
          have HSM := Lib.hid (HSI.out i A1 k c1 l r (by omega) hr)
          have q0 := HXq.out.c0
          have q1 := HXq.out.c1
          clear hr
          cases hq : decide (i ∈ l) with
          | true =>
            have HH := Lib.hid (has_v k c1 (i : Int) true A1 (natG l) wr HLq.out (by omega) (by rw [hasI_natG]; exact hq))
            have HN : Hid (nextF (simpB (adjE es) n l) n i = nextF (simpB (adjE es) n l) n (i + 1)) := Lib.hid (by rw [HNS.out, HSB.out, hq]; rfl)
            clear hq
            go_wp2_with fail
            refine HH.out.mono ?_
            rintro e w2 ⟨rfl, rfl⟩
            go_wp2_with fail
            go_roundw
            case rel => exact ⟨i, by omega, by rw [HN.out], by rw [← prevZ_sub], HBq⟩
            case measure => simp [intOf]
          | false =>
            have HH := Lib.hid (has_v k c1 (i : Int) false A1 (natG l) wr HLq.out (by omega) (by rw [hasI_natG]; exact hq))
            have HSR : Hid (simpB (adjE es) n l i = r) := Lib.hid (by rw [HSB.out, hq]; rfl)
            clear hq
            go_wp2_with fail
            refine HH.out.mono ?_
            rintro e w2 ⟨rfl, rfl⟩
            go_wp2_with fail
            refine (HSM.out _ HXq.out.edges HLq.out).mono ?_
            rintro e w4 ⟨rfl, hB4⟩
            have HB4 : Hid (Below wo.heap.size wo w4) := Lib.hid (HBq.out.trans (hB4.mono HBq.out.size))
            clear hB4 q0 q1
            cases r with
            | true =>
              have HN : Hid (nextF (simpB (adjE es) n l) n i = some i) := Lib.hid (by rw [HNS.out, HSR.out]; rfl)
              go_wp2_with fail
              go_roundw
              case rel => exact ⟨i, by omega, by rw [HN.out]; rfl, by rw [← prevZ_sub], HB4⟩
              case measure => simp [intOf]
            | false =>
              have HN : Hid (nextF (simpB (adjE es) n l) n i = nextF (simpB (adjE es) n l) n (i + 1)) := Lib.hid (by rw [HNS.out, HSR.out]; rfl)
              go_wp2_with fail
              go_roundw
              case rel => exact ⟨i, by omega, by rw [HN.out], by rw [← prevZ_sub], HB4⟩
              case measure => simp [intOf]
    · obtain rfl : k = n := by omega
      have HR : Hid (∀ e, e = Ending.returned (.tuple #[.slice A1 k c1, .bool true]) → ChoOut w k v e wr) := Lib.hid fun e he => by
        have h := HD.out
        rw [Nat.sub_self] at h
        rw [← h]
        refine ⟨(fun h => by cases h), fun l' h => ⟨A1, c1, he, ?_⟩, HXr.out.below⟩
        injection h with h
        subst h
        exact ⟨IntsAt.of_own HO.out (Nat.le_refl _), own_roomC HO.out⟩
      go_wp2_with fail
      go_ret2
      exact HR.out _ rfl
end Go.Proofs.Yticickicfigpbaa
