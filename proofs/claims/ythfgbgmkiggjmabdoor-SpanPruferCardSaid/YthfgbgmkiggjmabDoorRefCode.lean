/- The reference's Tree and Code. -/
import Derived.Test.YthfgbgmkiggjmabDoorPrufer
import Derived.Test.YthfgbgmkiggjmabDoorDegree
import Derived.Test.YthfgbgmkiggjmabDoorRefDist
import Derived.Test.YthfgbgmkiggjmabDoorLess
import Derived.Test.YthfgbgmkiggjmabDoorInts
import Derived.Deep.AppendLies
namespace Go.Proofs.YthfgbgmkiggjmabDoor
open Go.RowKit

set_option maxRecDepth 100000 in
set_option maxHeartbeats 1000000 in
theorem tree_v (m : Nat) (A : Option Addr) (len cap : Nat) (es : List E3) (v : Bool) (w : World) (hE : EdgesAt w w.heap.size A len es) (hm10 : m ≤ 10) (hlen45 : len ≤ 45) (hin : InE m es) (hvv : v = true ↔ TreeP m es) :
    Calls Tryd.prog 36 #[.agg #[.int .i64 m, .slice A len cap]] w fun e w' => e = .returned (.bool v) ∧ Below w.heap.size w w' := by
  have hlen : len = es.length := hE.1.symm
  by_cases hm2 : m < 2
  · have hv0 : v = false := by rw [Bool.eq_false_iff]; exact fun h => by have := (hvv.1 h).1; omega
    subst hv0
    have hml : (m : Int) < 2 := by omega
    clear hvv hlen
    go_enter Tryd.func36, Tryd.ntmps36
    go_wp2
    go_ret
    exact ⟨rfl, (Below.refl _ _).alloc (Nat.le_refl _) _⟩
  · have hml : ¬ (m : Int) < 2 := by omega
    by_cases hlm : len + 1 = m
    · have HE := Lib.hid (show EdgesAt (bx w m A len cap) (bx w m A len cap).heap.size A len es from (hE.alloc (Nat.le_refl _) _).more (by simp [bx]))
      have HIN := Lib.hid hin
      have hne : ((len : Int) != (m : Int) - 1) = false := by simp; omega
      have hle : (len : Int) = (m : Int) - 1 := by omega
      have HT : Hid (∀ i, i < m → v = true → Rch es 0 i) := Lib.hid fun i hi h => (hvv.1 h).2.2 i hi
      have HF : Hid (v = false → ∃ i, i < m ∧ ¬ Rch es 0 i) := Lib.hid fun h => by
        apply Classical.byContradiction
        intro hno
        rw [hvv.2 ⟨by omega, by omega, fun i hi => Classical.byContradiction fun hr => hno ⟨i, hi, hr⟩⟩] at h
        cases h
      have hm0 : 0 < m := by omega
      have HLE := Lib.hid hlm
      clear hE hin hvv hlen hlm
      go_enter Tryd.func36, Tryd.ntmps36
      go_wp2_with (go_at_call 21; refine (refDist_any m A len cap es _ (by exact HE.out) hm10 hlen45 HIN.out).mono ?_; rintro e w1 ⟨ho, hb1⟩; have HB1 := Lib.hid hb1; clear hb1; obtain ⟨g, capg, bs, cs, HR, HC, rfl⟩ : ∃ (g capg : Nat) (bs cs : Nat → Nat), Hid (∀ j, j < m → w1.cell? ⟨bs 0, j, none⟩ = some (.int .i64 (distI (adjE es) 0 j))) ∧ Hid (∀ x, x < m → w1.cell? ⟨g, x, none⟩ = some (.slice (some ⟨bs x, 0, none⟩) m (cs x))) ∧ e = .returned (.slice (some ⟨g, 0, none⟩) m capg) := (by obtain ⟨v, bs, cs, he, hr⟩ := ho; obtain ⟨g, capg, h1, _, _, h2⟩ := hr.top hm0; exact ⟨g, capg, bs, cs, Lib.hid fun j hj => hr.cell hm0 hj, Lib.hid h2, by rw [he, h1]⟩); clear ho; have hck := HC.out 0 hm0; have iz1 : (0 : Int) < (m : Int) := (by omega))
      go_loop [22] (fun j => ∃ i : Nat, i ≤ m ∧ j = .int .i64 i ∧ Hid (∀ y, y < i → Rch es 0 y)) (fun j => m - (intOf j).toNat)
      case atStart => exact ⟨0, Nat.zero_le _, rfl, Lib.hid fun y hy => absurd hy (by omega)⟩
      case round =>
        obtain ⟨i, hi, rfl, HL⟩ := hrel
        by_cases him : i < m
        · have hca := HR.out i him
          have ix0 : (0 : Int) ≤ (i : Int) := by omega
          have ix1 : (i : Int) < (m : Int) := by omega
          by_cases hr : Rch es 0 i
          · have hd : ¬ distI (adjE es) 0 i < 0 := by have := distI_nonneg.2 hr; omega
            have hdd : decide (distI (adjE es) 0 i < 0) = false := by simpa using hd
            have HN : Hid (∀ y, y < i + 1 → Rch es 0 y) := Lib.hid fun y hy => by
              rcases Nat.lt_or_ge y i with h | h
              · exact HL.out y h
              · obtain rfl : y = i := by omega
                exact hr
            generalize distI (adjE es) 0 i = d at hca hd hdd
            clear hr
            go_wp2
            go_round
            case rel => exact ⟨i + 1, by omega, by go_num, HN⟩
            case measure => simp [intOf]; omega
          · have hd : distI (adjE es) 0 i < 0 := by
              apply Classical.byContradiction
              intro hn
              exact hr (distI_nonneg.1 (by omega))
            have HV : Hid (false = v) := Lib.hid (by
              symm
              rw [Bool.eq_false_iff]
              exact fun h => hr (HT.out i him h))
            generalize distI (adjE es) 0 i = d at hca hd
            clear hr
            go_wp2
            go_ret
            exact ⟨ret_bool HV.out, ((Below.refl _ _).alloc (Nat.le_refl _) _).trans (HB1.out.mono (by simp))⟩
        · have HV : Hid (true = v) := Lib.hid (by
            symm
            apply Classical.byContradiction
            intro h
            obtain ⟨y, hy, hr⟩ := HF.out (by simpa using h)
            exact hr (HL.out y (by omega)))
          go_wp2
          go_ret
          exact ⟨ret_bool HV.out, ((Below.refl _ _).alloc (Nat.le_refl _) _).trans (HB1.out.mono (by simp))⟩
    · have hv0 : v = false := by rw [Bool.eq_false_iff]; exact fun h => by have := (hvv.1 h).2.1; omega
      subst hv0
      have hne : ((len : Int) != (m : Int) - 1) = true := by simp; omega
      have hne2 : ¬ (len : Int) = (m : Int) - 1 := by omega
      clear hvv hlen
      go_enter Tryd.func36, Tryd.ntmps36
      go_wp2
      go_ret
      exact ⟨rfl, (Below.refl _ _).alloc (Nat.le_refl _) _⟩

/-- One step of the reference's Code. -/
theorem ref_step {m c : Nat} {esc : List E3} {rest : List Nat} (hs : SomeE m esc) (h : Cd m esc (c :: rest)) :
    ∃ (i k : Nat) (a b w0 : Int), i < m ∧ c < m ∧ esc[k]? = some (a, b, w0) ∧ ((a = (i : Int) ∧ b = (c : Int)) ∨ (a = (c : Int) ∧ b = (i : Int))) ∧ i ≠ c ∧
      (∀ q e, q < k → esc[q]? = some e → e.1 ≠ (i : Int) ∧ e.2.1 ≠ (i : Int)) ∧ degN esc i = 1 ∧ (∀ j, j < i → degN esc j ≠ 1) ∧ Cd m (esc.eraseIdx k) rest := by
  obtain ⟨i, k, e, hi, hd, hlt, hk, he, hr⟩ := h
  obtain ⟨a, b, w0⟩ := e
  obtain ⟨h0, _, h1, _⟩ := hs.inn _ (List.mem_of_getElem? hk)
  have hmem : pr i c ∈ prsE esc := he ▸ mem_prsE hk
  refine ⟨i, k, a, b, w0, hi, (hs.inG i c hmem).2, hk, (prE_eq h0 h1).1 he, hs.simp.ne hmem, fun q e' hq he' => ?_, by rw [degE_pairs hs.inn]; exact hd, fun j hj => by rw [degE_pairs hs.inn]; exact hlt j hj, hr⟩
  obtain ⟨g0, _, g1, _⟩ := hs.inn _ (List.mem_of_getElem? he')
  have key : ∀ y : Nat, prE e' = pr i y → False := fun y hy => by
    have hc2 := deg_one_unique hs.simp hd (hy ▸ mem_prsE he') hmem
    subst hc2
    have := place_unique hs he' hk (by rw [hy, he])
    omega
  constructor
  · intro h2
    exact key e'.2.1.toNat (by unfold prE; rw [h2]; rfl)
  · intro h2
    exact key e'.1.toNat (by unfold prE; rw [h2, pr_comm]; rfl)
def sliceN : Value → Nat
  | .slice _ n _ => n
  | _ => 0
/-- How far the reference's Code has come. -/
structure RcInv (m : Nat) (l : List Nat) (w : World) (v : Value) (esc : List E3) (A : Option Addr) (cap : Nat) (done rest : List Nat) (wr : World) : Prop where
  split : l = done ++ rest
  some : SomeE m esc
  code : Cd m esc rest
  small : esc.length ≤ 45
  box : RowOf wr w.heap.size 24 [.int .i64 m, .slice A esc.length cap]
  edges : EdgesAt wr wr.heap.size A esc.length esc
  own : wr.ownsRow (w.heap.size + 1) 3 1 v done.length ((intsN done).map (Value.int .i64))
  apart : ∀ a, 0 < esc.length → A = Option.some a → v.ownBlock ≠ Option.some a.block ∧ a.block ≠ w.heap.size ∧ a.block < wr.heap.size
  below : Below w.heap.size w wr
  size : w.heap.size < wr.heap.size

theorem EdgesAt.move0 {w w' : World} {B B' n : Nat} {A : Option Addr} {es : List E3} (h : EdgesAt w B A n es) (hb : 0 < n → ∀ a, A = some a → w'.heap[a.block]? = w.heap[a.block]?) (hB : B ≤ B') : EdgesAt w' B' A n es := by
  rcases Nat.eq_zero_or_pos n with h0 | h0
  · exact ⟨h.1, fun hn => by omega⟩
  · exact h.move (hb h0) hB
theorem own_keepC {w w' : World} {base : Nat} {t : TypeId} {v : Value} {n : Nat} {xs : List Value} (h : w.ownsRow base t 1 v n xs) (hb : ∀ g, base ≤ g → w'.heap[g]? = w.heap[g]?) : w'.ownsRow base t 1 v n xs := by
  refine ⟨h.1, ?_⟩
  rcases h.2 with h0 | ⟨g, cap, cur, hv, hg, hr, hrest⟩
  · exact .inl h0
  · exact .inr ⟨g, cap, cur, hv, hg, (hb g hg).trans hr, hrest⟩
def RcOut (w : World) (l : List Nat) (e : Ending) (w' : World) : Prop := (∃ v, e = .returned v ∧ w'.ownsRow (w.heap.size + 1) 3 1 v l.length ((intsN l).map (Value.int .i64))) ∧ Below w.heap.size w w'
theorem rc_start {m : Nat} {A : Option Addr} {len cap : Nat} {es : List E3} {l : List Nat} {w : World} (hE : EdgesAt w w.heap.size A len es) (hlen : len ≤ 45) (hs : SomeE m es) (hc : Cd m es l) : RcInv m l w (.slice none 0 0) es A cap [] l (bx w m A len cap) := by
  obtain rfl : es.length = len := hE.1
  refine ⟨rfl, hs, hc, hlen, (MapKept.heap_alloc w _).1, (hE.alloc (Nat.le_refl _) _).more (by simp [bx]), by simpa [intsN] using World.ownsRow_nil .., fun a h0 ha => ⟨by simp [Value.ownBlock], ?_⟩, (Below.refl _ _).alloc (Nat.le_refl _) _, by simp [bx]⟩
  obtain ⟨b, off, h1, h2, _⟩ := hE.2 h0
  rw [ha] at h1
  injection h1 with h1
  subst h1
  simp [bx]
  omega

set_option maxRecDepth 100000 in
set_option maxHeartbeats 4000000 in
theorem refCode_any (m : Nat) (A : Option Addr) (len cap : Nat) (es : List E3) (l : List Nat) (w : World) (hE : EdgesAt w w.heap.size A len es) (hm10 : m ≤ 10) (hlen : len ≤ 45) (hs : SomeE m es) (hc : Cd m es l) (hl : l.length + 2 = m) :
    Calls Tryd.prog 37 #[.agg #[.int .i64 m, .slice A len cap]] w (RcOut w l) := by
  have HS : Hid (∃ esc A1 cap1 done rest, RcInv m l w (.slice none 0 0) esc A1 cap1 done rest (bx w m A len cap)) := Lib.hid ⟨es, A, cap, [], l, rc_start hE hlen hs hc⟩
  have hml : (m : Int) - 2 = (l.length : Int) := by omega
  have HM := Lib.hid hl
  clear hE hs hc hl
  obtain ⟨i1, hi, hz0, hz1, hz2⟩ := info_parts infoInt
  have HJ := Lib.hid hi
  have HJ0 := Lib.hid hz0
  have HJ1 := Lib.hid hz1
  have HJ2 := Lib.hid hz2
  clear hi hz0 hz1 hz2
  generalize hLL : l.length = L at hml
  have HLL := Lib.hid hLL
  clear hLL
  go_enter Tryd.func37, Tryd.ntmps37
  go_wp2
  go_loopw [3] (fun v wr => Hid (∃ esc A cap done rest, RcInv m l w v esc A cap done rest wr)) (fun v _ => L - sliceN v)
  case atStart =>
    exact Lib.hid HS.out
  case round =>
    clear HS
    obtain ⟨esc, A', cap', done, rest, HC⟩ : ∃ esc A cap done rest, Hid (RcInv m l w u3 esc A cap done rest wr) := by
      obtain ⟨esc, A, cap, done, rest, h⟩ := hrel.out
      exact ⟨esc, A, cap, done, rest, Lib.hid h⟩
    clear hrel
    obtain ⟨Al, capl, rfl⟩ := own_form HC.out.own
    have hb0 : wr.cell? ⟨w.heap.size, 0, none⟩ = some (.int .i64 m) := HC.out.box.cell rfl
    have hb1 : wr.cell? ⟨w.heap.size, 1, none⟩ = some (.slice A' esc.length cap') := HC.out.box.cell rfl
    have hsz := HC.out.size
    have hsm := HC.out.small
    generalize hdn : done.length = dn at *
    have HDN := Lib.hid hdn
    clear hdn
    by_cases hdl : dn < L
    · obtain ⟨c, rest', rfl⟩ : ∃ c rest', rest = c :: rest' := by
        cases rest with
        | nil => have h1 := HC.out.split; have h2 := HLL.out; have h3 := HDN.out; rw [h1, List.append_nil] at h2; omega
        | cons c r => exact ⟨c, r, rfl⟩
      obtain ⟨i, k, a, b, w0, him, hcm, HK, hab, hic, HQ, HD1, HD0, HR⟩ : ∃ (i k : Nat) (a b w0 : Int), i < m ∧ c < m ∧ Hid (esc[k]? = some (a, b, w0)) ∧ ((a = (i : Int) ∧ b = (c : Int)) ∨ (a = (c : Int) ∧ b = (i : Int))) ∧ i ≠ c ∧ Hid (∀ q e, q < k → esc[q]? = some e → e.1 ≠ (i : Int) ∧ e.2.1 ≠ (i : Int)) ∧ Hid (degN esc i = 1) ∧ Hid (∀ j, j < i → degN esc j ≠ 1) ∧ Hid (Cd m (esc.eraseIdx k) rest') := by
        obtain ⟨i, k, a, b, w0, h1, h2, h3, h4, h5, h6, h7, h8, h9⟩ := ref_step HC.out.some HC.out.code
        exact ⟨i, k, a, b, w0, h1, h2, Lib.hid h3, h4, h5, Lib.hid h6, Lib.hid h7, Lib.hid h8, Lib.hid h9⟩
      have hkl : k < esc.length := (List.getElem?_eq_some_iff.1 HK.out).1
      have HEr := Lib.hid HC.out.edges
      generalize hen : esc.length = n at *
      have HEN := Lib.hid hen
      clear hen
      obtain ⟨wo, rfl⟩ : ∃ wo : World, wo = wr := ⟨_, rfl⟩
      go_wp2
      go_loopw [4] (fun j wr => ∃ q : Nat, q ≤ i ∧ j = .int .i64 q ∧ Hid (Below wo.heap.size wo wr)) (fun j _ => i - (intOf j).toNat)
      case atStart => exact ⟨0, Nat.zero_le _, rfl, Lib.hid (Below.refl _ _)⟩
      case round =>
        obtain ⟨q, hq, rfl, HB⟩ := hrel
        have hc0 : wr.cell? ⟨w.heap.size, 0, none⟩ = some (.int .i64 m) := (HB.out.cell (p := ⟨w.heap.size, 0, none⟩) hsz).trans hb0
        have hc1 : wr.cell? ⟨w.heap.size, 1, none⟩ = some (.slice A' n cap') := (HB.out.cell (p := ⟨w.heap.size, 1, none⟩) hsz).trans hb1
        have hsr := HB.out.size
        have HEw := Lib.hid (HEr.out.go_ HB.out)
        by_cases hqi : q < i
        · have hd := HD0.out q hqi
          have hd2 : ¬ ((degN esc (q : Int) : Nat) : Int) = 1 := by omega
          have hd3 : (((degN esc (q : Int) : Nat) : Int) != 1) = true := by simp; omega
          generalize hdd : degN esc (q : Int) = d at hd hd2 hd3
          have HDD := Lib.hid hdd
          clear hd hdd
          go_wp2_with (go_at_call 51; refine ((degree_any m q A' n cap' esc _ (by exact HEw.out) hsm).mono (R' := fun e w' => e = .returned (.int .i64 (d : Nat)) ∧ Below wr.heap.size wr w') (fun e w' h => ⟨by rw [h.1, HDD.out], h.2⟩)).mono ?_; rintro e w1 ⟨rfl, hb⟩; have HBB := Lib.hid hb; clear hb)
          go_roundw
          case rel => exact ⟨q + 1, by omega, by go_num, Lib.hid (HB.out.trans (HBB.out.mono hsr))⟩
          case measure => simp [intOf]; omega
        · obtain rfl : q = i := by omega
          have hn0 : ¬ (n : Int) = 0 := by omega
          have hn1 : ((n : Int) == 0) = false := by simp; omega
          clear hqi
          go_wp2_with (go_at_call 51; refine ((degree_any m q A' n cap' esc _ (by exact HEw.out) hsm).mono (R' := fun e w' => e = .returned (.int .i64 1) ∧ Below wr.heap.size wr w') (fun e w' h => ⟨by rw [h.1, HD1.out]; rfl, h.2⟩)).mono ?_; rintro e w1 ⟨rfl, hb⟩; have HBB := Lib.hid hb; have hd0 : w1.cell? ⟨w.heap.size, 0, none⟩ = some (.int .i64 m) := ((hb.cell (p := ⟨w.heap.size, 0, none⟩) (by show w.heap.size < _; omega)).trans hc0); have hd1 : w1.cell? ⟨w.heap.size, 1, none⟩ = some (.slice A' n cap') := ((hb.cell (p := ⟨w.heap.size, 1, none⟩) (by show w.heap.size < _; omega)).trans hc1); clear hb)
          have HB1 : Hid (Below wo.heap.size wo w1) := Lib.hid (HB.out.trans (HBB.out.mono hsr))
          clear hc0 hc1 HEw HB HBB hsr
          go_loopw [3, 28] (fun v j wr => ∃ p : Nat, p ≤ k ∧ j = .int .i64 p ∧ v = .slice Al dn capl ∧ Hid (Below wo.heap.size wo wr)) (fun _ j _ => n - (intOf j).toNat)
          case atStart => exact ⟨0, Nat.zero_le _, rfl, rfl, HB1⟩
          case round =>
            clear HB1 hd0 hd1
            obtain ⟨p, hp, rfl, rfl, HB⟩ := hrel
            have hpn : p < n := by omega
            have hsr := HB.out.size
            have hc0 : wr.cell? ⟨w.heap.size, 0, none⟩ = some (.int .i64 m) := (HB.out.cell (p := ⟨w.heap.size, 0, none⟩) hsz).trans hb0
            have hc1 : wr.cell? ⟨w.heap.size, 1, none⟩ = some (.slice A' n cap') := (HB.out.cell (p := ⟨w.heap.size, 1, none⟩) hsz).trans hb1
            obtain ⟨eb, off, ⟨e0, e1, e2⟩, rfl, heb, hex, x0, x1, x2⟩ := (HEr.out.below HB.out).at_ hpn
            simp only at x0 x1 x2
            have hebr : eb < wr.heap.size := by omega
            have ip0 : (0 : Int) ≤ (p : Int) := by omega
            have ip1 : (p : Int) < (n : Int) := by omega
            by_cases hpk : p < k
            · obtain ⟨hq1, hq2⟩ := HQ.out p _ hpk hex
              simp only at hq1 hq2
              have hq3 : (e0 == (q : Int)) = false := by simpa using hq1
              have hq4 : (e1 == (q : Int)) = false := by simpa using hq2
              clear hex
              go_wp2
              go_roundw
              case rel => exact ⟨p + 1, by omega, by go_num, rfl, Lib.hid (HB.out.alloc (by omega) _)⟩
              case measure => simp [intOf]; omega
            · obtain rfl : p = k := by omega
              obtain ⟨rfl, rfl, rfl⟩ : e0 = a ∧ e1 = b ∧ e2 = w0 := by
                have := HK.out
                rw [hex] at this
                injection this with this
                injection this with h1 this
                injection this with h2 h3
                exact ⟨h1, h2, h3⟩
              have hval : e0 + e1 - (q : Int) = (c : Int) := by rcases hab with ⟨h1, h2⟩ | ⟨h1, h2⟩ <;> omega
              have hbd : 0 ≤ e0 ∧ e0 ≤ 10 ∧ 0 ≤ e1 ∧ e1 ≤ 10 := by rcases hab with ⟨h1, h2⟩ | ⟨h1, h2⟩ <;> omega
              obtain ⟨be0, be1, be2, be3⟩ := hbd
              have HHAB := Lib.hid hab
              have hor : ((e0 == (q : Int)) = true) ∨ ((e0 == (q : Int)) = false ∧ (e1 == (q : Int)) = true) := by
                rcases hab with ⟨h1, h2⟩ | ⟨h1, h2⟩
                · exact .inl (by simpa using h1)
                · exact .inr ⟨by simp; omega, by simpa using h2⟩
              have HOr : Hid ((wr.alloc (.cells #[.int .i64 e0, .int .i64 e1, .int .i64 e2] 43)).ownsRow (w.heap.size + 1) 3 1 (.slice Al dn capl) dn ((intsN done).map (Value.int .i64))) := Lib.hid (by
                have h := HC.out.own
                rw [HDN.out] at h
                exact (h.kept (grown_of_below HB.out none) (by cases hx : (Value.slice Al dn capl).ownBlock with
                  | none => exact .inl rfl
                  | some x => exact .inr (by simp))).alloc _)
              have hdn45 : dn ≤ 10 := by have := HM.out; have := HLL.out; omega
              clear hex hpk hab
              rcases hor with hq3 | ⟨hq3, hq4⟩
              all_goals
                go_wp2_with (first
                  | (at_builtin; refine wpList_append_lies _ rfl _ _ 25 rfl (w.heap.size + 1) 3 i1 (.int .i64 0) 1 8 Tryd.underlying25 HJ.out HJ0.out HJ1.out HJ2.out rfl (by decide) _ _ _ rfl (HOr.out.alloc _) ⟨wr.heap.size + 1, 0, none⟩ 1 1 [.int .i64 (c : Int)] rfl rfl (fun j u hj => by rcases j with _ | j <;> simp at hj; subst hj; simp [go_sem, Addr.add]) (by simp [Value.oneCell']) (by decide) (by unfold maxLen; omega) (by omega) (by simp; omega) (wr.heap.size + 2) (by simp) ?_))
                intro g' capg w3 hown' hgrow hat hgl3
                have hgs := hgrow.size
                simp at hgs
                have hfar : ∀ x : Addr, x.block < w.heap.size + 1 → some x.block ≠ (Value.slice Al dn capl).ownBlock := fun x hx he => by
                  have h := HOr.out
                  have := own_base h x.block he.symm
                  omega
                have hk3 : ∀ bl, bl < wr.heap.size → some bl ≠ (Value.slice Al dn capl).ownBlock → w3.heap[bl]? = wr.heap[bl]? := fun bl h1 h2 => (hgrow.block bl (by simp; omega) h2).trans ((Below.heap_alloc _ _ _ (by simp; omega)).trans (Below.heap_alloc _ _ _ h1))
                have HBX3 : Hid (RowOf w3 w.heap.size 24 [.int .i64 m, .slice (some ⟨eb, off, none⟩) n cap']) := Lib.hid (by
                  have h := HC.out.box
                  rw [HEN.out] at h
                  have h2 := h.keep HB.out
                  exact (hk3 w.heap.size (by omega) (hfar ⟨w.heap.size, 0, none⟩ (by show w.heap.size < _; omega))).trans h2)
                have HE3 : Hid (EdgesAt w3 w3.heap.size (some ⟨eb, off, none⟩) n esc) := Lib.hid ((HEr.out.go_ HB.out).move0 (fun h0 ad had => by
                  obtain ⟨h1, _, h3⟩ := HC.out.apart ad (by have := HEN.out; omega) had
                  exact hk3 ad.block (by omega) (fun he => h1 he.symm)) (by omega))
                have HB3 : Hid (Below w.heap.size w w3) := Lib.hid ((((HC.out.below.trans (HB.out.mono (by omega))).alloc (by omega) _).alloc (by simp; omega) _).grown hgrow (by simp; omega) (fun g hg => by have := own_base HOr.out g hg; omega))
                have HO3 : Hid (w3.ownsRow (w.heap.size + 1) 3 1 (.slice (some ⟨g', 0, none⟩) (dn + 1) capg) (dn + 1) ((intsN (done ++ [c])).map (Value.int .i64))) := Lib.hid (by
                  have e : (intsN (done ++ [c])).map (Value.int .i64) = (intsN done).map (Value.int .i64) ++ [.int .i64 (c : Int)] := by simp [intsN]
                  rw [e]; exact hown')
                have hd0 : w3.cell? ⟨w.heap.size, 0, none⟩ = some (.int .i64 m) := HBX3.out.cell rfl
                have hd1 : w3.cell? ⟨w.heap.size, 1, none⟩ = some (.slice (some ⟨eb, off, none⟩) n cap') := HBX3.out.cell rfl
                have hs3 : w.heap.size < w3.heap.size := by omega
                have HGL := Lib.hid hgl3
                clear hown' hgrow hat hfar hk3 hgs hgl3
                go_wp2_with (go_at_call 53; refine (less_any m p (some ⟨eb, off, none⟩) n cap' esc w3 HE3.out hsm).mono ?_; rintro e w4 ⟨hlo, hb4⟩; obtain ⟨A5, cap5, n5, rfl, HE4, HAP, HB4, HN5⟩ : ∃ A5 cap5 n5, e = .returned (.agg #[.int .i64 m, .slice A5 n5 cap5]) ∧ Hid (EdgesAt w4 w4.heap.size A5 n5 (esc.eraseIdx p)) ∧ Hid (∀ ad, A5 = some ad → w3.heap.size ≤ ad.block ∧ ad.block < w4.heap.size) ∧ Hid (Below w3.heap.size w3 w4) ∧ Hid ((esc.eraseIdx p).length = n5) := (by obtain ⟨A5, cap5, h1, h2, h3⟩ := hlo; exact ⟨A5, cap5, _, h1, Lib.hid h2, Lib.hid fun ad had => ⟨(h3 ad had).1, by obtain ⟨cur, hcur⟩ := (h3 ad had).2; exact (Array.getElem?_eq_some_iff.1 hcur).1⟩, Lib.hid hb4, Lib.hid rfl⟩); clear hlo hb4; have hq0 : w4.cell? ⟨w.heap.size, 0, none⟩ = some (.int .i64 m) := ((HB4.out.cell (p := ⟨w.heap.size, 0, none⟩) hs3).trans hd0); have hq1 : w4.cell? ⟨w.heap.size, 1, none⟩ = some (.slice (some ⟨eb, off, none⟩) n cap') := ((HB4.out.cell (p := ⟨w.heap.size, 1, none⟩) hs3).trans hd1); have hqf0 : w4.frozen? ⟨w.heap.size, 0, none⟩ = false := ((HB4.out.frozen (p := ⟨w.heap.size, 0, none⟩) hs3).trans (HBX3.out.frozen 0)); have hqf1 : w4.frozen? ⟨w.heap.size, 1, none⟩ = false := ((HB4.out.frozen (p := ⟨w.heap.size, 1, none⟩) hs3).trans (HBX3.out.frozen 1)); have hs4 : w.heap.size < w4.heap.size := (by have := HB4.out.size; omega))
                have HNEXT : Hid (RcInv m l w (.slice (some ⟨g', 0, none⟩) (dn + 1) capg) (esc.eraseIdx p) A5 cap5 (done ++ [c]) rest' ((w4.setCell ⟨w.heap.size, 0, none⟩ (.int .i64 m)).setCell ⟨w.heap.size, 1, none⟩ (.slice A5 n5 cap5))) := Lib.hid (by
                  have hne : ∀ bl, bl ≠ w.heap.size → ((w4.setCell ⟨w.heap.size, 0, none⟩ (.int .i64 m)).setCell ⟨w.heap.size, 1, none⟩ (.slice A5 n5 cap5)).heap[bl]? = w4.heap[bl]? := fun bl h => (Below.heap_setCell _ _ _ bl h).trans (Below.heap_setCell _ _ _ bl h)
                  have hl5 : (done ++ [c]).length = dn + 1 := by rw [List.length_append, HDN.out]; rfl
                  refine ⟨by rw [HC.out.split]; simp, HC.out.some.less p, HR.out, ?_, ?_, ?_, ?_, fun ad h0 had => ?_, ?_, ?_⟩
                  · have := HEN.out
                    rw [List.length_eraseIdx]; split <;> omega
                  · rw [HN5.out]
                    exact ((HBX3.out.keep HB4.out).set_ 0 (.int .i64 m)).set_ 1 (.slice A5 n5 cap5)
                  · rw [HN5.out]
                    exact HE4.out.move0 (fun _ ad had => hne ad.block (by have := (HAP.out ad had).1; omega)) (by simp)
                  · rw [hl5]
                    exact own_keepC (HO3.out.kept (grown_of_below HB4.out none) (.inr (by simp [Value.ownBlock]))) fun g hg => hne g (by omega)
                  · obtain ⟨h1, h2⟩ := HAP.out ad had
                    refine ⟨?_, by omega, by simpa using h2⟩
                    simp [Value.ownBlock]
                    have := HGL.out
                    omega
                  · exact ((HB3.out.trans (HB4.out.mono (by omega))).setCell (p := ⟨w.heap.size, 0, none⟩) (Nat.le_refl _) _).setCell (p := ⟨w.heap.size, 1, none⟩) (Nat.le_refl _) _
                  · simpa using hs4)
                go_roundw
                case rel => exact Lib.hid ⟨_, _, _, _, _, HNEXT.out⟩
                case measure => simp [sliceN]; omega
    · have HOUT : Hid (RcOut w l (.returned (.slice Al dn capl)) wr) := Lib.hid (by
        have hr : rest = [] := by
          have h1 := congrArg List.length HC.out.split
          rw [List.length_append, HDN.out, HLL.out] at h1
          exact List.length_eq_zero_iff.1 (by omega)
        have hd : done = l := by have h1 := HC.out.split; rw [hr, List.append_nil] at h1; exact h1.symm
        have h2 := HC.out.own
        rw [hd] at h2
        have h3 : dn = l.length := by rw [← HDN.out, hd]
        refine ⟨⟨_, rfl, ?_⟩, HC.out.below⟩
        rw [← h3] at h2 ⊢
        exact h2)
      have hdl2 : ¬ (dn : Int) < (L : Int) := by omega
      go_wp2
      go_ret
      exact HOUT.out
end Go.Proofs.YthfgbgmkiggjmabDoor
