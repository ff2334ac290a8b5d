/- lanes.Apart: as many ways as can be that have nothing in common but their ends. No conditions. -/
import Derived.Test.YtmelemjngnadpaaDoorZFollowGo
import Derived.Test.YtmelemjngnadpaaDoorZLaneNbGo
import Derived.Test.YtmelemjngnadpaaDoorZNetOfGo
import Derived.Test.YtmelemjngnadpaaDoorZb3
import Derived.Deep.AppendLies
import Derived.Deep.RegionLaw
namespace Go.Proofs.YtmelemjngnadpaaDoor
open Go.RowKit

/-- A block that begins with these numbers. -/
def OkRow (w : World) (B : Nat) (xs : List Int) : Prop := ∃ cur : Array Value, w.heap[B]? = some (.cells cur 3 (0, 0)) ∧ ∀ (t : Nat) (x : Int), xs[t]? = some x → cur[t]? = some (.int .i64 x)
theorem OkRow.of_block {w w' : World} {B : Nat} {xs : List Int} (h : OkRow w B xs) (hb : w'.heap[B]? = w.heap[B]?) : OkRow w' B xs := by
  obtain ⟨cur, h, hc⟩ := h
  exact ⟨cur, hb.trans h, hc⟩
theorem OkRow.lt {w : World} {B : Nat} {xs : List Int} (h : OkRow w B xs) : B < w.heap.size := by
  obtain ⟨cur, h, _⟩ := h
  exact (Array.getElem?_eq_some_iff.1 h).1
theorem OkRow.ints {w : World} {B : Nat} {xs : List Int} (h : OkRow w B xs) : IntsAt w w.heap.size (some ⟨B, 0, none⟩) xs.length xs := by
  refine ⟨rfl, fun _ => ⟨B, 0, rfl, h.lt, fun t x hx => ?_⟩⟩
  obtain ⟨cur, h, hc⟩ := h
  rw [Nat.zero_add]
  simp [World.cell?, h, hc t x hx]
theorem OkRow.of_own {w : World} {base n cap : Nat} {A : Option Addr} {xs : List Int} (h : w.ownsRow base 3 1 (.slice A n cap) n (xs.map (Value.int .i64))) (hn : 0 < n) : ∃ B, A = some ⟨B, 0, none⟩ ∧ base ≤ B ∧ n ≤ cap ∧ cap ≤ maxLen ∧ OkRow w B xs := by
  rcases h.2 with ⟨_, h0⟩ | ⟨g, cap', cur, hv, hb, hg, hlc, hcm, _, htake⟩
  · omega
  · injection hv with h1 h2 h3
    subst h3
    refine ⟨g, h1, hb, hlc, hcm, cur, hg, fun t x hx => ?_⟩
    have h4 : (cur.toList.take (n * 1))[t]? = some (.int .i64 x) := by rw [htake, List.getElem?_map, hx]; rfl
    have hl := (List.getElem?_eq_some_iff.1 h4).1
    rw [List.length_take] at hl
    rw [List.getElem?_take, if_pos (by omega)] at h4
    simpa using h4
/-- As far as the ways were gone. -/
structure AW (W0 : World) (r k : Nat) (Ls : List (List Nat)) (a b : Nat) (vals : List Value) (wr : World) : Prop where
  row : RowOf wr W0.heap.size 45 vals
  len : vals.length = r
  done : ∀ (i : Nat) (l : List Nat), i < k → Ls[i]? = some l → ∃ B c, vals[i]? = some (.slice (some ⟨B, 0, none⟩) (l.length + 2) c) ∧ l.length + 2 ≤ c ∧ c ≤ maxLen ∧ B ≠ W0.heap.size ∧ OkRow wr B (natsW (a :: (l ++ [b])))
  below : Below W0.heap.size W0 wr
/-- As far as one way was gone: its nodes lie in a row of its own. -/
structure InW (W0 : World) (k a : Nat) (vals : List Value) (pre : List Nat) (v : Value) (wr w2 : World) : Prop where
  row : RowOf w2 W0.heap.size 45 (vals.set k v)
  own : w2.ownsRow wr.heap.size 3 1 v (pre.length + 1) ((natsW (a :: pre)).map (Value.int .i64))
  but : But (fun b => b = W0.heap.size) wr w2
def ApartOut (m a b : Nat) (es : List E3) (w : World) (e : Ending) (w' : World) : Prop :=
  ∃ (g : Nat) (Ls : List (List Nat)), e = .returned (.tuple #[.slice (some ⟨g, 0, none⟩) Ls.length Ls.length, .int .i64 0]) ∧ SideAt w' w'.heap.size (some ⟨g, 0, none⟩) Ls.length Ls.length (Ls.map fun l => natsW (a :: (l ++ [b]))) ∧
    (∀ l, l ∈ Ls → WayL (adjE es) a b (a :: (l ++ [b])) ∧ l.length ≤ m) ∧ ApartL a b (Ls.map fun l => a :: (l ++ [b])) ∧ Ls.length ≤ m ∧ (∃ W : Nat → Bool, WallP (adjE es) m a b W ∧ sizeP W m ≤ Ls.length) ∧ Below w.heap.size w w'
theorem AW.out {W0 wr : World} {r a b : Nat} {Ls : List (List Nat)} {vals : List Value} (h : AW W0 r r Ls a b vals wr) (hr : Ls.length = r) (h10 : r ≤ 100) : SideAt wr wr.heap.size (some ⟨W0.heap.size, 0, none⟩) r r (Ls.map fun l => natsW (a :: (l ++ [b]))) := by
  refine ⟨by simpa using hr, fun e => (by cases e), Nat.le_refl _, by unfold maxLen; omega, fun _ => ⟨_, 0, rfl, h.row.lt, fun i xs hx => ?_⟩⟩
  rw [List.getElem?_map, Option.map_eq_some_iff] at hx
  obtain ⟨l, hl, rfl⟩ := hx
  obtain ⟨B, c, h1, h2, h3, _, h5⟩ := h.done i l (by have := (List.getElem?_eq_some_iff.1 hl).1; omega) hl
  have hlen : (natsW (a :: (l ++ [b]))).length = l.length + 2 := by rw [natsW_length]; simp
  refine ⟨some ⟨B, 0, none⟩, c, ?_, h5.ints, by rw [hlen]; exact h2, h3⟩
  rw [Nat.zero_add, hlen]
  exact h.row.cell h1
theorem natsW_snoc (pre : List Nat) (x : Nat) : (natsW (pre ++ [x])).map (Value.int .i64) = (natsW pre).map (Value.int .i64) ++ [.int .i64 (x : Int)] := by simp [natsW]
theorem InW.grow {W0 wr w2 W w6 : World} {k a x : Nat} {vals : List Value} {pre : List Nat} {v v' : Value} (h : InW W0 k a vals pre v wr w2) (hlt : W0.heap.size < wr.heap.size) (hW : Below w2.heap.size w2 W) (hgrow : W.grownBy w6 v.ownBlock)
    (hown : w6.ownsRow wr.heap.size 3 1 v' (pre.length + 1 + 1) ((natsW (a :: pre)).map (Value.int .i64) ++ [.int .i64 (x : Int)])) : RowOf w6 W0.heap.size 45 (vals.set k v) ∧ InW W0 k a vals (pre ++ [x]) v' wr (w6.setCell ⟨W0.heap.size, k, none⟩ v') := by
  have hs2 := h.but.size
  have hsW := hW.size
  have hbk : ∀ b, b < wr.heap.size → w6.heap[b]? = w2.heap[b]? := fun b hb => (hgrow.block b (by omega) (fun he => by have := own_base h.own b he.symm; omega)).trans (hW.block b (by omega))
  have hR : RowOf w6 W0.heap.size 45 (vals.set k v) := (hbk _ hlt).trans h.row
  refine ⟨hR, ?_, ?_, ?_⟩
  · have := hR.set_ k v'
    rwa [List.set_set] at this
  · rw [show a :: (pre ++ [x]) = (a :: pre) ++ [x] from rfl, natsW_snoc, List.length_append]
    exact own_set hown hlt _
  · have h6 : But (fun b => b = W0.heap.size) wr w6 := ⟨hgrow.os.trans (hW.os.trans h.but.os), hgrow.tape.trans (hW.tape.trans h.but.tape), hgrow.output.trans (hW.output.trans h.but.output), by have := hgrow.size; omega, fun b hb hn => (hbk b hb).trans (h.but.block b hb hn)⟩
    exact h6.set_ (p := ⟨W0.heap.size, k, none⟩) rfl _
theorem AW.next {W0 wr w7 : World} {r k a b : Nat} {Ls : List (List Nat)} {vals : List Value} {v : Value} {l : List Nat} (h : AW W0 r k Ls a b vals wr) (hi : InW W0 k a vals (l ++ [b]) v wr w7) (hl : Ls[k]? = some l) (hk : k < r) : AW W0 r (k + 1) Ls a b (vals.set k v) w7 := by
  have hg := h.row.lt
  refine ⟨hi.row, by rw [List.length_set]; exact h.len, fun i l' hik hl' => ?_, ?_⟩
  · rcases Nat.lt_or_ge i k with hlt | hge
    · obtain ⟨B, c, h1, h2, h3, h4, h5⟩ := h.done i l' hlt hl'
      refine ⟨B, c, ?_, h2, h3, h4, h5.of_block (hi.but.block B h5.lt h4)⟩
      rw [List.getElem?_set_ne (by omega)]; exact h1
    · obtain rfl : i = k := by omega
      rw [hl] at hl'
      injection hl' with hl'
      subst hl'
      have hn : (l ++ [b]).length + 1 = l.length + 2 := by simp
      obtain ⟨A, cap, rfl⟩ := own_form hi.own
      obtain ⟨B, rfl, h1, h2, h3, h4⟩ := OkRow.of_own hi.own (by omega)
      refine ⟨B, cap, ?_, by omega, h3, by omega, h4⟩
      rw [List.getElem?_set_self (by have := h.len; omega), hn]
  · exact ⟨hi.but.os.trans h.below.os, hi.but.tape.trans h.below.tape, hi.but.output.trans h.below.output, Nat.le_trans h.below.size hi.but.size, fun b' hb' => (hi.but.block b' (by have := h.below.size; omega) (by omega)).trans (h.below.block b' hb')⟩
theorem nodeOf_v (h z : Nat) (hh : h = 2 * z) (hz : z ≤ 1000) (w : World) : Calls Tryd.prog 21 #[.int .i64 (h : Int)] w fun e w' => e = .returned (.int .i64 (z : Int)) ∧ w' = w := by
  subst hh; exact nodeOf_any z hz w

set_option maxRecDepth 100000 in
set_option maxHeartbeats 2000000 in
theorem apart_bad (n v : Int) (A : Option Addr) (len cap : Nat) (es : List E3) (a b : Int) (w : World) (hE : EdgesAt w w.heap.size A len es) (hv : waysF n es a b = v) (hv0 : v ≠ 0) :
    Calls Tryd.prog 8 #[.agg #[.int .i64 n, .slice A len cap], .int .i64 a, .int .i64 b] w fun e w' => e = .returned (.tuple #[.slice none 0 0, .int .i64 v]) ∧ Below w.heap.size w w' := by
  have HX := Lib.hid (BoxG.start (n := n) (cap := cap) hE)
  have HV := Lib.hid hv
  have HV0 := Lib.hid hv0
  have hb0 : (v != 0) = true := by simpa using hv0
  clear hE hv hv0
  go_enter Tryd.func8, Tryd.ntmps8
  go_wp2_with fail
  refine (laneNb_bad n v A len cap es a b _ (by exact HX.out.edges) HV.out HV0.out).mono ?_
  rintro e w1 ⟨rfl, hB⟩
  have HX1 := Lib.hid (HX.out.next hB)
  clear hB
  go_wp2
  go_ret2
  exact ⟨rfl, HX1.out.below⟩

set_option maxRecDepth 100000 in
set_option maxHeartbeats 4000000 in
theorem apart_good (m a b : Nat) (A : Option Addr) (len cap : Nat) (es : List E3) (w : World) (hE : EdgesAt w w.heap.size A len es) (hv : waysF m es a b = 0) :
    Calls Tryd.prog 8 #[.agg #[.int .i64 m, .slice A len cap], .int .i64 a, .int .i64 b] w (ApartOut m a b es w) := by
  have HX := Lib.hid (BoxG.start (n := m) (cap := cap) hE)
  have HV := Lib.hid hv
  obtain ⟨h0, p0, p1, p2, p3, p4, hn⟩ := waysF_zero hv
  obtain ⟨g0, g1, g2, hg⟩ := good_of_gcheck h0
  have ha : a < m := by omega
  have hb : b < m := by omega
  have hm10 : m ≤ 10 := by omega
  have hlen : len ≤ 45 := by have := hE.1; omega
  have HG := Lib.hid hg
  have HBG := Lib.hid (halfA_big (a := a) (b := b) hg hm10 g2)
  have HH := Lib.hid (laneN_half hg hm10 g2 ha hb (by omega) hn)
  clear hE hv h0 hg hn g2
  obtain ⟨i0, hi, hz0, hz1, hz2⟩ := info_parts infoInt
  have HI := Lib.hid hi
  have HI0 := Lib.hid hz0
  have HI1 := Lib.hid hz1
  have HI2 := Lib.hid hz2
  clear hi hz0 hz1 hz2
  go_enter Tryd.func8, Tryd.ntmps8
  go_wp2_with fail
  refine (laneNb_good m a b A len cap es _ (by exact HX.out.edges) HV.out).mono ?_
  rintro e w1 ⟨gn, rfl, _, _, hB⟩
  have HX1 := Lib.hid (HX.out.next hB)
  have k0 := HX1.out.c0
  have k1 := HX1.out.c1
  clear hB
  go_wp2_with fail
  refine (netOf_any m a b A len cap es _ (by exact HX1.out.edges) HG.out hm10 hlen ha hb).mono ?_
  rintro e w2 ⟨A', cap', rfl, hL, hB⟩
  have HX2 := Lib.hid (HX1.out.next hB)
  have HL := Lib.hid hL
  clear hB hL k0 k1
  go_wp2_with fail
  refine (follow_any (2 * m) A' _ cap' (halfA m a b es) a b _ (by exact HL.out) HBG.out (by omega) (by omega)).mono ?_
  rintro e w3 ⟨A6, c6, g2, f, v, rfl, hI, hR, hfl, hn, hB⟩
  have HX3 := Lib.hid (HX2.out.next hB)
  obtain ⟨Ls, hl1, hl2, hl3, hl4, hl5, hl6⟩ := follow_ways HH.out hfl hn
  have HFI := Lib.hid hI
  have HNX := Lib.hid hR
  have HL2 : Hid (∀ (i x : Nat), (firstsTo (netP ((2 * m : Nat) : Int) (halfA m a b es)) f (2 * a + 1) (halfA m a b es).length)[i]? = some x → ∃ l : List Nat, Ls[i]? = some l ∧ HalfWay (nextTo (netP ((2 * m : Nat) : Int) (halfA m a b es)) f (2 * a + 1) (halfA m a b es).length) m b x l ∧ x < 2 * m) := Lib.hid hl2
  have HL1 : Hid ((firstsTo (netP ((2 * m : Nat) : Int) (halfA m a b es)) f (2 * a + 1) (halfA m a b es).length).length = Ls.length) := Lib.hid hl1.symm
  have HL3 := Lib.hid hl3
  have HL4 := Lib.hid hl4
  have HL6 := Lib.hid hl6
  clear hI hR hfl hn hB hl1 hl2 hl3 hl4 hl6 HL HBG HH
  generalize firstsTo (netP ((2 * m : Nat) : Int) (halfA m a b es)) f (2 * a + 1) (halfA m a b es).length = F at *
  generalize nextTo (netP ((2 * m : Nat) : Int) (halfA m a b es)) f (2 * a + 1) (halfA m a b es).length = nx at *
  obtain ⟨r, hr⟩ : ∃ r, F.length = r := ⟨_, rfl⟩
  rw [hr] at HFI ⊢
  have hrL : Ls.length = r := by rw [← HL1.out, hr]
  have hr10 : r ≤ 10 := by omega
  have HRL := Lib.hid hrL
  have HFr := Lib.hid hr
  clear hr hrL HL1
  have hmk := fun W => run_make_row' (P := Tryd.prog) 32 45 (.slice none 0 0) 24 Tryd.underlying32 (by kernel_rfl) rfl .i64 .i64 r (by omega) (by omega) W
  go_wp2
  clear hmk
  obtain ⟨W1, hW1⟩ : ∃ W1, w3.alloc (.cells (madeCells #[.slice none 0 0] r) 45) = W1 := ⟨_, rfl⟩
  rw [hW1]
  have HS : Hid (∃ vals, AW w3 r 0 Ls a b vals W1) := Lib.hid ⟨List.replicate r (.slice none 0 0), by rw [← hW1]; exact RowOf.made w3 _ r _, by simp, fun i l h _ => absurd h (Nat.not_lt_zero i), by rw [← hW1]; exact (Below.refl _ _).alloc (Nat.le_refl _) _⟩
  clear hW1
  go_loopw [41] (fun j wr => ∃ k : Nat, k ≤ r ∧ j = .int .i64 k ∧ Hid (∃ vals, AW w3 r k Ls a b vals wr)) (fun j _ => r - (intOf j).toNat)
  case atStart => exact ⟨0, Nat.zero_le _, rfl, HS⟩
  case round =>
    clear HS
    obtain ⟨k, hk, rfl, HK⟩ := hrel
    obtain ⟨vals, HA⟩ : ∃ vals, Hid (AW w3 r k Ls a b vals wr) := by
      obtain ⟨vals, h⟩ := HK.out
      exact ⟨vals, Lib.hid h⟩
    clear HK
    have hg3 : w3.heap.size < wr.heap.size := HA.out.row.lt
    by_cases hlt : k < r
    · obtain ⟨bf, of_, x, rfl, hbf, hx, hcx⟩ := (HFI.out.below HA.out.below).at_ hlt
      obtain ⟨x0, hx0, rfl⟩ : ∃ x0 : Nat, F[k]? = some x0 ∧ x = (x0 : Int) := by
        rw [List.getElem?_map, Option.map_eq_some_iff] at hx
        obtain ⟨x0, h1, h2⟩ := hx
        exact ⟨x0, h1, h2.symm⟩
      obtain ⟨l, hl, hw, hx2⟩ := HL2.out k x0 hx0
      obtain ⟨u, hu⟩ : ∃ u, vals[k]? = some u := ⟨_, List.getElem?_eq_getElem (by have := HA.out.len; omega)⟩
      have hck := HA.out.row.cell hu
      have hfk := HA.out.row.frozen k
      have hlm := (HL3.out l (List.mem_of_getElem? hl)).2
      have ik0 : (0 : Int) ≤ (k : Int) := by omega
      have ik1 : (k : Int) < (r : Int) := by omega
      have HLk := Lib.hid hl
      have HW := Lib.hid hw
      clear hx hx0 hl hw hu
      go_wp2
      obtain ⟨wo, rfl⟩ : ∃ wo : World, wo = wr := ⟨_, rfl⟩
      obtain ⟨W2, hW2⟩ : ∃ W2, ((wo.setCell ⟨w3.heap.size, k, none⟩ (.slice (some ⟨wo.heap.size, 0, none⟩) 1 1)).alloc (.cells #[.int .i64 (a : Int)] 3)) = W2 := ⟨_, rfl⟩
      rw [hW2]
      have HIN : Hid (InW w3 k a vals [] (.slice (some ⟨wo.heap.size, 0, none⟩) 1 1) wo W2) := Lib.hid (by
        rw [← hW2]
        refine ⟨(HA.out.row.set_ k _).alloc _, ⟨rfl, .inr ⟨wo.heap.size, 1, #[.int .i64 (a : Int)], rfl, Nat.le_refl _, ?_, Nat.le_refl _, by unfold maxLen; omega, rfl, rfl⟩⟩, ((But.refl (fun b => b = w3.heap.size) wo).set_ (p := ⟨w3.heap.size, k, none⟩) rfl _).alloc _⟩
        have := (MapKept.heap_alloc (wo.setCell ⟨w3.heap.size, k, none⟩ (.slice (some ⟨wo.heap.size, 0, none⟩) 1 1)) (.cells #[.int .i64 (a : Int)] 3)).1
        simpa using this)
      have hvl : k < vals.length := by have := HA.out.len; omega
      clear hW2 hck hfk hcx
      go_loopg [15] l.length (fun c h w2 => ∃ (hN : Nat) (pre suf : List Nat) (A2 : Option Addr) (c2 : Nat), h = .int .i64 hN ∧ suf.length = c ∧ Hid (l = pre ++ suf ∧ HalfWay nx m b hN suf ∧ hN < 2 * m) ∧ Hid (InW w3 k a vals pre (.slice A2 (pre.length + 1) c2) wo w2))
      case atStart => exact ⟨x0, [], l, _, 1, rfl, rfl, Lib.hid ⟨rfl, HW.out, hx2⟩, HIN⟩
      case round =>
        clear HIN
        obtain ⟨hN, pre, suf, A2, c2, rfl, hsuf, HH, HIN⟩ := hrel
        have hck : wr.cell? ⟨w3.heap.size, k, none⟩ = some (.slice A2 (pre.length + 1) c2) := HIN.out.row.cell (List.getElem?_set_self hvl)
        have hfk := HIN.out.row.frozen k
        have hpm : pre.length + suf.length ≤ 10 := by
          have h := HH.out.1
          rw [h, List.length_append] at hlm
          omega
        have hgw : w3.heap.size < wr.heap.size := HIN.out.row.lt
        have hwo := HIN.out.but.size
        cases suf with
        | nil =>
          have hcond : ((hN : Int) != 2 * (b : Int)) = false := by
            have h : hN = 2 * b := HH.out.2.1
            rw [h]; simp
          go_wp2_with fail
          refine (wayIn_any b (by omega) (by omega) _).mono ?_
          rintro e w5 ⟨rfl, rfl⟩
          go_wp2_with (at_builtin; refine wpList_append_own _ rfl _ _ 45 rfl wo.heap.size 3 i0 (.int .i64 0) 1 8 Tryd.underlying45 HI.out HI0.out HI1.out HI2.out rfl (by decide) _ _ _ rfl (HIN.out.own.alloc _) ⟨w5.heap.size, 0, none⟩ 1 1 [.int .i64 (b : Int)] rfl rfl ?c1 ?c2 ?c3 ?c4 ?c5 ?_)
          try (case c1 => exact cell_one_new _ _ _)
          case c2 => simp [Value.oneCell']
          case c3 => unfold maxLen; omega
          case c4 => omega
          case c5 => simp; omega
          intro v' w6 hown' hgrow _
          obtain ⟨A3, c3, rfl⟩ := own_form hown'
          obtain ⟨hR6, hIn6⟩ := HIN.out.grow hg3 ((Below.refl _ _).alloc (Nat.le_refl _) _) hgrow hown'
          have hc6 := hR6.cell (List.getElem?_set_self hvl)
          have hf6 := hR6.frozen k
          have HN : Hid (AW w3 r (k + 1) Ls a b (vals.set k (.slice A3 (pre.length + 1 + 1) c3)) (w6.setCell ⟨w3.heap.size, k, none⟩ (.slice A3 (pre.length + 1 + 1) c3))) := Lib.hid (by
            have h := HH.out.1
            rw [List.append_nil] at h
            exact HA.out.next (by rw [h]; exact hIn6) HLk.out hlt)
          clear hown' hgrow hR6 hIn6 hck hfk
          go_wp2
          go_roundw
          case rel => exact ⟨k + 1, by omega, by go_num, Lib.hid ⟨_, HN.out⟩⟩
          case measure => simp [intOf]; omega
        | cons z suf =>
          obtain ⟨hz, hzm, hzb, hnx, hrest⟩ := HH.out.2.1
          have hcond : ((hN : Int) != 2 * (b : Int)) = true := by simp; omega
          have HZ := Lib.hid hz
          have HRest := Lib.hid hrest
          have hN2 := HH.out.2.2
          clear hz hrest
          go_wp2_with fail
          refine (wayIn_any b (by omega) (by omega) _).mono ?_
          rintro e w5 ⟨rfl, rfl⟩
          go_wp2
          have hnb : w5.heap[w3.heap.size]? ≠ none := by rw [HIN.out.row]; simp
          go_region_law (first
            | (refine step_append_lies _ (by rfl) (.tmp 68) (.tmp 71) 45 (by rfl) wo.heap.size 3 i0 (.int .i64 0) 1 8 Tryd.underlying45 HI.out HI0.out HI1.out HI2.out rfl (by decide) (.slice A2 (pre.length + 1) c2) (pre.length + 1) ((natsW (a :: pre)).map (Value.int .i64)) (by rfl) (HIN.out.own.drew.alloc _) ⟨w5.heap.size, 0, none⟩ 1 1 [.int .i64 (z : Int)] (by rfl) (by rfl) (World.news_of_block (cs := #[.int .i64 (z : Int)]) (t := 3) (fr := (0, 0)) (heap_alloc_new w5.drew _)) (by simp [Value.oneCell']) (by decide) (by unfold maxLen; omega) (by omega) (by simp; omega) (w5.heap.size + 1) (by simp) ?_; intro g6 cap6 w6 hown6 hgrow6 hat6 hlt6; obtain ⟨hR6, hIn6⟩ := HIN.out.grow hg3 ((Below.refl _ _).drew.alloc (Nat.le_refl _) _) hgrow6 hown6; have hc6 := hR6.cell (List.getElem?_set_self hvl); have hf6 := hR6.frozen k; have HN6 := Lib.hid hIn6; clear hown6 hgrow6 hat6 hR6 hIn6)
            | (go_simp; go_at_call 21; refine (nodeOf_v hN z HZ.out (by omega) _).mono ?_; rintro e w9 ⟨rfl, rfl⟩))
          all_goals
            obtain ⟨W5, hW5⟩ : ∃ W5, w6.setCell ⟨w3.heap.size, k, none⟩ (.slice (some ⟨g6, 0, none⟩) (pre.length + 1 + 1) cap6) = W5 := ⟨_, rfl⟩
            rw [hW5] at HN6 ⊢
            have hg2 : g2 < w3.heap.size := HNX.out.lt
            have hrow : RowC W5 g2 (2 * m) (fun i => (nx i : Int)) := HNX.out.of_block ((HN6.out.but.block g2 (by omega) (by omega)).trans (HA.out.below.block g2 hg2))
            have y1 := hrow.cell hN2
            have y2 := hrow.cell hnx
            have iN0 : (0 : Int) ≤ (hN : Int) := by omega
            have iN1 : (hN : Int) < 2 * (m : Int) := by omega
            have iN2 : (0 : Int) ≤ (nx hN : Int) := by omega
            have iN3 : (nx hN : Int) < 2 * (m : Int) := by omega
            have HX5 : Hid (l = (pre ++ [z]) ++ suf ∧ HalfWay nx m b (nx (nx hN)) suf ∧ nx (nx hN) < 2 * m) := Lib.hid (by
              refine ⟨by rw [HH.out.1]; simp, HRest.out, ?_⟩
              have h := HRest.out
              cases suf with
              | nil => have h' : nx (nx hN) = 2 * b := h; omega
              | cons y r => obtain ⟨h1, h2, _⟩ := h; omega)
            have HP : Hid ((pre ++ [z]).length = pre.length + 1) := Lib.hid (by simp)
            clear hW5 hrow hck hfk hc6 hf6
            go_wp2
            go_roundg suf.length
            case measure => simp only [List.length_cons] at hsuf; omega
            case rel => exact ⟨nx (nx hN), pre ++ [z], suf, some ⟨g6, 0, none⟩, cap6, rfl, rfl, HX5, by rw [HP.out]; exact HN6⟩
    · obtain rfl : k = r := by omega
      have HO : Hid (ApartOut m a b es w (.returned (.tuple #[.slice (some ⟨w3.heap.size, 0, none⟩) k k, .int .i64 0])) wr) := Lib.hid (by
        have h1 := HRL.out
        subst h1
        exact ⟨_, Ls, rfl, HA.out.out rfl (by omega), HL3.out, HL4.out, hl5, HL6.out, HX3.out.below.trans (HA.out.below.mono HX3.out.below.size)⟩)
      go_wp2
      go_ret2
      exact HO.out
end Go.Proofs.YtmelemjngnadpaaDoor
