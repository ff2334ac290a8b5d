/- LanesApart, walked: MENGER: as many ways apart as the smallest wall has members. -/
import Derived.Test.YtmelemjngnadpaaZApartGo
import Derived.Test.YtmelemjngnadpaaZRefWayWall
import Derived.Test.YtmelemjngnadpaaZLanesEnd
import Derived.Test.YtmelemjngnadpaaZHas
import Derived.Test.YtmelemjngnadpaaZb3
namespace Go.Proofs.Ytmelemjngnadpaa
open Go.RowKit

theorem own_below1 {w w' : World} {base n : Nat} {t : TypeId} {v : Value} {xs : List Value} (h : w.ownsRow base t 1 v n xs) (hb : Below w.heap.size w w') : w'.ownsRow base t 1 v n xs := by
  have hl := h.lt
  refine ⟨h.1, ?_⟩
  rcases h.2 with h0 | ⟨g, cap, cur, rfl, hg, hr, hrest⟩
  · exact .inl h0
  · exact .inr ⟨g, cap, cur, rfl, hg, (hb.block g (hl g rfl).2).trans hr, hrest⟩
section
variable {m a b : Nat} {es : List E3}
theorem wayL_nodup {adj : Nat → Nat → Bool} {l : List Nat} (h : WayL adj a b l) : l.Nodup := by
  obtain ⟨q, p, hw, rfl⟩ := h
  rw [List.nodup_iff_pairwise_ne, List.pairwise_map]
  refine List.Pairwise.imp_of_mem (fun {s t} hs ht hne he => hne ?_) (List.nodup_iff_pairwise_ne.1 List.nodup_range)
  rw [List.mem_range] at hs ht
  exact hw.inj s t (by omega) (by omega) he
theorem wayL_facts (hg : goodE m es) (hb : b < m) {l : List Nat} (h : WayL (adjE es) a b l) :
    (∀ i, i < l.length → l.getD i 0 < m) ∧ (∀ i j, i < j → j < l.length → l.getD i 0 ≠ l.getD j 0) ∧ l.getD 0 0 = a ∧ l.getD (l.length - 1) 0 = b ∧ ∀ i, i + 1 < l.length → adjE es (l.getD i 0) (l.getD (i + 1) 0) = true := by
  obtain ⟨q, p, hw, rfl⟩ := h
  have hl : ((List.range (q + 1)).map p).length = q + 1 := by simp
  have hget : ∀ i, i < q + 1 → ((List.range (q + 1)).map p).getD i 0 = p i := fun i hi => by
    rw [List.getD_eq_getElem?_getD, List.getElem?_map, List.getElem?_range hi]; rfl
  rw [hl]
  refine ⟨fun i hi => ?_, fun i j hij hj => ?_, ?_, ?_, fun i hi => ?_⟩
  · rw [hget i hi]
    by_cases e : i = q
    · rw [e, hw.dst]; exact hb
    · exact (adjE_lt hg (hw.step i (by omega))).1
  · rw [hget i (by omega), hget j hj]
    intro he
    have := hw.inj i j (by omega) (by omega) he
    omega
  · rw [hget 0 (by omega)]; exact hw.src
  · rw [hget _ (by omega)]; exact hw.dst
  · rw [hget i (by omega), hget (i + 1) hi]; exact hw.step i (by omega)
theorem ways_flat {adj : Nat → Nat → Bool} {Ls : List (List Nat)} (h1 : ∀ l, l ∈ Ls → WayL adj a b (a :: (l ++ [b]))) (h2 : ApartL a b (Ls.map fun l => a :: (l ++ [b]))) : Ls.flatten.Nodup := by
  have hin : ∀ l, l ∈ Ls → l.Nodup ∧ a ∉ l ∧ b ∉ l := fun l hl => by
    have h := wayL_nodup (h1 l hl)
    rw [List.nodup_cons, List.nodup_append] at h
    obtain ⟨g1, g2, _, g3⟩ := h
    exact ⟨g2, fun hh => g1 (List.mem_append_left _ hh), fun hh => g3 b hh b (by simp) rfl⟩
  rw [List.nodup_iff_pairwise_ne, List.pairwise_flatten]
  refine ⟨fun l hl => List.nodup_iff_pairwise_ne.1 (hin l hl).1, ?_⟩
  unfold ApartL at h2
  rw [List.pairwise_map] at h2
  refine List.Pairwise.imp_of_mem (fun {l l'} hl hl' h x hx y hy hxy => ?_) h2
  subst hxy
  rcases h x (by simp [hx]) (by simp [hy]) with e | e
  · exact (hin l hl).2.1 (e ▸ hx)
  · exact (hin l hl).2.2 (e ▸ hx)
theorem flat_split {Ls : List (List Nat)} {k j x : Nat} {l : List Nat} (hl : Ls[k]? = some l) (hx : l[j]? = some x) : Ls.flatten = ((Ls.take k).flatten ++ l.take j) ++ x :: (l.drop (j + 1) ++ (Ls.drop (k + 1)).flatten) := by
  obtain ⟨hk, rfl⟩ := List.getElem?_eq_some_iff.1 hl
  obtain ⟨hj, rfl⟩ := List.getElem?_eq_some_iff.1 hx
  have e1 : Ls.flatten = (Ls.take k ++ Ls[k] :: Ls.drop (k + 1)).flatten := by rw [← List.drop_eq_getElem_cons hk, List.take_append_drop]
  have e2 : (Ls[k]).take j ++ (Ls[k])[j] :: (Ls[k]).drop (j + 1) = Ls[k] := by rw [← List.drop_eq_getElem_cons hj, List.take_append_drop]
  rw [e1, List.flatten_append, List.flatten_cons, List.append_assoc]
  congr 1
  rw [← List.cons_append, ← List.append_assoc, e2]
theorem flat_new {Ls : List (List Nat)} {k j x : Nat} {l : List Nat} (hn : Ls.flatten.Nodup) (hl : Ls[k]? = some l) (hx : l[j]? = some x) : hasI (natsW ((Ls.take k).flatten ++ l.take j)) (x : Int) = false := by
  rw [flat_split hl hx, List.nodup_append] at hn
  cases h : hasI (natsW ((Ls.take k).flatten ++ l.take j)) (x : Int) with
  | false => rfl
  | true =>
    rw [hasI_iff] at h
    obtain ⟨y, hy, he⟩ := List.mem_map.1 h
    have : y = x := by omega
    subst this
    exact absurd rfl (hn.2.2 y hy y (by simp))
theorem flat_len {Ls : List (List Nat)} (hn : Ls.flatten.Nodup) (hm : ∀ x, x ∈ Ls.flatten → x < m) : Ls.flatten.length ≤ m := by
  have h := List.Nodup.length_le_of_subset (l₁ := Ls.flatten) (l₂ := List.range m) hn fun x hx => List.mem_range.2 (hm x hx)
  simpa using h
theorem take_flat_le (Ls : List (List Nat)) (k : Nat) : (Ls.take k).flatten.length ≤ Ls.flatten.length := by
  conv => rhs; rw [← List.take_append_drop k Ls]
  rw [List.flatten_append, List.length_append]; omega
theorem take_flat_succ {Ls : List (List Nat)} {k : Nat} {l : List Nat} (hl : Ls[k]? = some l) : (Ls.take (k + 1)).flatten = (Ls.take k).flatten ++ l := by
  obtain ⟨hk, rfl⟩ := List.getElem?_eq_some_iff.1 hl
  rw [List.take_succ_eq_append_getElem hk, List.flatten_append]
  simp
end
set_option maxRecDepth 100000 in
set_option maxHeartbeats 4000000 in
theorem lanesApart_any (n : Int) (A : Option Addr) (len cap : Nat) (es : List E3) (a b : Int) (w : World) (hE : EdgesAt w w.heap.size A len es) (hcap : len ≤ cap) (_ : ∀ e ∈ es, WfE e) (_ : (Lit.int .i64 n).wf = true) (_ : (Lit.int .i64 a).wf = true) (_ : (Lit.int .i64 b).wf = true) :
    Calls Try.prog 3 #[.agg #[.int .i64 n, .slice A len cap], .int .i64 a, .int .i64 b] w fun e w' => e = .returned (.bool true) ∧ Below w.heap.size w w' := by
  have HX := Lib.hid (BoxG.start (n := n) (cap := cap) hE)
  clear hE
  obtain ⟨v, hv⟩ : ∃ v, waysF n es a b = v := ⟨_, rfl⟩
  by_cases h0 : v = 0
  · subst h0
    obtain ⟨hgc, p0, p1, p2, p3, p4, hn⟩ := waysF_zero hv
    obtain ⟨g0, g1, g2, hg⟩ := good_of_gcheck hgc
    obtain ⟨m, rfl⟩ := Int.eq_ofNat_of_zero_le g0
    obtain ⟨i, rfl⟩ := Int.eq_ofNat_of_zero_le p0
    obtain ⟨j, rfl⟩ := Int.eq_ofNat_of_zero_le p2
    have hi : i < m := by omega
    have hj : j < m := by omega
    have hij : i ≠ j := by omega
    have hm10 : m ≤ 10 := by omega
    have hlen : len ≤ 45 := by have := HX.out.edges.1; omega
    have HV := Lib.hid hv
    have HG := Lib.hid hg
    have HNO : Hid (adjE es i j = false) := Lib.hid hn
    clear hv hgc hg hn g2
    obtain ⟨i0, hi0, hz0, hz1, hz2⟩ := info_parts infoInt
    have HI := Lib.hid hi0
    have HI0 := Lib.hid hz0
    have HI1 := Lib.hid hz1
    have HI2 := Lib.hid hz2
    clear hi0 hz0 hz1 hz2
    go_enter Try.func3, Try.ntmps3
    go_wp2_with fail
    refine (apart_good m i j A len cap es _ (by exact HX.out.edges) HV.out).mono ?_
    rintro e w1 ⟨g, Ls, rfl, hS, hW, hP, hl5, hWW, hB⟩
    have HX1 := Lib.hid (HX.out.next hB)
    have HS := Lib.hid hS
    have HW := Lib.hid hW
    have HP := Lib.hid hP
    have HWW := Lib.hid hWW
    have HFL := Lib.hid (ways_flat (fun l hl => (hW l hl).1) hP)
    have HFM : Hid (Ls.flatten.length ≤ 10) := Lib.hid (by
      have h := flat_len (m := m) HFL.out fun x hx => by
        obtain ⟨l, hl, hxl⟩ := List.mem_flatten.1 hx
        have hf := (wayL_facts HG.out hj (hW l hl).1).1
        obtain ⟨t, ht⟩ := List.getElem?_of_mem (List.mem_cons_of_mem i (List.mem_append_left [j] hxl))
        have := hf t (List.getElem?_eq_some_iff.1 ht).1
        rw [List.getD_eq_getElem?_getD, ht] at this
        exact this
      omega)
    have k0 := HX1.out.c0
    have k1 := HX1.out.c1
    clear hB hS hW hP hWW
    obtain ⟨r, hr⟩ : ∃ r, Ls.length = r := ⟨_, rfl⟩
    rw [hr] at HS ⊢
    have HRL := Lib.hid hr
    have hr10 : r ≤ 10 := by omega
    clear hr
    go_wp2_with fail
    refine (waysCheck_v m 0 A len cap es i j _ (by exact HX1.out.edges) hcap HV.out).mono ?_
    rintro e w2 ⟨rfl, hB⟩
    have HX2 := Lib.hid (HX1.out.next hB)
    have HS2 := Lib.hid (HS.out.go_ hB)
    clear hB k0 k1
    have hszw : w.heap.size < w2.heap.size := HX2.out.lt
    go_wp2
    go_loopw [10, 38] (fun v q wr => ∃ k : Nat, k ≤ r ∧ q = .int .i64 k ∧ Hid (wr.ownsRow w2.heap.size 3 1 v (Ls.take k).flatten.length ((natsW (Ls.take k).flatten).map (Value.int .i64))) ∧ Hid (Below w2.heap.size w2 wr)) (fun _ q _ => r - (intOf q).toNat)
    case atStart => exact ⟨0, Nat.zero_le _, rfl, Lib.hid (World.ownsRow_nil ..), Lib.hid (Below.refl _ _)⟩
    case round =>
      obtain ⟨k, hk, rfl, HO, HB⟩ := hrel
      have HXr := Lib.hid (HX2.out.next HB.out)
      have e0 := HXr.out.c0
      have e1 := HXr.out.c1
      have hwr := HB.out.size
      by_cases hlt : k < r
      · obtain ⟨bg, og, xs, A3, c3, hA3, hbg, hxs, hcx, hI3, hn3, hc3⟩ := HS2.out.get hlt
        replace hcx := (HB.out.cell (p := ⟨bg, og + k, none⟩) hbg).trans hcx
        injection hA3 with hA3
        injection hA3 with hA3 hA4
        subst hA3
        subst hA4
        rw [List.getElem?_map, Option.map_eq_some_iff] at hxs
        obtain ⟨l, hl, rfl⟩ := hxs
        have hnl : (natsW (i :: (l ++ [j]))).length = l.length + 2 := by rw [natsW_length]; simp
        rw [hnl] at hcx hI3 hn3
        have hll : (i :: (l ++ [j])).length = l.length + 2 := by simp
        obtain ⟨f1, f2, f3, f4, f5⟩ := wayL_facts HG.out hj (HW.out l (List.mem_of_getElem? hl)).1
        have hlm := (HW.out l (List.mem_of_getElem? hl)).2
        rw [hll] at f1 f2 f4 f5
        have HISW : Hid (∀ W : World, EdgesAt W W.heap.size A len es → IntsAt W W.heap.size A3 (l.length + 2) (natsW (i :: (l ++ [j]))) → Calls Try.prog 6 #[.agg #[.int .i64 m, .slice A len cap], .int .i64 i, .int .i64 j, .slice A3 (l.length + 2) c3] W fun e w' => e = .returned (.bool true) ∧ Below W.heap.size W w') := Lib.hid fun W h1 h2 =>
          isWay_true m i j A A3 len cap (l.length + 2) c3 es (i :: (l ++ [j])) W h1 hlen h2 hn3 (by omega) (by omega) f1 f2 f3 f4 f5
        have HI2w := Lib.hid hI3
        have HI3 := Lib.hid ((hI3.below HB.out).more hwr)
        have HLk := Lib.hid hl
        rw [Nat.zero_add] at hcx
        have ik0 : (0 : Int) ≤ (k : Int) := by omega
        have ik1 : (k : Int) < (r : Int) := by omega
        clear f1 f2 f3 f4 f5 hl hI3 hnl hll
        go_wp2_with fail
        refine (HISW.out _ (by exact HXr.out.edges) (by exact HI3.out)).mono ?_
        rintro e w4 ⟨rfl, hB4⟩
        have HB4 : Hid (Below w2.heap.size w2 w4) := Lib.hid (HB.out.trans (hB4.mono hwr))
        have HO4 := Lib.hid (own_below1 HO.out hB4)
        have HI4 := Lib.hid (HI3.out.go_ hB4)
        clear hB4 hcx e0 e1 HISW
        obtain ⟨b3, o3, z3, rfl, -, -, -⟩ := HI4.out.at_ (show 0 < l.length + 2 by omega)
        have il0 : (1 : Int) ≤ (l.length : Int) + 1 := by omega
        have hfl := take_flat_le Ls (k + 1)
        rw [take_flat_succ HLk.out, List.length_append] at hfl
        have hfm := HFM.out
        clear HI4 HI3
        obtain ⟨wo, rfl⟩ : ∃ wo : World, wo = wr := ⟨_, rfl⟩
        have HO5 : Hid (w4.ownsRow w2.heap.size 3 1 u10 ((Ls.take k).flatten ++ l.take 0).length ((natsW ((Ls.take k).flatten ++ l.take 0)).map (Value.int .i64))) := Lib.hid (by simpa using HO4.out)
        clear HO HB HO4
        go_wp2
        simp only [show l.length + 2 - 1 - 1 = l.length by omega]
        go_loopw [10, 54] (fun v q wr => ∃ t : Nat, t ≤ l.length ∧ q = .int .i64 t ∧ Hid (wr.ownsRow w2.heap.size 3 1 v ((Ls.take k).flatten ++ l.take t).length ((natsW ((Ls.take k).flatten ++ l.take t)).map (Value.int .i64))) ∧ Hid (Below w2.heap.size w2 wr)) (fun _ q _ => l.length - (intOf q).toNat)
        case atStart => exact ⟨0, Nat.zero_le _, rfl, HO5, HB4⟩
        case round =>
          clear HO5 HB4
          obtain ⟨t, ht, rfl, HO, HB⟩ := hrel
          by_cases htl : t < l.length
          · obtain ⟨x, hx⟩ : ∃ x, l[t]? = some x := ⟨_, List.getElem?_eq_getElem htl⟩
            obtain ⟨b4, o4, y, hA4, _, hy, hcy⟩ := (HI2w.out.below HB.out).at_ (show t + 1 < l.length + 2 by omega)
            injection hA4 with hA4
            injection hA4 with hA4 hA5
            subst hA4
            subst hA5
            have hyx : y = (x : Int) := by
              unfold natsW at hy
              rw [List.map_cons, List.getElem?_cons_succ, List.getElem?_map, List.getElem?_append_left htl, hx] at hy
              injection hy with hy
              exact hy.symm
            subst hyx
            rw [show o3 + (t + 1) = o3 + 1 + t by omega] at hcy
            have HNEW := Lib.hid (flat_new HFL.out HLk.out hx)
            have HSUC : Hid ((Ls.take k).flatten ++ l.take (t + 1) = ((Ls.take k).flatten ++ l.take t) ++ [x]) := Lib.hid (by
              obtain ⟨h1, h2⟩ := List.getElem?_eq_some_iff.1 hx
              rw [List.take_succ_eq_append_getElem h1, h2, List.append_assoc])
            have hll : ((Ls.take k).flatten ++ l.take t).length ≤ 10 := by
              rw [List.length_append, List.length_take]; omega
            generalize hT : (Ls.take k).flatten ++ l.take t = T at *
            have HT := Lib.hid hT
            clear hT hy hx
            obtain ⟨A9, c9, HV9⟩ : ∃ A9 c9, Hid (u10 = .slice A9 T.length c9) := by
              obtain ⟨A9, c9, h⟩ := own_form HO.out
              exact ⟨A9, c9, Lib.hid h⟩
            obtain rfl := HV9.out
            have HIN : Hid (IntsAt wr wr.heap.size A9 T.length (natsW T)) := Lib.hid (IntsAt.of_own (t := 3) (base := w2.heap.size) (cap := c9) HO.out (Nat.le_refl _))
            have it0 : (0 : Int) ≤ (t : Int) := by omega
            have it1 : (t : Int) < (l.length : Int) := by omega
            have hsz := HB.out.size
            go_wp2_with fail
            refine (has_v T.length c9 x false A9 (natsW T) _ (by exact HIN.out) (by omega) HNEW.out).mono ?_
            rintro e w5 ⟨rfl, rfl⟩
            go_wp2_with (at_builtin; refine wpList_append_own _ rfl _ _ 30 rfl w2.heap.size 3 i0 (.int .i64 0) 1 8 Try.underlying30 HI.out HI0.out HI1.out HI2.out rfl (by decide) _ _ _ rfl (HO.out.alloc _) ⟨wr.heap.size, 0, none⟩ 1 1 [.int .i64 (x : Int)] rfl rfl ?c1 ?c2 ?c3 ?c4 ?c5 ?_)
            try (case c1 => exact cell_one_new _ _ _)
            case c2 => simp [Value.oneCell']
            case c3 => unfold maxLen; omega
            case c4 => omega
            case c5 => simp; omega
            intro v' w6 hown' hgrow _
            have HO6 : Hid (w6.ownsRow w2.heap.size 3 1 v' ((Ls.take k).flatten ++ l.take (t + 1)).length ((natsW ((Ls.take k).flatten ++ l.take (t + 1))).map (Value.int .i64))) := Lib.hid (by
              rw [HSUC.out, natsW_snoc, List.length_append]; exact hown')
            have HB6 : Hid (Below w2.heap.size w2 w6) := Lib.hid ((HB.out.alloc hsz _).grown hgrow (by simp; omega) (fun g hg => own_base HO.out g hg))
            clear hown' hgrow hcy
            go_wp2
            go_roundw
            case rel => exact ⟨t + 1, by omega, by go_num, HO6, HB6⟩
            case measure => simp [intOf]; omega
          · obtain rfl : t = l.length := by omega
            have HO6 : Hid (wr.ownsRow w2.heap.size 3 1 u10 (Ls.take (k + 1)).flatten.length ((natsW (Ls.take (k + 1)).flatten).map (Value.int .i64))) := Lib.hid (by
              have h := HO.out
              rw [List.take_length, ← take_flat_succ HLk.out] at h
              exact h)
            go_wp2
            go_roundw
            case rel => exact ⟨k + 1, by omega, by go_num, HO6, HB⟩
            case measure => simp [intOf]; omega
      · obtain rfl : k = r := by omega
        go_wp2_with fail
        refine (wayWall_any m i j A len cap es _ (by exact HXr.out.edges) hm10 hlen (InE.of_good HG.out) hi hj).mono ?_
        rintro e w4 ⟨⟨bl, fd, hLW, rfl⟩, hB4⟩
        have HXf := Lib.hid (HXr.out.next hB4)
        obtain ⟨_, hb2, _, hall⟩ := least_wall HG.out hm10 hi hj hij HNO.out hLW
        have hsz : sizeW bl = k := by
          obtain ⟨W, hW1, hW2⟩ := HWW.out
          have h := hall (Ls.map fun l => i :: (l ++ [j])) W (fun l hl => by
            obtain ⟨l', hl', rfl⟩ := List.mem_map.1 hl
            exact (HW.out l' hl').1) HP.out hW1 (by rw [List.length_map]; exact hW2)
          rw [h, List.length_map, HRL.out]
        have hbl : bl < 4294967296 := Nat.lt_of_lt_of_le hb2 (Nat.le_trans (Nat.pow_le_pow_right (n := 2) (by decide) hm10) (by decide))
        have HSZ : Hid ((sizeW bl : Int) = (k : Int)) := Lib.hid (by rw [hsz])
        clear hLW hB4 hall hsz hb2
        go_wp2_with fail
        refine (size_v bl k hbl HSZ.out _).mono ?_
        rintro e w5 ⟨rfl, rfl⟩
        go_wp2
        go_ret
        exact ⟨rfl, HXf.out.below⟩
  · have HV := Lib.hid hv
    have HV0 := Lib.hid h0
    have hb0 : (v != 0) = true := by simpa using h0
    clear hv h0
    go_enter Try.func3, Try.ntmps3
    go_wp2_with fail
    refine (apart_bad n v A len cap es a b _ (by exact HX.out.edges) HV.out HV0.out).mono ?_
    rintro e w1 ⟨rfl, hB⟩
    have HX1 := Lib.hid (HX.out.next hB)
    have k0 := HX1.out.c0
    have k1 := HX1.out.c1
    clear hB
    go_wp2_with fail
    refine (waysCheck_v n v A len cap es a b _ (by exact HX1.out.edges) hcap HV.out).mono ?_
    rintro e w2 ⟨rfl, hB⟩
    have HX2 := Lib.hid (HX1.out.next hB)
    clear hB k0 k1
    go_wp2
    go_ret
    exact ⟨rfl, HX2.out.below⟩
end Go.Proofs.Ytmelemjngnadpaa
