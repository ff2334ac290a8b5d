/- Clone and DeleteFunc of a list that came in, nil or not; what is read behind a write of two blocks. wish.Holds. -/
import Derived.Test.YtmelgnfhocofiaaCloneI
import Derived.Test.YtmelgnfhocofiaaConcat
import Derived.Test.YtmelgnfhocofiaaDeleteF
import Derived.Test.YtmelgnfhocofiaaBoxS
import Derived.Test.YtmelgnfhocofiaaCouples
import Derived.Test.YtmelgnfhocofiaaLiking
import Derived.Test.YtmelgnfhocofiaaHoldsGo
import Derived.Test.YtmelgnfhocofiaaRefPairing
import Derived.Test.YtmelgnfhocofiaaWishCheckGo
import Derived.Test.YtmelgnfhocofiaaWishAllP
import Derived.Deep.WholeRow
namespace Go.Proofs.Ytmelgnfhocofiaa
open Go.RowKit

set_option maxRecDepth 100000 in
set_option maxHeartbeats 1000000 in
theorem indexF_nil (w : World) :
    Calls Try.prog 44 #[.slice none 0 0, isNone_] w fun e w' => e = .returned (.int .i64 (-1)) ∧ w' = w := by
  unfold isNone_
  go_enter Try.func44, Try.ntmps44
  go_wp2
  go_loop [8] (fun j => j = .int .i64 0) (fun _ => 0)
  case atStart => rfl
  case round =>
    obtain rfl := hrel
    go_wp2
    go_ret
    exact ⟨rfl, rfl⟩
set_option maxRecDepth 100000 in
set_option maxHeartbeats 1000000 in
theorem deleteF_nil (w : World) :
    Calls Try.prog 28 #[.slice none 0 0, isNone_] w fun e w' => e = .returned (.slice none 0 0) ∧ w' = w := by
  have H := indexF_nil w
  unfold isNone_ at *
  go_enter Try.func28, Try.ntmps28
  go_wp2_with fail
  refine H.mono ?_
  rintro e w1 ⟨rfl, rfl⟩
  go_wp2
  go_ret
  exact ⟨rfl, rfl⟩
/-- What Clone gave. -/
def Cloned (w : World) (B n : Nat) (xs : List Int) (v : Value) : Prop := (v = .slice none 0 0 ∧ n = 0) ∨ ∃ g cap, v = .slice (some ⟨g, 0, none⟩) n cap ∧ B ≤ g ∧ RowC w g n (fun j => xs.getD j 0) ∧ n ≤ cap
set_option maxRecDepth 100000 in
theorem cloned_any (n c : Nat) (A : Option Addr) (xs : List Int) (w : World) (hI : IntsAt w w.heap.size A n xs) (hA : A = none → n = 0) (hn : n ≤ 8) :
    Calls Try.prog 29 #[.slice A n c] w fun e w' => ∃ v, e = .returned v ∧ Cloned w' w.heap.size n xs v ∧ Below w.heap.size w w' := by
  cases A with
  | none => exact (clone_nil n c w).mono fun e w' h => ⟨_, h.1, .inl ⟨rfl, hA rfl⟩, h.2 ▸ Below.refl _ _⟩
  | some a => exact (clone_any n c a xs w hI hn).mono fun e w' ⟨g, cap, h1, h2, h3, h4, _, h6⟩ => ⟨_, h1, .inr ⟨g, cap, rfl, h2, h3, h4⟩, h6⟩
/-- What is not -1. -/
def haveL (xs : List Int) : List Int := xs.filter fun x => !decide (x = -1)
set_option maxRecDepth 100000 in
theorem deleted_any (B n : Nat) (xs : List Int) (v : Value) (w : World) (hV : Cloned w B n xs v) (hl : xs.length = n) (hn : n ≤ 8) :
    Calls Try.prog 28 #[v, isNone_] w fun e w' => ∃ A c, e = .returned (.slice A (haveL xs).length c) ∧ IntsAt w' w'.heap.size A (haveL xs).length (haveL xs) ∧ Below B w w' := by
  rcases hV with ⟨rfl, rfl⟩ | ⟨g, cap, rfl, hg, hr, hc⟩
  · have e : xs = [] := List.length_eq_zero_iff.1 hl
    subst e
    exact (deleteF_nil w).mono fun e w' h => ⟨none, 0, h.1, IntsAt.nil_ _ _ _, h.2 ▸ Below.refl _ _⟩
  · have ek : keptJ (fun j => xs.getD j 0) n = haveL xs := by
      rw [keptJ_filter]
      unfold haveL
      congr 1
      apply List.ext_getElem (by simp [hl])
      intro i h1 h2
      rw [List.getElem_map, List.getElem_range, List.getD_eq_getElem?_getD, List.getElem?_eq_getElem h2]; rfl
    refine (deleteF_any n cap g _ w hr hn hc).mono fun e w' h => ?_
    rw [ek] at h
    obtain ⟨c', h1, h2, h3⟩ := h
    refine ⟨some ⟨g, 0, none⟩, c', h1, ⟨rfl, fun _ => ⟨g, 0, rfl, h2.lt, fun i x hx => ?_⟩⟩, h3.mono hg⟩
    have hlt := (List.getElem?_eq_some_iff.1 hx).1
    rw [Nat.zero_add, h2.cell hlt, List.getD_eq_getElem?_getD, hx]; rfl
section
variable {w w1 w2 : World} {A1 A2 : Option Addr} {n1 c1 n2 c2 a b : Nat} {Ls Rs : List (List Int)}
set_option maxRecDepth 100000 in
theorem BoxS.only (S1 : SideAt w w.heap.size A1 n1 c1 Ls) (S2 : SideAt w w.heap.size A2 n2 c2 Rs) (h : BoxS w A1 n1 c1 A2 n2 c2 Ls Rs w1) (ho : Only a b w1 w2) (ha : w.heap.size < a) (hb : w.heap.size < b) : BoxS w A1 n1 c1 A2 n2 c2 Ls Rs w2 := by
  have hs : (bxS w A1 n1 c1 A2 n2 c2).heap.size = w.heap.size + 1 := by simp [bxS]
  have h1 := h.box.size
  have h2 : Below w.heap.size w w2 := h.below.trans (ho.below (by omega) (by omega) (by omega))
  exact ⟨S1.go_ h2, S2.go_ h2, h2, h.box.trans (ho.below (by omega) (by omega) (by omega))⟩
end
theorem degs_of_row {w : World} {g : Nat} {t : TypeId} {F G : Nat → Int} (h : RowT w g t 128 (bothF F G)) : DegAt w g 0 F ∧ DegAt w g 64 G := by
  refine ⟨fun k hk => ?_, fun k hk => ?_⟩
  · rw [Nat.zero_add, h.cell (by omega)]; unfold bothF; rw [if_pos hk]
  · rw [h.cell (by omega)]; unfold bothF; rw [if_neg (by omega), Nat.add_sub_cancel_left]
end Go.Proofs.Ytmelgnfhocofiaa
namespace Go.Proofs.Ytmelgnfhocofiaa
open Go.RowKit

/-- What is wrong with wishes and a pairing. -/
def errW (Ls Rs : List (List Int)) (xs : List Int) : Int := if wishF Ls Rs = 0 then pairF Ls.length xs else wishF Ls Rs
noncomputable def ansW (Ls Rs : List (List Int)) (xs : List Int) : Bool := decide (errW Ls Rs xs = 0) && holdB Ls.length (sd Ls) (sd Rs) xs
/-- While they are joined: the first k are. -/
structure JoinW (w : World) (A1 : Option Addr) (c1 : Nat) (A2 : Option Addr) (c2 : Nat) (Ls Rs : List (List Int)) (A : Option Addr) (n : Nat) (xs : List Int) (g a b k : Nat) (wr : World) : Prop where
  box : BoxS w A1 n c1 A2 n c2 Ls Rs wr
  list : IntsAt wr wr.heap.size A n xs
  row : RowOf wr g 51 [.slice (some ⟨a, 0, none⟩) n n, .slice (some ⟨b, 0, none⟩) n n]
  ga : g ≠ a
  gb : g ≠ b
  wg : w.heap.size < g
  cp : Couples wr (w.heap.size + 1) n a b (fun i => if i < k then xs.getD i (-1) else -1) (jn xs k)
set_option maxRecDepth 100000 in
set_option maxHeartbeats 4000000 in
theorem wishHolds_go (A1 A2 A : Option Addr) (n1 c1 n2 c2 m cap : Nat) (Ls Rs : List (List Int)) (xs : List Int) (w : World) (S1 : SideAt w w.heap.size A1 n1 c1 Ls) (S2 : SideAt w w.heap.size A2 n2 c2 Rs) (hI : IntsAt w w.heap.size A m xs) (hA : A = none → m = 0) :
    Calls Try.prog 13 #[.agg #[.slice A1 n1 c1, .slice A2 n2 c2], .slice A m cap] w fun e w' => e = .returned (.tuple #[.bool (ansW Ls Rs xs), .int .i64 (errW Ls Rs xs)]) ∧ Below w.heap.size w w' := by
  have HX := Lib.hid (BoxS.start S1 S2)
  have hk0 := HX.out.k0
  have hk1 := HX.out.k1
  have HI := Lib.hid hI
  have HS1 := Lib.hid S1
  have HS2 := Lib.hid S2
  have HA := Lib.hid hA
  obtain ⟨r, hr⟩ : ∃ r, wishF Ls Rs = r := ⟨_, rfl⟩
  have HC := Lib.hid (fun W (h1 : BoxS w A1 n1 c1 A2 n2 c2 Ls Rs W) => wishCheck_any A1 A2 n1 c1 n2 c2 Ls Rs W h1.left h1.right)
  rw [hr] at HC
  by_cases hr0 : r = 0
  · subst hr0
    obtain ⟨q8, q1, o1, o2, W⟩ := wishOK_of hr
    have e1 := S1.len
    have e2 := S2.len
    obtain rfl : n1 = n2 := by omega
    have hn : n1 ≤ 8 := by omega
    have HE : Hid (errW Ls Rs xs = pairF n1 xs) := Lib.hid (by unfold errW; rw [if_pos hr, e1])
    rw [e1] at o1 o2 W
    have HO1 := Lib.hid o1
    have HO2 := Lib.hid o2
    have HW := Lib.hid W
    have HN := Lib.hid e1
    clear S1 S2 hI hA hr q8 q1 o1 o2 W e1 e2
    by_cases hm : m = n1
    · subst hm
      cases hpb : pairB m xs with
      | false =>
        have HE2 : Hid (ansW Ls Rs xs = false ∧ errW Ls Rs xs = 2) := Lib.hid (by
          have e : errW Ls Rs xs = 2 := by rw [HE.out]; unfold pairF; rw [if_neg (by rw [HI.out.1]; simp), if_neg (by rw [hpb]; decide)]
          exact ⟨by unfold ansW; rw [e]; rfl, e⟩)
        have HB : Hid (eachB m (haveL xs) = false) := Lib.hid hpb
        clear hpb HE HW HO1 HO2
        go_enter Try.func13, Try.ntmps13
        go_wp2_with fail
        refine (HC.out _ (by exact HX.out)).mono ?_
        rintro e w1 ⟨rfl, hb1⟩
        have HX1 := Lib.hid (HX.out.next hb1)
        have l0 := HX1.out.k0
        have l1 := HX1.out.k1
        clear hb1 hk0 hk1
        go_wp2_with fail
        refine (cloned_any m cap A xs w1 (by exact HI.out.go_ HX1.out.below) (by exact HA.out) hn).mono ?_
        rintro e w2 ⟨v, rfl, hV, hb2⟩
        have HV := Lib.hid hV
        have HX2 := Lib.hid (HX1.out.next hb2)
        have HB2 := Lib.hid hb2
        clear hV hb2
        go_wp2_with fail
        refine (deleted_any w1.heap.size m xs v w2 (by exact HV.out) (by exact HI.out.1) hn).mono ?_
        rintro e w3 ⟨A3, c3, rfl, hI3, hb3⟩
        have HI3 := Lib.hid hI3
        have HX3 : Hid (Below w.heap.size w w3) := Lib.hid (HX2.out.below.trans (hb3.mono (by exact HX1.out.below.size)))
        clear hI3 hb3
        have HO := Lib.hid (eachOnce_v A3 (haveL xs).length c3 m (haveL xs) false w3 (by exact HI3.out) (by have := List.length_filter_le (fun x => !decide (x = -1)) xs; have h5 := HI.out.1; show (haveL xs).length ≤ _; unfold haveL; omega) (by omega) HB.out)
        go_wp2_with fail
        refine HO.out.mono ?_
        rintro e w4 ⟨rfl, rfl⟩
        go_wp2_with fail
        go_ret2
        exact ⟨by rw [HE2.out.1, HE2.out.2]; rfl, HX3.out⟩
      | true =>
        have P := (pairB_iff HI.out.1).1 hpb
        have HP := Lib.hid P
        have HE2 : Hid (errW Ls Rs xs = 0) := Lib.hid (by rw [HE.out]; unfold pairF; rw [if_neg (by rw [HI.out.1]; simp), if_pos hpb])
        have HB : Hid (eachB m (haveL xs) = true) := Lib.hid hpb
        obtain ⟨q, hq⟩ : ∃ q, holdB m (sd Ls) (sd Rs) xs = q := ⟨_, rfl⟩
        have HQ : Hid (ansW Ls Rs xs = q) := Lib.hid (by unfold ansW; rw [HE2.out, HN.out, hq]; rfl)
        have HQ2 : Hid (q = true ↔ ∀ i, i < m → okL (dgF Ls) (dgF Rs) m (fun i => xs.getD i (-1)) (fun j => owP xs (j : Int)) i) := Lib.hid (by rw [okL_hold hn HW.out P, ← hq, holdB_iff])
        clear hpb P HE HW hq HN
        go_enter Try.func13, Try.ntmps13
        go_wp2_with fail
        refine (HC.out _ (by exact HX.out)).mono ?_
        rintro e w1 ⟨rfl, hb1⟩
        have HX1 := Lib.hid (HX.out.next hb1)
        have l0 := HX1.out.k0
        have l1 := HX1.out.k1
        clear hb1 hk0 hk1
        go_wp2_with fail
        refine (cloned_any m cap A xs w1 (by exact HI.out.go_ HX1.out.below) (by exact HA.out) hn).mono ?_
        rintro e w2 ⟨v, rfl, hV, hb2⟩
        have HV := Lib.hid hV
        have HX2 := Lib.hid (HX1.out.next hb2)
        have HB2 := Lib.hid hb2
        clear hV hb2
        go_wp2_with fail
        refine (deleted_any w1.heap.size m xs v w2 (by exact HV.out) (by exact HI.out.1) hn).mono ?_
        rintro e w3 ⟨A3, c3, rfl, hI3, hb3⟩
        have HI3 := Lib.hid hI3
        have HX3 : Hid (Below w.heap.size w w3) := Lib.hid (HX2.out.below.trans (hb3.mono (by exact HX1.out.below.size)))
        have HBB : Hid (Below w1.heap.size w1 w3) := Lib.hid (HB2.out.trans (hb3.mono (Nat.le_refl _)))
        clear hI3 hb3
        have HO := Lib.hid (eachOnce_v A3 (haveL xs).length c3 m (haveL xs) true w3 (by exact HI3.out) (by have := List.length_filter_le (fun x => !decide (x = -1)) xs; have h5 := HI.out.1; show (haveL xs).length ≤ _; unfold haveL; omega) (by omega) HB.out)
        have HX3' : Hid (BoxS w A1 m c1 A2 m c2 Ls Rs w3) := Lib.hid (HX1.out.next (HBB.out))
        go_wp2_with fail
        refine HO.out.mono ?_
        rintro e w4 ⟨rfl, rfl⟩
        clear HO HX HX1 HX2 HI3 HV HB2 l0 l1 HC HB HX3
        go_wp2_with fail
        refine (noPairs_any m w3 hn).mono ?_
        rintro e w5 ⟨a, b, rfl, hC5, hb5⟩
        have HX5 := Lib.hid (HX3'.out.next hb5)
        have HC5 := Lib.hid hC5
        clear hC5 hb5
        go_wp2_with fail
        have HJ : Hid (JoinW w A1 c1 A2 c2 Ls Rs A m xs w5.heap.size a b 0 (w5.alloc (.cells #[.slice (some ⟨a, 0, none⟩) m m, .slice (some ⟨b, 0, none⟩) m m] 51))) := Lib.hid (by
          have hb : Below w5.heap.size w5 (w5.alloc (.cells #[.slice (some ⟨a, 0, none⟩) m m, .slice (some ⟨b, 0, none⟩) m m] 51)) := (Below.refl _ _).alloc (Nat.le_refl _) _
          have hB := HX5.out.next hb
          have la := HC5.out.left.lt
          have lb := HC5.out.right.lt
          have h5 := HX3'.out.lt
          exact ⟨hB, HI.out.go_ hB.below, (MapKept.heap_alloc w5 _).1, by omega, by omega, HX5.out.lt, ⟨by have := HC5.out.ba; omega, by have := HC5.out.bb; omega, HC5.out.ne, (HC5.out.keep hb).left.congr fun j _ => by rw [if_neg (by omega)], (HC5.out.keep hb).right.congr fun _ _ => rfl⟩⟩)
        clear HX3' HX5 HC5
        go_loopw [36] (fun j wr => ∃ k : Nat, k ≤ m ∧ j = .int .i64 k ∧ Hid (JoinW w A1 c1 A2 c2 Ls Rs A m xs w5.heap.size a b k wr)) (fun j _ => m - (intOf j).toNat)
        case atStart => exact ⟨0, Nat.zero_le _, rfl, HJ⟩
        case round =>
          clear HJ
          obtain ⟨k, hk, rfl, HR⟩ := hrel
          by_cases hkl : k < m
          · obtain ⟨bb, off, x, hA, _, hx, hc⟩ := HR.out.list.at_ hkl
            subst hA
            have kk0 : (0 : Int) ≤ (k : Int) := by omega
            have kk1 : (k : Int) < (m : Int) := by omega
            have g0 := HR.out.row.cell (i := 0) rfl
            have g1 := HR.out.row.cell (i := 1) rfl
            have hxr := HP.out.rng k hkl
            rw [getD_of hx] at hxr
            have HJC := Lib.hid (join_any (w.heap.size + 1) m a b k x _ _ wr HR.out.cp hkl hxr)
            have HSTEP : Hid (∀ w2, Couples w2 (w.heap.size + 1) m a b (updF (fun i => if i < k then xs.getD i (-1) else -1) k x) (updJ (jn xs k) x (k : Int)) → Only a b wr w2 → JoinW w A1 c1 A2 c2 Ls Rs (some ⟨bb, off, none⟩) m xs w5.heap.size a b (k + 1) w2) := Lib.hid fun w2 h1 h2 => by
              have hB := HR.out.box.only HS1.out HS2.out h2 (by have := h1.ba; omega) (by have := h1.bb; omega)
              refine ⟨hB, HI.out.go_ hB.below, (h2.block _ HR.out.row.lt HR.out.ga HR.out.gb).trans HR.out.row, HR.out.ga, HR.out.gb, HR.out.wg, h1.congr (fun j _ => ?_) fun j _ => ?_⟩
              · unfold updF
                by_cases hj : j = k
                · subst hj; rw [if_pos rfl, if_pos (by omega), getD_of hx]
                · rw [if_neg hj]
                  show (if j < k then xs.getD j (-1) else -1) = _
                  by_cases hj2 : j < k
                  · rw [if_pos hj2, if_pos (by omega)]
                  · rw [if_neg hj2, if_neg (by omega)]
              · show updJ (jn xs k) x (k : Int) j = updJ (jn xs k) (xs.getD k (-1)) (k : Int) j
                rw [getD_of hx]
            have HKL := Lib.hid hkl
            clear hx hxr HR
            go_wp2_with fail
            refine HJC.out.mono ?_
            rintro e w6 ⟨rfl, hc6, ho6⟩
            have HN := Lib.hid (HSTEP.out w6 hc6 ho6)
            clear HJC HSTEP hc6 ho6 hc g0 g1
            go_wp2_with fail
            go_roundw
            case rel => exact ⟨k + 1, by have := HKL.out; omega, by go_num, HN⟩
            case measure => have := HKL.out; simp [intOf]; omega
          · obtain rfl : k = m := by omega
            have HJ := HR
            have hk0 := HR.out.box.k0
            have hk1 := HR.out.box.k1
            have HLK := Lib.hid (liking_any A1 A2 k c1 c2 Ls Rs wr HR.out.box.left HR.out.box.right hn HO1.out HO2.out)
            obtain ⟨C, hC⟩ : ∃ C : Array Value, C = ((List.range 128).map fun j => Value.int .i64 (bothF (dgF Ls) (dgF Rs) j)).toArray := ⟨_, rfl⟩
            have hCV : rowV 128 (bothF (dgF Ls) (dgF Rs)) = .agg C := by rw [hC]; rfl
            rw [hCV] at HLK
            obtain ⟨Z, hZ⟩ : ∃ Z : Array Value, Z = ((List.range 128).map fun _ => Value.int .i64 0).toArray := ⟨_, rfl⟩
            have hz : ∀ w, (zeroValue 58).run Try.prog w = .ok (.agg Z) w := by rw [hZ]; exact zero57
            have HCI : Hid ((Try.prog.info? 58).map (·.size) = some C.size ∧ Z.size = C.size ∧ C.all (·.oneCell') = true) := Lib.hid (by rw [hC, hZ]; exact ⟨by kernel_rfl, by simp, by simp [Value.oneCell']⟩)
            have HCC := Lib.hid hC
            clear hC hCV hZ HR
            go_wp2_with fail
            refine HLK.out.mono ?_
            rintro e w7 ⟨rfl, hb7⟩
            have HB7 := Lib.hid hb7
            have hr7 := HJ.out.row.keep hb7
            have g0 := hr7.cell (i := 0) rfl
            have g1 := hr7.cell (i := 1) rfl
            have g8 := hr7.lt
            clear hb7 HLK hr7
            go_wp2_with (refine wpList_store_row rfl 58 _ _ rfl w7.heap.size C rfl rfl 58 Z (heap_alloc_last w7 _) HCI.out.1 HCI.out.2.1 HCI.out.2.2 ?_; rw [World.setRow_alloc_new])
            have hT : RowT (w7.alloc (.cells C 58)) w7.heap.size 58 128 (bothF (dgF Ls) (dgF Rs)) := by rw [HCC.out]; exact (MapKept.heap_alloc w7 _).1
            obtain ⟨hd1, hd2⟩ := degs_of_row hT
            have hC8 := (HJ.out.cp.keep HB7.out).keep ((Below.refl _ w7).alloc (Nat.le_refl _) (.cells C 58))
            refine (holdsGo_any w7.heap.size (w.heap.size + 1) k a b (dgF Ls) (dgF Rs) (fun i => xs.getD i (-1)) (fun j => owP xs (j : Int)) q _ (by exact hd1) (by exact hd2) (by simp) (by exact hC8.congr (fun j hj => by rw [if_pos hj]) fun j _ => jn_end HP.out j) hn (by exact HP.out.rng) (fun j _ => ow_rng HP.out.len (j : Int)) (by exact HQ2.out)).mono ?_
            rintro e w9 ⟨rfl, hb9⟩
            have HB9 : Hid (Below w.heap.size w w9) := Lib.hid (HJ.out.box.below.trans ((HB7.out.mono (by exact HJ.out.box.below.size)).trans (((Below.refl _ w7).alloc (Nat.le_refl _) (.cells C 58)).mono (by exact Nat.le_trans HJ.out.box.below.size HB7.out.size) |>.trans (hb9.mono (by have := HJ.out.box.below.size; have h7 := HB7.out.size; simp; omega)))))
            clear hT hd1 hd2 hC8 hb9
            go_wp2_with fail
            go_ret2
            exact ⟨by rw [HQ.out, HE2.out]; rfl, HB9.out⟩
    · have HE2 : Hid (ansW Ls Rs xs = false ∧ errW Ls Rs xs = 3) := Lib.hid (by
        have e : errW Ls Rs xs = 3 := by rw [HE.out]; unfold pairF; rw [if_pos (by rw [HI.out.1]; exact hm)]
        exact ⟨by unfold ansW; rw [e]; rfl, e⟩)
      have hne : ((m : Int) != (n1 : Int)) = true := by simp; omega
      clear HE HW HO1 HO2
      go_enter Try.func13, Try.ntmps13
      go_wp2_with fail
      refine (HC.out _ (by exact HX.out)).mono ?_
      rintro e w1 ⟨rfl, hb1⟩
      have HX1 := Lib.hid (HX.out.next hb1)
      have l0 := HX1.out.k0
      have l1 := HX1.out.k1
      clear hb1 hk0 hk1
      go_wp2_with fail
      go_ret2
      exact ⟨by rw [HE2.out.1, HE2.out.2]; rfl, HX1.out.below⟩
  · have HE : Hid (ansW Ls Rs xs = false ∧ errW Ls Rs xs = r) := Lib.hid (by
      have e : errW Ls Rs xs = r := by unfold errW; rw [hr, if_neg hr0]
      exact ⟨by unfold ansW; rw [e, decide_eq_false hr0]; rfl, e⟩)
    have hr1 : (r != 0) = true := by simpa using hr0
    clear S1 S2 hI hA hr
    go_enter Try.func13, Try.ntmps13
    go_wp2_with fail
    refine (HC.out _ (by exact HX.out)).mono ?_
    rintro e w1 ⟨rfl, hb1⟩
    have HX1 := Lib.hid (HX.out.next hb1)
    clear hb1
    go_wp2_with fail
    go_ret2
    exact ⟨by rw [HE.out.1, HE.out.2]; rfl, HX1.out.below⟩
end Go.Proofs.Ytmelgnfhocofiaa
