/- wish.All. -/
import Derived.Test.YtmelgnfhocofiaaLayGo
import Derived.Test.YtmelgnfhocofiaaChoicesGo
import Derived.Test.YtmelgnfhocofiaaWishPairGo
import Derived.Test.YtmelgnfhocofiaaLists
namespace Go.Proofs.Ytmelgnfhocofiaa
open Go.RowKit

theorem Rows1.listsAt {w : World} {base n m c : Nat} {A : Option Addr} {bs cs : Nat → Nat} {xss : List (List Int)} (h : Rows1 w base n m (.slice A m c) bs cs (fun k j => (xss.getD k []).getD j (-1))) (hm : xss.length = m) (hx : ∀ xs ∈ xss, xs.length = n) : ListsAt w w.heap.size A m xss := by
  refine ⟨hm, fun hp => ?_⟩
  rcases h.own.2 with ⟨_, h0⟩ | ⟨g, cap, cur, hv, hb, hg, _, _, _, htake⟩
  · omega
  · obtain rfl : A = some ⟨g, 0, none⟩ := by injection hv
    refine ⟨g, 0, rfl, (Array.getElem?_eq_some_iff.1 hg).1, fun k xs hk => ?_⟩
    have hkm : k < m := by have := (List.getElem?_eq_some_iff.1 hk).1; omega
    have h1 : (cur.toList.take (m * 1))[k]? = some (rowS n bs cs k) := by rw [htake]; simp [hkm]
    rw [List.getElem?_take, if_pos (by omega)] at h1
    have h2 : cur[k]? = some (rowS n bs cs k) := by simpa using h1
    have hl := hx xs (List.mem_of_getElem? hk)
    refine ⟨some ⟨bs k, 0, none⟩, cs k, by rw [Nat.zero_add, hl]; simp [World.cell?, hg, h2, rowS], rfl, fun hp2 => ⟨bs k, 0, rfl, (h.row k hkm).2.lt, fun j x hj => ?_⟩⟩
    have hjn : j < n := by have := (List.getElem?_eq_some_iff.1 hj).1; omega
    have e : (xss.getD k []).getD j (-1) = x := by
      rw [List.getD_eq_getElem?_getD, List.getD_eq_getElem?_getD, hk]
      show xs[j]?.getD (-1) = x
      rw [hj]; rfl
    rw [Nat.zero_add, (h.row k hkm).2.cell hjn, e]
set_option maxRecDepth 100000 in
set_option maxHeartbeats 1000000 in
theorem wishAll_bad (A1 A2 : Option Addr) (n1 c1 n2 c2 : Nat) (Ls Rs : List (List Int)) (r : Int) (w : World) (S1 : SideAt w w.heap.size A1 n1 c1 Ls) (S2 : SideAt w w.heap.size A2 n2 c2 Rs) (hr : wishF Ls Rs = r) (hr0 : r ≠ 0) :
    Calls Try.prog 19 #[.agg #[.slice A1 n1 c1, .slice A2 n2 c2]] w fun e w' => e = .returned (.tuple #[.slice none 0 0, .int .i64 r]) ∧ Below w.heap.size w w' := by
  have HX := Lib.hid (BoxS.start S1 S2)
  have hk0 := HX.out.k0
  have hk1 := HX.out.k1
  have HC := Lib.hid (fun W (h1 : BoxS w A1 n1 c1 A2 n2 c2 Ls Rs W) => wishCheck_any A1 A2 n1 c1 n2 c2 Ls Rs W h1.left h1.right)
  rw [hr] at HC
  have hr1 : (r != 0) = true := by simpa using hr0
  clear S1 S2 hr
  go_enter Try.func19, Try.ntmps19
  go_wp2_with fail
  refine (HC.out _ (by exact HX.out)).mono ?_
  rintro e w1 ⟨rfl, hb1⟩
  have HX1 := Lib.hid (HX.out.next hb1)
  clear hb1
  go_wp2_with fail
  go_ret2
  exact ⟨rfl, HX1.out.below⟩
theorem allW_length {n : Nat} {L R : Nat → List Int} (hn : n ≤ 8) : (allW n L R).length ≤ 43046721 := by
  have h : ∀ (r : Nat) (pre : List Int), (allP (holdB n L R) n r pre).length ≤ 9 ^ r := allP_len hn
  exact Nat.le_trans (h n []) (Nat.le_trans (Nat.pow_le_pow_right (by decide) hn) (by decide : 9 ^ 8 ≤ 43046721))
set_option maxRecDepth 100000 in
set_option maxHeartbeats 4000000 in
theorem wishAll_good (A1 A2 : Option Addr) (n c1 c2 : Nat) (Ls Rs : List (List Int)) (w : World) (S1 : SideAt w w.heap.size A1 n c1 Ls) (S2 : SideAt w w.heap.size A2 n c2 Rs) (hr : wishF Ls Rs = 0) (hn : n ≤ 8) (o1 : ∀ xs ∈ Ls, eachB n xs = true) (o2 : ∀ xs ∈ Rs, eachB n xs = true) (W : WishOK n (sd Ls) (sd Rs)) :
    Calls Try.prog 19 #[.agg #[.slice A1 n c1, .slice A2 n c2]] w fun e w' => ∃ A c, e = .returned (.tuple #[.slice A (allW n (sd Ls) (sd Rs)).length c, .int .i64 0]) ∧ ListsAt w' w'.heap.size A (allW n (sd Ls) (sd Rs)).length (allW n (sd Ls) (sd Rs)) ∧ Below w.heap.size w w' := by
  have HX := Lib.hid (BoxS.start S1 S2)
  have hk0 := HX.out.k0
  have hk1 := HX.out.k1
  have HC := Lib.hid (fun W (h1 : BoxS w A1 n c1 A2 n c2 Ls Rs W) => wishCheck_any A1 A2 n c1 n c2 Ls Rs W h1.left h1.right)
  rw [hr] at HC
  have HLK := Lib.hid (fun W (h1 : BoxS w A1 n c1 A2 n c2 Ls Rs W) => liking_any A1 A2 n c1 c2 Ls Rs W h1.left h1.right hn o1 o2)
  obtain ⟨C, hC⟩ : ∃ C : Array Value, C = ((List.range 128).map fun j => Value.int .i64 (bothF (dgF Ls) (dgF Rs) j)).toArray := ⟨_, rfl⟩
  have hCV : rowV 128 (bothF (dgF Ls) (dgF Rs)) = .agg C := by rw [hC]; rfl
  rw [hCV] at HLK
  obtain ⟨Z, hZ⟩ : ∃ Z : Array Value, Z = ((List.range 128).map fun _ => Value.int .i64 0).toArray := ⟨_, rfl⟩
  have hz : ∀ w, (zeroValue 58).run Try.prog w = .ok (.agg Z) w := by rw [hZ]; exact zero57
  have HCI : Hid ((Try.prog.info? 58).map (·.size) = some C.size ∧ Z.size = C.size ∧ C.all (·.oneCell') = true) := Lib.hid (by rw [hC, hZ]; exact ⟨by kernel_rfl, by simp, by simp [Value.oneCell']⟩)
  have HCC := Lib.hid hC
  have HW := Lib.hid W
  clear S1 S2 hr o1 o2 hC hCV hZ W
  go_enter Try.func19, Try.ntmps19
  go_wp2_with fail
  refine (HC.out _ (by exact HX.out)).mono ?_
  rintro e w1 ⟨rfl, hb1⟩
  have HX1 := Lib.hid (HX.out.next hb1)
  have l0 := HX1.out.k0
  have l1 := HX1.out.k1
  clear hb1 hk0 hk1 HC HX
  go_wp2_with fail
  refine (HLK.out _ (by exact HX1.out)).mono ?_
  rintro e w2 ⟨rfl, hb2⟩
  have HX2 := Lib.hid (HX1.out.next hb2)
  have k0 := HX2.out.k0
  have k1 := HX2.out.k1
  clear hb2 l0 l1 HLK HX1
  have hlt := HX2.out.lt
  go_wp2_with (refine wpList_store_row rfl 58 _ _ rfl w2.heap.size C rfl rfl 58 Z (heap_alloc_last w2 _) HCI.out.1 HCI.out.2.1 HCI.out.2.2 ?_; rw [World.setRow_alloc_new])
  have HX3 := Lib.hid (HX2.out.next ((Below.refl _ w2).alloc (Nat.le_refl _) (.cells C 58)))
  have HT : Hid (RowT (w2.alloc (.cells C 58)) w2.heap.size 58 128 (bothF (dgF Ls) (dgF Rs))) := Lib.hid (by rw [HCC.out]; exact (MapKept.heap_alloc w2 _).1)
  have hs3 : (w2.alloc (.cells C 58)).heap.size = w2.heap.size + 1 := by simp
  obtain ⟨gR, hgR⟩ : ∃ gR, gR = w2.heap.size := ⟨_, rfl⟩
  have HLT2 := Lib.hid hlt
  rw [← hgR] at HT hs3 HLT2 ⊢
  have HGR := Lib.hid hgR
  generalize (w2.alloc (.cells C 58)) = w3 at *
  clear k0 k1 hlt hz HCC HX2 hgR
  refine (firstPairing_any A1 n c1 gR Ls Rs _ (by exact HW.out) hn (by exact HX3.out.left) (by exact (degs_of_row HT.out).2) (by omega)).mono ?_
  rintro e w4 ⟨a0, b0, l, rfl, hB, hC4, hb4⟩
  have HB := Lib.hid hB
  have HX4 := Lib.hid (HX3.out.next hb4)
  have HT4 := Lib.hid (HT.out.keep hb4)
  have HC4 := Lib.hid hC4
  have HCH := Lib.hid (choices_any gR w3.heap.size n a0 b0 (dgF Ls) (dgF Rs) (fun i => l.getD i (-1)) (fun j => owP l (j : Int)) w4 (degs_of_row HT4.out).1 (degs_of_row HT4.out).2 HT4.out.lt hC4 hn (fun i hi => hB.1.pair.rng i hi) (fun j hj => ow_rng hB.1.pair.len (j : Int)))
  clear hB hC4 hb4
  go_wp2_with fail
  refine HCH.out.mono ?_
  rintro e w5 ⟨gch, rfl, hS5, hb5⟩
  have HX5 := Lib.hid (HX4.out.next hb5)
  have HT5 := Lib.hid (HT4.out.keep hb5)
  have HS5 := Lib.hid hS5
  have hlt5 := HX5.out.lt
  have k50 := HX5.out.k0
  have k51 := HX5.out.k1
  clear hS5 hb5 HX3 HX4 HT HT4 HC4 hs3
  have HX6 := Lib.hid (HX5.out.next ((Below.refl _ w5).alloc (Nat.le_refl _) (.cells #[.slice (some ⟨gch, 0, none⟩) n n] 22)))
  have q0 := HX6.out.k0
  go_wp2_with fail
  have HG6 : Hid (Below w5.heap.size w5 (w5.alloc (.cells #[.slice (some ⟨gch, 0, none⟩) n n] 22)) ∧ (w5.alloc (.cells #[.slice (some ⟨gch, 0, none⟩) n n] 22)).heap.size = w5.heap.size + 1 ∧ (w5.alloc (.cells #[.slice (some ⟨gch, 0, none⟩) n n] 22)).cell? ⟨w5.heap.size, 0, none⟩ = some (.slice (some ⟨gch, 0, none⟩) n n)) := Lib.hid ⟨(Below.refl _ _).alloc (Nat.le_refl _) _, by simp, cell_new0 ..⟩
  generalize (w5.alloc (.cells #[.slice (some ⟨gch, 0, none⟩) n n] 22)) = w6 at *
  refine (noPairs_any n w6 hn).mono ?_
  rintro e w7 ⟨a, b, rfl, hC7, hb7⟩
  obtain ⟨gc, hgc⟩ : ∃ gc, gc = w5.heap.size := ⟨_, rfl⟩
  have HX7 := Lib.hid (HX6.out.next hb7)
  have HB7 : Hid (Below w5.heap.size w5 w7 ∧ gc + 1 ≤ w7.heap.size ∧ w7.cell? ⟨gc, 0, none⟩ = some (.slice (some ⟨gch, 0, none⟩) n n) ∧ gc + 1 ≤ a ∧ gc + 1 ≤ b) := Lib.hid (by
    obtain ⟨h1, h2, h3⟩ := HG6.out
    have h4 := hb7.size
    subst hgc
    exact ⟨h1.trans (hb7.mono (by omega)), by omega, (hb7.cell (p := ⟨w5.heap.size, 0, none⟩) (by show w5.heap.size < w6.heap.size; omega)).trans h3, by have := hC7.ba; omega, by have := hC7.bb; omega⟩)
  have HC7 := Lib.hid hC7
  have HGC := Lib.hid hgc
  rw [← hgc]
  have HBIG : Hid (LayW (((w7.alloc (.cells #[.slice (some ⟨a, 0, none⟩) n n, .slice (some ⟨b, 0, none⟩) n n] 51)).alloc (.cells #[.slice none 0 0] 22)).alloc (.cells #[.func (.func 39) #[] #[.pointer (some ⟨gc, 0, none⟩), .pointer (some ⟨gR, 0, none⟩), .pointer (some ⟨w7.heap.size, 0, none⟩), .pointer (some ⟨w7.heap.size + 1, 0, none⟩), .pointer (some ⟨w7.heap.size + 1 + 1, 0, none⟩)]] 64)) n gc w7.heap.size (w7.heap.size + 1) a b [] [] (((w7.alloc (.cells #[.slice (some ⟨a, 0, none⟩) n n, .slice (some ⟨b, 0, none⟩) n n] 51)).alloc (.cells #[.slice none 0 0] 22)).alloc (.cells #[.func (.func 39) #[] #[.pointer (some ⟨gc, 0, none⟩), .pointer (some ⟨gR, 0, none⟩), .pointer (some ⟨w7.heap.size, 0, none⟩), .pointer (some ⟨w7.heap.size + 1, 0, none⟩), .pointer (some ⟨w7.heap.size + 1 + 1, 0, none⟩)]] 64)) ∧
      Below w7.heap.size w7 (((w7.alloc (.cells #[.slice (some ⟨a, 0, none⟩) n n, .slice (some ⟨b, 0, none⟩) n n] 51)).alloc (.cells #[.slice none 0 0] 22)).alloc (.cells #[.func (.func 39) #[] #[.pointer (some ⟨gc, 0, none⟩), .pointer (some ⟨gR, 0, none⟩), .pointer (some ⟨w7.heap.size, 0, none⟩), .pointer (some ⟨w7.heap.size + 1, 0, none⟩), .pointer (some ⟨w7.heap.size + 1 + 1, 0, none⟩)]] 64)) ∧
      RowOf (((w7.alloc (.cells #[.slice (some ⟨a, 0, none⟩) n n, .slice (some ⟨b, 0, none⟩) n n] 51)).alloc (.cells #[.slice none 0 0] 22)).alloc (.cells #[.func (.func 39) #[] #[.pointer (some ⟨gc, 0, none⟩), .pointer (some ⟨gR, 0, none⟩), .pointer (some ⟨w7.heap.size, 0, none⟩), .pointer (some ⟨w7.heap.size + 1, 0, none⟩), .pointer (some ⟨w7.heap.size + 1 + 1, 0, none⟩)]] 64)) w7.heap.size 51 [.slice (some ⟨a, 0, none⟩) n n, .slice (some ⟨b, 0, none⟩) n n] ∧
      RowOf (((w7.alloc (.cells #[.slice (some ⟨a, 0, none⟩) n n, .slice (some ⟨b, 0, none⟩) n n] 51)).alloc (.cells #[.slice none 0 0] 22)).alloc (.cells #[.func (.func 39) #[] #[.pointer (some ⟨gc, 0, none⟩), .pointer (some ⟨gR, 0, none⟩), .pointer (some ⟨w7.heap.size, 0, none⟩), .pointer (some ⟨w7.heap.size + 1, 0, none⟩), .pointer (some ⟨w7.heap.size + 1 + 1, 0, none⟩)]] 64)) (w7.heap.size + 1 + 1) 64 [.func (.func 39) #[] #[.pointer (some ⟨gc, 0, none⟩), .pointer (some ⟨gR, 0, none⟩), .pointer (some ⟨w7.heap.size, 0, none⟩), .pointer (some ⟨w7.heap.size + 1, 0, none⟩), .pointer (some ⟨w7.heap.size + 1 + 1, 0, none⟩)]] ∧
      (((w7.alloc (.cells #[.slice (some ⟨a, 0, none⟩) n n, .slice (some ⟨b, 0, none⟩) n n] 51)).alloc (.cells #[.slice none 0 0] 22)).alloc (.cells #[.func (.func 39) #[] #[.pointer (some ⟨gc, 0, none⟩), .pointer (some ⟨gR, 0, none⟩), .pointer (some ⟨w7.heap.size, 0, none⟩), .pointer (some ⟨w7.heap.size + 1, 0, none⟩), .pointer (some ⟨w7.heap.size + 1 + 1, 0, none⟩)]] 64)).heap.size = w7.heap.size + 3) := Lib.hid (by
    obtain ⟨V, hV⟩ : ∃ V : Value, V = .func (.func 39) #[] #[.pointer (some ⟨gc, 0, none⟩), .pointer (some ⟨gR, 0, none⟩), .pointer (some ⟨w7.heap.size, 0, none⟩), .pointer (some ⟨w7.heap.size + 1, 0, none⟩), .pointer (some ⟨w7.heap.size + 1 + 1, 0, none⟩)] := ⟨_, rfl⟩
    rw [← hV]
    have h1 : (w7.alloc (.cells #[.slice (some ⟨a, 0, none⟩) n n, .slice (some ⟨b, 0, none⟩) n n] 51)).heap.size = w7.heap.size + 1 := by simp
    have h2 : ((w7.alloc (.cells #[.slice (some ⟨a, 0, none⟩) n n, .slice (some ⟨b, 0, none⟩) n n] 51)).alloc (.cells #[.slice none 0 0] 22)).heap.size = w7.heap.size + 1 + 1 := by simp
    have r1 : RowOf (w7.alloc (.cells #[.slice (some ⟨a, 0, none⟩) n n, .slice (some ⟨b, 0, none⟩) n n] 51)) w7.heap.size 51 [.slice (some ⟨a, 0, none⟩) n n, .slice (some ⟨b, 0, none⟩) n n] := (MapKept.heap_alloc w7 _).1
    have r2 : RowOf ((w7.alloc (.cells #[.slice (some ⟨a, 0, none⟩) n n, .slice (some ⟨b, 0, none⟩) n n] 51)).alloc (.cells #[.slice none 0 0] 22)) (w7.heap.size + 1) 22 [.slice none 0 0] := by
      have := (MapKept.heap_alloc (w7.alloc (.cells #[.slice (some ⟨a, 0, none⟩) n n, .slice (some ⟨b, 0, none⟩) n n] 51)) (.cells #[.slice none 0 0] 22)).1
      rw [h1] at this; exact this
    have r3 : RowOf (((w7.alloc (.cells #[.slice (some ⟨a, 0, none⟩) n n, .slice (some ⟨b, 0, none⟩) n n] 51)).alloc (.cells #[.slice none 0 0] 22)).alloc (.cells #[V] 64)) (w7.heap.size + 1 + 1) 64 [V] := by
      have := (MapKept.heap_alloc ((w7.alloc (.cells #[.slice (some ⟨a, 0, none⟩) n n, .slice (some ⟨b, 0, none⟩) n n] 51)).alloc (.cells #[.slice none 0 0] 22)) (.cells #[V] 64)).1
      rw [h2] at this; exact this
    have hb : Below w7.heap.size w7 (((w7.alloc (.cells #[.slice (some ⟨a, 0, none⟩) n n, .slice (some ⟨b, 0, none⟩) n n] 51)).alloc (.cells #[.slice none 0 0] 22)).alloc (.cells #[V] 64)) := (((Below.refl _ _).alloc (Nat.le_refl _) _).alloc (by simp) _).alloc (by simp; omega) _
    have hc := hC7.keep hb
    exact ⟨⟨Below.refl _ _, fun _ _ _ _ _ => rfl, ⟨Nat.zero_le _, Nat.zero_le _, hc.ne, hc.left.congr fun j _ => by simp, hc.right.congr fun j _ => by simp [owP]⟩, none, 0, fun _ => 0, fun _ => 0, r2.alloc _, Rows1.nil ..⟩, hb, (r1.alloc _).alloc _, r3, by simp⟩)
  have HLAY := Lib.hid (fun (W8 : World) (hb : Below w7.heap.size w7 W8) (hs : W8.heap.size = w7.heap.size + 3) => lay_any W8 n gc gch gc gR w7.heap.size (w7.heap.size + 1) (w7.heap.size + 1 + 1) a b Ls Rs l HW.out HB.out hn (by have := HB7.out.2.1; omega) (by have := HB7.out.2.2.2.1; omega) (by have := HB7.out.2.2.2.2; omega) (by have := HB7.out.2.1; omega) (by have := HC7.out.left.lt; omega) (by have := HC7.out.right.lt; omega) (by have := HC7.out.left.lt; omega) (by have := HC7.out.right.lt; omega) (by omega)
    (by have h := HS5.out.below (HB7.out.1.trans (hb.mono HB7.out.1.size)); rw [← HGC.out] at h; exact h)
    ((degs_of_row HT5.out).1.keep (HB7.out.1.trans (hb.mono HB7.out.1.size)) HT5.out.lt) ((degs_of_row HT5.out).2.keep (HB7.out.1.trans (hb.mono HB7.out.1.size)) HT5.out.lt) (by rw [HGC.out]; exact HT5.out.lt))
  have kl := HBIG.out.2.2.2.1.cell (i := 0) rfl
  clear hC7 hb7 hgc HG6 HX6 hlt5 k50 k51 q0
  go_wp2_with fail
  clear kl
  generalize (((w7.alloc (.cells #[.slice (some ⟨a, 0, none⟩) n n, .slice (some ⟨b, 0, none⟩) n n] 51)).alloc (.cells #[.slice none 0 0] 22)).alloc (.cells #[.func (.func 39) #[] #[.pointer (some ⟨gc, 0, none⟩), .pointer (some ⟨gR, 0, none⟩), .pointer (some ⟨w7.heap.size, 0, none⟩), .pointer (some ⟨w7.heap.size + 1, 0, none⟩), .pointer (some ⟨w7.heap.size + 1 + 1, 0, none⟩)]] 64)) = W8 at HBIG ⊢
  have la := HC7.out.left.lt
  have lb := HC7.out.right.lt
  have hg7 := HB7.out.2.1
  have ga := HB7.out.2.2.2.1
  have gb := HB7.out.2.2.2.2
  have hkc : W8.cell? ⟨gc, 0, none⟩ = some (.slice (some ⟨gch, 0, none⟩) n n) := (HBIG.out.2.1.cell (p := ⟨gc, 0, none⟩) (by show gc < w7.heap.size; omega)).trans HB7.out.2.2.1
  have HCALL := Lib.hid (HLAY.out W8 HBIG.out.2.1 HBIG.out.2.2.2.2 hkc ⟨by omega, by omega, by omega⟩ (HBIG.out.2.2.1.cell (i := 0) rfl) (HBIG.out.2.2.1.cell (i := 1) rfl) ⟨by omega, by omega, by omega⟩ (HBIG.out.2.2.2.1.cell (i := 0) rfl) ⟨by omega, by omega, by omega⟩ n 0 [] [] W8 rfl (by omega) (PreOK.nil n) HBIG.out.1 (by
    have h1 : 9 ^ n ≤ 9 ^ 8 := Nat.pow_le_pow_right (by decide) hn
    have h2 : 9 ^ 8 = 43046721 := by decide
    show 0 + 9 ^ n ≤ 50000000
    omega))
  have HLE : Hid (w.heap.size ≤ a ∧ w.heap.size ≤ b ∧ w.heap.size ≤ w7.heap.size ∧ Below w7.heap.size w7 W8) := Lib.hid (by
    have h5 := HX5.out.below.size
    have := HGC.out
    exact ⟨by omega, by omega, by omega, HBIG.out.2.1⟩)
  clear hkc HLAY HBIG HC7 HT5 HS5 hg7 ga gb la lb
  refine HCALL.out.mono ?_
  rintro e w9 ⟨rfl, hw9⟩
  have HE : Hid (∃ A c, RowOf w9 (w7.heap.size + 1) 22 [.slice A (allW n (sd Ls) (sd Rs)).length c] ∧ ListsAt w9 w9.heap.size A (allW n (sd Ls) (sd Rs)).length (allW n (sd Ls) (sd Rs)) ∧ Below w.heap.size w w9) := Lib.hid (by
    have e : ([] : List (List Int)) ++ allP (holdB n (sd Ls) (sd Rs)) n n [] = allW n (sd Ls) (sd Rs) := rfl
    rw [e] at hw9
    obtain ⟨A, c, bs, cs, h1, h2⟩ := hw9.out
    refine ⟨A, c, h1, h2.listsAt rfl fun xs hxs => (mem_allW.1 hxs).pair.len, ?_⟩
    have h8 := HLE.out.2.2.2.size
    exact (HX7.out.below.trans (HLE.out.2.2.2.mono HLE.out.2.2.1)).trans (hw9.below (by have := HLE.out.2.2.1; omega) HLE.out.1 HLE.out.2.1 (by have := HLE.out.2.2.1; omega)))
  clear hw9 HCALL
  obtain ⟨A, c, h1, h2⟩ := HE.out
  obtain ⟨m, hm⟩ : ∃ m, m = (allW n (sd Ls) (sd Rs)).length := ⟨_, rfl⟩
  rw [← hm] at h1 h2
  have HM := Lib.hid hm
  have kk := h1.cell (i := 0) rfl
  have H2 := Lib.hid h2
  clear h1 h2 HE hm
  go_wp2_with fail
  go_ret2
  exact ⟨A, c, by rw [← HM.out]; rfl, by rw [← HM.out]; exact H2.out.1, H2.out.2⟩
end Go.Proofs.Ytmelgnfhocofiaa
