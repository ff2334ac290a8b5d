/- (*wish.likings).firstPairing. wish.Pair. -/
import Derived.Test.YtmelgnfhocofiaaAskGo
import Derived.Laws.EntriesVeiled
import Derived.Test.YtmelgnfhocofiaaWishHoldsGo
namespace Go.Proofs.Ytmelgnfhocofiaa
open Go.RowKit

set_option maxRecDepth 100000 in
set_option maxHeartbeats 4000000 in
theorem firstPairing_any (A : Option Addr) (n c gR : Nat) (Ls Rs : List (List Int)) (w : World) (W : WishOK n (sd Ls) (sd Rs)) (hn : n ≤ 8) (S : SideAt w w.heap.size A n c Ls) (hD : DegAt w gR 64 (dgF Rs)) (hg : gR < w.heap.size) :
    Calls Try.prog 37 #[.pointer (some ⟨gR, 0, none⟩), .slice A n c] w fun e w' => ∃ a b l, e = .returned (.agg #[.slice (some ⟨a, 0, none⟩) n n, .slice (some ⟨b, 0, none⟩) n n]) ∧ BestL n (sd Ls) (sd Rs) l ∧ Couples w' w.heap.size n a b (fun i => l.getD i (-1)) (fun j => owP l (j : Int)) ∧ Below w.heap.size w w' := by
  have HWK := Lib.hid W
  have HS := Lib.hid S
  have HD := Lib.hid hD
  have HW3 : Hid (RowOf (((w.alloc (.cells #[.pointer (some ⟨gR, 0, none⟩)] 72)).alloc (.cells #[.slice A n c] 22)).alloc (.cells #[.slice none 0 0, .slice none 0 0] 51)) w.heap.size 72 [.pointer (some ⟨gR, 0, none⟩)] ∧ RowOf (((w.alloc (.cells #[.pointer (some ⟨gR, 0, none⟩)] 72)).alloc (.cells #[.slice A n c] 22)).alloc (.cells #[.slice none 0 0, .slice none 0 0] 51)) (w.heap.size + 1) 22 [.slice A n c] ∧ RowOf (((w.alloc (.cells #[.pointer (some ⟨gR, 0, none⟩)] 72)).alloc (.cells #[.slice A n c] 22)).alloc (.cells #[.slice none 0 0, .slice none 0 0] 51)) (w.heap.size + 1 + 1) 51 [.slice none 0 0, .slice none 0 0] ∧ Below w.heap.size w (((w.alloc (.cells #[.pointer (some ⟨gR, 0, none⟩)] 72)).alloc (.cells #[.slice A n c] 22)).alloc (.cells #[.slice none 0 0, .slice none 0 0] 51)) ∧ (((w.alloc (.cells #[.pointer (some ⟨gR, 0, none⟩)] 72)).alloc (.cells #[.slice A n c] 22)).alloc (.cells #[.slice none 0 0, .slice none 0 0] 51)).heap.size = w.heap.size + 3) := Lib.hid (by
    have h1 : (w.alloc (.cells #[.pointer (some ⟨gR, 0, none⟩)] 72)).heap.size = w.heap.size + 1 := by simp
    have h2 : ((w.alloc (.cells #[.pointer (some ⟨gR, 0, none⟩)] 72)).alloc (.cells #[.slice A n c] 22)).heap.size = w.heap.size + 1 + 1 := by simp
    have r1 : RowOf (w.alloc (.cells #[.pointer (some ⟨gR, 0, none⟩)] 72)) w.heap.size 72 [.pointer (some ⟨gR, 0, none⟩)] := (MapKept.heap_alloc w _).1
    have r2 : RowOf ((w.alloc (.cells #[.pointer (some ⟨gR, 0, none⟩)] 72)).alloc (.cells #[.slice A n c] 22)) (w.heap.size + 1) 22 [.slice A n c] := by
      have := (MapKept.heap_alloc (w.alloc (.cells #[.pointer (some ⟨gR, 0, none⟩)] 72)) (.cells #[.slice A n c] 22)).1
      rw [h1] at this; exact this
    have r3 : RowOf (((w.alloc (.cells #[.pointer (some ⟨gR, 0, none⟩)] 72)).alloc (.cells #[.slice A n c] 22)).alloc (.cells #[.slice none 0 0, .slice none 0 0] 51)) (w.heap.size + 1 + 1) 51 [.slice none 0 0, .slice none 0 0] := by
      have := (MapKept.heap_alloc ((w.alloc (.cells #[.pointer (some ⟨gR, 0, none⟩)] 72)).alloc (.cells #[.slice A n c] 22)) (.cells #[.slice none 0 0, .slice none 0 0] 51)).1
      rw [h2] at this; exact this
    exact ⟨(r1.alloc _).alloc _, r2.alloc _, r3, (((Below.refl _ _).alloc (Nat.le_refl _) _).alloc (by simp) _).alloc (by simp; omega) _, by simp⟩)
  clear S hD W
  go_enter Try.func37, Try.ntmps37
  go_wp2_with fail
  generalize (((w.alloc (.cells #[.pointer (some ⟨gR, 0, none⟩)] 72)).alloc (.cells #[.slice A n c] 22)).alloc (.cells #[.slice none 0 0, .slice none 0 0] 51)) = w3 at *
  refine (noPairs_any n w3 hn).mono ?_
  rintro e w5 ⟨a, b, rfl, hC5, hb5⟩
  have hs5 : w.heap.size + 3 ≤ w5.heap.size := by have := hb5.size; have := HW3.out.2.2.2.2; omega
  have hn5 : ¬ w5.heap.size = w.heap.size + 1 + 1 := by omega
  have HST : Hid (AskW w A n c gR (w.heap.size + 1) w5.heap.size w.heap.size (w5.heap.size + 1) (w.heap.size + 1 + 1) a b (fun _ => -1) (fun _ => -1) ((w5.alloc (.cells #[.slice (some ⟨a, 0, none⟩) n n, .slice (some ⟨b, 0, none⟩) n n] 51)).alloc (.cells #[.func (.func 49) #[] #[.pointer (some ⟨w.heap.size + 1, 0, none⟩), .pointer (some ⟨w5.heap.size, 0, none⟩), .pointer (some ⟨w.heap.size, 0, none⟩), .pointer (some ⟨w5.heap.size + 1, 0, none⟩)]] 64))) := Lib.hid (by
    obtain ⟨r1, r2, r3, hB, hz⟩ := HW3.out
    have hb : Below w5.heap.size w5 ((w5.alloc (.cells #[.slice (some ⟨a, 0, none⟩) n n, .slice (some ⟨b, 0, none⟩) n n] 51)).alloc (.cells #[.func (.func 49) #[] #[.pointer (some ⟨w.heap.size + 1, 0, none⟩), .pointer (some ⟨w5.heap.size, 0, none⟩), .pointer (some ⟨w.heap.size, 0, none⟩), .pointer (some ⟨w5.heap.size + 1, 0, none⟩)]] 64)) := ((Below.refl _ _).alloc (Nat.le_refl _) _).alloc (by simp) _
    have hbb : Below w3.heap.size w3 ((w5.alloc (.cells #[.slice (some ⟨a, 0, none⟩) n n, .slice (some ⟨b, 0, none⟩) n n] 51)).alloc (.cells #[.func (.func 49) #[] #[.pointer (some ⟨w.heap.size + 1, 0, none⟩), .pointer (some ⟨w5.heap.size, 0, none⟩), .pointer (some ⟨w.heap.size, 0, none⟩), .pointer (some ⟨w5.heap.size + 1, 0, none⟩)]] 64)) := hb5.trans (hb.mono hb5.size)
    have la := hC5.left.lt
    have lb := hC5.right.lt
    have ba := hC5.ba
    have bb := hC5.bb
    have hcc := hC5.keep hb
    have p1 : RowOf (w5.alloc (.cells #[.slice (some ⟨a, 0, none⟩) n n, .slice (some ⟨b, 0, none⟩) n n] 51)) w5.heap.size 51 [.slice (some ⟨a, 0, none⟩) n n, .slice (some ⟨b, 0, none⟩) n n] := (MapKept.heap_alloc w5 _).1
    have p2 := p1.alloc (.cells #[.func (.func 49) #[] #[.pointer (some ⟨w.heap.size + 1, 0, none⟩), .pointer (some ⟨w5.heap.size, 0, none⟩), .pointer (some ⟨w.heap.size, 0, none⟩), .pointer (some ⟨w5.heap.size + 1, 0, none⟩)]] 64)
    have h5 : (w5.alloc (.cells #[.slice (some ⟨a, 0, none⟩) n n, .slice (some ⟨b, 0, none⟩) n n] 51)).heap.size = w5.heap.size + 1 := by simp
    have p3 : RowOf ((w5.alloc (.cells #[.slice (some ⟨a, 0, none⟩) n n, .slice (some ⟨b, 0, none⟩) n n] 51)).alloc (.cells #[.func (.func 49) #[] #[.pointer (some ⟨w.heap.size + 1, 0, none⟩), .pointer (some ⟨w5.heap.size, 0, none⟩), .pointer (some ⟨w.heap.size, 0, none⟩), .pointer (some ⟨w5.heap.size + 1, 0, none⟩)]] 64)) (w5.heap.size + 1) 64 [.func (.func 49) #[] #[.pointer (some ⟨w.heap.size + 1, 0, none⟩), .pointer (some ⟨w5.heap.size, 0, none⟩), .pointer (some ⟨w.heap.size, 0, none⟩), .pointer (some ⟨w5.heap.size + 1, 0, none⟩)]] := by
      have := (MapKept.heap_alloc (w5.alloc (.cells #[.slice (some ⟨a, 0, none⟩) n n, .slice (some ⟨b, 0, none⟩) n n] 51)) (.cells #[.func (.func 49) #[] #[.pointer (some ⟨w.heap.size + 1, 0, none⟩), .pointer (some ⟨w5.heap.size, 0, none⟩), .pointer (some ⟨w.heap.size, 0, none⟩), .pointer (some ⟨w5.heap.size + 1, 0, none⟩)]] 64)).1
      rw [h5] at this; exact this
    exact ⟨hB.trans (hbb.mono (by omega)), (r2.below hbb (by omega)).cell (i := 0) rfl, p2.cell (i := 0) rfl, p2.cell (i := 1) rfl, (r1.below hbb (by omega)).cell (i := 0) rfl, p3.cell (i := 0) rfl, r3.below hbb (by omega), ⟨by omega, by omega⟩, ⟨by omega, by omega⟩, ⟨by omega, by omega⟩, ⟨by omega, by omega⟩, ⟨by omega, by omega⟩, ⟨by omega, by omega, hcc.ne, hcc.left, hcc.right⟩⟩)
  have HASK := Lib.hid (ask_any w A n c gR (w.heap.size + 1) w5.heap.size w.heap.size (w5.heap.size + 1) (w.heap.size + 1 + 1) a b Ls Rs HWK.out hn HS.out HD.out hg)
  clear hC5 hb5 HW3 hs5
  have hcl := HST.out.cl
  go_wp2_with fail
  generalize hW5 : ((w5.alloc (.cells #[.slice (some ⟨a, 0, none⟩) n n, .slice (some ⟨b, 0, none⟩) n n] 51)).alloc (.cells #[.func (.func 49) #[] #[.pointer (some ⟨w.heap.size + 1, 0, none⟩), .pointer (some ⟨w5.heap.size, 0, none⟩), .pointer (some ⟨w.heap.size, 0, none⟩), .pointer (some ⟨w5.heap.size + 1, 0, none⟩)]] 64)) = W5 at HST hcl ⊢
  clear hW5
  go_loopw [14] (fun t wr => ∃ k : Nat, k ≤ n ∧ t = .int .i64 k ∧ Hid (∃ (nx : Nat → Nat) (f ow : Nat → Int), AskP n (sd Ls) (sd Rs) nx ow ∧ ConsP n f ow ∧ AskW w A n c gR (w.heap.size + 1) w5.heap.size w.heap.size (w5.heap.size + 1) (w.heap.size + 1 + 1) a b f ow wr ∧ (∀ x, x < k → doneP n (sd Ls) nx ow x) ∧ ∀ x, k ≤ x → x < n → ∀ j, j < n → ow j ≠ (x : Int))) (fun t _ => n - (intOf t).toNat)
  case atStart => exact ⟨0, Nat.zero_le _, rfl, Lib.hid ⟨_, _, _, AskP.start, ConsP.start, HST.out, fun x hx => absurd hx (by omega), fun x _ _ j _ h => by omega⟩⟩
  case round =>
    clear HST hcl
    obtain ⟨k, hk, rfl, HR⟩ := hrel
    obtain ⟨nx, f, ow, h1, h2, h3, h4, h5⟩ := HR.out
    have HAW := Lib.hid h3
    by_cases hkl : k < n
    · have HCALL := Lib.hid (HASK.out (leftP n (sd Ls) nx) k nx f ow wr (Nat.le_refl _) h1 h2 h3 hkl (h5 k (Nat.le_refl _) hkl))
      have ca := h3.ca
      have H4 := Lib.hid h4
      have H5 := Lib.hid h5
      have HK := Lib.hid hkl
      clear h1 h2 h3 h4 h5 HR
      go_wp2_with fail
      refine HCALL.out.mono ?_
      rintro e w2 ⟨rfl, hp⟩
      have HN : Hid (∃ (nx : Nat → Nat) (f ow : Nat → Int), AskP n (sd Ls) (sd Rs) nx ow ∧ ConsP n f ow ∧ AskW w A n c gR (w.heap.size + 1) w5.heap.size w.heap.size (w5.heap.size + 1) (w.heap.size + 1 + 1) a b f ow w2 ∧ (∀ x, x < k + 1 → doneP n (sd Ls) nx ow x) ∧ ∀ x, k + 1 ≤ x → x < n → ∀ j, j < n → ow j ≠ (x : Int)) := Lib.hid (by
        obtain ⟨nx', ow', f', p1, p2, p3, p4, p5, p6⟩ := hp
        refine ⟨nx', f', ow', p1, p2, p3, fun x hx => ?_, fun x hx hxn => p6 x hxn (by omega) (H5.out x (by omega) hxn)⟩
        by_cases hxk : x = k
        · rw [hxk]; exact p4
        · exact p5 x (by have := HK.out; omega) hxk (H4.out x (by omega)))
      clear hp HCALL H4 H5 ca HAW
      go_wp2_with fail
      go_roundw
      case rel => exact ⟨k + 1, by have := HK.out; omega, by go_num, HN⟩
      case measure => have := HK.out; simp [intOf]; omega
    · obtain rfl : k = n := by omega
      have HB := Lib.hid (h1.done HWK.out h4)
      have HE : Hid (Couples wr w.heap.size k a b (fun i => (endP k ow).getD i (-1)) (fun j => owP (endP k ow) (j : Int))) := Lib.hid (h3.cp.congr (fun i hi => h2.end_ h1 hi) fun j hj => end_ow h1 rfl HB.out.1.pair hj)
      have cp0 := h3.cp0
      have cp1 := h3.cp1
      have r0 := h3.rr.cell (i := 0) rfl
      have r1 := h3.rr.cell (i := 1) rfl
      have f0 := h3.rr.frozen 0
      have f1 := h3.rr.frozen 1
      have HF : Hid (RowOf ((wr.setCell ⟨w.heap.size + 1 + 1, 0, none⟩ (.slice (some ⟨a, 0, none⟩) k k)).setCell ⟨w.heap.size + 1 + 1, 1, none⟩ (.slice (some ⟨b, 0, none⟩) k k)) (w.heap.size + 1 + 1) 51 [.slice (some ⟨a, 0, none⟩) k k, .slice (some ⟨b, 0, none⟩) k k] ∧ Couples ((wr.setCell ⟨w.heap.size + 1 + 1, 0, none⟩ (.slice (some ⟨a, 0, none⟩) k k)).setCell ⟨w.heap.size + 1 + 1, 1, none⟩ (.slice (some ⟨b, 0, none⟩) k k)) w.heap.size k a b (fun i => (endP k ow).getD i (-1)) (fun j => owP (endP k ow) (j : Int)) ∧ Below w.heap.size w ((wr.setCell ⟨w.heap.size + 1 + 1, 0, none⟩ (.slice (some ⟨a, 0, none⟩) k k)).setCell ⟨w.heap.size + 1 + 1, 1, none⟩ (.slice (some ⟨b, 0, none⟩) k k))) := Lib.hid
        ⟨(h3.rr.set_ 0 _).set_ 1 _, (HE.out.far (p := ⟨w.heap.size + 1 + 1, 0, none⟩) (Ne.symm h3.fr.1) (Ne.symm h3.fr.2) _).far (p := ⟨w.heap.size + 1 + 1, 1, none⟩) (Ne.symm h3.fr.1) (Ne.symm h3.fr.2) _, (h3.below.setCell (p := ⟨w.heap.size + 1 + 1, 0, none⟩) (by show w.heap.size ≤ w.heap.size + 1 + 1; omega) _).setCell (p := ⟨w.heap.size + 1 + 1, 1, none⟩) (by show w.heap.size ≤ w.heap.size + 1 + 1; omega) _⟩
      clear h1 h2 h3 h4 h5 HR HE HASK HAW HWK HS HD
      go_wp2_with fail
      generalize ((wr.setCell ⟨w.heap.size + 1 + 1, 0, none⟩ (.slice (some ⟨a, 0, none⟩) k k)).setCell ⟨w.heap.size + 1 + 1, 1, none⟩ (.slice (some ⟨b, 0, none⟩) k k)) = W at HF ⊢
      have d0 := HF.out.1.cell (i := 0) rfl
      have d1 := HF.out.1.cell (i := 1) rfl
      refine bodyPost_ret (v := coupV k a b) (by simp [coupV, results, Try.results37, go_sem, d0, d1]) rfl ⟨a, b, endP k ow, rfl, HB.out, HF.out.2⟩
end Go.Proofs.Ytmelgnfhocofiaa
namespace Go.Proofs.Ytmelgnfhocofiaa
open Go.RowKit

set_option maxRecDepth 100000 in
theorem field50 (v1 v2 : Value) (w : World) : (Instr.field 51 (.agg #[v1, v2]) 0).run Try.prog w = .ok v1 w := by
  have h : Try.prog.underlying 51 = some _ := Try.underlying51
  simp [Instr.field, run_underlying h, go_sem, asAgg]
set_option maxRecDepth 100000 in
set_option maxHeartbeats 1000000 in
theorem wishPair_bad (A1 A2 : Option Addr) (n1 c1 n2 c2 : Nat) (Ls Rs : List (List Int)) (r : Int) (w : World) (S1 : SideAt w w.heap.size A1 n1 c1 Ls) (S2 : SideAt w w.heap.size A2 n2 c2 Rs) (hr : wishF Ls Rs = r) (hr0 : r ≠ 0) :
    Calls Try.prog 16 #[.agg #[.slice A1 n1 c1, .slice A2 n2 c2]] w fun e w' => e = .returned (.tuple #[.slice none 0 0, .int .i64 r]) ∧ Below w.heap.size w w' := by
  have HX := Lib.hid (BoxS.start S1 S2)
  have hk0 := HX.out.k0
  have hk1 := HX.out.k1
  have HC := Lib.hid (fun W (h1 : BoxS w A1 n1 c1 A2 n2 c2 Ls Rs W) => wishCheck_any A1 A2 n1 c1 n2 c2 Ls Rs W h1.left h1.right)
  rw [hr] at HC
  have hr1 : (r != 0) = true := by simpa using hr0
  clear S1 S2 hr
  go_enter Try.func16, Try.ntmps16
  go_wp2_with fail
  refine (HC.out _ (by exact HX.out)).mono ?_
  rintro e w1 ⟨rfl, hb1⟩
  have HX1 := Lib.hid (HX.out.next hb1)
  clear hb1
  go_wp2_with fail
  go_ret2
  exact ⟨rfl, HX1.out.below⟩
set_option maxRecDepth 100000 in
set_option maxHeartbeats 2000000 in
theorem wishPair_good (A1 A2 : Option Addr) (n c1 c2 : Nat) (Ls Rs : List (List Int)) (w : World) (S1 : SideAt w w.heap.size A1 n c1 Ls) (S2 : SideAt w w.heap.size A2 n c2 Rs) (hr : wishF Ls Rs = 0) (hn : n ≤ 8) (o1 : ∀ xs ∈ Ls, eachB n xs = true) (o2 : ∀ xs ∈ Rs, eachB n xs = true) (W : WishOK n (sd Ls) (sd Rs)) :
    Calls Try.prog 16 #[.agg #[.slice A1 n c1, .slice A2 n c2]] w fun e w' => ∃ a l, e = .returned (.tuple #[.slice (some ⟨a, 0, none⟩) n n, .int .i64 0]) ∧ BestL n (sd Ls) (sd Rs) l ∧ RowC w' a n (fun i => l.getD i (-1)) ∧ w.heap.size ≤ a ∧ Below w.heap.size w w' := by
  have HX := Lib.hid (BoxS.start S1 S2)
  have hk0 := HX.out.k0
  have hk1 := HX.out.k1
  have HC := Lib.hid (fun W (h1 : BoxS w A1 n c1 A2 n c2 Ls Rs W) => wishCheck_any A1 A2 n c1 n c2 Ls Rs W h1.left h1.right)
  rw [hr] at HC
  have HLK := Lib.hid (fun W (h1 : BoxS w A1 n c1 A2 n c2 Ls Rs W) => liking_any A1 A2 n c1 c2 Ls Rs W h1.left h1.right hn o1 o2)
  obtain ⟨C, hC⟩ : ∃ C : Array Value, C = ((List.range 128).map fun j => Value.int .i64 (bothF (dgF Ls) (dgF Rs) j)).toArray := ⟨_, rfl⟩
  have hCV : rowV 128 (bothF (dgF Ls) (dgF Rs)) = .agg C := by rw [hC]; rfl
  rw [hCV] at HLK
  obtain ⟨Z, hZ⟩ : ∃ Z : Array Value, Z = ((List.range 128).map fun _ => Value.int .i64 0).toArray := ⟨_, rfl⟩
  have hz : ∀ w, (zeroValue 58).run Try.prog w = .ok (.agg Z) w := by rw [hZ]; exact zero57
  have HCI : Hid ((Try.prog.info? 58).map (·.size) = some C.size ∧ Z.size = C.size ∧ C.all (·.oneCell') = true) := Lib.hid (by rw [hC, hZ]; exact ⟨by kernel_rfl, by simp, by simp [Value.oneCell']⟩)
  have HCC := Lib.hid hC
  have HW := Lib.hid W
  clear S1 S2 hr o1 o2 hC hCV hZ W
  go_enter Try.func16, Try.ntmps16
  go_wp2_with fail
  refine (HC.out _ (by exact HX.out)).mono ?_
  rintro e w1 ⟨rfl, hb1⟩
  have HX1 := Lib.hid (HX.out.next hb1)
  have l0 := HX1.out.k0
  have l1 := HX1.out.k1
  clear hb1 hk0 hk1 HC HX
  go_wp2_with fail
  refine (HLK.out _ (by exact HX1.out)).mono ?_
  rintro e w2 ⟨rfl, hb2⟩
  have HX2 := Lib.hid (HX1.out.next hb2)
  have k0 := HX2.out.k0
  have k1 := HX2.out.k1
  clear hb2 l0 l1 HLK HX1
  have hlt := HX2.out.lt
  go_wp2_with (refine wpList_store_row rfl 58 _ _ rfl w2.heap.size C rfl rfl 58 Z (heap_alloc_last w2 _) HCI.out.1 HCI.out.2.1 HCI.out.2.2 ?_; rw [World.setRow_alloc_new])
  have HX3 := Lib.hid (HX2.out.next ((Below.refl _ w2).alloc (Nat.le_refl _) (.cells C 58)))
  have HT : Hid (RowT (w2.alloc (.cells C 58)) w2.heap.size 58 128 (bothF (dgF Ls) (dgF Rs))) := Lib.hid (by rw [HCC.out]; exact (MapKept.heap_alloc w2 _).1)
  refine (firstPairing_any A1 n c1 w2.heap.size Ls Rs _ (by exact HW.out) hn (by exact HX3.out.left) (by exact (degs_of_row HT.out).2) (by simp)).mono ?_
  rintro e w4 ⟨a, b, l, rfl, hB, hC4, hb4⟩
  have HE : Hid (BestL n (sd Ls) (sd Rs) l ∧ RowC w4 a n (fun i => l.getD i (-1)) ∧ w.heap.size ≤ a ∧ Below w.heap.size w w4) := Lib.hid (by
    have h5 := HX3.out.below.size
    exact ⟨hB, hC4.left, Nat.le_trans h5 hC4.ba, HX3.out.below.trans (hb4.mono h5)⟩)
  clear hB hC4 hb4
  go_wp2_with fail
  rw [field50, Result.andThen_ok, Oper.upon_value]
  go_wp2_with fail
  go_ret2
  exact ⟨a, l, rfl, HE.out⟩
end Go.Proofs.Ytmelgnfhocofiaa
