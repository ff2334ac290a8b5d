/- KONIG: for every graph there are two sides just if there is no odd ring; sides part each edge; and a ring is odd, and a ring. No conditions. -/
import Derived.Test.YthfgbgmkiggjmabDoorSidesMain
import Derived.Test.YthfgbgmkiggjmabDoorRingGo
import Derived.Test.YthfgbgmkiggjmabDoorIsRing
import Derived.Test.YthfgbgmkiggjmabDoorKeepGood
import Derived.Test.YthfgbgmkiggjmabDoorOpen
namespace Go.Proofs.YthfgbgmkiggjmabDoor
open Go.RowKit

theorem own_cap {w : World} {base n cap : Nat} {t : TypeId} {A : Option Addr} {xs : List Value} (h : w.ownsRow base t 1 (.slice A n cap) n xs) : n ≤ cap := by
  rcases h.2 with ⟨_, h0⟩ | ⟨g, c, cur, h1, _, _, h2, _⟩
  · omega
  · injection h1 with _ _ h3
    omega
theorem nV_nats (l : List Nat) : l.map nV = (natsL l).map (Value.int .i64) := by simp [natsL, nV]
set_option maxRecDepth 100000 in
set_option maxHeartbeats 400000 in
theorem sidesKonig_bad (n : Int) (A : Option Addr) (len cap : Nat) (es : List E3) (v : Int) (w : World) (hE : EdgesAt w w.heap.size A len es) (hcap : len ≤ cap) (hv : gcheck n es = v) (hv0 : v ≠ 0) :
    Calls Tryd.prog 11 #[.agg #[.int .i64 n, .slice A len cap]] w fun e w' => e = .returned (.bool true) ∧ Below w.heap.size w w' := by
  have HX := Lib.hid (BoxG.start (n := n) (cap := cap) hE)
  have HV := Lib.hid hv
  have HV0 := Lib.hid hv0
  have HG : Hid ((gcheck n es == 0) = false) := Lib.hid (by rw [hv]; simpa using hv0)
  have hb0 : (v != 0) = true := by simpa using hv0
  clear hE hv hv0
  go_enter Tryd.func11, Tryd.ntmps11
  go_wp2_with (first
    | (go_at_call 30; refine (sides_bad n A len cap es v _ (by exact HX.out.edges) HV.out HV0.out).mono ?_; rintro e w1 ⟨rfl, hb1⟩; have HX1 := Lib.hid (HX.out.next hb1); clear hb1; have hc0 := HX1.out.c0; have hc1 := HX1.out.c1)
    | (go_at_call 32; refine (ring_bad n A len cap es v _ (by exact HX1.out.edges) HV.out HV0.out).mono ?_; rintro e w2 ⟨rfl, hb2⟩; have HX2 := Lib.hid (HX1.out.next hb2); clear hb2; have hd0 := HX2.out.c0; have hd1 := HX2.out.c1)
    | (go_at_call 22; refine (good_v n A len cap es false _ (by exact HX2.out.edges) hcap HG.out).mono ?_; rintro e w3 ⟨rfl, hb3⟩; have HX3 := Lib.hid (HX2.out.next hb3); clear hb3))
  go_ret
  exact ⟨rfl, HX3.out.below⟩

set_option maxRecDepth 100000 in
set_option maxHeartbeats 1000000 in
theorem sidesKonig_ring (m : Nat) (A : Option Addr) (len cap : Nat) (es : List E3) (w : World) (hE : EdgesAt w w.heap.size A len es) (hcap : len ≤ cap) (hv : gcheck m es = 0) (hT : Tab w) (hc : es.any (clashB m es) = true) :
    Calls Tryd.prog 11 #[.agg #[.int .i64 m, .slice A len cap]] w fun e w' => e = .returned (.bool true) ∧ Below w.heap.size w w' := by
  obtain ⟨_, hm10', hl45, hgood⟩ := good_of_gcheck hv
  have hm10 : m ≤ 10 := by omega
  have hlen : len ≤ 45 := by have := hE.1; omega
  have HX := Lib.hid (BoxG.start (n := m) (cap := cap) hE)
  have HV := Lib.hid hv
  have HT := Lib.hid hT
  have HC := Lib.hid hc
  have HG := Lib.hid hgood
  have HGG : Hid ((gcheck m es == 0) = true) := Lib.hid (by rw [hv]; rfl)
  have HEX := Lib.hid (side_clash hm10 hgood hc)
  clear hE hv hl45 hT hgood hc
  go_enter Tryd.func11, Tryd.ntmps11
  go_wp2_with (first
    | (go_at_call 30; refine (sides_good m A len cap es _ (by exact HX.out.edges) HV.out (by exact HX.out.tab HT.out)).mono ?_; rintro e w1 ⟨hs, hb1⟩; obtain rfl := hs.1 HC.out; have HX1 := Lib.hid (HX.out.next hb1); clear hb1 hs; have hc0 := HX1.out.c0; have hc1 := HX1.out.c1)
    | (go_at_call 32; refine (ring_good m A len cap es _ (by exact HX1.out.edges) HV.out (by exact HX1.out.tab HT.out)).mono ?_; rintro e w2 ⟨hs, hb2⟩; obtain ⟨n, v, l, Al, capl, hn3, hnm, ho, hvm, hr, hlst, rfl, hown⟩ := hs.resolve_right (fun h => by obtain ⟨n, v, h1, h2⟩ := HEX.out; exact h.1 n v h1 h2); have HX2 := Lib.hid (HX1.out.next hb2); have HO := Lib.hid ho; have HR := Lib.hid hr; have hod := ho.1; have HI2 : Hid (IntsAt w2 w2.heap.size Al n (natsL l)) := Lib.hid (IntsAt.of_own (t := 3) (by rw [nV_nats] at hown; exact hown) (Nat.le_refl _)); have hnc := own_cap hown; clear hb2 hs ho hr hown hlst; have hd0 := HX2.out.c0; have hd1 := HX2.out.c1; have hodb : ((n : Int) % 2 == 1) = true := (by simp; omega); have hodc : ((n : Int).tmod 2 == 1) = true := (by rw [Int.tmod_eq_emod_of_nonneg (by omega)]; exact hodb))
    | (go_at_call 22; refine (good_v m A len cap es true _ (by exact HX2.out.edges) hcap HGG.out).mono ?_; rintro e w3 ⟨rfl, hb3⟩; have HX3 := Lib.hid (HX2.out.next hb3); have HI3 := Lib.hid (HI2.out.go_ hb3); clear hb3; have hf0 := HX3.out.c0; have hf1 := HX3.out.c1)
    | (go_at_call 34; refine (isRing_v m A Al len cap n capl es l true _ (by exact HX3.out.edges) hlen (by exact HI3.out) hnc hn3 (by omega) (fun i hi => (adjE_lt HG.out ((HR.out.ring HO.out).1 i hi)).1) (HR.out.ring HO.out).2 ⟨fun _ => (HR.out.ring HO.out).1, fun _ => rfl⟩).mono ?_; rintro e w4 ⟨rfl, hb4⟩; have HX4 := Lib.hid (HX3.out.next hb4); clear hb4))
  go_ret
  exact ⟨rfl, HX4.out.below⟩
set_option maxRecDepth 100000 in
set_option maxHeartbeats 2000000 in
theorem sidesKonig_sides (m : Nat) (A : Option Addr) (len cap : Nat) (es : List E3) (w : World) (hE : EdgesAt w w.heap.size A len es) (hcap : len ≤ cap) (hv : gcheck m es = 0) (hT : Tab w) (hc : es.any (clashB m es) = false) :
    Calls Tryd.prog 11 #[.agg #[.int .i64 m, .slice A len cap]] w fun e w' => e = .returned (.bool true) ∧ Below w.heap.size w w' := by
  obtain ⟨_, hm10', hl45, hgood⟩ := good_of_gcheck hv
  have hm10 : m ≤ 10 := by omega
  have hlen : len ≤ 45 := by have := hE.1; omega
  have HX := Lib.hid (BoxG.start (n := m) (cap := cap) hE)
  have HV := Lib.hid hv
  have HT := Lib.hid hT
  have HC := Lib.hid hc
  have HG := Lib.hid hgood
  have HGG : Hid ((gcheck m es == 0) = true) := Lib.hid (by rw [hv]; rfl)
  clear hE hv hl45 hT hgood hc
  go_enter Tryd.func11, Tryd.ntmps11
  go_wp2_with (first
    | (go_at_call 30; refine (sides_good m A len cap es _ (by exact HX.out.edges) HV.out (by exact HX.out.tab HT.out)).mono ?_; rintro e w1 ⟨hs, hb1⟩; obtain ⟨g1, rfl, hr1, _⟩ := hs.2 HC.out; have HX1 := Lib.hid (HX.out.next hb1); have HR1 := Lib.hid hr1; clear hb1 hs hr1; have hc0 := HX1.out.c0; have hc1 := HX1.out.c1)
    | (go_at_call 32; refine (ring_good m A len cap es _ (by exact HX1.out.edges) HV.out (by exact HX1.out.tab HT.out)).mono ?_; rintro e w2 ⟨hs, hb2⟩; obtain rfl := (hs.resolve_left (fun h => by obtain ⟨n, v, l, Al, capl, _, _, h1, _, h2, _⟩ := h; have := h1.1; exact side_none HG.out HC.out h1.1 (h2.back 0 (by omega) |> fun h3 => by rw [h2.head (by omega)] at h3; exact h3))).2; have HX2 := Lib.hid (HX1.out.next hb2); have HR2 := Lib.hid (HR1.out.keep hb2); clear hb2 hs; have hd0 := HX2.out.c0; have hd1 := HX2.out.c1)
    | (go_at_call 22; refine (good_v m A len cap es true _ (by exact HX2.out.edges) hcap HGG.out).mono ?_; rintro e w3 ⟨rfl, hb3⟩; have HX3 := Lib.hid (HX2.out.next hb3); have HR3 := Lib.hid (HR2.out.keep hb3); clear hb3; have hf0 := HX3.out.c0; have hf1 := HX3.out.c1))
  clear hf0 hf1 hd0 hd1 hc0 hc1 HX HX1 HX2
  have hw3 := HX3.out.lt
  go_loopw [47] (fun j wr => ∃ i : Nat, i ≤ len ∧ j = .int .i64 i ∧ Hid (BoxG w m A len cap es wr) ∧ Below w3.heap.size w3 wr) (fun j _ => len - (intOf j).toNat)
  case atStart => exact ⟨0, Nat.zero_le _, rfl, HX3, Below.refl _ _⟩
  case round =>
    obtain ⟨i, hi, rfl, HB, hB⟩ := hrel
    have HRr := Lib.hid (HR3.out.keep hB)
    by_cases hil : i < len
    · obtain ⟨b, off, ⟨a0, a1, a2⟩, rfl, hb, hx, hc0, hc1, hc2⟩ := HB.out.edges.at_ hil
      obtain ⟨p0, p1, p2, p3, p4, _⟩ := edge_ok (HG.out i _ hx)
      simp only at p0 p1 p2 p3 p4 hc0 hc1 hc2
      obtain ⟨x, rfl⟩ := Int.eq_ofNat_of_zero_le p0
      obtain ⟨y, rfl⟩ := Int.eq_ofNat_of_zero_le p2
      have hxk : x < m := by omega
      have hyk : y < m := by omega
      have hne : sideN m es x ≠ sideN m es y := side_fine HG.out HC.out (edge_adj (List.mem_of_getElem? hx) rfl rfl)
      have hs1 := sideN_lt m es x
      have hs2 := sideN_lt m es y
      have ht := World.cell?_alloc_lt wr (.cells #[.int .i64 (x : Int), .int .i64 (y : Int), .int .i64 a2] 43)
      have hwl := HB.out.lt
      have hgl := HRr.out.lt
      have e0 := (ht ⟨w.heap.size, 0, none⟩ hwl).trans HB.out.c0
      have d1 : (wr.alloc (.cells #[.int .i64 (x : Int), .int .i64 (y : Int), .int .i64 a2] 43)).cell? ⟨g1, x, none⟩ = some (.int .i64 ((sideN m es x : Nat) : Int)) := (ht ⟨g1, x, none⟩ hgl).trans (HRr.out.cell (by rw [List.getElem?_map, sidesL_get hxk]; rfl))
      have d2 : (wr.alloc (.cells #[.int .i64 (x : Int), .int .i64 (y : Int), .int .i64 a2] 43)).cell? ⟨g1, y, none⟩ = some (.int .i64 ((sideN m es y : Nat) : Int)) := (ht ⟨g1, y, none⟩ hgl).trans (HRr.out.cell (by rw [List.getElem?_map, sidesL_get hyk]; rfl))
      have HBN : Hid (Below wr.heap.size wr (wr.alloc (.cells #[.int .i64 (x : Int), .int .i64 (y : Int), .int .i64 a2] 43))) := Lib.hid ((Below.refl _ _).alloc (Nat.le_refl _) _)
      generalize sideN m es x = s1 at *
      generalize sideN m es y = s2 at *
      have ix0 : (0 : Int) ≤ (x : Int) := by omega
      have ix1 : (x : Int) < (m : Int) := by omega
      have iy0 : (0 : Int) ≤ (y : Int) := by omega
      have iy1 : (y : Int) < (m : Int) := by omega
      have hw : (s1 = 0 ∧ s2 = 1) ∨ (s1 = 1 ∧ s2 = 0) := by omega
      clear hx ht p0 p1 p2 p3 p4 hne hs1 hs2
      rcases hw with ⟨rfl, rfl⟩ | ⟨rfl, rfl⟩
      all_goals
        go_wp2
        go_quiet (fail)
        go_wp2
        go_roundw
        case rel => exact ⟨i + 1, by omega, by go_num, Lib.hid (HB.out.next (below_drewN HBN.out _)), below_drewN (hB.trans (HBN.out.mono hB.size)) _⟩
        case measure => simp [intOf]; omega
    · have hc0 := HB.out.c0
      go_wp2
      go_ret
      exact ⟨rfl, HB.out.below⟩

set_option maxRecDepth 100000 in
theorem sidesKonig_any (n : Int) (A : Option Addr) (len cap : Nat) (es : List E3) (w : World) (hE : EdgesAt w w.heap.size A len es) (hcap : len ≤ cap) (_ : ∀ e ∈ es, WfE e) (_ : (Lit.int .i64 n).wf = true) (hT : Tab w) :
    Calls Tryd.prog 11 #[.agg #[.int .i64 n, .slice A len cap]] w fun e w' => e = .returned (.bool true) ∧ Below w.heap.size w w' := by
  by_cases h : gcheck n es = 0
  · obtain ⟨m, rfl⟩ := Int.eq_ofNat_of_zero_le (good_of_gcheck h).1
    cases hc : es.any (clashB m es) with
    | true => exact sidesKonig_ring m A len cap es w hE hcap h hT hc
    | false => exact sidesKonig_sides m A len cap es w hE hcap h hT hc
  · exact sidesKonig_bad n A len cap es _ w hE hcap rfl h
end Go.Proofs.YthfgbgmkiggjmabDoor
