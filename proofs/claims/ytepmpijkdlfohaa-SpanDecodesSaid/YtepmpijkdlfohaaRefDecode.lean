/- The reference's Decode: the tree of a code that may be. -/
import Derived.Test.YtepmpijkdlfohaaDecode
import Derived.Deep.AppendLies
import Derived.Deep.RegionLaw
namespace Go.Proofs.Ytepmpijkdlfohaa
open Go.RowKit

def rdW (w : World) (n : Int) : World := (w.alloc (.cells #[.int .i64 0, .slice none 0 0] 24)).alloc (.cells #[.int .i64 n, .slice none 0 0] 24)
theorem rdW_size (w : World) (n : Int) : (rdW w n).heap.size = w.heap.size + 2 := by simp [rdW]
theorem rdW_below (w : World) (n : Int) : Below w.heap.size w (rdW w n) := ((Below.refl _ _).alloc (Nat.le_refl _) _).alloc (by simp) _
def RdInv (w : World) (n : Int) (cs : List Nat) (k : Nat) (vg : Value) (wr : World) : Prop :=
  ∃ ve, RowOf wr (w.heap.size + 1) 24 [.int .i64 n, ve] ∧ wr.ownsRow (w.heap.size + 2) 3 1 vg k ((intsN (goneK cs k)).map (Value.int .i64)) ∧ wr.ownsRow (w.heap.size + 2) 42 3 ve k (cellsE (decE cs k)) ∧ (∀ g, vg.ownBlock = some g → ve.ownBlock ≠ some g) ∧ Below (w.heap.size + 1) (rdW w n) wr
theorem rd_start (w : World) (n : Int) (cs : List Nat) : RdInv w n cs 0 (.slice none 0 0) (rdW w n) := by
  refine ⟨.slice none 0 0, ?_, (by simpa [goneK, intsN] using World.ownsRow_nil ..), (by simpa [decE, cellsE] using World.ownsRow_nil ..), (fun g hg => (by simp [Value.ownBlock] at hg)), Below.refl _ _⟩
  have h := (MapKept.heap_alloc (w.alloc (.cells #[.int .i64 0, .slice none 0 0] 24)) (.cells #[.int .i64 n, .slice none 0 0] 24)).1
  rw [show (w.alloc (.cells #[.int .i64 0, .slice none 0 0] 24)).heap.size = w.heap.size + 1 by simp] at h
  exact h
theorem intsAt_drop {w : World} {B b off n k : Nat} {xs : List Int} (h : IntsAt w B (some ⟨b, off, none⟩) n xs) (hk : k < n) : IntsAt w B (some ⟨b, off + k, none⟩) (n - k) (xs.drop k) := by
  refine ⟨by rw [List.length_drop, h.1], fun _ => ?_⟩
  obtain ⟨b', o', h1, h2, h3⟩ := h.2 (by omega)
  injection h1 with h1
  injection h1 with h4 h5
  subst h4 h5
  refine ⟨b, off + k, rfl, h2, fun i x hx => ?_⟩
  rw [List.getElem?_drop] at hx
  have := h3 (k + i) x hx
  rw [show off + k + i = off + (k + i) by omega]
  exact this
theorem intsN_mem {l : List Nat} {i : Nat} : ((i : Int) ∈ intsN l) ↔ i ∈ l := by
  unfold intsN
  rw [List.mem_map]
  constructor
  · rintro ⟨a, h1, h2⟩
    have : a = i := by omega
    rwa [this] at h1
  · intro h; exact ⟨i, h, rfl⟩
theorem intsN_drop (l : List Nat) (k : Nat) : (intsN l).drop k = intsN (l.drop k) := by simp [intsN]

def RefDec (w : World) (cs : List Nat) (e : Ending) (w' : World) : Prop := ∃ A cap, e = .returned (.agg #[.int .i64 ((cs.length + 2 : Nat) : Int), .slice A (cs.length + 1) cap]) ∧ EdgesAt w' w'.heap.size A (cs.length + 1) (decAll cs) ∧ Below w.heap.size w w'
theorem own_keep1 {w w' : World} {base : Nat} {t : TypeId} {v : Value} {n : Nat} {xs : List Value} (h : w.ownsRow base t 1 v n xs) (hb : ∀ g, base ≤ g → w'.heap[g]? = w.heap[g]?) : w'.ownsRow base t 1 v n xs := by
  refine ⟨h.1, ?_⟩
  rcases h.2 with h0 | ⟨g, cap, cur, hv, hg, hr, hrest⟩
  · exact .inl h0
  · exact .inr ⟨g, cap, cur, hv, hg, (hb g hg).trans hr, hrest⟩

set_option maxRecDepth 100000 in
set_option maxHeartbeats 2000000 in
theorem refDecode_any (A : Option Addr) (cap : Nat) (cs : List Nat) (w : World) (hA : IntsAt w w.heap.size A cs.length (intsN cs)) (hl : cs.length ≤ 8) (hcap : cs.length ≤ cap) (hcm : cap ≤ 9223372036854775807) :
    Calls Try.prog 12 #[.slice A cs.length cap] w (RefDec w cs) := by
  obtain ⟨len, hlen⟩ : ∃ n, n = cs.length := ⟨_, rfl⟩
  have HLn := Lib.hid hlen
  have HA : Hid (IntsAt w w.heap.size A len (intsN cs)) := Lib.hid (by rw [hlen]; exact hA)
  rw [← hlen] at hl hcap ⊢
  clear hA hlen
  obtain ⟨i0, hi, hz0, hz1, hz2⟩ := info_parts infoEdge
  have HI := Lib.hid hi
  have HI0 := Lib.hid hz0
  have HI1 := Lib.hid hz1
  have HI2 := Lib.hid hz2
  clear hi hz0 hz1 hz2
  obtain ⟨i1, hi, hz0, hz1, hz2⟩ := info_parts infoInt
  have HJ := Lib.hid hi
  have HJ0 := Lib.hid hz0
  have HJ1 := Lib.hid hz1
  have HJ2 := Lib.hid hz2
  clear hi hz0 hz1 hz2
  go_enter Try.func12, Try.ntmps12
  go_wp2
  have HS := Lib.hid (rd_start w ((len : Int) + 2) cs)
  go_loopw [4, 5] (fun v j wr => ∃ k : Nat, k ≤ len ∧ j = .int .i64 k ∧ Hid (RdInv w ((len : Int) + 2) cs k v wr)) (fun _ j _ => len - (intOf j).toNat)
  case atStart => exact ⟨0, Nat.zero_le _, rfl, HS⟩
  case round =>
    clear HS
    obtain ⟨k, hk, rfl, HD⟩ := hrel
    obtain ⟨ve, Ag, cg, rfl, HRow, HOg, HOe, HAp, hB⟩ : ∃ ve Ag cg, u4 = .slice Ag k cg ∧ Hid (RowOf wr (w.heap.size + 1) 24 [.int .i64 ((len : Int) + 2), ve]) ∧ Hid (wr.ownsRow (w.heap.size + 2) 3 1 (.slice Ag k cg) k ((intsN (goneK cs k)).map (Value.int .i64))) ∧ Hid (wr.ownsRow (w.heap.size + 2) 42 3 ve k (cellsE (decE cs k))) ∧ Hid (∀ g, (Value.slice Ag k cg).ownBlock = some g → ve.ownBlock ≠ some g) ∧ Hid (Below (w.heap.size + 1) (rdW w ((len : Int) + 2)) wr) := by
      obtain ⟨ve, h1, h2, h3, h4, h5⟩ := HD.out
      obtain ⟨Ag, cg, rfl⟩ := own_form h2
      exact ⟨ve, Ag, cg, rfl, Lib.hid h1, Lib.hid h2, Lib.hid h3, Lib.hid h4, Lib.hid h5⟩
    clear HD
    have hsz : w.heap.size + 2 ≤ wr.heap.size := by have := hB.out.size; rw [rdW_size] at this; exact this
    have HBw : Hid (Below w.heap.size w wr) := Lib.hid ((rdW_below w _).trans (hB.out.mono (by omega)))
    have HIg : Hid (IntsAt wr wr.heap.size Ag k (intsN (goneK cs k))) := Lib.hid (IntsAt.of_own HOg.out (Nat.le_refl _))
    by_cases hki : k < len
    · obtain ⟨b, off, y, rfl, hb, hy, hc⟩ := (HA.out.below HBw.out).at_ hki
      obtain ⟨c, hcs, rfl⟩ := intsN_get hy
      have HId : Hid (IntsAt wr wr.heap.size (some ⟨b, off + k, none⟩) (len - k) (intsN (cs.drop k))) := Lib.hid (by
        have h := intsAt_drop ((HA.out.below HBw.out).more (B' := wr.heap.size) (by omega)) hki
        rw [intsN_drop] at h
        exact h)
      have hkcap : ¬ k = cap := by omega
      have hcapk : ¬ cap = k := by omega
      have ik0 : (0 : Int) ≤ (k : Int) := by omega
      have ik1 : (k : Int) ≤ (len : Int) := by omega
      have ik2 : (k : Int) < (len : Int) := by omega
      have hnk : nextK cs k ≤ 8 := by have := nextK_lt (cs := cs) (k := k) (by have := HLn.out; omega); have := HLn.out; omega
      have HCS := Lib.hid hcs
      clear hy hcs
      go_wp2
      go_loop [6] (fun j => ∃ a : Nat, a ≤ nextK cs k ∧ j = .int .i64 a) (fun j => nextK cs k - (intOf j).toNat)
      case atStart => exact ⟨0, Nat.zero_le _, rfl⟩
      case round =>
        obtain ⟨a, ha, rfl⟩ := hrel
        have hsub : (((len : Int) - (k : Int)).toNat) = len - k := by omega
        by_cases hap : a < nextK cs k
        · have hm := freeN_below hap
          by_cases hg : a ∈ goneK cs k
          · have HH : Hid (hasI (intsN (goneK cs k)) (a : Int) = true) := Lib.hid (by rw [hasI_iff, intsN_mem]; exact hg)
            clear hm hg
            go_wp2_with (go_at_call 27; refine (has_v k cg a true Ag (intsN (goneK cs k)) _ (by exact HIg.out) (by omega) HH.out).mono ?_; rintro e w1 ⟨rfl, rfl⟩)
            go_round
            case rel => exact ⟨a + 1, by omega, by go_num⟩
            case measure => simp [intOf]; omega
          · have HH : Hid (hasI (intsN (goneK cs k)) (a : Int) = false) := Lib.hid (by rw [Bool.eq_false_iff, Ne, hasI_iff, intsN_mem]; exact hg)
            have HH2 : Hid (hasI (intsN (cs.drop k)) (a : Int) = true) := Lib.hid (by rw [hasI_iff, intsN_mem]; exact (List.mem_append.1 hm).resolve_left hg)
            clear hm hg
            go_wp2_with (first
              | (go_at_call 27; (with_reducible refine (has_v k cg a false Ag (intsN (goneK cs k)) _ (by exact HIg.out) (by omega) HH.out).mono ?_); rintro e w1 ⟨rfl, rfl⟩)
              | (go_at_call 27; (refine (has_v (len - k) (cap - k) a true (some ⟨b, off + k, none⟩) (intsN (cs.drop k)) _ (by exact HId.out) (by omega) HH2.out).mono ?_); rintro e w1 ⟨rfl, rfl⟩))
            go_round
            case rel => exact ⟨a + 1, by omega, by go_num⟩
            case measure => simp [intOf]; omega
        · obtain rfl : a = nextK cs k := by omega
          have hnot := freeN_not (goneK cs k ++ cs.drop k)
          have HH : Hid (hasI (intsN (goneK cs k)) (nextK cs k : Int) = false) := Lib.hid (by rw [Bool.eq_false_iff, Ne, hasI_iff, intsN_mem]; exact fun h => hnot (List.mem_append_left _ h))
          have HH2 : Hid (hasI (intsN (cs.drop k)) (nextK cs k : Int) = false) := Lib.hid (by rw [Bool.eq_false_iff, Ne, hasI_iff, intsN_mem]; exact fun h => hnot (List.mem_append_right _ h))
          have HE : Hid (cellsE (decE cs (k + 1)) = cellsE (decE cs k) ++ [.int .i64 (nextK cs k : Int), .int .i64 (c : Int), .int .i64 0]) := Lib.hid (by
            rw [decE, cellsE_snoc, show cs.getD k 0 = c by rw [List.getD_eq_getElem?_getD, HCS.out]; rfl]; rfl)
          have HG : Hid ((intsN (goneK cs (k + 1))).map (Value.int .i64) = (intsN (goneK cs k)).map (Value.int .i64) ++ [.int .i64 (nextK cs k : Int)]) := Lib.hid (by
            rw [goneK_succ]; simp [intsN])
          generalize nextK cs k = a at *
          clear hnot hap
          go_wp2_with (first
            | (go_at_call 27; (with_reducible refine (has_v k cg a false Ag (intsN (goneK cs k)) _ (by exact HIg.out) (by omega) HH.out).mono ?_); rintro e w1 ⟨rfl, rfl⟩)
            | (go_at_call 27; (refine (has_v (len - k) (cap - k) a false (some ⟨b, off + k, none⟩) (intsN (cs.drop k)) _ (by exact HId.out) (by omega) HH2.out).mono ?_); rintro e w1 ⟨rfl, rfl⟩)
            | (at_builtin; refine wpList_append_lies _ rfl _ _ 25 rfl (w.heap.size + 2) 3 i1 (.int .i64 0) 1 8 Try.underlying25 HJ.out HJ0.out HJ1.out HJ2.out rfl (by decide) _ _ _ rfl (HOg.out.alloc _) ⟨wr.heap.size, 0, none⟩ 1 1 [.int .i64 (a : Int)] rfl rfl ?c1 ?c2 (by decide) ?c3 ?c4 ?c5 (wr.heap.size + 1) (by simp) ?_))
          try (case c1 => exact cell_one_new _ _ _)
          case c2 => simp [Value.oneCell']
          case c3 => unfold maxLen; omega
          case c4 => omega
          case c5 => simp; omega
          intro g' cap' w3 hown' hgrow hat hgl3
          have hgs := hgrow.size
          have hne : ∀ g, g < w.heap.size + 2 → some g ≠ (Value.slice Ag k cg).ownBlock := fun g hg he => by have := own_base HOg.out g he.symm; omega
          have hR3 : RowOf w3 (w.heap.size + 1) 24 [.int .i64 ((len : Int) + 2), ve] := (hgrow.block _ (by simp; omega) (hne _ (by omega))).trans (HRow.out.alloc _)
          have hapv : ve.ownBlock = none ∨ ve.ownBlock ≠ (Value.slice Ag k cg).ownBlock := by
            cases hx : ve.ownBlock with
            | none => exact .inl rfl
            | some x => exact .inr fun he => HAp.out x he.symm hx
          have HOe3 : Hid (w3.ownsRow (w.heap.size + 2) 42 3 ve k (cellsE (decE cs k))) := Lib.hid ((HOe.out.alloc _).kept hgrow hapv)
          have HB3 : Hid (Below (w.heap.size + 1) (rdW w ((len : Int) + 2)) w3) := Lib.hid ((hB.out.alloc (by omega) _).grown hgrow (by simp; omega) (fun g hg => by have := own_base HOg.out g hg; omega))
          have HAp3 : Hid (ve.ownBlock ≠ some g') := Lib.hid (by
            rcases hat with h | h
            · exact HAp.out g' h
            · intro he
              have := (HOe.out.lt g' he).2
              omega)
          have HOg3 : Hid (w3.ownsRow (w.heap.size + 2) 3 1 (.slice (some ⟨g', 0, none⟩) (k + 1) cap') (k + 1) ((intsN (goneK cs (k + 1))).map (Value.int .i64))) := Lib.hid (by rw [HG.out]; exact hown')
          have HR3 := Lib.hid hR3
          have hs3 : wr.heap.size + 1 ≤ w3.heap.size := by simpa using hgs
          have hc3 : w3.cell? ⟨b, off + k, none⟩ = some (.int .i64 c) := by
            rw [hgrow.cell_far _ (by simp; omega) (hne _ (by show b < _; omega)), World.cell?_alloc_lt _ _ _ (by show b < _; omega)]
            exact hc
          have hv3 : w3.cell? ⟨w.heap.size + 1, 1, none⟩ = some ve := hR3.cell rfl
          have hf3 := hR3.frozen 1
          have hl3 : w.heap.size + 1 < w3.heap.size := by omega
          clear hown' hgrow hgs hne hapv hat hR3 hc HOg HOe HRow HAp HIg HId
          have HNE : Hid (∀ g, g < w.heap.size + 2 → some g ≠ ve.ownBlock) := Lib.hid fun g hg he => by have := own_base3 HOe3.out g he.symm; omega
          go_wp2
          go_region_law ((refine step_append_lies _ (by rfl) (.tmp 36) (.tmp 43) 22 (by rfl) (w.heap.size + 2) 42 i0 (.agg #[.int .i64 0, .int .i64 0, .int .i64 0]) 3 24 Try.underlying22 HI.out HI0.out HI1.out HI2.out rfl (by decide) ve k (cellsE (decE cs k)) (by rfl) ((HOe3.out.alloc _).drew) ⟨w3.heap.size, 0, none⟩ 1 1 [.int .i64 (a : Int), .int .i64 (c : Int), .int .i64 0] (by rfl) (by rfl) (World.news_of_block (cs := #[.int .i64 (a : Int), .int .i64 (c : Int), .int .i64 0]) (t := 42) (fr := (0, 0)) (heap_alloc_new w3 _)) (by simp [Value.oneCell']) (by decide) (by unfold maxLen; omega) (by omega) (by simp; omega) (w3.heap.size + 1) (by simp) ?_; intro g5 cap5 w5 hown5 hgrow5 hat5 hlt5; have HR5 : Hid (RowOf w5 (w.heap.size + 1) 24 [.int .i64 ((len : Int) + 2), ve]) := Lib.hid ((hgrow5.block _ (by simp; omega) (HNE.out _ (by omega))).trans (HR3.out.alloc _)); have hv5 : w5.cell? ⟨w.heap.size + 1, 1, none⟩ = some ve := HR5.out.cell rfl; have hf5 := HR5.out.frozen 1; have hl5 : w.heap.size + 1 < w5.heap.size := HR5.out.lt))
          all_goals
            have HN : Hid (RdInv w ((len : Int) + 2) cs (k + 1) (.slice (some ⟨g', 0, none⟩) (k + 1) cap') (w5.setCell ⟨w.heap.size + 1, 1, none⟩ (.slice (some ⟨g5, 0, none⟩) (k + 1) cap5))) := Lib.hid (by
              refine ⟨_, HR5.out.set_ 1 _, ?_, ?_, fun g hg => ?_, ?_⟩
              · exact own_keep1 (((HOg3.out.alloc _).drew).kept hgrow5 (.inr (Ne.symm HAp3.out))) fun g hg => Below.heap_setCell _ _ _ g (by show g ≠ w.heap.size + 1; omega)
              · rw [HE.out]
                exact own_keep3 hown5 fun g hg => Below.heap_setCell _ _ _ g (by show g ≠ w.heap.size + 1; omega)
              · have hg' : g' = g := by simpa [Value.ownBlock] using hg
                subst hg'
                intro he
                have he' : g5 = g' := by simpa [Value.ownBlock] using he
                subst he'
                rcases hat5 with h | h
                · exact HAp3.out h
                · omega
              · exact ((((HB3.out.alloc (by omega) _).drew).grown hgrow5 (by simp; omega) (fun g hg => by have := own_base3 HOe3.out g hg; omega))).setCell (p := ⟨w.heap.size + 1, 1, none⟩) (Nat.le_refl _) _)
            clear hown5 hgrow5 hat5
            go_wp2
            go_roundw
            case rel => exact ⟨k + 1, by omega, by go_num, HN⟩
            case measure => simp [intOf]; omega
    · obtain rfl : k = len := by omega
      have hgo : goneK cs cs.length = goneK cs k := by rw [HLn.out]
      have hla : lastA cs ≤ 8 := by have := lastA_le cs; have := HLn.out; omega
      have hlb : lastB cs ≤ 9 := by have := lastB_le cs; have := HLn.out; omega
      have hab := lastA_lt_lastB cs
      have hA1 : ∀ j, j < lastA cs → j ∈ goneK cs k := fun j hj => by rw [← hgo]; exact freeN_below hj
      have hA2 : lastA cs ∉ goneK cs k := by rw [← hgo]; exact freeN_not _
      have hB1 : ∀ j, lastA cs < j → j < lastB cs → j ∈ goneK cs k := fun j h1 h2 => by
        have h := freeN_below (l := goneK cs cs.length ++ [lastA cs]) (j := j) h2
        rw [List.mem_append, List.mem_singleton, hgo] at h
        exact h.resolve_right (by omega)
      have hB2 : lastB cs ∉ goneK cs k := fun h => by
        have h2 : lastB cs ∉ goneK cs cs.length ++ [lastA cs] := freeN_not _
        exact h2 (List.mem_append_left _ (by rw [hgo]; exact h))
      have HA1 := Lib.hid hA1
      have HA2 : Hid (hasI (intsN (goneK cs k)) (lastA cs : Int) = false) := Lib.hid (by rw [Bool.eq_false_iff, Ne, hasI_iff, intsN_mem]; exact hA2)
      have HB1' := Lib.hid hB1
      have HB2 : Hid (hasI (intsN (goneK cs k)) (lastB cs : Int) = false) := Lib.hid (by rw [Bool.eq_false_iff, Ne, hasI_iff, intsN_mem]; exact hB2)
      have HE : Hid (cellsE (decAll cs) = cellsE (decE cs k) ++ [.int .i64 (lastA cs : Int), .int .i64 (lastB cs : Int), .int .i64 0]) := Lib.hid (by
        rw [decAll, cellsE_snoc, ← HLn.out]; rfl)
      generalize lastA cs = p at *
      generalize lastB cs = q at *
      clear hgo hA1 hA2 hB1 hB2
      go_wp2
      go_loop [7] (fun j => ∃ a : Nat, a ≤ p ∧ j = .int .i64 a) (fun j => p - (intOf j).toNat)
      case atStart => exact ⟨0, Nat.zero_le _, rfl⟩
      case round =>
        obtain ⟨a, ha, rfl⟩ := hrel
        by_cases hap : a < p
        · have HH : Hid (hasI (intsN (goneK cs k)) (a : Int) = true) := Lib.hid (by rw [hasI_iff, intsN_mem]; exact HA1.out a hap)
          go_wp2_with (go_at_call 27; refine (has_v k cg a true Ag (intsN (goneK cs k)) _ (by exact HIg.out) (by omega) HH.out).mono ?_; rintro e w1 ⟨rfl, rfl⟩)
          go_round
          case rel => exact ⟨a + 1, by omega, by go_num⟩
          case measure => simp [intOf]; omega
        · obtain rfl : a = p := by omega
          clear hap
          go_wp2_with (go_at_call 27; refine (has_v k cg a false Ag (intsN (goneK cs k)) _ (by exact HIg.out) (by omega) HA2.out).mono ?_; rintro e w1 ⟨rfl, rfl⟩)
          go_loop [8] (fun j => ∃ b : Nat, a < b ∧ b ≤ q ∧ j = .int .i64 b) (fun j => q - (intOf j).toNat)
          case atStart => exact ⟨a + 1, by omega, by omega, by go_num⟩
          case round =>
            obtain ⟨b, hb0, hb, rfl⟩ := hrel
            by_cases hbq : b < q
            · have HH : Hid (hasI (intsN (goneK cs k)) (b : Int) = true) := Lib.hid (by rw [hasI_iff, intsN_mem]; exact HB1'.out b hb0 hbq)
              go_wp2_with (go_at_call 27; refine (has_v k cg b true Ag (intsN (goneK cs k)) _ (by exact HIg.out) (by omega) HH.out).mono ?_; rintro e w1 ⟨rfl, rfl⟩)
              go_round
              case rel => exact ⟨b + 1, by omega, by omega, by go_num⟩
              case measure => simp [intOf]; omega
            · obtain rfl : b = q := by omega
              have hve : wr.cell? ⟨w.heap.size + 1, 1, none⟩ = some ve := HRow.out.cell rfl
              have hve0 : wr.cell? ⟨w.heap.size + 1, 0, none⟩ = some (.int .i64 ((k : Int) + 2)) := HRow.out.cell rfl
              have hlt2 : w.heap.size + 1 < wr.heap.size := by omega
              clear hbq
              go_wp2_with (first
                | (go_at_call 27; refine (has_v k cg b false Ag (intsN (goneK cs k)) _ (by exact HIg.out) (by omega) HB2.out).mono ?_; rintro e w1 ⟨rfl, rfl⟩)
                | (at_builtin; refine wpList_append_own _ rfl _ _ 22 rfl (w.heap.size + 2) 42 i0 (.agg #[.int .i64 0, .int .i64 0, .int .i64 0]) 3 24 Try.underlying22 HI.out HI0.out HI1.out HI2.out rfl (by decide) _ _ _ rfl (HOe.out.alloc _) ⟨wr.heap.size, 0, none⟩ 1 1 [.int .i64 (a : Int), .int .i64 (b : Int), .int .i64 0] rfl rfl ?d1 ?d2 ?d3 ?d4 ?d5 ?_))
              try (case d1 => intro j u hj; rcases j with _ | _ | _ | j <;> simp at hj <;> subst hj <;> simp [go_sem, Addr.add])
              case d2 => simp [Value.oneCell']
              case d3 => unfold maxLen; omega
              case d4 => omega
              case d5 => simp; omega
              intro v' w5 hown' hgrow _
              obtain ⟨A', cap', rfl⟩ := own_form3 hown'
              have hne : ∀ g, g < w.heap.size + 2 → some g ≠ ve.ownBlock := fun g hg he => by have := own_base3 HOe.out g he.symm; omega
              have hR5 : RowOf w5 (w.heap.size + 1) 24 [.int .i64 ((k : Int) + 2), ve] := (hgrow.block _ (by simp; omega) (hne _ (by omega))).trans (HRow.out.alloc _)
              have hB6 : Below (w.heap.size + 1) (rdW w ((k : Int) + 2)) w5 := (hB.out.alloc (by omega) _).grown hgrow (by simp; omega) (fun g hg => by have := own_base3 HOe.out g hg; omega)
              have hv5 : w5.cell? ⟨w.heap.size + 1, 1, none⟩ = some ve := hR5.cell rfl
              have hv50 : w5.cell? ⟨w.heap.size + 1, 0, none⟩ = some (.int .i64 ((k : Int) + 2)) := hR5.cell rfl
              have hf5 := hR5.frozen 1
              have hl5 := hR5.lt
              have r0 : w5.cell? ⟨w.heap.size, 0, none⟩ = some (.int .i64 0) := by rw [hB6.cell (p := ⟨w.heap.size, 0, none⟩) (by simp)]; simp [rdW, go_sem]
              have r1 : w5.cell? ⟨w.heap.size, 1, none⟩ = some (.slice none 0 0) := by rw [hB6.cell (p := ⟨w.heap.size, 1, none⟩) (by simp)]; simp [rdW, go_sem]
              have f0 : w5.frozen? ⟨w.heap.size, 0, none⟩ = false := by rw [hB6.frozen (p := ⟨w.heap.size, 0, none⟩) (by simp)]; simp [rdW, go_sem]
              have f1 : w5.frozen? ⟨w.heap.size, 1, none⟩ = false := by rw [hB6.frozen (p := ⟨w.heap.size, 1, none⟩) (by simp)]; simp [rdW, go_sem]
              have HB6 : Hid (Below w.heap.size w w5) := Lib.hid ((rdW_below w _).trans (hB6.mono (by omega)))
              have HOW : Hid (w5.ownsRow (w.heap.size + 2) 42 3 (.slice A' (k + 1) cap') (k + 1) (cellsE (decAll cs))) := Lib.hid (by rw [HE.out]; exact hown')
              clear hown' hgrow hne hR5 hB6
              go_wp2
              have HFIN : Hid ((((w5.setCell ⟨w.heap.size + 1, 1, none⟩ (.slice A' (k + 1) cap')).setCell ⟨w.heap.size, 0, none⟩ (.int .i64 ((k : Int) + 2))).setCell ⟨w.heap.size, 1, none⟩ (.slice A' (k + 1) cap')).ownsRow (w.heap.size + 2) 42 3 (.slice A' (k + 1) cap') (k + 1) (cellsE (decAll cs))) := Lib.hid
                (own_keep3 HOW.out fun g hg => ((Below.heap_setCell _ _ _ g (by show g ≠ w.heap.size; omega)).trans (Below.heap_setCell _ _ _ g (by show g ≠ w.heap.size; omega))).trans (Below.heap_setCell _ _ _ g (by show g ≠ w.heap.size + 1; omega)))
              refine bodyPost_ret (v := .agg #[.int .i64 ((k : Int) + 2), .slice A' (k + 1) cap']) (by simp [results, Try.results12, go_sem, r0, r1]) rfl ⟨A', cap', ?_, ?_, ?_⟩
              · rw [← HLn.out]; rfl
              · rw [← HLn.out]; exact EdgesAt.of_own3 HFIN.out
              · exact ((HB6.out.setCell (p := ⟨w.heap.size + 1, 1, none⟩) (Nat.le_succ _) _).setCell (p := ⟨w.heap.size, 0, none⟩) (Nat.le_refl _) _).setCell (p := ⟨w.heap.size, 1, none⟩) (Nat.le_refl _) _
end Go.Proofs.Ytepmpijkdlfohaa
