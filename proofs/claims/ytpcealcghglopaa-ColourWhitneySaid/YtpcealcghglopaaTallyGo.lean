/- colour.count's closure: it adds up in how many ways the nodes from one on go into sets. Conditions: at most ten nodes, colours from -1 to 12. -/
import Derived.Test.YtpcealcghglopaaTallyP
import Derived.Test.YtpcealcghglopaaWordsAt
import Derived.Test.YtpcealcghglopaaNeigh
import Derived.Deep.RegionHeld3
import Derived.IntWalk
namespace Go.Proofs.Ytpcealcghglopaa
open Go.RowKit

/-- The sets so far lie in their row; all else lies as it lay. -/
structure TallyW (w : World) (gS n : Nat) (L : List Nat) (wr : World) : Prop where
  low : Below 0 w wr
  blk : ∀ b, b < w.heap.size → b ≠ gS → wr.heap[b]? = w.heap[b]?
  row : ∃ X, L.length + X.length = n ∧ RowOf wr gS 52 ((L ++ X).map u32V)
section
variable {w wr : World} {gS n c x : Nat} {L : List Nat}
theorem TallyW.cell (H : TallyW w gS n L wr) {p : Addr} {v : Value} (hp : w.cell? p = some v) (h1 : p.block ≠ gS) : wr.cell? p = some v := by
  have := H.blk p.block (block_lt_of_cell hp) h1
  rw [← hp]; unfold World.cell?; rw [this]
theorem TallyW.drew (H : TallyW w gS n L wr) : TallyW w gS n L wr.drew := ⟨H.low.drew, H.blk, H.row⟩
theorem TallyW.get (H : TallyW w gS n L wr) (hc : c < L.length) : wr.cell? ⟨gS, c, none⟩ = some (.int .u32 ((L.getD c 0 : Nat) : Int)) := by
  obtain ⟨X, _, hr⟩ := H.row
  refine hr.cell ?_
  rw [List.getElem?_map, List.getElem?_append_left hc, List.getD_eq_getElem?_getD, List.getElem?_eq_getElem hc]; rfl
theorem TallyW.frozen (H : TallyW w gS n L wr) (i : Nat) : wr.frozen? ⟨gS, i, none⟩ = false := by
  obtain ⟨X, _, hr⟩ := H.row
  exact hr.frozen i
theorem TallyW.lt (H : TallyW w gS n L wr) : gS < wr.heap.size := by
  obtain ⟨X, _, hr⟩ := H.row
  exact hr.lt
theorem TallyW.has (H : TallyW w gS n L wr) {i : Nat} (hi : i < n) : ∃ v, wr.cell? ⟨gS, i, none⟩ = some v := by
  obtain ⟨X, h, hr⟩ := H.row
  have hl : i < ((L ++ X).map u32V).length := by rw [List.length_map, List.length_append, h]; exact hi
  exact ⟨_, hr.cell (List.getElem?_eq_getElem hl)⟩
theorem TallyW.len (H : TallyW w gS n L wr) : L.length ≤ n := by
  obtain ⟨X, h, _⟩ := H.row
  omega
theorem TallyW.set_ (H : TallyW w gS n L wr) (hc : c < L.length) (x : Nat) : TallyW w gS n (L.set c x) (wr.setCell ⟨gS, c, none⟩ (.int .u32 (x : Int))) := by
  obtain ⟨X, h, hr⟩ := H.row
  refine ⟨H.low.setCell (p := ⟨gS, c, none⟩) (Nat.zero_le _) _, fun b hb hne => (Below.heap_setCell wr _ _ b hne).trans (H.blk b hb hne), X, by rw [List.length_set]; exact h, ?_⟩
  have h2 := hr.set_ c (u32V x)
  rw [← List.map_set, List.set_append_left _ _ hc] at h2
  exact h2
theorem TallyW.put (H : TallyW w gS n L wr) (hc : L.length < n) (x : Nat) : TallyW w gS n (L ++ [x]) (wr.setCell ⟨gS, L.length, none⟩ (.int .u32 (x : Int))) := by
  obtain ⟨X, h, hr⟩ := H.row
  cases X with
  | nil => simp at h; omega
  | cons y X =>
    refine ⟨H.low.setCell (p := ⟨gS, L.length, none⟩) (Nat.zero_le _) _, fun b hb hne => (Below.heap_setCell wr _ _ b hne).trans (H.blk b hb hne), X, by simp at h ⊢; omega, ?_⟩
    have h2 := hr.set_ L.length (u32V x)
    rw [← List.map_set, List.set_append_right _ _ (Nat.le_refl _), Nat.sub_self, List.set_cons_zero] at h2
    rw [List.append_assoc]
    exact h2
theorem TallyW.drop (H : TallyW w gS n (L ++ [x]) wr) : TallyW w gS n L wr := by
  obtain ⟨X, h, hr⟩ := H.row
  refine ⟨H.low, H.blk, x :: X, by simp at h ⊢; omega, ?_⟩
  rw [List.append_assoc] at hr
  exact hr
theorem set_back (L : List Nat) (c y : Nat) (hc : c < L.length) : (L.set c y).set c (L.getD c 0) = L := by
  rw [List.set_set, List.getD_eq_getElem?_getD, List.getElem?_eq_getElem hc, Option.getD_some, List.set_getElem_self]
end
theorem pow22 {r : Nat} (h : r ≤ 10) : (22 : Int) ^ r ≤ 26559922791424 := by
  rcases (show r = 0 ∨ r = 1 ∨ r = 2 ∨ r = 3 ∨ r = 4 ∨ r = 5 ∨ r = 6 ∨ r = 7 ∨ r = 8 ∨ r = 9 ∨ r = 10 by omega) with h | h | h | h | h | h | h | h | h | h | h <;> subst h <;> decide

theorem mul_abs13 {d y B : Int} (h0 : -12 ≤ d) (h1 : d ≤ 13) (h2 : -B ≤ y) (h3 : y ≤ B) : -(B * 13) ≤ d * y ∧ d * y ≤ B * 13 := by
  rcases Int.le_total 0 d with h | h
  · have a1 : d * y ≤ d * B := Int.mul_le_mul_of_nonneg_left h3 h
    have a2 : d * -B ≤ d * y := Int.mul_le_mul_of_nonneg_left h2 h
    have a3 : d * B ≤ 13 * B := Int.mul_le_mul_of_nonneg_right h1 (by omega)
    rw [Int.mul_neg] at a2
    omega
  · have a1 : -d * y ≤ -d * B := Int.mul_le_mul_of_nonneg_left h3 (by omega)
    have a2 : -d * -B ≤ -d * y := Int.mul_le_mul_of_nonneg_left h2 (by omega)
    have a3 : -d * B ≤ 13 * B := Int.mul_le_mul_of_nonneg_right (by omega) (by omega)
    rw [Int.neg_mul] at a1
    rw [Int.neg_mul_neg, Int.neg_mul] at a2
    rw [Int.neg_mul] at a3 a1
    omega
set_option maxRecDepth 100000 in
set_option maxHeartbeats 8000000 in
theorem tally_any (w : World) (n gS gA gB gF gK B0 cA : Nat) (Aa : Option Addr) (ar : List Nat) (k : Int) (hn : n ≤ 10) (hk0 : -1 ≤ k) (hk1 : k ≤ 12)
    (hW : WordsAt w B0 Aa n ar) (hWl : ∀ i, ar.getD i 0 < 1024) (hB0 : B0 ≤ gS) (_hgS : gS < w.heap.size)
    (kA : w.cell? ⟨gA, 0, none⟩ = some (.slice Aa n cA)) (kB : w.cell? ⟨gB, 0, none⟩ = some (.slice (some ⟨gS, 0, none⟩) n n))
    (kF : w.cell? ⟨gF, 0, none⟩ = some (.func (.func 50) #[] #[.pointer (some ⟨gA, 0, none⟩), .pointer (some ⟨gB, 0, none⟩), .pointer (some ⟨gF, 0, none⟩), .pointer (some ⟨gK, 0, none⟩)]))
    (kK : w.cell? ⟨gK, 0, none⟩ = some (.int .i64 k)) (hne : gA ≠ gS ∧ gB ≠ gS ∧ gF ≠ gS ∧ gK ≠ gS) :
    ∀ (r b : Nat) (L : List Nat) (wr : World), b + r = n → L.length ≤ b → (∀ s ∈ L, s < 1024) → TallyW w gS n L wr →
    Calls Try.prog 50 #[.int .i64 (b : Int), .int .i64 (L.length : Int), .pointer (some ⟨gA, 0, none⟩), .pointer (some ⟨gB, 0, none⟩), .pointer (some ⟨gF, 0, none⟩), .pointer (some ⟨gK, 0, none⟩)] wr fun e w' =>
      e = .returned (.int .i64 (waysN (fun i => ar.getD i 0) k r b L)) ∧ TallyW w gS n L w' := by
  intro r
  induction r with
  | zero =>
    intro b L wr hbr hL hS H
    obtain rfl : b = n := by omega
    have cA := H.cell kA hne.1
    have heq : ((b : Int) == (b : Int)) = true := by simp
    have HH := Lib.hid H
    clear H hW kA kB kF kK hS
    go_enter Try.func50, Try.ntmps50
    go_wp2_with fail
    go_ret
    exact ⟨rfl, HH.out⟩
  | succ r IH =>
    intro b L wr hbr hL hS H
    have hbn : b < n := by omega
    have HIH := Lib.hid IH
    have HKS := Lib.hid (And.intro kA (And.intro kB (And.intro kF kK)))
    have HWW := Lib.hid (And.intro hW hWl)
    have HSS := Lib.hid hS
    have cA := H.cell kA hne.1
    have cB := H.cell kB hne.2.1
    have hne1 : ((b : Int) == (n : Int)) = false := by simp; omega
    have hne2 : ¬ ((b : Int) = (n : Int)) := by omega
    obtain ⟨ba, oa, hAa, hba, hcb⟩ := hW.at_ hbn
    subst hAa
    obtain ⟨nbx, hnbx⟩ : ∃ nbx, ar.getD b 0 = nbx := ⟨_, rfl⟩
    have hnl : nbx < 1024 := by rw [← hnbx]; exact hWl b
    rw [hnbx] at hcb
    have hba2 : ba ≠ gS := by omega
    obtain ⟨m, hm⟩ : ∃ m, m = L.length := ⟨_, rfl⟩
    have HM := Lib.hid hm
    obtain ⟨f, hf⟩ : ∃ f : Nat → Int, f = fun c => if L.getD c 0 &&& nbx = 0 then waysN (fun i => ar.getD i 0) k r (b + 1) (L.set c (L.getD c 0 ||| 2 ^ b)) else 0 := ⟨_, rfl⟩
    have HF := Lib.hid hf
    have hfb : ∀ c, c < m → -(22 ^ r) ≤ f c ∧ f c ≤ (22 : Int) ^ r := fun c hc => by
      rw [hf]
      have hp : (0 : Int) ≤ 22 ^ r := Int.pow_nonneg (by decide)
      dsimp only
      split
      · exact ways_abs hk0 hk1 _ r (b + 1) _ (by rw [List.length_set]; omega) (by omega)
      · omega
    have hp22 := pow22 (show r ≤ 10 by omega)
    have HSB : Hid (∀ c, c ≤ m → -265599227914240 ≤ sumI f c ∧ sumI f c ≤ 265599227914240) := Lib.hid fun c hc => by
      have h3 := sum_absT (B := 22 ^ r) c fun j hj => hfb j (by omega)
      have h5 : (22 : Int) ^ r * (c : Int) ≤ 26559922791424 * (c : Int) := Int.mul_le_mul_of_nonneg_right hp22 (by omega)
      omega
    have HFB : Hid (∀ c, c < m → -26559922791424 ≤ f c ∧ f c ≤ 26559922791424) := Lib.hid fun c hc => by have := hfb c hc; omega
    have HVAL : Hid (waysN (fun i => ar.getD i 0) k (r + 1) b L = sumI f m + (k - m) * waysN (fun i => ar.getD i 0) k r (b + 1) (L ++ [2 ^ b])) := Lib.hid (by rw [hf, hm, ← hnbx]; rfl)
    have hmb : m ≤ b := by omega
    have hm0 : (0 : Int) ≤ (m : Int) := by omega
    have hmn : (m : Int) ≤ (n : Int) := by omega
    have HT0 := Lib.hid H
    have HCB := Lib.hid hcb
    clear IH H hW hWl kA kB kF kK hS hf hfb hp22 hcb hnbx
    rw [← hm] at hL ⊢
    clear hm
    go_enter Try.func50, Try.ntmps50
    go_wp2_with fail
    go_loopw [9, 20] (fun s t wr => ∃ c : Nat, c ≤ m ∧ s = .int .i64 (sumI f c) ∧ t = .int .i64 c ∧ Hid (TallyW w gS n L wr)) (fun _ t _ => m - (intOf t).toNat)
    case atStart => exact ⟨0, Nat.zero_le _, rfl, rfl, HT0⟩
    case round =>
      clear HT0 cA cB
      obtain ⟨c, hc, rfl, rfl, HT⟩ := hrel
      have HSC : Hid (c < m → sumI f (c + 1) = sumI f c + f c) := Lib.hid fun _ => rfl
      have hsb := HSB.out c hc
      have dA := HT.out.cell HKS.out.1 hne.1
      have dB := HT.out.cell HKS.out.2.1 hne.2.1
      have hcb' := HT.out.cell HCB.out hba2
      by_cases hcm : c < m
      · have hcl : c < L.length := by rw [← HM.out]; exact hcm
        have cS := HT.out.get hcl
        obtain ⟨s, hs⟩ : ∃ s, L.getD c 0 = s := ⟨_, rfl⟩
        have hsl : s < 1024 := by
          rw [← hs, List.getD_eq_getElem?_getD, List.getElem?_eq_getElem hcl]
          exact HSS.out _ (List.getElem_mem hcl)
        rw [hs] at cS
        have HS1 := Lib.hid hs
        have hand := and_u32 s nbx (by omega) (by omega)
        have hcm' : (c : Int) < (m : Int) := by omega
        have hgl := HT.out.lt
        obtain ⟨q, hq⟩ : ∃ q, sumI f c = q := ⟨_, rfl⟩
        rw [hq] at hsb HSC ⊢
        have HQ := Lib.hid hq
        clear hs hq
        by_cases h0 : s &&& nbx = 0
        · have h0' : (((s &&& nbx : Nat) : Int) == 0) = true := by simpa using h0
          have hp : 2 ^ b < 1024 := pow10 hn (Nat.pow_lt_pow_right (by decide) hbn)
          have hor := or_u32 s (2 ^ b) (by omega) (by omega)
          have hsm : (2 : Int) ^ b % 4294967296 = ((2 ^ b : Nat) : Int) := pow_mod b (by omega)
          have htm : IntKind.u32.wrap ((2 : Int) ^ b) = ((2 ^ b : Nat) : Int) := by rw [wrap_u32n]; exact hsm
          have hol : s ||| 2 ^ b < 1024 := Nat.or_lt_two_pow (n := 10) (by omega) (by omega)
          have HNX : Hid (TallyW w gS n (L.set c (s ||| 2 ^ b)) (wr.setCell ⟨gS, c, none⟩ (.int .u32 ((s ||| 2 ^ b : Nat) : Int)))) := Lib.hid (HT.out.set_ hcl _)
          have HFC : Hid (f c = waysN (fun i => ar.getD i 0) k r (b + 1) (L.set c (s ||| 2 ^ b))) := Lib.hid (by
            rw [HF.out]
            dsimp only
            rw [HS1.out, if_pos h0])
          have HSN : Hid (∀ x ∈ L.set c (s ||| 2 ^ b), x < 1024) := Lib.hid fun x hx => by
            rcases List.mem_or_eq_of_mem_set hx with h1 | rfl
            · exact HSS.out x h1
            · exact hol
          have hfz := HT.out.frozen c
          have hb32 : (b : Int) ≤ 32 := by omega
          have HPB : Hid (∃ pb, pb = 2 ^ b) := Lib.hid ⟨_, rfl⟩
          generalize 2 ^ b = pb at *
          generalize s ||| pb = so at *
          clear h0
          go_wp2
          go_region
          have HN1 : Hid (TallyW w gS n (L.set c so) (wr.setCell ⟨gS, c, none⟩ (.int .u32 (so : Int))).drew) := Lib.hid HNX.out.drew
          generalize (wr.setCell ⟨gS, c, none⟩ (.int .u32 (so : Int))).drew = W1 at HN1 ⊢
          have dF := HN1.out.cell HKS.out.2.2.1 hne.2.2.1
          obtain ⟨y, hy⟩ : ∃ y, waysN (fun i => ar.getD i 0) k r (b + 1) (L.set c so) = y := ⟨_, rfl⟩
          have HCALL := Lib.hid (HIH.out (b + 1) (L.set c so) W1 (by omega) (by rw [List.length_set, ← HM.out]; omega) HSN.out HN1.out)
          rw [hy, List.length_set, ← HM.out] at HCALL
          rw [hy] at HFC
          have hyb := HFB.out c hcm
          have hsb2 := HSB.out (c + 1) (by omega)
          rw [HSC.out hcm] at hsb2
          rw [HFC.out] at hyb hsb2
          clear dA dB cS hfz HNX hcb' hy HN1
          go_wp2_with fail
          refine HCALL.out.mono ?_
          rintro e W2 ⟨rfl, h2⟩
          have H2 := Lib.hid h2
          have dB2 := H2.out.cell HKS.out.2.1 hne.2.1
          have hfz := H2.out.frozen c
          have hgl2 := H2.out.lt
          have HN2 : Hid (TallyW w gS n L (W2.setCell ⟨gS, c, none⟩ (.int .u32 (s : Int)))) := Lib.hid (by
            have h5 := H2.out.set_ (c := c) (by rw [List.length_set]; exact hcl) s
            rw [← HS1.out, set_back L c so hcl, HS1.out] at h5
            exact h5)
          have cS2 : W2.cell? ⟨gS, c, none⟩ = some (.int .u32 (so : Int)) := by
            have h5 := H2.out.get (c := c) (by rw [List.length_set]; exact hcl)
            rw [List.getD_eq_getElem?_getD, List.getElem?_set_self hcl] at h5
            exact h5
          clear h2 dF HCALL
          go_wp2_with fail
          go_roundw
          case rel => exact ⟨c + 1, by omega, by rw [HSC.out hcm, HFC.out], by go_num, HN2⟩
          case measure => simp [intOf]; omega
        · have h0' : (((s &&& nbx : Nat) : Int) == 0) = false := by simpa using h0
          have HFC : Hid (f c = 0) := Lib.hid (by
            rw [HF.out]
            dsimp only
            rw [HS1.out, if_neg h0])
          clear h0
          go_wp2_with fail
          go_roundw
          case rel => exact ⟨c + 1, by omega, by rw [HSC.out hcm, HFC.out]; go_num, by go_num, HT⟩
          case measure => simp [intOf]; omega
      · obtain rfl : c = m := by omega
        have hp : 2 ^ b < 1024 := pow10 hn (Nat.pow_lt_pow_right (by decide) hbn)
        have hsm : (2 : Int) ^ b % 4294967296 = ((2 ^ b : Nat) : Int) := pow_mod b (by omega)
        have htm : IntKind.u32.wrap ((2 : Int) ^ b) = ((2 ^ b : Nat) : Int) := by rw [wrap_u32n]; exact hsm
        have hb32 : (b : Int) ≤ 32 := by omega
        have hcn : c < n := by omega
        have hcn' : (c : Int) < (n : Int) := by omega
        have HNX : Hid (TallyW w gS n (L ++ [2 ^ b]) (wr.setCell ⟨gS, c, none⟩ (.int .u32 ((2 ^ b : Nat) : Int)))) := Lib.hid (by
          have h5 := HT.out.put (by rw [← HM.out]; exact hcn) (2 ^ b)
          rw [← HM.out] at h5
          exact h5)
        have hfz := HT.out.frozen c
        have hgl := HT.out.lt
        have HSN : Hid (∀ x ∈ L ++ [2 ^ b], x < 1024) := Lib.hid fun x hx => by
          rcases List.mem_append.1 hx with h1 | h1
          · exact HSS.out x h1
          · rw [List.mem_singleton] at h1; subst h1; exact hp
        obtain ⟨y, hy⟩ : ∃ y, waysN (fun i => ar.getD i 0) k r (b + 1) (L ++ [2 ^ b]) = y := ⟨_, rfl⟩
        have HCALL := Lib.hid (fun W1 => HIH.out (b + 1) (L ++ [2 ^ b]) W1 (by omega) (by rw [List.length_append, ← HM.out]; simp; omega) HSN.out)
        rw [hy, List.length_append, ← HM.out] at HCALL
        rw [hy] at HVAL
        have hyb : -26559922791424 ≤ y ∧ y ≤ 26559922791424 := by
          have h5 := ways_abs hk0 hk1 (fun i => ar.getD i 0) r (b + 1) (L ++ [2 ^ b]) (by rw [List.length_append, ← HM.out]; simp; omega) (by omega)
          have h6 := pow22 (show r ≤ 10 by omega)
          rw [hy] at h5
          omega
        obtain ⟨q, hq⟩ : ∃ q, sumI f c = q := ⟨_, rfl⟩
        rw [hq] at hsb HVAL ⊢
        obtain ⟨u, hu⟩ : ∃ u, L ++ [2 ^ b] = u := ⟨_, rfl⟩
        rw [hu] at HNX HCALL
        have HU : Hid (∀ W, TallyW w gS n u W → TallyW w gS n L W) := Lib.hid fun W h => by rw [← hu] at h; exact h.drop
        generalize 2 ^ b = pb at hp hsm htm HNX
        obtain ⟨v0, hv0⟩ := HT.out.has hcn
        clear hq hy HSN hu HSC
        go_wp2
        go_region
        have HN1 : Hid (TallyW w gS n u (wr.setCell ⟨gS, c, none⟩ (.int .u32 (pb : Int))).drew) := Lib.hid HNX.out.drew
        generalize (wr.setCell ⟨gS, c, none⟩ (.int .u32 (pb : Int))).drew = W1 at HN1 ⊢
        have dF := HN1.out.cell HKS.out.2.2.1 hne.2.2.1
        have dK := HN1.out.cell HKS.out.2.2.2 hne.2.2.2
        have HC1 := Lib.hid (fun W (h : TallyW w gS n u W) => HCALL.out W h)
        have HN1' := Lib.hid HN1.out
        clear dA dB hcb' hfz HNX HN1 HCALL
        have HWR : Hid (TallyW w gS n u W1 ∧ True) := Lib.hid ⟨HN1'.out, trivial⟩
        obtain ⟨d, hd⟩ : ∃ d, k - (c : Int) = d := ⟨_, rfl⟩
        have hdb : -12 ≤ d ∧ d ≤ 13 := by omega
        obtain ⟨z, hz⟩ : ∃ z, d * y = z := ⟨_, rfl⟩
        have hzb : -1000000000000000 ≤ z ∧ z ≤ 1000000000000000 := by
          have e := mul_abs13 hdb.1 hdb.2 hyb.1 hyb.2
          rw [hz] at e
          omega
        have HZV : Hid (q + (k - (c : Int)) * y = q + z) := Lib.hid (by rw [hd, hz])
        have x1 : IntKind.i64.wrap ((b : Int) + 1) = (b : Int) + 1 := IntWalk.i64_in _ (by omega)
        have x2 : IntKind.i64.wrap ((c : Int) + 1) = (c : Int) + 1 := IntWalk.i64_in _ (by omega)
        have x3 : IntKind.i64.wrap (k - (c : Int)) = d := by rw [hd]; exact IntWalk.i64_in _ (by omega)
        have x4 : IntKind.i64.wrap (d * y) = z := by rw [hz]; exact IntWalk.i64_in _ (by omega)
        have x5 : IntKind.i64.wrap (q + z) = q + z := IntWalk.i64_in _ (by omega)
        clear hd hz HSB HFB hsm htm hp
        go_wp2_with fail
        go_region_held3 (fun W => W.cell? ⟨gK, 0, none⟩ = some (.int .i64 k) ∧ W.cell? ⟨gF, 0, none⟩ = some (.func (.func 50) #[] #[.pointer (some ⟨gA, 0, none⟩), .pointer (some ⟨gB, 0, none⟩), .pointer (some ⟨gF, 0, none⟩), .pointer (some ⟨gK, 0, none⟩)]))
          (first | exact ⟨dK, dF⟩ | exact hq2.out | go_keep)
          (first
            | (go_at_call 50; refine (HC1.out _ (by exact HWR.out.1.drew)).mono ?_; rintro e W2 ⟨rfl, h2⟩; have H2 := Lib.hid h2; have hq2 := Lib.hid (And.intro (H2.out.cell HKS.out.2.2.2 hne.2.2.2) (H2.out.cell HKS.out.2.2.1 hne.2.2.1)); clear h2))
        clear dK dF
        go_wp2_with fail
        go_ret
        exact ⟨by rw [HVAL.out, HZV.out]; rfl, HU.out _ H2.out⟩
end Go.Proofs.Ytpcealcghglopaa
