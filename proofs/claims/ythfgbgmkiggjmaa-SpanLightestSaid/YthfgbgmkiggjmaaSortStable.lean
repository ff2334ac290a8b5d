/- The stable sort of places, up to 45 of them, from the places in their order. -/
import Derived.Test.YthfgbgmkiggjmaaSortSym
namespace Go.Proofs.Ythfgbgmkiggjmaa
open Go.RowKit

def OrdAt (c : Nat → Int) (n t : Nat) : Prop := ∀ i j, i < t → t ≤ j → j < n → c i < c j
/-- Block by block. -/
structure K1 (W : Int → Int) (n a : Nat) (c : Nat → Int) : Prop where
  id_ : ∀ i, a ≤ i → c i = (i : Int)
  w1 : ∀ i, 0 ≤ i → i < 20 → 0 ≤ c i ∧ c i < 20
  w2 : ∀ i, 20 ≤ i → i < 40 → 20 ≤ c i ∧ c i < 40
  s1 : 20 ≤ a → SortedF W c 0 20
  s2 : 40 ≤ a → SortedF W c 20 40
  inn : InF c n n
theorem K1.start (W : Int → Int) (n : Nat) : K1 W n 0 (fun i => (i : Int)) :=
  ⟨fun _ _ => rfl, fun i _ h => by omega, fun i h1 h2 => by omega, fun h => by omega, fun h => by omega, fun i h => by constructor <;> omega⟩
theorem K1.inc {W : Int → Int} {n a : Nat} {c : Nat → Int} (h : K1 W n a c) : ∀ i j, a ≤ i → i < j → j < n → c i < c j := fun i j h1 h2 _ => by
  rw [h.id_ i h1, h.id_ j (by omega)]; omega
/-- Two blocks of 20, and what is behind them. -/
structure J1 (W : Int → Int) (n : Nat) (c : Nat → Int) : Prop where
  s0 : SortedF W c 0 (min 20 n)
  s1 : SortedF W c 20 (min 40 n)
  s2 : SortedF W c 40 n
  o1 : OrdAt c n 20
  o2 : OrdAt c n 40
  inn : InF c n n
structure J2 (W : Int → Int) (n : Nat) (c : Nat → Int) : Prop where
  s0 : SortedF W c 0 (min 40 n)
  s2 : SortedF W c 40 n
  o2 : OrdAt c n 40
  inn : InF c n n
structure J3 (W : Int → Int) (n : Nat) (c : Nat → Int) : Prop where
  s0 : SortedF W c 0 n
  inn : InF c n n
theorem K1.next0 {W : Int → Int} {n : Nat} {c c' : Nat → Int} (h : K1 W n 0 c) (hn : 20 ≤ n) (hs : Shuf 0 20 c c') (hk : SortedF W c' 0 20) : K1 W n 20 c' :=
  ⟨fun i hi => by rw [hs.out i (.inr hi)]; exact h.id_ i (by omega), hs.all (P := fun x => 0 ≤ x ∧ x < 20) h.w1, fun i h1 h2 => by rw [hs.out i (.inr h1)]; exact h.w2 i h1 h2, fun _ => hk, fun h => by omega, h.inn.shuf hs hn⟩
theorem K1.next1 {W : Int → Int} {n : Nat} {c c' : Nat → Int} (h : K1 W n 20 c) (hn : 40 ≤ n) (hs : Shuf 20 40 c c') (hk : SortedF W c' 20 40) : K1 W n 40 c' :=
  ⟨fun i hi => by rw [hs.out i (.inr hi)]; exact h.id_ i (by omega), fun i h1 h2 => by rw [hs.out i (.inl h2)]; exact h.w1 i h1 h2, hs.all (P := fun x => 20 ≤ x ∧ x < 40) h.w2, fun _ => (h.s1 (Nat.le_refl _)).out hs (.inl (Nat.le_refl _)), fun _ => hk, h.inn.shuf hs hn⟩
theorem K1.last {W : Int → Int} {n a : Nat} {c c' : Nat → Int} (h : K1 W n a c) (ha : a = 0 ∨ a = 20 ∨ a = 40) (hn : n < a + 20) (han : a ≤ n) (hs : Shuf a n c c') (hk : SortedF W c' a n) : J1 W n c' := by
  have hin := h.inn.shuf hs (Nat.le_refl _)
  rcases ha with rfl | rfl | rfl
  · exact ⟨hk.sub (Nat.le_refl _) (by omega), fun i j _ _ _ => by omega, fun i j _ _ _ => by omega, fun i j _ _ _ => by omega, fun i j _ _ _ => by omega, hin⟩
  · refine ⟨((h.s1 (Nat.le_refl _)).out hs (.inl (Nat.le_refl _))).sub (Nat.le_refl _) (by omega), hk.sub (Nat.le_refl _) (by omega), fun i j _ _ _ => by omega, fun i j h1 h2 h3 => ?_, fun i j _ _ _ => by omega, hin⟩
    rw [hs.out i (.inl h1)]
    have := (h.w1 i (Nat.zero_le _) h1).2
    obtain ⟨k, k1, k2, k3⟩ := hs.inn j h2 h3
    rw [k3, h.id_ k k1]
    omega
  · have e1 : ∀ i, i < 40 → c' i = c i := fun i hi => hs.out i (.inl hi)
    have e2 : ∀ j, 40 ≤ j → j < n → 40 ≤ c' j := fun j h1 h2 => by
      obtain ⟨k, k1, k2, k3⟩ := hs.inn j h1 h2
      rw [k3, h.id_ k k1]; omega
    refine ⟨((h.s1 (by omega)).out hs (.inl (by omega))).sub (Nat.le_refl _) (by omega), ((h.s2 (Nat.le_refl _)).out hs (.inl (Nat.le_refl _))).sub (Nat.le_refl _) (by omega), hk, fun i j h1 h2 h3 => ?_, fun i j h1 h2 h3 => ?_, hin⟩
    · rw [e1 i (by omega)]
      have := (h.w1 i (Nat.zero_le _) h1).2
      by_cases hj : j < 40
      · rw [e1 j hj]; have := (h.w2 j h2 hj).1; omega
      · have := e2 j (by omega) h3; omega
    · rw [e1 i h1]
      have hj := e2 j h2 h3
      by_cases hi : i < 20
      · have := (h.w1 i (Nat.zero_le _) hi).2; omega
      · have := (h.w2 i (by omega) h1).2; omega
theorem J1.next {W : Int → Int} {n e : Nat} {c c' : Nat → Int} (h : J1 W n c) (he : e = min 40 n) (hn : 20 < n) (hs : Shuf 0 e c c') (hk : SortedF W c' 0 e) : J2 W n c' := by
  refine ⟨by rw [← he]; exact hk, ?_, fun i j h1 h2 h3 => ?_, h.inn.shuf hs (by omega)⟩
  · by_cases h40 : n ≤ 40
    · exact fun i j _ _ _ => by omega
    · exact h.s2.out hs (.inr (by omega))
  · rw [hs.out j (.inr (by omega))]
    obtain ⟨k, _, k2, k3⟩ := hs.inn i (Nat.zero_le _) (by omega)
    rw [k3]
    exact h.o2 k j (by omega) h2 h3

set_option maxRecDepth 100000 in
set_option maxHeartbeats 8000000 in
theorem stable_any (g n cap B capE : Nat) (A : Option Addr) (es : List E3) (w : World) (h : RowC w g n (fun i => (i : Int))) (hn : n ≤ 45) (hC : CmpAt w B A n capE es) (hBg : B < g) :
    Calls Try.prog 69 #[.slice (some ⟨g, 0, none⟩) n cap, .int .i64 n, cmpV B] w fun e w' => e = .returned (.tuple #[]) ∧ (∃ f', RowC w' g n f' ∧ J3 (wOf es) n f') ∧ Below g w w' := by
  have HR := Lib.hid h
  have HC := Lib.hid hC
  have HIN : Hid (∀ a b c W, RowC W g n c → a ≤ b → b ≤ n → Below g w W → InF c n n → (∀ i j, a ≤ i → i < j → j < b → c i < c j) → Calls Try.prog 82 #[.slice (some ⟨g, 0, none⟩) n cap, .int .i64 (a : Nat), .int .i64 (b : Nat), .func (.func 60) #[] #[.pointer (some ⟨B, 0, none⟩)]] W fun e w' => e = .returned (.tuple #[]) ∧ (∃ f', RowC w' g n f' ∧ Shuf a b c f' ∧ SortedF (wOf es) f' a b) ∧ Below g W w') := Lib.hid fun a b c W h1 h2 h3 h4 h5 h6 =>
    insertion_any g n cap a b B n capE A es c W h1 h2 h3 (by omega) (hC.below h4 hBg) hBg h5 h6
  have HMG : Hid (∀ a m b c W, RowC W g n c → a < m → m < b → b ≤ n → Below g w W → InF c n n → SortedF (wOf es) c a m → SortedF (wOf es) c m b → (∀ i j, a ≤ i → i < m → m ≤ j → j < b → c i < c j) → Calls Try.prog 83 #[.slice (some ⟨g, 0, none⟩) n cap, .int .i64 (a : Nat), .int .i64 (m : Nat), .int .i64 (b : Nat), .func (.func 60) #[] #[.pointer (some ⟨B, 0, none⟩)]] W (MergeOut g n a b es c W)) := Lib.hid fun a m b c W h1 h2 h3 h4 h5 h6 h7 h8 h9 =>
    sym_any g n cap a m b B n capE A es c W ⟨h1, h2, h3, h4, by omega, hBg, hC.below h5 hBg, h6, h7, h8, h9⟩
  clear h hC
  unfold cmpV
  go_enter Try.func69, Try.ntmps69
  go_wp2_with fail
  go_loopw [7, 8] (fun sa sb wr => ∃ (a : Nat) (c : Nat → Int), (a = 0 ∨ a = 20 ∨ a = 40) ∧ a ≤ n ∧ sa = .int .i64 a ∧ sb = .int .i64 ((a : Int) + 20) ∧ Hid (K1 (wOf es) n a c) ∧ Hid (RowC wr g n c) ∧ Below g w wr) (fun sa _ _ => 60 - (intOf sa).toNat)
  case atStart => exact ⟨0, _, .inl rfl, Nat.zero_le _, rfl, rfl, Lib.hid (K1.start _ _), HR, Below.refl _ _⟩
  case round =>
    obtain ⟨a, c, ha, han, rfl, rfl, HK, HRr, hB⟩ := hrel
    by_cases hlt : a + 20 ≤ n
    · have hlt2 : (a : Int) + 20 ≤ (n : Int) := by omega
      have HI := Lib.hid (HIN.out a (a + 20) c wr HRr.out (by omega) hlt hB HK.out.inn (fun i j h1 h2 h3 => HK.out.inc i j h1 h2 (by omega)))
      have ea : ((a + 20 : Nat) : Int) = (a : Int) + 20 := by omega
      rw [ea] at HI
      clear ea
      have HNX : Hid (∀ c', Shuf a (a + 20) c c' → SortedF (wOf es) c' a (a + 20) → K1 (wOf es) n (a + 20) c') := Lib.hid fun c' h1 h2 => by
        rcases ha with rfl | rfl | rfl
        · exact HK.out.next0 (by omega) h1 h2
        · exact HK.out.next1 (by omega) h1 h2
        · omega
      go_wp2_with fail
      refine HI.out.mono ?_
      rintro e1 w1 ⟨rfl, ⟨c', hr, hs, hk⟩, hb1⟩
      have HR1 := Lib.hid hr
      have HK1 := Lib.hid (HNX.out c' hs hk)
      have HB1 := Lib.hid (hB.trans hb1)
      clear hr hs hk hb1
      go_wp2_with fail
      go_roundw
      case rel => exact ⟨a + 20, c', by omega, hlt, by go_num, by go_num, HK1, HR1, HB1.out⟩
      case measure => simp [intOf]; omega
    · have hlt2 : ¬ (a : Int) + 20 ≤ (n : Int) := by omega
      have HI := Lib.hid (HIN.out a n c wr HRr.out han (Nat.le_refl _) hB HK.out.inn (fun i j h1 h2 h3 => HK.out.inc i j h1 h2 h3))
      go_wp2_with fail
      refine HI.out.mono ?_
      rintro e1 w1 ⟨rfl, ⟨c1, hr, hs, hk⟩, hb1⟩
      have HR1 := Lib.hid hr
      have HJ1 := Lib.hid (HK.out.last ha (by omega) han hs hk)
      have HB1 := Lib.hid (hB.trans hb1)
      clear hr hs hk hb1 HI HK HRr hB HR
      go_wp2_with fail
      go_loopw [6, 7, 8, 9] (fun s6 _ _ _ wr => ∃ (c : Nat → Int), ((s6 = .int .i64 20 ∧ Hid (J1 (wOf es) n c)) ∨ (s6 = .int .i64 40 ∧ Hid (J2 (wOf es) n c)) ∨ (s6 = .int .i64 80 ∧ Hid (J3 (wOf es) n c))) ∧ Hid (RowC wr g n c) ∧ Below g w wr) (fun s6 _ _ _ _ => 100 - (intOf s6).toNat)
      case atStart => exact ⟨c1, .inl ⟨rfl, HJ1⟩, HR1, HB1.out⟩
      case round =>
        obtain ⟨c, hcase, HRr, hB⟩ := hrel
        rcases hcase with ⟨rfl, HJ⟩ | ⟨rfl, HJ⟩ | ⟨rfl, HJ⟩
        · by_cases h20 : 20 < n
          · have h20b : (20 : Int) < (n : Int) := by omega
            go_wp2_with fail
            obtain ⟨wo, rfl⟩ : ∃ wo : World, wo = wr := ⟨_, rfl⟩
            go_loopw [7, 8] (fun s7 s8 wr => ∃ c : Nat → Int, ((s7 = .int .i64 0 ∧ s8 = .int .i64 40 ∧ Hid (J1 (wOf es) n c)) ∨ (s7 = .int .i64 40 ∧ s8 = .int .i64 80 ∧ Hid (40 ≤ n ∧ J2 (wOf es) n c))) ∧ Hid (RowC wr g n c) ∧ Below g w wr) (fun s7 _ _ => 100 - (intOf s7).toNat)
            case atStart => exact ⟨c, .inl ⟨rfl, rfl, HJ⟩, HRr, hB⟩
            case round =>
              clear HRr hB HJ
              obtain ⟨c, hcase, HRr, hB⟩ := hrel
              rcases hcase with ⟨rfl, rfl, HJ⟩ | ⟨rfl, rfl, HJ⟩
              · by_cases h40 : 40 ≤ n
                · have h40b : (40 : Int) ≤ (n : Int) := by omega
                  have HM := Lib.hid (HMG.out 0 20 40 c wr HRr.out (by omega) (by omega) h40 hB HJ.out.inn (by have h := HJ.out.s0; rwa [show min 20 n = 20 by omega] at h) (by have h := HJ.out.s1; rwa [show min 40 n = 40 by omega] at h) (fun i j _ h2 h3 h4 => HJ.out.o1 i j h2 h3 (by omega)))
                  go_wp2_with fail
                  refine HM.out.mono ?_
                  rintro e2 w2 ⟨rfl, ⟨c2, hr, hs, hk⟩, hb2⟩
                  have HR2 := Lib.hid hr
                  have HJ2 : Hid (40 ≤ n ∧ J2 (wOf es) n c2) := Lib.hid ⟨h40, HJ.out.next (by omega) h20 hs hk⟩
                  have HB2 := Lib.hid (hB.trans hb2)
                  clear hr hs hk hb2
                  go_wp2_with fail
                  go_roundw
                  case rel => exact ⟨c2, .inr ⟨rfl, rfl, HJ2⟩, HR2, HB2.out⟩
                  case measure => simp [intOf]
                · have h40b : ¬ (40 : Int) ≤ (n : Int) := by omega
                  have HM := Lib.hid (HMG.out 0 20 n c wr HRr.out (by omega) h20 (Nat.le_refl _) hB HJ.out.inn (by have h := HJ.out.s0; rwa [show min 20 n = 20 by omega] at h) (by have h := HJ.out.s1; rwa [show min 40 n = n by omega] at h) (fun i j _ h2 h3 h4 => HJ.out.o1 i j h2 h3 h4))
                  go_wp2_with fail
                  refine HM.out.mono ?_
                  rintro e2 w2 ⟨rfl, ⟨c2, hr, hs, hk⟩, hb2⟩
                  have HR2 := Lib.hid hr
                  have HJ2 : Hid (J2 (wOf es) n c2) := Lib.hid (HJ.out.next (by omega) h20 hs hk)
                  have HB2 := Lib.hid (hB.trans hb2)
                  clear hr hs hk hb2
                  go_wp2_with fail
                  go_roundw
                  case rel => exact ⟨c2, .inr (.inl ⟨rfl, HJ2⟩), HR2, HB2.out⟩
                  case measure => simp [intOf]
              · have h80 : ¬ (80 : Int) ≤ (n : Int) := by omega
                have h60 : ¬ (60 : Int) < (n : Int) := by omega
                have HJ2 := Lib.hid HJ.out.2
                go_wp2_with fail
                go_roundw
                case rel => exact ⟨c, .inr (.inl ⟨rfl, HJ2⟩), HRr, hB⟩
                case measure => simp [intOf]
          · have h20b : ¬ (20 : Int) < (n : Int) := by omega
            have HF : Hid (J3 (wOf es) n c) := Lib.hid ⟨by have h := HJ.out.s0; rwa [show min 20 n = n by omega] at h, HJ.out.inn⟩
            go_wp2_with fail
            go_end0
            exact ⟨rfl, ⟨c, HRr.out, HF.out⟩, hB⟩
        · by_cases h40 : 40 < n
          · have h40b : (40 : Int) < (n : Int) := by omega
            have h80 : ¬ (80 : Int) ≤ (n : Int) := by omega
            have HM := Lib.hid (fun W hW hb => HMG.out 0 40 n c W hW (by omega) h40 (Nat.le_refl _) hb HJ.out.inn (by have h := HJ.out.s0; rwa [show min 40 n = 40 by omega] at h) HJ.out.s2 (fun i j _ h2 h3 h4 => HJ.out.o2 i j h2 h3 h4))
            have HIN2 := Lib.hid HJ.out.inn
            go_wp2_with fail
            obtain ⟨wo, rfl⟩ : ∃ wo : World, wo = wr := ⟨_, rfl⟩
            go_loopw [7, 8] (fun s7 s8 wr => s7 = .int .i64 0 ∧ s8 = .int .i64 80 ∧ Hid (RowC wr g n c) ∧ Below g w wr) (fun s7 _ _ => 100 - (intOf s7).toNat)
            case atStart => exact ⟨rfl, rfl, HRr, hB⟩
            case round =>
              clear HRr hB
              obtain ⟨rfl, rfl, HRr, hB⟩ := hrel
              go_wp2_with fail
              refine (HM.out wr HRr.out hB).mono ?_
              rintro e2 w2 ⟨rfl, ⟨c2, hr, hs, hk⟩, hb2⟩
              have HR2 := Lib.hid hr
              have HJ2 : Hid (J3 (wOf es) n c2) := Lib.hid ⟨hk, HIN2.out.shuf hs (Nat.le_refl _)⟩
              have HB2 := Lib.hid (hB.trans hb2)
              clear hr hs hk hb2
              go_wp2_with fail
              go_roundw
              case rel => exact ⟨c2, .inr (.inr ⟨rfl, HJ2⟩), HR2, HB2.out⟩
              case measure => simp [intOf]
          · have h40b : ¬ (40 : Int) < (n : Int) := by omega
            have HF : Hid (J3 (wOf es) n c) := Lib.hid ⟨by have h := HJ.out.s0; rwa [show min 40 n = n by omega] at h, HJ.out.inn⟩
            go_wp2_with fail
            go_end0
            exact ⟨rfl, ⟨c, HRr.out, HF.out⟩, hB⟩
        · have h80 : ¬ (80 : Int) < (n : Int) := by omega
          go_wp2_with fail
          go_end0
          exact ⟨rfl, ⟨c, HRr.out, HJ.out⟩, hB⟩
end Go.Proofs.Ythfgbgmkiggjmaa
