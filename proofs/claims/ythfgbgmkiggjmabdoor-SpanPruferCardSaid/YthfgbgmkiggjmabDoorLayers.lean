/- graph.layers: it goes through the distances from a node, each with the word of the nodes that are so far away. -/
import Derived.Test.YthfgbgmkiggjmabDoorBeside
namespace Go.Proofs.YthfgbgmkiggjmabDoor
open Go.RowKit Go.Shelf
attribute [local go_sem] Oper.semAt_some

def toF (m r : Nat) : Fin (2 ^ m) := ⟨r % 2 ^ m, Nat.mod_lt _ (Nat.two_pow_pos m)⟩
theorem toF_val {m r : Nat} (h : r < 2 ^ m) : (toF m r).val = r := Nat.mod_eq_of_lt h
/-- The next layer. -/
def nextL (m : Nat) (ar : List Nat) (layer met : Nat) : Nat := diffW (besideN m ar layer) met
/-- The layers behind one: each with its distance. -/
def layN (m : Nat) (ar : List Nat) : Nat → Nat → Nat → Nat → List (Nat × Fin (2 ^ m))
  | 0, _, _, _ => []
  | f + 1, far, layer, met => if layer = 0 then [] else (far, toF m layer) :: layN m ar f (far + 1) (nextL m ar layer met) (met ||| nextL m ar layer met)
theorem diffW_lt_pow {m a b : Nat} (hm : m ≤ 10) (ha : a < 2 ^ m) (hb : b < 4294967296) : diffW a b < 2 ^ m := by
  apply Nat.lt_pow_two_of_testBit
  intro i hi
  rw [diffW_testBit a b i (Nat.lt_of_lt_of_le (pow10 hm ha) (by decide)) hb, Nat.testBit_lt_two_pow (Nat.lt_of_lt_of_le ha (Nat.pow_le_pow_right (by decide) hi))]
  rfl
theorem nextL_lt {m : Nat} {ar : List Nat} (hm : m ≤ 10) (h : Words m ar) (layer met : Nat) (hmet : met < 2 ^ m) : nextL m ar layer met < 2 ^ m :=
  diffW_lt_pow hm (orTo_lt h _) (Nat.lt_of_lt_of_le (pow10 hm hmet) (by decide))
/-- A new layer has a node that was not met: the word of the met ones grows. -/
theorem met_grows {m : Nat} {ar : List Nat} (hm : m ≤ 10) (h : Words m ar) (layer met : Nat) (hmet : met < 2 ^ m) (h0 : nextL m ar layer met ≠ 0) : met + 1 ≤ met ||| nextL m ar layer met := by
  have hle : met ≤ met ||| nextL m ar layer met := Nat.left_le_or
  rcases Nat.lt_or_eq_of_le hle with hlt | heq
  · omega
  · exfalso
    apply h0
    apply Nat.eq_of_testBit_eq
    intro i
    rw [Nat.zero_testBit]
    have hb := diffW_testBit (besideN m ar layer) met i (Nat.lt_of_lt_of_le (pow10 hm (orTo_lt h _)) (by decide)) (Nat.lt_of_lt_of_le (pow10 hm hmet) (by decide))
    have he : met.testBit i = (met ||| nextL m ar layer met).testBit i := by rw [← heq]
    rw [Nat.testBit_or] at he
    cases h1 : met.testBit i with
    | true => unfold nextL; rw [hb, h1]; simp
    | false => rw [h1] at he; simpa using he.symm

/-- The next layer, of nodes in a word alone. -/
def nextW (m : Nat) (ar : List Nat) (wi layer met : Nat) : Nat := diffW (besideN m ar layer &&& wi) met
/-- The layers behind one, of nodes in a word alone: each with its distance. -/
def layW (m : Nat) (ar : List Nat) (wi : Nat) : Nat → Nat → Nat → Nat → List (Nat × Fin (2 ^ m))
  | 0, _, _, _ => []
  | f + 1, far, layer, met => if layer = 0 then [] else (far, toF m layer) :: layW m ar wi f (far + 1) (nextW m ar wi layer met) (met ||| nextW m ar wi layer met)
theorem besideW_lt {m : Nat} {ar : List Nat} (h : Words m ar) (wi layer : Nat) : besideN m ar layer &&& wi < 2 ^ m := Nat.lt_of_le_of_lt Nat.and_le_left (orTo_lt h _)
theorem nextW_lt {m : Nat} {ar : List Nat} (hm : m ≤ 10) (h : Words m ar) (wi layer met : Nat) (hmet : met < 2 ^ m) : nextW m ar wi layer met < 2 ^ m :=
  diffW_lt_pow hm (besideW_lt h wi layer) (Nat.lt_of_lt_of_le (pow10 hm hmet) (by decide))
theorem nextW_all {m : Nat} {ar : List Nat} (hm : m ≤ 10) (h : Words m ar) (layer met : Nat) : nextW m ar 4294967295 layer met = nextL m ar layer met := by
  unfold nextW nextL
  have h1 : besideN m ar layer < 4294967296 := Nat.lt_of_lt_of_le (pow10 hm (orTo_lt h _)) (by decide)
  rw [show 4294967295 = 2 ^ 32 - 1 from rfl, Nat.and_two_pow_sub_one_eq_mod, Nat.mod_eq_of_lt (by simpa using h1)]
theorem layW_all {m : Nat} {ar : List Nat} (hm : m ≤ 10) (h : Words m ar) : ∀ (f far layer met : Nat), layW m ar 4294967295 f far layer met = layN m ar f far layer met
  | 0, _, _, _ => rfl
  | f + 1, far, layer, met => by
    unfold layW layN
    rw [nextW_all hm h, layW_all hm h f]
theorem metW_grows {m : Nat} {ar : List Nat} (hm : m ≤ 10) (h : Words m ar) (wi layer met : Nat) (hmet : met < 2 ^ m) (h0 : nextW m ar wi layer met ≠ 0) : met + 1 ≤ met ||| nextW m ar wi layer met := by
  have hle : met ≤ met ||| nextW m ar wi layer met := Nat.left_le_or
  rcases Nat.lt_or_eq_of_le hle with hlt | heq
  · omega
  · exfalso
    apply h0
    apply Nat.eq_of_testBit_eq
    intro i
    rw [Nat.zero_testBit]
    have hb := diffW_testBit (besideN m ar layer &&& wi) met i (Nat.lt_of_lt_of_le (pow10 hm (besideW_lt h wi layer)) (by decide)) (Nat.lt_of_lt_of_le (pow10 hm hmet) (by decide))
    have he : met.testBit i = (met ||| nextW m ar wi layer met).testBit i := by rw [← heq]
    rw [Nat.testBit_or] at he
    cases h1 : met.testBit i with
    | true => unfold nextW; rw [hb, h1]; simp
    | false => rw [h1] at he; simpa using he.symm

/-- What a round keeps: what lies below n₀, and the boxes of the words and of the word. -/
def KpL (n₀ Ba Bw : Nat) (W W' : World) : Prop := Below n₀ W W' ∧ W'.cell? ⟨Ba, 0, none⟩ = W.cell? ⟨Ba, 0, none⟩ ∧ W'.cell? ⟨Bw, 0, none⟩ = W.cell? ⟨Bw, 0, none⟩
theorem kpL_t {n₀ Ba Bw : Nat} {X Y Z : World} (h : KpL n₀ Ba Bw X Y) (k : KpL n₀ Ba Bw Y Z) : KpL n₀ Ba Bw X Z := ⟨h.1.trans k.1, k.2.1.trans h.2.1, k.2.2.trans h.2.2⟩
theorem kpL_b {n₀ Ba Bw : Nat} {w : World} (hn : n₀ ≤ w.heap.size) (hBa : Ba < w.heap.size) (hBw : Bw < w.heap.size) (W : World) (l : Nat) (o o' : Obj) (hl : w.heap.size ≤ l) (h : W.heap[l]? = some o) (hc : o.isCells = false) (hw : o.isWalk = false) : KpL n₀ Ba Bw W (W.putObj l o') := by
  have hb := belowK_b (w := w) (Nat.le_refl _) W l o o' hl h hc hw
  exact ⟨belowK_b hn W l o o' hl h hc hw, hb.cell (p := ⟨Ba, 0, none⟩) hBa, hb.cell (p := ⟨Bw, 0, none⟩) hBw⟩
def encL (m : Nat) (x : Nat × Fin (2 ^ m)) : Array Value := #[.int .i64 (x.1 : Int), .int .u32 (x.2.val : Int)]

set_option maxRecDepth 100000 in
set_option maxHeartbeats 400000 in
theorem layers_in (n : Nat) (A : Option Addr) (m cap : Nat) (s wi : Int) (w : World) :
    CallsIn Fence.wide n Tryd.prog 70 #[.slice A m cap, .int .i64 s, .int .u32 wi] w fun e w' => e = .returned (.func (.func 81) #[] #[.pointer (some ⟨w.heap.size + 1, 0, none⟩), .pointer (some ⟨w.heap.size, 0, none⟩), .pointer (some ⟨w.heap.size + 1 + 1, 0, none⟩)]) ∧
      w' = ((w.alloc (.cells #[.slice A m cap] 55)).alloc (.cells #[.int .i64 s] 3)).alloc (.cells #[.int .u32 wi] 59) := by
  refine callsIn_of_wp Tryd.func70 rfl (wide_fn _) ?_ wide_round
  simp only [Tryd.ntmps70, List.size_toArray, List.length_cons, List.length_nil, Nat.reduceAdd, Nat.reduceSub, Array.replicate_succ, Array.replicate_zero, List.push_toArray, List.append_toArray, List.nil_append, List.cons_append]
  gi_wp2
  go_ret
  exact ⟨rfl, rfl⟩

def layMeas (a b : Value) : Nat := 2 * (1024 - (intOf b).toNat) + (if (intOf a).toNat = 0 then 0 else 1)
theorem layMeas_eq (a b : Nat) : layMeas (.int .u32 a) (.int .u32 b) = 2 * (1024 - b) + (if a = 0 then 0 else 1) := rfl
def LayRel (m : Nat) (ar : List Nat) (wi p n₀ Ba Bw : Nat) (J : List (Nat × Fin (2 ^ m)) → World → Prop) (W : World) (a b c : Value) (wr : World) : Prop :=
  ∃ (layer met far : Nat) (pre : List (Nat × Fin (2 ^ m))), a = .int .u32 layer ∧ b = .int .u32 met ∧ c = .int .i64 far ∧ layer < 2 ^ m ∧ met < 2 ^ m ∧ far + (if layer = 0 then 0 else 1) ≤ met ∧ Hid (pre.length = far) ∧
    Hid (layW m ar wi 1025 0 p p = pre ++ layW m ar wi (1025 - far) far layer met) ∧ Hid (J pre wr) ∧ Hid (W.heap.size ≤ wr.heap.size ∧ KpL n₀ Ba Bw W wr)

set_option maxRecDepth 100000 in
set_option maxHeartbeats 1000000 in
theorem layers1_in (n m s : Nat) (hn : 5 ≤ n) (hm : m ≤ 10) (hs : s < m) (A : Option Addr) (cap : Nat) (ar : List Nat) (har : Words m ar) (wi : Nat) (hwi : wi < 4294967296) (l Bf Ba Bw n₀ : Nat) (hn₀ : 0 < n₀) (J Jx : List (Nat × Fin (2 ^ m)) → World → Prop)
    (W : World) (hJ : AbidesFrom W.heap.size J)
    (hY : ∀ pre x W, J pre W → pre.length < 1025 → YieldAt Fence.wide (n - 1) Tryd.prog l (encL m x) W fun e W' =>
      (e = .returned (.bool true) ∧ J (pre ++ [x]) W' ∧ KpL n₀ Ba Bw W W') ∨ (e = .returned (.bool false) ∧ Jx (pre ++ [x]) W'))
    (hBf : W.cell? ⟨Bf, 0, none⟩ = some (.int .i64 s)) (hBa : W.cell? ⟨Ba, 0, none⟩ = some (.slice A m cap)) (hBal : Ba < W.heap.size) (hBw : W.cell? ⟨Bw, 0, none⟩ = some (.int .u32 wi)) (hBwl : Bw < W.heap.size) (hA : WordsAt W n₀ A m ar) (hn₁ : n₀ ≤ W.heap.size) (hT : Tab W) (h0 : J [] W) :
    CallsIn Fence.wide n Tryd.prog 81 #[.func (.yield l) #[] #[], .pointer (some ⟨Bf, 0, none⟩), .pointer (some ⟨Ba, 0, none⟩), .pointer (some ⟨Bw, 0, none⟩)] W fun e W' => (∃ v, e = .returned v) ∧
      ((∃ ys, ys = layW m ar wi 1025 0 (2 ^ s) (2 ^ s) ∧ J ys W') ∨ (∃ pre, pre <+: layW m ar wi 1025 0 (2 ^ s) (2 ^ s) ∧ Jx pre W')) := by
  have h1 : 1 ≤ n := by omega
  have f1 := wide_fn 82
  have hs0 : (0 : Int) ≤ (s : Int) := by omega
  have hs32 : (s : Int) ≤ 32 := by omega
  have hp : 2 ^ s < 2 ^ m := Nat.pow_lt_pow_right (by decide) hs
  have hp10 := pow10 hm hp
  have hpos : 0 < 2 ^ s := Nat.two_pow_pos s
  refine callsIn_of_wp Tryd.func81 rfl (wide_fn _) ?_ wide_round
  simp only [Tryd.ntmps81, List.size_toArray, List.length_cons, List.length_nil, Nat.reduceAdd, Nat.reduceSub, Array.replicate_succ, Array.replicate_zero, List.push_toArray, List.append_toArray, List.nil_append, List.cons_append]
  obtain ⟨p, hpe⟩ : ∃ p : Nat, p = 2 ^ s := ⟨_, rfl⟩
  have hsh : (2 : Int) ^ s % 4294967296 = (p : Int) := by
    rw [hpe, show (2 : Int) ^ s = ((2 ^ s : Nat) : Int) by simp]
    omega
  rw [← hpe] at hp hp10 hpos ⊢
  have HSH := Lib.hid hsh
  clear hpe hsh
  gi_wp2
  gi_loopw [5, 6, 7] (fun a b c wr => LayRel m ar wi p n₀ Ba Bw J W a b c wr) (fun a b _ _ => layMeas a b)
  case atStart => exact ⟨p, p, 0, [], by rw [HSH.out], by rw [HSH.out], rfl, hp, hp, by rw [if_neg (by omega)]; omega, Lib.hid rfl, Lib.hid rfl, Lib.hid h0, Lib.hid ⟨Nat.le_refl _, Below.refl _ _, rfl, rfl⟩⟩
  case round =>
    obtain ⟨layer, met, far, pre, rfl, rfl, rfl, hl, hmt, hfar, HL, HX, HJ, HK⟩ := hrel
    have hl10 := pow10 hm hl
    have hm10 := pow10 hm hmt
    have hfm : far ≤ met := by split at hfar <;> omega
    by_cases hz : layer = 0
    · subst hz
      clear hfar
      gi_wp2
      go_end0
      exact ⟨⟨_, rfl⟩, .inl ⟨pre, by
        rw [HX.out, show 1025 - far = (1024 - far) + 1 by omega]
        simp [layW], HJ.out⟩⟩
    · rw [if_neg hz] at hfar
      have hzb : ((layer : Int) != 0) = true := by simp; omega
      have hlt := toF_val hl
      have HS : Hid (layW m ar wi (1025 - far) far layer met = (far, toF m layer) :: layW m ar wi (1025 - (far + 1)) (far + 1) (nextW m ar wi layer met) (met ||| nextW m ar wi layer met)) := Lib.hid (by
        rw [show 1025 - far = (1025 - (far + 1)) + 1 by omega]
        conv => lhs; unfold layW
        rw [if_neg hz])
      obtain ⟨fn, tmps, assign, body, hy, hR⟩ := hY pre (far, toF m layer) wr HJ.out (by rw [HL.out]; omega)
      dsimp only [encL] at hy
      rw [hlt] at hy
      have HZ := Lib.hid hz
      have HLT := Lib.hid hlt
      clear hz hlt
      gi_wp2
      refine hR.mono ?_
      rintro e W3 (⟨rfl, hJ3, hk3⟩ | ⟨rfl, hJx3⟩)
      · have hK3 : KpL n₀ Ba Bw W W3 := kpL_t HK.out.2 hk3
        have hcA : W3.cell? ⟨Ba, 0, none⟩ = some (.slice A m cap) := hK3.2.1.trans hBa
        have hcW : W3.cell? ⟨Bw, 0, none⟩ = some (.int .u32 wi) := hK3.2.2.trans hBw
        have hsz3 : W.heap.size ≤ W3.heap.size := Nat.le_trans HK.out.1 hk3.1.size
        have HW3 : Hid (WordsAt W3 W3.heap.size A m ar) := Lib.hid ((hA.below hK3.1).more (by omega))
        have HT3 : Hid (Tab W3) := Lib.hid (hT.below hK3.1 hn₀)
        have hb2 := orTo_lt har (nodesL m layer)
        have hb10 := pow10 hm hb2
        have hnx := nextW_lt hm har wi layer met hmt
        have hnx10 := pow10 hm hnx
        have hbw := pow10 hm (besideW_lt har wi layer)
        have hand := and_u32 (besideN m ar layer) wi (by show orTo m ar (nodesL m layer) < _; omega) hwi
        have hdiff : bits .andNot .u32 ((besideN m ar layer &&& wi : Nat) : Int) (met : Int) = ((nextW m ar wi layer met : Nat) : Int) := andNot_u32 _ _ (by omega) (by omega)
        have hor := or_u32 met (nextW m ar wi layer met) (by omega) (by omega)
        have hmo : met ||| nextW m ar wi layer met < 2 ^ m := Nat.or_lt_two_pow hmt hnx
        have hgrow : nextW m ar wi layer met ≠ 0 → met + 1 ≤ met ||| nextW m ar wi layer met := metW_grows hm har wi layer met hmt
        have hge : met ≤ met ||| nextW m ar wi layer met := Nat.left_le_or
        have HJ3 := Lib.hid hJ3
        have HK3 := Lib.hid hK3
        have HG := Lib.hid hgrow
        clear hJ3 hk3 hK3 hR hy hb2 hb10 hgrow hBa
        have hfo : Tryd.prog.follows .mixedOrders = true := by kernel_rfl
        gi_wp2_with fail
        gi_region_with_o (gi_at_call 82; refine (beside_in (n - 1) m layer (by omega) hm hl A cap ar har _ (by exact HW3.out) (by exact HT3.out)).mono ?_; rintro e W4 ⟨rfl, hb4⟩; replace hb4 : Below W3.heap.size W3 W4 := (Below.refl _ _).drew.trans hb4; have hcW4 : W4.cell? ⟨Bw, 0, none⟩ = some (.int .u32 wi) := (hb4.cell (p := ⟨Bw, 0, none⟩) (by show Bw < W3.heap.size; omega)).trans hcW)
        all_goals
          gi_wp2
          go_roundw
          case rel =>
            have hJ4 : J (pre ++ [(far, toF m layer)]) W4 := hJ _ W3 W4 none HJ3.out ⟨hb4.os, hb4.tape, hb4.output, hb4.size, fun i hi _ => hb4.block i hi⟩ (fun r e => by cases e)
            have hK4 : KpL n₀ Ba Bw W W4 := kpL_t HK3.out ⟨hb4.mono (by show n₀ ≤ W3.heap.size; omega), hb4.cell (p := ⟨Ba, 0, none⟩) (by show Ba < W3.heap.size; omega), hb4.cell (p := ⟨Bw, 0, none⟩) (by show Bw < W3.heap.size; omega)⟩
            refine ⟨nextW m ar wi layer met, met ||| nextW m ar wi layer met, far + 1, pre ++ [(far, toF m layer)], rfl, rfl, by go_num, hnx, hmo, ?_, Lib.hid (by simp [HL.out]), Lib.hid (by rw [HX.out, HS.out]; simp), Lib.hid hJ4, Lib.hid ⟨Nat.le_trans hsz3 hb4.size, hK4⟩⟩
            by_cases hn0 : nextW m ar wi layer met = 0
            · rw [if_pos hn0]; omega
            · rw [if_neg hn0]; have := HG.out hn0; omega
          case measure =>
            have hmo10 := pow10 hm hmo
            show layMeas (.int .u32 (nextW m ar wi layer met : Nat)) (.int .u32 (met ||| nextW m ar wi layer met : Nat)) < layMeas (.int .u32 layer) (.int .u32 met)
            rw [layMeas_eq, layMeas_eq, if_neg HZ.out]
            by_cases hn0 : nextW m ar wi layer met = 0
            · rw [if_pos hn0]; omega
            · rw [if_neg hn0]; have := HG.out hn0; omega
      · gi_wp2
        refine bodyPost_ret (results_none rfl _ _ _) rfl ?_
        exact ⟨⟨_, rfl⟩, .inr ⟨pre ++ [(far, toF m layer)], ⟨_, by rw [HX.out, HS.out]; simp; rfl⟩, hJx3⟩⟩

set_option maxRecDepth 100000 in
/-- layers' value goes through the layers. -/
theorem layers_stops (n m s : Nat) (hn : 5 ≤ n) (hm : m ≤ 10) (hs : s < m) (A : Option Addr) (cap : Nat) (ar : List Nat) (har : Words m ar) (wi : Nat) (hwi : wi < 4294967296) (Bf Ba Bw n₀ : Nat) (hn₀ : 0 < n₀) (w : World)
    (hBfl : Bf < w.heap.size) (hBal : Ba < w.heap.size) (hBwl : Bw < w.heap.size) (hBf : w.cell? ⟨Bf, 0, none⟩ = some (.int .i64 s)) (hBa : w.cell? ⟨Ba, 0, none⟩ = some (.slice A m cap)) (hBw : w.cell? ⟨Bw, 0, none⟩ = some (.int .u32 wi)) (hA : WordsAt w n₀ A m ar) (hn₁ : n₀ ≤ w.heap.size) (hT : Tab w) :
    SeqStopsK Fence.wide n Tryd.prog 81 #[.pointer (some ⟨Bf, 0, none⟩), .pointer (some ⟨Ba, 0, none⟩), .pointer (some ⟨Bw, 0, none⟩)] (encL m) (KpL n₀ Ba Bw) (fun ys => ys = layW m ar wi 1025 0 (2 ^ s) (2 ^ s)) (fun pre => pre <+: layW m ar wi 1025 0 (2 ^ s) (2 ^ s)) 1025 w := fun l J Jx W hW hJ _ hY h0 =>
  layers1_in n m s hn hm hs A cap ar har wi hwi l Bf Ba Bw n₀ hn₀ J Jx W hJ hY ((hW.cell (p := ⟨Bf, 0, none⟩) hBfl).trans hBf) ((hW.cell (p := ⟨Ba, 0, none⟩) hBal).trans hBa) (Nat.lt_of_lt_of_le hBal hW.size) ((hW.cell (p := ⟨Bw, 0, none⟩) hBwl).trans hBw) (Nat.lt_of_lt_of_le hBwl hW.size) (hA.below (hW.mono hn₁)) (Nat.le_trans hn₁ hW.size) (hT.go_ hW) h0
end Go.Proofs.YthfgbgmkiggjmabDoor
