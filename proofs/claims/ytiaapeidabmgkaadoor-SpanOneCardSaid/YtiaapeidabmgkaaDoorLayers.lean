/- graph.layers: it goes through the distances from a node, each with the word of the nodes that are so far away. -/
import Derived.Test.YtiaapeidabmgkaaDoorBeside
namespace Go.Proofs.YtiaapeidabmgkaaDoor
open Go.RowKit Go.Shelf
attribute [local go_sem] Oper.semAt_some

def toF (m r : Nat) : Fin (2 ^ m) := ⟨r % 2 ^ m, Nat.mod_lt _ (Nat.two_pow_pos m)⟩
theorem toF_val {m r : Nat} (h : r < 2 ^ m) : (toF m r).val = r := Nat.mod_eq_of_lt h
/-- The next layer. -/
def nextL (m : Nat) (ar : List Nat) (layer met : Nat) : Nat := diffW (besideN m ar layer) met
/-- The layers behind one: each with its distance. -/
def layN (m : Nat) (ar : List Nat) : Nat → Nat → Nat → Nat → List (Nat × Fin (2 ^ m))
  | 0, _, _, _ => []
  | f + 1, far, layer, met => if layer = 0 then [] else (far, toF m layer) :: layN m ar f (far + 1) (nextL m ar layer met) (met ||| nextL m ar layer met)
theorem diffW_lt_pow {m a b : Nat} (hm : m ≤ 10) (ha : a < 2 ^ m) (hb : b < 4294967296) : diffW a b < 2 ^ m := by
  apply Nat.lt_pow_two_of_testBit
  intro i hi
  rw [diffW_testBit a b i (Nat.lt_of_lt_of_le (pow10 hm ha) (by decide)) hb, Nat.testBit_lt_two_pow (Nat.lt_of_lt_of_le ha (Nat.pow_le_pow_right (by decide) hi))]
  rfl
theorem nextL_lt {m : Nat} {ar : List Nat} (hm : m ≤ 10) (h : Words m ar) (layer met : Nat) (hmet : met < 2 ^ m) : nextL m ar layer met < 2 ^ m :=
  diffW_lt_pow hm (orTo_lt h _) (Nat.lt_of_lt_of_le (pow10 hm hmet) (by decide))
/-- A new layer has a node that was not met: the word of the met ones grows. -/
theorem met_grows {m : Nat} {ar : List Nat} (hm : m ≤ 10) (h : Words m ar) (layer met : Nat) (hmet : met < 2 ^ m) (h0 : nextL m ar layer met ≠ 0) : met + 1 ≤ met ||| nextL m ar layer met := by
  have hle : met ≤ met ||| nextL m ar layer met := Nat.left_le_or
  rcases Nat.lt_or_eq_of_le hle with hlt | heq
  · omega
  · exfalso
    apply h0
    apply Nat.eq_of_testBit_eq
    intro i
    rw [Nat.zero_testBit]
    have hb := diffW_testBit (besideN m ar layer) met i (Nat.lt_of_lt_of_le (pow10 hm (orTo_lt h _)) (by decide)) (Nat.lt_of_lt_of_le (pow10 hm hmet) (by decide))
    have he : met.testBit i = (met ||| nextL m ar layer met).testBit i := by rw [← heq]
    rw [Nat.testBit_or] at he
    cases h1 : met.testBit i with
    | true => unfold nextL; rw [hb, h1]; simp
    | false => rw [h1] at he; simpa using he.symm

/-- What a round keeps: what lies below n₀, and the box of the words. -/
def KpL (n₀ Ba : Nat) (W W' : World) : Prop := Below n₀ W W' ∧ W'.cell? ⟨Ba, 0, none⟩ = W.cell? ⟨Ba, 0, none⟩
theorem kpL_t {n₀ Ba : Nat} {X Y Z : World} (h : KpL n₀ Ba X Y) (k : KpL n₀ Ba Y Z) : KpL n₀ Ba X Z := ⟨h.1.trans k.1, k.2.trans h.2⟩
theorem kpL_b {n₀ Ba : Nat} {w : World} (hn : n₀ ≤ w.heap.size) (hBa : Ba < w.heap.size) (W : World) (l : Nat) (o o' : Obj) (hl : w.heap.size ≤ l) (h : W.heap[l]? = some o) (hc : o.isCells = false) (hw : o.isWalk = false) : KpL n₀ Ba W (W.putObj l o') := by
  refine ⟨belowK_b hn W l o o' hl h hc hw, ?_⟩
  have hb := belowK_b (w := w) (Nat.le_refl _) W l o o' hl h hc hw
  exact hb.cell (p := ⟨Ba, 0, none⟩) hBa
def encL (m : Nat) (x : Nat × Fin (2 ^ m)) : Array Value := #[.int .i64 (x.1 : Int), .int .u32 (x.2.val : Int)]

set_option maxHeartbeats 400000 in
theorem layers_in (n : Nat) (A : Option Addr) (m cap : Nat) (s : Int) (w : World) :
    CallsIn Fence.wide n Tryd.prog 51 #[.slice A m cap, .int .i64 s] w fun e w' => e = .returned (.func (.func 55) #[] #[.pointer (some ⟨w.heap.size + 1, 0, none⟩), .pointer (some ⟨w.heap.size, 0, none⟩)]) ∧
      w' = (w.alloc (.cells #[.slice A m cap] 65)).alloc (.cells #[.int .i64 s] 3) := by
  refine callsIn_of_wp Tryd.func51 rfl (wide_fn _) ?_ wide_round
  simp only [Tryd.ntmps51, List.size_toArray, List.length_cons, List.length_nil, Nat.reduceAdd, Nat.reduceSub, Array.replicate_succ, Array.replicate_zero, List.push_toArray, List.append_toArray, List.nil_append, List.cons_append]
  gi_wp2
  go_ret
  exact ⟨rfl, rfl⟩

def layMeas (a b : Value) : Nat := 2 * (1024 - (intOf b).toNat) + (if (intOf a).toNat = 0 then 0 else 1)
theorem layMeas_eq (a b : Nat) : layMeas (.int .u32 a) (.int .u32 b) = 2 * (1024 - b) + (if a = 0 then 0 else 1) := rfl
def LayRel (m : Nat) (ar : List Nat) (p n₀ Ba : Nat) (J : List (Nat × Fin (2 ^ m)) → World → Prop) (W : World) (a b c : Value) (wr : World) : Prop :=
  ∃ (layer met far : Nat) (pre : List (Nat × Fin (2 ^ m))), a = .int .u32 layer ∧ b = .int .u32 met ∧ c = .int .i64 far ∧ layer < 2 ^ m ∧ met < 2 ^ m ∧ far + (if layer = 0 then 0 else 1) ≤ met ∧ Hid (pre.length = far) ∧
    Hid (layN m ar 1025 0 p p = pre ++ layN m ar (1025 - far) far layer met) ∧ Hid (J pre wr) ∧ Hid (W.heap.size ≤ wr.heap.size ∧ KpL n₀ Ba W wr)

set_option maxRecDepth 100000 in
set_option maxHeartbeats 1000000 in
theorem layers1_in (n m s : Nat) (hn : 5 ≤ n) (hm : m ≤ 10) (hs : s < m) (A : Option Addr) (cap : Nat) (ar : List Nat) (har : Words m ar) (l Bf Ba n₀ : Nat) (hn₀ : 0 < n₀) (J Jx : List (Nat × Fin (2 ^ m)) → World → Prop)
    (W : World) (hJ : AbidesFrom W.heap.size J)
    (hY : ∀ pre x W, J pre W → pre.length < 1025 → YieldAt Fence.wide (n - 1) Tryd.prog l (encL m x) W fun e W' =>
      (e = .returned (.bool true) ∧ J (pre ++ [x]) W' ∧ KpL n₀ Ba W W') ∨ (e = .returned (.bool false) ∧ Jx (pre ++ [x]) W'))
    (hBf : W.cell? ⟨Bf, 0, none⟩ = some (.int .i64 s)) (hBa : W.cell? ⟨Ba, 0, none⟩ = some (.slice A m cap)) (hBal : Ba < W.heap.size) (hA : WordsAt W n₀ A m ar) (hn₁ : n₀ ≤ W.heap.size) (hT : Tab W) (h0 : J [] W) :
    CallsIn Fence.wide n Tryd.prog 55 #[.func (.yield l) #[] #[], .pointer (some ⟨Bf, 0, none⟩), .pointer (some ⟨Ba, 0, none⟩)] W fun e W' => (∃ v, e = .returned v) ∧
      ((∃ ys, ys = layN m ar 1025 0 (2 ^ s) (2 ^ s) ∧ J ys W') ∨ (∃ pre, pre <+: layN m ar 1025 0 (2 ^ s) (2 ^ s) ∧ Jx pre W')) := by
  have h1 : 1 ≤ n := by omega
  have f1 := wide_fn 56
  have hs0 : (0 : Int) ≤ (s : Int) := by omega
  have hs32 : (s : Int) ≤ 32 := by omega
  have hp : 2 ^ s < 2 ^ m := Nat.pow_lt_pow_right (by decide) hs
  have hp10 := pow10 hm hp
  have hpos : 0 < 2 ^ s := Nat.two_pow_pos s
  refine callsIn_of_wp Tryd.func55 rfl (wide_fn _) ?_ wide_round
  simp only [Tryd.ntmps55, List.size_toArray, List.length_cons, List.length_nil, Nat.reduceAdd, Nat.reduceSub, Array.replicate_succ, Array.replicate_zero, List.push_toArray, List.append_toArray, List.nil_append, List.cons_append]
  obtain ⟨p, hpe⟩ : ∃ p : Nat, p = 2 ^ s := ⟨_, rfl⟩
  have hsh : (2 : Int) ^ s % 4294967296 = (p : Int) := by
    rw [hpe, show (2 : Int) ^ s = ((2 ^ s : Nat) : Int) by simp]
    omega
  rw [← hpe] at hp hp10 hpos ⊢
  have HSH := Lib.hid hsh
  clear hpe hsh
  gi_wp2
  gi_loopw [4, 5, 6] (fun a b c wr => LayRel m ar p n₀ Ba J W a b c wr) (fun a b _ _ => layMeas a b)
  case atStart => exact ⟨p, p, 0, [], by rw [HSH.out], by rw [HSH.out], rfl, hp, hp, by rw [if_neg (by omega)]; omega, Lib.hid rfl, Lib.hid rfl, Lib.hid h0, Lib.hid ⟨Nat.le_refl _, Below.refl _ _, rfl⟩⟩
  case round =>
    obtain ⟨layer, met, far, pre, rfl, rfl, rfl, hl, hmt, hfar, HL, HX, HJ, HK⟩ := hrel
    have hl10 := pow10 hm hl
    have hm10 := pow10 hm hmt
    have hfm : far ≤ met := by split at hfar <;> omega
    by_cases hz : layer = 0
    · subst hz
      clear hfar
      gi_wp2
      go_end0
      exact ⟨⟨_, rfl⟩, .inl ⟨pre, by
        rw [HX.out, show 1025 - far = (1024 - far) + 1 by omega]
        simp [layN], HJ.out⟩⟩
    · rw [if_neg hz] at hfar
      have hzb : ((layer : Int) != 0) = true := by simp; omega
      have hlt := toF_val hl
      have HS : Hid (layN m ar (1025 - far) far layer met = (far, toF m layer) :: layN m ar (1025 - (far + 1)) (far + 1) (nextL m ar layer met) (met ||| nextL m ar layer met)) := Lib.hid (by
        rw [show 1025 - far = (1025 - (far + 1)) + 1 by omega]
        conv => lhs; unfold layN
        rw [if_neg hz])
      obtain ⟨fn, tmps, assign, body, hy, hR⟩ := hY pre (far, toF m layer) wr HJ.out (by rw [HL.out]; omega)
      dsimp only [encL] at hy
      rw [hlt] at hy
      have HZ := Lib.hid hz
      have HLT := Lib.hid hlt
      clear hz hlt
      gi_wp2
      refine hR.mono ?_
      rintro e W3 (⟨rfl, hJ3, hk3⟩ | ⟨rfl, hJx3⟩)
      · have hK3 : KpL n₀ Ba W W3 := kpL_t HK.out.2 hk3
        have hcA : W3.cell? ⟨Ba, 0, none⟩ = some (.slice A m cap) := hK3.2.trans hBa
        have hsz3 : W.heap.size ≤ W3.heap.size := Nat.le_trans HK.out.1 hk3.1.size
        have HW3 : Hid (WordsAt W3 W3.heap.size A m ar) := Lib.hid ((hA.below hK3.1).more (by omega))
        have HT3 : Hid (Tab W3) := Lib.hid (hT.below hK3.1 hn₀)
        have hb2 := orTo_lt har (nodesL m layer)
        have hb10 := pow10 hm hb2
        have hnx := nextL_lt hm har layer met hmt
        have hnx10 := pow10 hm hnx
        have hdiff : bits .andNot .u32 ((besideN m ar layer : Nat) : Int) (met : Int) = ((nextL m ar layer met : Nat) : Int) := andNot_u32 _ _ (by show orTo m ar (nodesL m layer) < _; omega) (by omega)
        have hor := or_u32 met (nextL m ar layer met) (by omega) (by omega)
        have hmo : met ||| nextL m ar layer met < 2 ^ m := Nat.or_lt_two_pow hmt hnx
        have hgrow : nextL m ar layer met ≠ 0 → met + 1 ≤ met ||| nextL m ar layer met := met_grows hm har layer met hmt
        have hge : met ≤ met ||| nextL m ar layer met := Nat.left_le_or
        have HJ3 := Lib.hid hJ3
        have HK3 := Lib.hid hK3
        have HG := Lib.hid hgrow
        clear hJ3 hk3 hK3 hR hy hb2 hb10 hgrow hBa
        gi_wp2_with (gi_at_call 56; refine (beside_in (n - 1) m layer (by omega) hm hl A cap ar har _ (by exact HW3.out) (by exact HT3.out)).mono ?_; rintro e W4 ⟨rfl, hb4⟩)
        go_roundw
        case rel =>
          have hJ4 : J (pre ++ [(far, toF m layer)]) W4 := hJ _ W3 W4 none HJ3.out ⟨hb4.os, hb4.tape, hb4.output, hb4.size, fun i hi _ => hb4.block i hi⟩ (fun r e => by cases e)
          have hK4 : KpL n₀ Ba W W4 := kpL_t HK3.out ⟨hb4.mono (by omega), hb4.cell (p := ⟨Ba, 0, none⟩) (by show Ba < W3.heap.size; omega)⟩
          refine ⟨nextL m ar layer met, met ||| nextL m ar layer met, far + 1, pre ++ [(far, toF m layer)], rfl, rfl, by go_num, hnx, hmo, ?_, Lib.hid (by simp [HL.out]), Lib.hid (by rw [HX.out, HS.out]; simp), Lib.hid hJ4, Lib.hid ⟨Nat.le_trans hsz3 hb4.size, hK4⟩⟩
          by_cases hn0 : nextL m ar layer met = 0
          · rw [if_pos hn0]; omega
          · rw [if_neg hn0]; have := HG.out hn0; omega
        case measure =>
          have hmo10 := pow10 hm hmo
          show layMeas (.int .u32 (nextL m ar layer met : Nat)) (.int .u32 (met ||| nextL m ar layer met : Nat)) < layMeas (.int .u32 layer) (.int .u32 met)
          rw [layMeas_eq, layMeas_eq, if_neg HZ.out]
          by_cases hn0 : nextL m ar layer met = 0
          · rw [if_pos hn0]; omega
          · rw [if_neg hn0]; have := HG.out hn0; omega
      · gi_wp2
        refine bodyPost_ret (results_none rfl _ _ _) rfl ?_
        exact ⟨⟨_, rfl⟩, .inr ⟨pre ++ [(far, toF m layer)], ⟨_, by rw [HX.out, HS.out]; simp; rfl⟩, hJx3⟩⟩

/-- layers' value goes through the layers. -/
theorem layers_stops (n m s : Nat) (hn : 5 ≤ n) (hm : m ≤ 10) (hs : s < m) (A : Option Addr) (cap : Nat) (ar : List Nat) (har : Words m ar) (Bf Ba n₀ : Nat) (hn₀ : 0 < n₀) (w : World)
    (hBfl : Bf < w.heap.size) (hBal : Ba < w.heap.size) (hBf : w.cell? ⟨Bf, 0, none⟩ = some (.int .i64 s)) (hBa : w.cell? ⟨Ba, 0, none⟩ = some (.slice A m cap)) (hA : WordsAt w n₀ A m ar) (hn₁ : n₀ ≤ w.heap.size) (hT : Tab w) :
    SeqStopsK Fence.wide n Tryd.prog 55 #[.pointer (some ⟨Bf, 0, none⟩), .pointer (some ⟨Ba, 0, none⟩)] (encL m) (KpL n₀ Ba) (fun ys => ys = layN m ar 1025 0 (2 ^ s) (2 ^ s)) (fun pre => pre <+: layN m ar 1025 0 (2 ^ s) (2 ^ s)) 1025 w := fun l J Jx W hW hJ _ hY h0 =>
  layers1_in n m s hn hm hs A cap ar har l Bf Ba n₀ hn₀ J Jx W hJ hY ((hW.cell (p := ⟨Bf, 0, none⟩) hBfl).trans hBf) ((hW.cell (p := ⟨Ba, 0, none⟩) hBal).trans hBa) (Nat.lt_of_lt_of_le hBal hW.size) (hA.below (hW.mono hn₁)) (Nat.le_trans hn₁ hW.size) (hT.go_ hW) h0
end Go.Proofs.YtiaapeidabmgkaaDoor
