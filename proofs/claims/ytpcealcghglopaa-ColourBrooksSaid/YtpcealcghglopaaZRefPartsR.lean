/- The reference's Parts: of each node the least one that it is linked with (no word of the program's). -/
import Derived.Test.YtpcealcghglopaaZRefDist
import Derived.Test.YtpcealcghglopaaZb1
import Derived.Test.YtpcealcghglopaaZb2
namespace Go.Proofs.Ytpcealcghglopaa
open Go.RowKit

set_option maxRecDepth 100000 in
set_option maxHeartbeats 1000000 in
theorem refPartsR_any (m : Nat) (A : Option Addr) (len cap : Nat) (es : List E3) (w : World) (hE : EdgesAt w w.heap.size A len es) (hm10 : m ≤ 10) (hlen : len ≤ 45) (hin : InE m es) :
    Calls Try.prog 29 #[.agg #[.int .i64 m, .slice A len cap]] w fun e w' => (∃ v, e = .returned v ∧ w'.ownsRow w.heap.size 3 1 v m ((partsR m es).map (Value.int .i64))) ∧ Below w.heap.size w w' := by
  have HE := Lib.hid (show EdgesAt (bx w m A len cap) (bx w m A len cap).heap.size A len es from (hE.alloc (Nat.le_refl _) _).more (by simp [bx]))
  have HIN := Lib.hid hin
  clear hE hin
  obtain ⟨i0, hi, hz0, hz1, hz2⟩ := info_parts infoInt
  have HI := Lib.hid hi
  have HI0 := Lib.hid hz0
  have HI1 := Lib.hid hz1
  have HI2 := Lib.hid hz2
  clear hi hz0 hz1 hz2
  go_enter Try.func29, Try.ntmps29
  go_wp2_with (go_at_call 46; refine (refDist_any m A len cap es _ (by exact HE.out) hm10 hlen HIN.out).mono ?_; rintro e w1 ⟨ho, hb1⟩; have HB1 := Lib.hid hb1; clear hb1; obtain ⟨vd, bs, cs, HR, rfl⟩ : ∃ v bs cs, Hid (Rows1 w1 (w.heap.size + 1) m m v bs cs (distI (adjE es))) ∧ e = .returned v := (by obtain ⟨v, bs, cs, he, hr⟩ := ho; exact ⟨v, bs, cs, Lib.hid (by simpa using hr), he⟩); clear ho)
  have HBx : Hid (Below (w.heap.size + 1) (bx w m A len cap) w1) := Lib.hid (HB1.out.mono (by simp))
  have hs1 : w.heap.size < w1.heap.size := by have := HBx.out.size; simp [bx] at this; omega
  clear HE HB1
  go_loopw [4, 5] (fun v j wr => ∃ k : Nat, k ≤ m ∧ j = .int .i64 k ∧ Hid (wr.ownsRow w1.heap.size 3 1 v k (((partsR m es).take k).map (Value.int .i64))) ∧ Below w1.heap.size w1 wr) (fun _ j _ => m - (intOf j).toNat)
  case atStart => exact ⟨0, Nat.zero_le _, rfl, Lib.hid (World.ownsRow_nil ..), Below.refl _ _⟩
  case round =>
    obtain ⟨k, hk, rfl, HO, hB⟩ := hrel
    have hbx0 : wr.cell? ⟨w.heap.size, 0, none⟩ = some (.int .i64 m) := by
      rw [hB.cell (p := ⟨w.heap.size, 0, none⟩) hs1, HBx.out.cell (p := ⟨w.heap.size, 0, none⟩) (Nat.lt_succ_self _)]; simp [bx, go_sem]
    by_cases hlt : k < m
    · have HRr := Lib.hid (HR.out.keep hB)
      obtain ⟨g, capg, HV, HC⟩ : ∃ g capg, Hid (vd = Value.slice (some ⟨g, 0, none⟩) m capg) ∧ Hid (∀ x, x < m → wr.cell? ⟨g, x, none⟩ = some (.slice (some ⟨bs x, 0, none⟩) m (cs x))) := by
        obtain ⟨g, capg, h1, _, _, h2⟩ := HRr.out.top (by omega)
        exact ⟨g, capg, Lib.hid h1, Lib.hid h2⟩
      obtain rfl := HV.out
      clear HV
      have hck := HC.out k hlt
      have hpm : minR es k < m := Nat.lt_of_le_of_lt minR_le hlt
      go_wp2
      go_loop [6] (fun j => ∃ a : Nat, a ≤ minR es k ∧ j = .int .i64 a) (fun j => minR es k - (intOf j).toNat)
      case atStart => exact ⟨0, Nat.zero_le _, rfl⟩
      case round =>
        obtain ⟨a, ha, rfl⟩ := hrel
        have hca := HRr.out.cell hlt (show a < m by omega)
        have ha0 : (0 : Int) ≤ (a : Int) := by omega
        have ham : (a : Int) < (m : Int) := by omega
        have hk0 : (0 : Int) ≤ (k : Int) := by omega
        have hkm : (k : Int) < (m : Int) := by omega
        by_cases hap : a < minR es k
        · have hd : distI (adjE es) k a < 0 := by
            apply Classical.byContradiction
            intro hn
            have hr : Rch es k a := distI_nonneg.1 (by omega)
            have := minR_least hr
            omega
          generalize distI (adjE es) k a = d at hca hd
          go_wp2
          go_round
          case rel => exact ⟨a + 1, by omega, by go_num⟩
          case measure => simp [intOf]; omega
        · obtain rfl : a = minR es k := by omega
          have hd : ¬ distI (adjE es) k (minR es k) < 0 := by
            have := distI_nonneg.2 ((minR_rch (F := es) (a := k)))
            omega
          have hdd : decide (distI (adjE es) k (minR es k) < 0) = false := by simpa using hd
          have HP := Lib.hid (partsR_push (F := es) hlt)
          generalize distI (adjE es) k (minR es k) = d at hca hd hdd
          generalize hpe : minR es k = p at hca hpm ha0 ham HP ha
          clear hpe
          go_wp2_with (at_builtin; refine wpList_append_own _ rfl _ _ 25 rfl w1.heap.size 3 i0 (.int .i64 0) 1 8 Try.underlying25 HI.out HI0.out HI1.out HI2.out rfl (by decide) _ _ _ rfl (HO.out.alloc _) ⟨wr.heap.size, 0, none⟩ 1 1 [.int .i64 (p : Int)] rfl rfl ?c1 ?c2 ?c3 ?c4 ?c5 ?_)
          case c2 => simp [Value.oneCell']
          case c3 => unfold maxLen; omega
          case c4 => omega
          case c5 => have := hB.size; simp; omega
          intro v' w3 hown' hgrow _
          have HO' : Hid (w3.ownsRow w1.heap.size 3 1 v' (k + 1) (((partsR m es).take (k + 1)).map (Value.int .i64))) := Lib.hid (by rw [HP.out, List.map_take]; exact hown')
          have HB3 : Hid (Below w1.heap.size w1 w3) := Lib.hid ((hB.alloc (by have := hB.size; omega) _).grown hgrow (by have := hB.size; simp; omega) (own_base HO.out))
          clear hown' hgrow
          go_wp2
          go_roundw
          case rel => exact ⟨k + 1, by omega, by go_num, HO', HB3.out⟩
          case measure => simp [intOf]; omega
    · obtain rfl : k = m := by omega
      have hall : (partsR k es).take k = partsR k es := List.take_of_length_le (by rw [partsR_len]; omega)
      have HO2 : Hid (wr.ownsRow w.heap.size 3 1 u4 k ((partsR k es).map (Value.int .i64))) := Lib.hid (by have h := HO.out; rw [hall] at h; exact own_low h (by omega))
      clear hall HO
      go_wp2
      go_ret
      exact ⟨⟨_, rfl, HO2.out⟩, ((Below.refl _ _).alloc (Nat.le_refl _) _).trans ((HBx.out.mono (Nat.le_succ _)).trans (hB.mono (by omega)))⟩
end Go.Proofs.Ytpcealcghglopaa
