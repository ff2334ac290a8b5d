/- math/bits.OnesCount32 of a small word. -/
import Derived.Test.YthnchnamdoobeaaWords
import Derived.WalkSpells
import Derived.WalkLawsBesides
import Derived.Lib.Hide
import Derived.Deep.QuietTactic
import Derived.BigQuiet
import Derived.Lib.BitFns
namespace Go.Proofs.Ythnchnamdoobeaa
open Go.RowKit

theorem ones_dec : ∀ x, x < 1024 → Lib.pop8 ((x / 256 : Nat) : Int) = (ones (x / 256) : Int) ∧ Lib.pop8 ((x % 256 : Nat) : Int) = (ones (x % 256) : Int) ∧ ones x = ones (x / 256) + ones (x % 256) := by decide +kernel
theorem and255 (r : Nat) (h : r < 4294967296) : bits .and .u32 (r : Int) 255 = ((r % 256 : Nat) : Int) := by
  have := and_u32 r 255 h (by omega)
  rw [show ((255 : Nat) : Int) = 255 from rfl] at this
  rw [this, show (255 : Nat) = 2 ^ 8 - 1 from rfl, Nat.and_two_pow_sub_one_eq_mod]

set_option maxRecDepth 100000 in
set_option maxHeartbeats 1000000 in
theorem ones_core (x q r a b c : Nat) (w : World) (h0 : (x : Int) / 16777216 = 0) (h1 : (x : Int) / 65536 = 0) (h2 : (x : Int) / 256 = (q : Int)) (h3 : bits .and .u32 0 255 = 0) (h4 : bits .and .u32 (q : Int) 255 = (q : Int)) (h5 : bits .and .u32 (x : Int) 255 = (r : Int))
    (hq : q ≤ 255) (hr : r ≤ 255) (hp0 : Lib.pop8 0 = 0) (hpq : Lib.pop8 (q : Int) = (a : Int)) (hpr : Lib.pop8 (r : Int) = (b : Int)) (ha : a ≤ 10) (hb : b ≤ 10) (hc : Hid (c = a + b)) :
    Calls Try.prog 27 #[.int .u32 x] w fun e w' => e = .returned (.int .i64 c) ∧ ∃ k, w' = w.drewN k := by
  go_enter Try.func27, Try.ntmps27
  conv in (occs := *) (ByteArray.mk _) => all_goals change Lib.pop8tab
  have q0 : (0 : Int) ≤ (q : Int) := by omega
  have q1 : (q : Int) ≤ 255 := by omega
  have r0 : (0 : Int) ≤ (r : Int) := by omega
  have r1 : (r : Int) ≤ 255 := by omega
  go_wp2
  go_quiet (fail)
  go_wp2
  go_ret
  exact ⟨by rw [hc.out]; go_num, _, rfl⟩
set_option maxRecDepth 100000 in
theorem ones_any (x : Nat) (w : World) (hx : x < 1024) :
    Calls Try.prog 27 #[.int .u32 x] w fun e w' => e = .returned (.int .i64 (ones x)) ∧ ∃ k, w' = w.drewN k := by
  obtain ⟨h1, h2, h3⟩ := ones_dec x hx
  exact ones_core x (x / 256) (x % 256) (ones (x / 256)) (ones (x % 256)) (ones x) w (by omega) (by omega) (by omega) (by decide +kernel) (by rw [and255 _ (by omega)]; omega) (and255 x (by omega)) (by omega) (by omega) (by decide +kernel) h1 h2 (ones_le _) (ones_le _) (Lib.hid h3)
end Go.Proofs.Ythnchnamdoobeaa
