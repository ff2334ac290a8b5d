/- The reference's Lists: two slices of slices that read alike. -/
import Derived.Test.YtmelgnfhocofiaaInts
namespace Go.Proofs.Ytmelgnfhocofiaa
open Go.RowKit

/-- A slice of slices of integers reads as a list of lists, below block B. -/
def ListsAt (w : World) (B : Nat) (A : Option Addr) (n : Nat) (xss : List (List Int)) : Prop :=
  xss.length = n ∧ (0 < n → ∃ b off, A = some ⟨b, off, none⟩ ∧ b < B ∧ ∀ (i : Nat) (xs : List Int), xss[i]? = some xs → ∃ A' c, w.cell? ⟨b, off + i, none⟩ = some (.slice A' xs.length c) ∧ IntsAt w B A' xs.length xs)
section
variable {w w' : World} {B B' n : Nat} {A : Option Addr} {xss : List (List Int)}
theorem ListsAt.keep (h : ListsAt w B A n xss) (hk : ∀ p : Addr, p.block < B → w'.cell? p = w.cell? p) : ListsAt w' B A n xss :=
  ⟨h.1, fun hn => by
    obtain ⟨b, off, e, hb, hc⟩ := h.2 hn
    refine ⟨b, off, e, hb, fun i x hx => ?_⟩
    obtain ⟨A', c, h1, h2⟩ := hc i x hx
    exact ⟨A', c, (hk _ hb).trans h1, h2.keep hk⟩⟩
theorem ListsAt.more (h : ListsAt w B A n xss) (hB : B ≤ B') : ListsAt w B' A n xss :=
  ⟨h.1, fun hn => by
    obtain ⟨b, off, e, hb, hc⟩ := h.2 hn
    refine ⟨b, off, e, by omega, fun i x hx => ?_⟩
    obtain ⟨A', c, h1, h2⟩ := hc i x hx
    exact ⟨A', c, h1, h2.more hB⟩⟩
theorem ListsAt.below (h : ListsAt w B A n xss) (hb : Below B w w') : ListsAt w' B A n xss := h.keep fun _ hp => hb.cell hp
set_option maxRecDepth 100000 in
theorem ListsAt.go_ (h : ListsAt w w.heap.size A n xss) (hb : Below w.heap.size w w') : ListsAt w' w'.heap.size A n xss := (h.below hb).more hb.size
theorem ListsAt.drewN (h : ListsAt w B A n xss) (k : Nat) : ListsAt (w.drewN k) B A n xss := h
theorem ListsAt.at_ {k : Nat} (h : ListsAt w B A n xss) (hk : k < n) : ∃ b off xs A' c, A = some ⟨b, off, none⟩ ∧ b < B ∧ xss[k]? = some xs ∧ w.cell? ⟨b, off + k, none⟩ = some (.slice A' xs.length c) ∧ IntsAt w B A' xs.length xs := by
  obtain ⟨b, off, e, hb, hc⟩ := h.2 (by omega)
  have hl : k < xss.length := by have := h.1; omega
  obtain ⟨A', c, h1, h2⟩ := hc k _ (List.getElem?_eq_getElem hl)
  exact ⟨b, off, _, A', c, e, hb, List.getElem?_eq_getElem hl, h1, h2⟩
end

set_option maxRecDepth 100000 in
set_option maxHeartbeats 400000 in
theorem lists_same (A1 A2 : Option Addr) (n c1 c2 : Nat) (xss : List (List Int)) (w : World) (h1 : ListsAt w w.heap.size A1 n xss) (h2 : ListsAt w w.heap.size A2 n xss) (hn : n ≤ 4000000000) (hl : ∀ xs ∈ xss, xs.length ≤ 4000000000) :
    Calls Try.prog 20 #[.slice A1 n c1, .slice A2 n c2] w fun e w' => e = .returned (.bool true) ∧ ∃ k, w' = w.drewN k := by
  have H1 := Lib.hid h1
  have H2 := Lib.hid h2
  have HL := Lib.hid hl
  clear h1 h2 hl
  go_enter Try.func20, Try.ntmps20
  go_wp2
  go_loopw [5] (fun j wr => ∃ k q : Nat, k ≤ n ∧ j = .int .i64 k ∧ Hid (wr = w.drewN q)) (fun j _ => n - (intOf j).toNat)
  case atStart => exact ⟨0, 0, Nat.zero_le _, rfl, Lib.hid rfl⟩
  case round =>
    obtain ⟨k, q, hk, rfl, HW⟩ := hrel
    by_cases hlt : k < n
    · obtain ⟨b, off, xs, A1', c1', rfl, _, hx, hc, hI⟩ := H1.out.at_ hlt
      obtain ⟨b', off', xs', A2', c2', rfl, _, hx', hc', hI'⟩ := H2.out.at_ hlt
      obtain rfl : xs = xs' := by rw [hx] at hx'; injection hx'
      have hki : (k : Int) < (n : Int) := by omega
      have hk0 : (0 : Int) ≤ (k : Int) := by omega
      have hlx := HL.out xs (List.mem_of_getElem? hx)
      have k1 : wr.cell? ⟨b, off + k, none⟩ = some (.slice A1' xs.length c1') := by rw [HW.out]; exact hc
      have k2 : wr.cell? ⟨b', off' + k, none⟩ = some (.slice A2' xs.length c2') := by rw [HW.out]; exact hc'
      have HI1 : Hid (IntsAt wr wr.heap.size A1' xs.length xs) := Lib.hid (by rw [HW.out]; exact hI)
      have HI2 : Hid (IntsAt wr wr.heap.size A2' xs.length xs) := Lib.hid (by rw [HW.out]; exact hI')
      clear hx hx' hc hc' hI hI'
      go_wp2
      go_quiet ((go_at_call 17; exact Calls.quiet_of (ints_same A1' A2' xs.length c1' c2' xs _ (by exact HI1.out) (by exact HI2.out) hlx)))
      go_wp2
      go_roundw
      case rel => exact ⟨k + 1, _, by omega, by go_num, Lib.hid (by rw [HW.out, World.drewN_drewN])⟩
      case measure => simp [intOf]; omega
    · go_wp2
      go_ret
      exact ⟨rfl, q, HW.out⟩
end Go.Proofs.Ytmelgnfhocofiaa
