/- Jobs in memory. No conditions. -/
import Derived.Test.YthjhndbhebnmjaaRows2
namespace Go.Proofs.Ythjhndbhebnmjaa
open Go.RowKit

/-- A job: its time, those that are ahead of it, when it is due, what it is worth. -/
structure JobV where
  time : Int
  aft : List Int
  due : Int
  worth : Int
def jobCells (w : World) (b o : Nat) (j : JobV) (A' : Option Addr) (c' : Nat) : Prop :=
  w.cell? ⟨b, o, none⟩ = some (.int .i64 j.time) ∧ w.cell? ⟨b, o + 1, none⟩ = some (.slice A' j.aft.length c') ∧ w.cell? ⟨b, o + 2, none⟩ = some (.int .i64 j.due) ∧ w.cell? ⟨b, o + 3, none⟩ = some (.int .i64 j.worth)
structure JobsAt (w : World) (B : Nat) (A : Option Addr) (n : Nat) (js : List JobV) : Prop where
  len : js.length = n
  at_ : 0 < n → ∃ b off, A = some ⟨b, off, none⟩ ∧ b < B ∧ ∀ (i : Nat) (j : JobV), js[i]? = some j → ∃ A' c', jobCells w b (off + i * 4) j A' c' ∧ IntsAt w B A' j.aft.length j.aft ∧ j.aft.length ≤ c' ∧ c' ≤ maxLen
section
variable {w w' : World} {B B' n : Nat} {A : Option Addr} {js : List JobV}
theorem JobsAt.keep (h : JobsAt w B A n js) (hk : ∀ p : Addr, p.block < B → w'.cell? p = w.cell? p) : JobsAt w' B A n js :=
  ⟨h.len, fun hn => by
    obtain ⟨b, off, e, hb, hc⟩ := h.at_ hn
    refine ⟨b, off, e, hb, fun i x hx => ?_⟩
    obtain ⟨A', c', ⟨h1, h2, h3, h4⟩, h5, h6⟩ := hc i x hx
    exact ⟨A', c', ⟨(hk _ hb).trans h1, (hk _ hb).trans h2, (hk _ hb).trans h3, (hk _ hb).trans h4⟩, h5.keep hk, h6⟩⟩
theorem JobsAt.more (h : JobsAt w B A n js) (hB : B ≤ B') : JobsAt w B' A n js :=
  ⟨h.len, fun hn => by
    obtain ⟨b, off, e, hb, hc⟩ := h.at_ hn
    refine ⟨b, off, e, by omega, fun i x hx => ?_⟩
    obtain ⟨A', c', h1, h2, h3⟩ := hc i x hx
    exact ⟨A', c', h1, h2.more hB, h3⟩⟩
theorem JobsAt.below (h : JobsAt w B A n js) (hb : Below B w w') : JobsAt w' B A n js := h.keep fun _ hp => hb.cell hp
theorem JobsAt.go_ (h : JobsAt w w.heap.size A n js) (hb : Below w.heap.size w w') : JobsAt w' w'.heap.size A n js := (h.below hb).more hb.size
theorem JobsAt.get {k : Nat} (h : JobsAt w B A n js) (hk : k < n) : ∃ b off j A' c', A = some ⟨b, off, none⟩ ∧ b < B ∧ js[k]? = some j ∧ w.cell? ⟨b, off + k * 4, none⟩ = some (.int .i64 j.time) ∧ w.cell? ⟨b, off + k * 4 + 1, none⟩ = some (.slice A' j.aft.length c') ∧
    w.cell? ⟨b, off + k * 4 + 2, none⟩ = some (.int .i64 j.due) ∧ w.cell? ⟨b, off + k * 4 + 3, none⟩ = some (.int .i64 j.worth) ∧ IntsAt w B A' j.aft.length j.aft ∧ j.aft.length ≤ c' ∧ c' ≤ maxLen := by
  obtain ⟨b, off, e, hb, hc⟩ := h.at_ (by omega)
  have hl : k < js.length := by have := h.len; omega
  obtain ⟨A', c', ⟨h1, h2, h3, h4⟩, h5, h6, h7⟩ := hc k _ (List.getElem?_eq_getElem hl)
  exact ⟨b, off, _, A', c', e, hb, List.getElem?_eq_getElem hl, h1, h2, h3, h4, h5, h6, h7⟩
theorem JobsAt.get_some {k b off : Nat} (h : JobsAt w B (some ⟨b, off, none⟩) n js) (hk : k < n) : ∃ j A' c', b < B ∧ js[k]? = some j ∧ w.cell? ⟨b, off + k * 4, none⟩ = some (.int .i64 j.time) ∧ w.cell? ⟨b, off + k * 4 + 1, none⟩ = some (.slice A' j.aft.length c') ∧
    w.cell? ⟨b, off + k * 4 + 2, none⟩ = some (.int .i64 j.due) ∧ w.cell? ⟨b, off + k * 4 + 3, none⟩ = some (.int .i64 j.worth) ∧ IntsAt w B A' j.aft.length j.aft ∧ j.aft.length ≤ c' ∧ c' ≤ maxLen := by
  obtain ⟨b', off', j, A', c', e, h1⟩ := h.get hk
  injection e with e
  injection e with e1 e2
  subst e1 e2
  exact ⟨j, A', c', h1⟩
end
end Go.Proofs.Ythjhndbhebnmjaa
