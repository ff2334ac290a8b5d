/-
  No cell of these rows narrows 'for every input' (looked for: loops, veiled, ifaces, maps, wideKeys, modest, calm, conditions, laid).
  DERIVED. THE GIVEN ROWS OF THIS SEAT. 8 by the template 'for every input the law returns true; each argument reads behind the call as it read before'; 0 by the template 'total and deterministic' (their statements: YthnchnamdoobeaaTotals.lean).
  GIVEN WITH THE SEED: the statements are not yours to turn. If you find one false, say at which input.
  Laid BY PROGRAM, IN A SANDBOX (cutbox-rows.mjs): the forced cells as the released guide's own fill.sh prints them over the translation 97e6246d908d68a2… (all of the seat's roots in one cut). By AI agents, Wed Nov 11 2026. No macro, syntax, notation, axiom, sorry.
-/
import Derived.Test.YthnchnamdoobeaaChecked
import GoSem.Claim
import GoSem.ClaimJoined
import GoSem.ClaimMapViews
import Derived.JoinedTies
import Derived.KernelRfl
namespace Go.Proofs.Ythnchnamdoobeaa
/- THE CELL 'sum', in the pinned program and in every row, IS THE sha256 OF THE DUMP (.gsa) THAT YthnchnamdoobeaaProg.lean LOADS. Nothing in Lean hashes anything: it is a label: what it is worth is what the hold of that sum in a sandbox is worth. -/
noncomputable def Try.pinned : Pinned := { name := "ythnchnamdoobeaa", sum := "97e6246d908d68a27cf0a502a39db510ddd7b3d0671114b0987c00c4be968f9c", checked := Try.checked }
namespace Rows
def none {H : Type} : Left H := { results := [], args := [] }

/-- 'teamsterlaw.CrowdMost': WHATEVER THE INPUT: true; the input reads as it did. -/
def crowdMostSpec : ChangeSpec := { name := "crowdMost", fn := fun _ => fun
  | [d] => { results := [.lit (.bool true)], args := [d] }
  | _ => none }
def crowdMostRow : OpenClaim := { program := "ythnchnamdoobeaa", sum := "97e6246d908d68a27cf0a502a39db510ddd7b3d0671114b0987c00c4be968f9c", func := "teamster/teamsterlaw.CrowdMost", spec := "crowdMost", plainKeys := false, apart := false }
def CrowdMostSaid : Prop := crowdMostRow.holds Try.pinned (OpenSpec.ofChange crowdMostSpec)

/-- ITS FALSE NEIGHBOUR: 'it returns false'. Refute it at one input. -/
def crowdMostWrong : ChangeSpec := { name := "crowdMost", fn := fun _ => fun
  | [d] => { results := [.lit (.bool false)], args := [d] }
  | _ => none }
def CrowdMostWrongFalsely : Prop := crowdMostRow.holds Try.pinned (OpenSpec.ofChange crowdMostWrong)

/-- 'teamsterlaw.CrowdAparts': WHATEVER THE INPUT: true; the input reads as it did. -/
def crowdApartsSpec : ChangeSpec := { name := "crowdAparts", fn := fun _ => fun
  | [d] => { results := [.lit (.bool true)], args := [d] }
  | _ => none }
def crowdApartsRow : OpenClaim := { program := "ythnchnamdoobeaa", sum := "97e6246d908d68a27cf0a502a39db510ddd7b3d0671114b0987c00c4be968f9c", func := "teamster/teamsterlaw.CrowdAparts", spec := "crowdAparts", plainKeys := false, apart := false }
def CrowdApartsSaid : Prop := crowdApartsRow.holds Try.pinned (OpenSpec.ofChange crowdApartsSpec)

/-- ITS FALSE NEIGHBOUR: 'it returns false'. Refute it at one input. -/
def crowdApartsWrong : ChangeSpec := { name := "crowdAparts", fn := fun _ => fun
  | [d] => { results := [.lit (.bool false)], args := [d] }
  | _ => none }
def CrowdApartsWrongFalsely : Prop := crowdApartsRow.holds Try.pinned (OpenSpec.ofChange crowdApartsWrong)

/-- 'teamsterlaw.CrowdCovers': WHATEVER THE INPUT: true; the input reads as it did. -/
def crowdCoversSpec : ChangeSpec := { name := "crowdCovers", fn := fun _ => fun
  | [d] => { results := [.lit (.bool true)], args := [d] }
  | _ => none }
def crowdCoversRow : OpenClaim := { program := "ythnchnamdoobeaa", sum := "97e6246d908d68a27cf0a502a39db510ddd7b3d0671114b0987c00c4be968f9c", func := "teamster/teamsterlaw.CrowdCovers", spec := "crowdCovers", plainKeys := false, apart := false }
def CrowdCoversSaid : Prop := crowdCoversRow.holds Try.pinned (OpenSpec.ofChange crowdCoversSpec)

/-- ITS FALSE NEIGHBOUR: 'it returns false'. Refute it at one input. -/
def crowdCoversWrong : ChangeSpec := { name := "crowdCovers", fn := fun _ => fun
  | [d] => { results := [.lit (.bool false)], args := [d] }
  | _ => none }
def CrowdCoversWrongFalsely : Prop := crowdCoversRow.holds Try.pinned (OpenSpec.ofChange crowdCoversWrong)

/-- 'teamsterkeep.CrowdGallai': WHATEVER THE INPUT: true; the input reads as it did. -/
def crowdGallaiSpec : ChangeSpec := { name := "crowdGallai", fn := fun _ => fun
  | [d] => { results := [.lit (.bool true)], args := [d] }
  | _ => none }
def crowdGallaiRow : OpenClaim := { program := "ythnchnamdoobeaa", sum := "97e6246d908d68a27cf0a502a39db510ddd7b3d0671114b0987c00c4be968f9c", func := "teamster/teamsterkeep.CrowdGallai", spec := "crowdGallai", plainKeys := false, apart := false }
def CrowdGallaiSaid : Prop := crowdGallaiRow.holds Try.pinned (OpenSpec.ofChange crowdGallaiSpec)

/-- ITS FALSE NEIGHBOUR: 'it returns false'. Refute it at one input. -/
def crowdGallaiWrong : ChangeSpec := { name := "crowdGallai", fn := fun _ => fun
  | [d] => { results := [.lit (.bool false)], args := [d] }
  | _ => none }
def CrowdGallaiWrongFalsely : Prop := crowdGallaiRow.holds Try.pinned (OpenSpec.ofChange crowdGallaiWrong)

/-- 'teamsterkeep.CrowdRamsey': WHATEVER THE INPUT: true; the input reads as it did. -/
def crowdRamseySpec : ChangeSpec := { name := "crowdRamsey", fn := fun _ => fun
  | [d] => { results := [.lit (.bool true)], args := [d] }
  | _ => none }
def crowdRamseyRow : OpenClaim := { program := "ythnchnamdoobeaa", sum := "97e6246d908d68a27cf0a502a39db510ddd7b3d0671114b0987c00c4be968f9c", func := "teamster/teamsterkeep.CrowdRamsey", spec := "crowdRamsey", plainKeys := false, apart := false }
def CrowdRamseySaid : Prop := crowdRamseyRow.holds Try.pinned (OpenSpec.ofChange crowdRamseySpec)

/-- ITS FALSE NEIGHBOUR: 'it returns false'. Refute it at one input. -/
def crowdRamseyWrong : ChangeSpec := { name := "crowdRamsey", fn := fun _ => fun
  | [d] => { results := [.lit (.bool false)], args := [d] }
  | _ => none }
def CrowdRamseyWrongFalsely : Prop := crowdRamseyRow.holds Try.pinned (OpenSpec.ofChange crowdRamseyWrong)

/-- 'teamsterkeep.CrowdTuran': WHATEVER THE INPUT: true; the input reads as it did. -/
def crowdTuranSpec : ChangeSpec := { name := "crowdTuran", fn := fun _ => fun
  | [d] => { results := [.lit (.bool true)], args := [d] }
  | _ => none }
def crowdTuranRow : OpenClaim := { program := "ythnchnamdoobeaa", sum := "97e6246d908d68a27cf0a502a39db510ddd7b3d0671114b0987c00c4be968f9c", func := "teamster/teamsterkeep.CrowdTuran", spec := "crowdTuran", plainKeys := false, apart := false }
def CrowdTuranSaid : Prop := crowdTuranRow.holds Try.pinned (OpenSpec.ofChange crowdTuranSpec)

/-- ITS FALSE NEIGHBOUR: 'it returns false'. Refute it at one input. -/
def crowdTuranWrong : ChangeSpec := { name := "crowdTuran", fn := fun _ => fun
  | [d] => { results := [.lit (.bool false)], args := [d] }
  | _ => none }
def CrowdTuranWrongFalsely : Prop := crowdTuranRow.holds Try.pinned (OpenSpec.ofChange crowdTuranWrong)

/-- 'teamsterkeep.CrowdWei': WHATEVER THE INPUT: true; the input reads as it did. -/
def crowdWeiSpec : ChangeSpec := { name := "crowdWei", fn := fun _ => fun
  | [d] => { results := [.lit (.bool true)], args := [d] }
  | _ => none }
def crowdWeiRow : OpenClaim := { program := "ythnchnamdoobeaa", sum := "97e6246d908d68a27cf0a502a39db510ddd7b3d0671114b0987c00c4be968f9c", func := "teamster/teamsterkeep.CrowdWei", spec := "crowdWei", plainKeys := false, apart := false }
def CrowdWeiSaid : Prop := crowdWeiRow.holds Try.pinned (OpenSpec.ofChange crowdWeiSpec)

/-- ITS FALSE NEIGHBOUR: 'it returns false'. Refute it at one input. -/
def crowdWeiWrong : ChangeSpec := { name := "crowdWei", fn := fun _ => fun
  | [d] => { results := [.lit (.bool false)], args := [d] }
  | _ => none }
def CrowdWeiWrongFalsely : Prop := crowdWeiRow.holds Try.pinned (OpenSpec.ofChange crowdWeiWrong)

/-- 'teamsterkeep.CrowdColours': WHATEVER THE INPUT: true; the input reads as it did. -/
def crowdColoursSpec : ChangeSpec := { name := "crowdColours", fn := fun _ => fun
  | [d] => { results := [.lit (.bool true)], args := [d] }
  | _ => none }
def crowdColoursRow : OpenClaim := { program := "ythnchnamdoobeaa", sum := "97e6246d908d68a27cf0a502a39db510ddd7b3d0671114b0987c00c4be968f9c", func := "teamster/teamsterkeep.CrowdColours", spec := "crowdColours", unfollowed := true, recurses := true, plainKeys := false, apart := false }
def CrowdColoursSaid : Prop := crowdColoursRow.holds Try.pinned (OpenSpec.ofChange crowdColoursSpec)

/-- ITS FALSE NEIGHBOUR: 'it returns false'. Refute it at one input. -/
def crowdColoursWrong : ChangeSpec := { name := "crowdColours", fn := fun _ => fun
  | [d] => { results := [.lit (.bool false)], args := [d] }
  | _ => none }
def CrowdColoursWrongFalsely : Prop := crowdColoursRow.holds Try.pinned (OpenSpec.ofChange crowdColoursWrong)

/- THE SECOND FORM. 'bulk': how many values and letters a reading holds, each counted each time it is reached (what is shared counts as often as it is met; a slice's spare places count too). A statement '..UptoSaid' is the law's where the arguments, and the package variables that the reading takes, are together of bulk at most 1048576: NARROWER than '..Said'. Prove '..Said' where nothing that the law and all that it calls make is longer than what came in: it says more and counts as full. Else prove '..UptoSaid'. A law counts once. -/
mutual
def uptoBulk {H : Type} : DataW H → Nat
  | .lit (.string bytes) => bytes.length + 1
  | .lit _ => 1
  | .nil => 1
  | .ptr d => uptoBulk d + 1
  | .slice elems spare => uptoBulkAll elems + uptoBulkAll spare + 1
  | .agg parts => uptoBulkAll parts + 1
  | .iface _ d => uptoBulk d + 1
  | .map entries => uptoBulkEntries entries + 1
  | .held _ => 1
def uptoBulkAll {H : Type} : List (DataW H) → Nat
  | [] => 0
  | d :: r => uptoBulk d + uptoBulkAll r
def uptoBulkEntries {H : Type} : List (Lit × DataW H) → Nat
  | [] => 0
  | x :: r => uptoBulkEntry x + uptoBulkEntries r
def uptoBulkEntry {H : Type} : Lit × DataW H → Nat
  | (.string bytes, d) => bytes.length + uptoBulk d + 1
  | (_, d) => uptoBulk d + 1
 end
def uptoSmall : (H : Type) → List (DataW H) → Bool := fun _ ds => decide (uptoBulkAll ds ≤ 1048576)
def OpenSpec.upto (s : _root_.Go.ChangeSpec) : _root_.Go.OpenSpec := { _root_.Go.OpenSpec.ofChange s with cond := some uptoSmall }

/-- 'teamsterlaw.CrowdMost', WHERE WHAT IT READS IS OF BULK AT MOST 1048576: true; the input reads as it did. -/
def crowdMostUptoRow : OpenClaim := { program := "ythnchnamdoobeaa", sum := "97e6246d908d68a27cf0a502a39db510ddd7b3d0671114b0987c00c4be968f9c", func := "teamster/teamsterlaw.CrowdMost", spec := "crowdMost", plainKeys := false, apart := false, narrowed := true }
def CrowdMostUptoSaid : Prop := crowdMostUptoRow.holds Try.pinned (OpenSpec.upto crowdMostSpec)

/-- 'teamsterlaw.CrowdAparts', WHERE WHAT IT READS IS OF BULK AT MOST 1048576: true; the input reads as it did. -/
def crowdApartsUptoRow : OpenClaim := { program := "ythnchnamdoobeaa", sum := "97e6246d908d68a27cf0a502a39db510ddd7b3d0671114b0987c00c4be968f9c", func := "teamster/teamsterlaw.CrowdAparts", spec := "crowdAparts", plainKeys := false, apart := false, narrowed := true }
def CrowdApartsUptoSaid : Prop := crowdApartsUptoRow.holds Try.pinned (OpenSpec.upto crowdApartsSpec)

/-- 'teamsterlaw.CrowdCovers', WHERE WHAT IT READS IS OF BULK AT MOST 1048576: true; the input reads as it did. -/
def crowdCoversUptoRow : OpenClaim := { program := "ythnchnamdoobeaa", sum := "97e6246d908d68a27cf0a502a39db510ddd7b3d0671114b0987c00c4be968f9c", func := "teamster/teamsterlaw.CrowdCovers", spec := "crowdCovers", plainKeys := false, apart := false, narrowed := true }
def CrowdCoversUptoSaid : Prop := crowdCoversUptoRow.holds Try.pinned (OpenSpec.upto crowdCoversSpec)

/-- 'teamsterkeep.CrowdGallai', WHERE WHAT IT READS IS OF BULK AT MOST 1048576: true; the input reads as it did. -/
def crowdGallaiUptoRow : OpenClaim := { program := "ythnchnamdoobeaa", sum := "97e6246d908d68a27cf0a502a39db510ddd7b3d0671114b0987c00c4be968f9c", func := "teamster/teamsterkeep.CrowdGallai", spec := "crowdGallai", plainKeys := false, apart := false, narrowed := true }
def CrowdGallaiUptoSaid : Prop := crowdGallaiUptoRow.holds Try.pinned (OpenSpec.upto crowdGallaiSpec)

/-- 'teamsterkeep.CrowdRamsey', WHERE WHAT IT READS IS OF BULK AT MOST 1048576: true; the input reads as it did. -/
def crowdRamseyUptoRow : OpenClaim := { program := "ythnchnamdoobeaa", sum := "97e6246d908d68a27cf0a502a39db510ddd7b3d0671114b0987c00c4be968f9c", func := "teamster/teamsterkeep.CrowdRamsey", spec := "crowdRamsey", plainKeys := false, apart := false, narrowed := true }
def CrowdRamseyUptoSaid : Prop := crowdRamseyUptoRow.holds Try.pinned (OpenSpec.upto crowdRamseySpec)

/-- 'teamsterkeep.CrowdTuran', WHERE WHAT IT READS IS OF BULK AT MOST 1048576: true; the input reads as it did. -/
def crowdTuranUptoRow : OpenClaim := { program := "ythnchnamdoobeaa", sum := "97e6246d908d68a27cf0a502a39db510ddd7b3d0671114b0987c00c4be968f9c", func := "teamster/teamsterkeep.CrowdTuran", spec := "crowdTuran", plainKeys := false, apart := false, narrowed := true }
def CrowdTuranUptoSaid : Prop := crowdTuranUptoRow.holds Try.pinned (OpenSpec.upto crowdTuranSpec)

/-- 'teamsterkeep.CrowdWei', WHERE WHAT IT READS IS OF BULK AT MOST 1048576: true; the input reads as it did. -/
def crowdWeiUptoRow : OpenClaim := { program := "ythnchnamdoobeaa", sum := "97e6246d908d68a27cf0a502a39db510ddd7b3d0671114b0987c00c4be968f9c", func := "teamster/teamsterkeep.CrowdWei", spec := "crowdWei", plainKeys := false, apart := false, narrowed := true }
def CrowdWeiUptoSaid : Prop := crowdWeiUptoRow.holds Try.pinned (OpenSpec.upto crowdWeiSpec)

/-- 'teamsterkeep.CrowdColours', WHERE WHAT IT READS IS OF BULK AT MOST 1048576: true; the input reads as it did. -/
def crowdColoursUptoRow : OpenClaim := { program := "ythnchnamdoobeaa", sum := "97e6246d908d68a27cf0a502a39db510ddd7b3d0671114b0987c00c4be968f9c", func := "teamster/teamsterkeep.CrowdColours", spec := "crowdColours", unfollowed := true, recurses := true, plainKeys := false, apart := false, narrowed := true }
def CrowdColoursUptoSaid : Prop := crowdColoursUptoRow.holds Try.pinned (OpenSpec.upto crowdColoursSpec)

end Rows
end Go.Proofs.Ythnchnamdoobeaa
