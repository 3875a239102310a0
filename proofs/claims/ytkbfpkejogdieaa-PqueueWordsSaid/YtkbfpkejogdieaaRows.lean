/-
  No cell of these rows narrows 'for every input' (looked for: loops, veiled, ifaces, maps, wideKeys, modest, calm, conditions, laid).
  DERIVED. THE GIVEN ROWS OF THIS SEAT. 6 by the template 'for every input the law returns true; each argument reads behind the call as it read before'; 0 by the template 'total and deterministic' (their statements: YtkbfpkejogdieaaTotals.lean).
  GIVEN WITH THE SEED: the statements are not yours to turn. If you find one false, say at which input.
  Laid BY PROGRAM, IN A SANDBOX (cutbox-rows.mjs): the forced cells as the released guide's own fill.sh prints them over the translation ce4a77e5423822bc… (all of the seat's roots in one cut). By AI agents, Wed Nov 11 2026. No macro, syntax, notation, axiom, sorry.
-/
import Derived.Test.YtkbfpkejogdieaaChecked
import GoSem.Claim
import GoSem.ClaimJoined
import GoSem.ClaimMapViews
import Derived.JoinedTies
import Derived.KernelRfl
namespace Go.Proofs.Ytkbfpkejogdieaa
/- THE CELL 'sum', in the pinned program and in every row, IS THE sha256 OF THE DUMP (.gsa) THAT YtkbfpkejogdieaaProg.lean LOADS. Nothing in Lean hashes anything: it is a label: what it is worth is what the hold of that sum in a sandbox is worth. -/
noncomputable def Try.pinned : Pinned := { name := "ytkbfpkejogdieaa", sum := "ce4a77e5423822bc2c421cbf133e9384c2b22b8e18996c9f834b2f28c97eb3ea", checked := Try.checked }
namespace Rows
def none {H : Type} : Left H := { results := [], args := [] }

/-- 'bikesharelaw07.PqueueSorts': WHATEVER THE INPUT: true; the input reads as it did. -/
def pqueueSortsSpec : ChangeSpec := { name := "pqueueSorts", fn := fun _ => fun
  | [d] => { results := [.lit (.bool true)], args := [d] }
  | _ => none }
def pqueueSortsRow : OpenClaim := { program := "ytkbfpkejogdieaa", sum := "ce4a77e5423822bc2c421cbf133e9384c2b22b8e18996c9f834b2f28c97eb3ea", func := "bikeshare/bikesharelaw07.PqueueSorts", spec := "pqueueSorts", unfollowed := true, recurses := true, apart := false }
def PqueueSortsSaid : Prop := pqueueSortsRow.holds Try.pinned (OpenSpec.ofChange pqueueSortsSpec)

/-- ITS FALSE NEIGHBOUR: 'it returns false'. Refute it at one input. -/
def pqueueSortsWrong : ChangeSpec := { name := "pqueueSorts", fn := fun _ => fun
  | [d] => { results := [.lit (.bool false)], args := [d] }
  | _ => none }
def PqueueSortsWrongFalsely : Prop := pqueueSortsRow.holds Try.pinned (OpenSpec.ofChange pqueueSortsWrong)

/-- 'bikesharelaw07.PqueueRuns': WHATEVER THE INPUT: true; the input reads as it did. -/
def pqueueRunsSpec : ChangeSpec := { name := "pqueueRuns", fn := fun _ => fun
  | [d1, d2] => { results := [.lit (.bool true)], args := [d1, d2] }
  | _ => none }
def pqueueRunsRow : OpenClaim := { program := "ytkbfpkejogdieaa", sum := "ce4a77e5423822bc2c421cbf133e9384c2b22b8e18996c9f834b2f28c97eb3ea", func := "bikeshare/bikesharelaw07.PqueueRuns", spec := "pqueueRuns", unfollowed := true, recurses := true, apart := false }
def PqueueRunsSaid : Prop := pqueueRunsRow.holds Try.pinned (OpenSpec.ofChange pqueueRunsSpec)

/-- ITS FALSE NEIGHBOUR: 'it returns false'. Refute it at one input. -/
def pqueueRunsWrong : ChangeSpec := { name := "pqueueRuns", fn := fun _ => fun
  | [d1, d2] => { results := [.lit (.bool false)], args := [d1, d2] }
  | _ => none }
def PqueueRunsWrongFalsely : Prop := pqueueRunsRow.holds Try.pinned (OpenSpec.ofChange pqueueRunsWrong)

/-- 'bikesharelaw07.PqueueMerges': WHATEVER THE INPUT: true; the input reads as it did. -/
def pqueueMergesSpec : ChangeSpec := { name := "pqueueMerges", fn := fun _ => fun
  | [d1, d2, d3, d4] => { results := [.lit (.bool true)], args := [d1, d2, d3, d4] }
  | _ => none }
def pqueueMergesRow : OpenClaim := { program := "ytkbfpkejogdieaa", sum := "ce4a77e5423822bc2c421cbf133e9384c2b22b8e18996c9f834b2f28c97eb3ea", func := "bikeshare/bikesharelaw07.PqueueMerges", spec := "pqueueMerges", unfollowed := true, recurses := true, apart := false }
def PqueueMergesSaid : Prop := pqueueMergesRow.holds Try.pinned (OpenSpec.ofChange pqueueMergesSpec)

/-- ITS FALSE NEIGHBOUR: 'it returns false'. Refute it at one input. -/
def pqueueMergesWrong : ChangeSpec := { name := "pqueueMerges", fn := fun _ => fun
  | [d1, d2, d3, d4] => { results := [.lit (.bool false)], args := [d1, d2, d3, d4] }
  | _ => none }
def PqueueMergesWrongFalsely : Prop := pqueueMergesRow.holds Try.pinned (OpenSpec.ofChange pqueueMergesWrong)

/-- 'bikesharelaw07.PqueuePeeks': WHATEVER THE INPUT: true; the input reads as it did. -/
def pqueuePeeksSpec : ChangeSpec := { name := "pqueuePeeks", fn := fun _ => fun
  | [d] => { results := [.lit (.bool true)], args := [d] }
  | _ => none }
def pqueuePeeksRow : OpenClaim := { program := "ytkbfpkejogdieaa", sum := "ce4a77e5423822bc2c421cbf133e9384c2b22b8e18996c9f834b2f28c97eb3ea", func := "bikeshare/bikesharelaw07.PqueuePeeks", spec := "pqueuePeeks", unfollowed := true, recurses := true, apart := false }
def PqueuePeeksSaid : Prop := pqueuePeeksRow.holds Try.pinned (OpenSpec.ofChange pqueuePeeksSpec)

/-- ITS FALSE NEIGHBOUR: 'it returns false'. Refute it at one input. -/
def pqueuePeeksWrong : ChangeSpec := { name := "pqueuePeeks", fn := fun _ => fun
  | [d] => { results := [.lit (.bool false)], args := [d] }
  | _ => none }
def PqueuePeeksWrongFalsely : Prop := pqueuePeeksRow.holds Try.pinned (OpenSpec.ofChange pqueuePeeksWrong)

/-- 'bikesharelaw07.PqueueWords': WHATEVER THE INPUT: true; the input reads as it did. -/
def pqueueWordsSpec : ChangeSpec := { name := "pqueueWords", fn := fun _ => fun
  | [d1, d2] => { results := [.lit (.bool true)], args := [d1, d2] }
  | _ => none }
def pqueueWordsRow : OpenClaim := { program := "ytkbfpkejogdieaa", sum := "ce4a77e5423822bc2c421cbf133e9384c2b22b8e18996c9f834b2f28c97eb3ea", func := "bikeshare/bikesharelaw07.PqueueWords", spec := "pqueueWords", unfollowed := true, recurses := true, apart := false }
def PqueueWordsSaid : Prop := pqueueWordsRow.holds Try.pinned (OpenSpec.ofChange pqueueWordsSpec)

/-- ITS FALSE NEIGHBOUR: 'it returns false'. Refute it at one input. -/
def pqueueWordsWrong : ChangeSpec := { name := "pqueueWords", fn := fun _ => fun
  | [d1, d2] => { results := [.lit (.bool false)], args := [d1, d2] }
  | _ => none }
def PqueueWordsWrongFalsely : Prop := pqueueWordsRow.holds Try.pinned (OpenSpec.ofChange pqueueWordsWrong)

/-- 'bikesharelaw07.PqueueNil': WHATEVER THE INPUT: true; the input reads as it did. -/
def pqueueNilSpec : ChangeSpec := { name := "pqueueNil", fn := fun _ => fun
  | [d] => { results := [.lit (.bool true)], args := [d] }
  | _ => none }
def pqueueNilRow : OpenClaim := { program := "ytkbfpkejogdieaa", sum := "ce4a77e5423822bc2c421cbf133e9384c2b22b8e18996c9f834b2f28c97eb3ea", func := "bikeshare/bikesharelaw07.PqueueNil", spec := "pqueueNil", unfollowed := true, recurses := true, apart := false }
def PqueueNilSaid : Prop := pqueueNilRow.holds Try.pinned (OpenSpec.ofChange pqueueNilSpec)

/-- ITS FALSE NEIGHBOUR: 'it returns false'. Refute it at one input. -/
def pqueueNilWrong : ChangeSpec := { name := "pqueueNil", fn := fun _ => fun
  | [d] => { results := [.lit (.bool false)], args := [d] }
  | _ => none }
def PqueueNilWrongFalsely : Prop := pqueueNilRow.holds Try.pinned (OpenSpec.ofChange pqueueNilWrong)

/- THE SECOND FORM. 'bulk': how many values and letters a reading holds, each counted each time it is reached (what is shared counts as often as it is met; a slice's spare places count too). A statement '..UptoSaid' is the law's where the arguments, and the package variables that the reading takes, are together of bulk at most 1048576: NARROWER than '..Said'. Prove '..Said' where nothing that the law and all that it calls make is longer than what came in: it says more and counts as full. Else prove '..UptoSaid'. A law counts once. -/
mutual
def uptoBulk {H : Type} : DataW H → Nat
  | .lit (.string bytes) => bytes.length + 1
  | .lit _ => 1
  | .nil => 1
  | .ptr d => uptoBulk d + 1
  | .slice elems spare => uptoBulkAll elems + uptoBulkAll spare + 1
  | .agg parts => uptoBulkAll parts + 1
  | .iface _ d => uptoBulk d + 1
  | .map entries => uptoBulkEntries entries + 1
  | .held _ => 1
def uptoBulkAll {H : Type} : List (DataW H) → Nat
  | [] => 0
  | d :: r => uptoBulk d + uptoBulkAll r
def uptoBulkEntries {H : Type} : List (Lit × DataW H) → Nat
  | [] => 0
  | x :: r => uptoBulkEntry x + uptoBulkEntries r
def uptoBulkEntry {H : Type} : Lit × DataW H → Nat
  | (.string bytes, d) => bytes.length + uptoBulk d + 1
  | (_, d) => uptoBulk d + 1
 end
def uptoSmall : (H : Type) → List (DataW H) → Bool := fun _ ds => decide (uptoBulkAll ds ≤ 1048576)
def OpenSpec.upto (s : _root_.Go.ChangeSpec) : _root_.Go.OpenSpec := { _root_.Go.OpenSpec.ofChange s with cond := some uptoSmall }

/-- 'bikesharelaw07.PqueueSorts', WHERE WHAT IT READS IS OF BULK AT MOST 1048576: true; the input reads as it did. -/
def pqueueSortsUptoRow : OpenClaim := { program := "ytkbfpkejogdieaa", sum := "ce4a77e5423822bc2c421cbf133e9384c2b22b8e18996c9f834b2f28c97eb3ea", func := "bikeshare/bikesharelaw07.PqueueSorts", spec := "pqueueSorts", unfollowed := true, recurses := true, apart := false, narrowed := true }
def PqueueSortsUptoSaid : Prop := pqueueSortsUptoRow.holds Try.pinned (OpenSpec.upto pqueueSortsSpec)

/-- 'bikesharelaw07.PqueueRuns', WHERE WHAT IT READS IS OF BULK AT MOST 1048576: true; the input reads as it did. -/
def pqueueRunsUptoRow : OpenClaim := { program := "ytkbfpkejogdieaa", sum := "ce4a77e5423822bc2c421cbf133e9384c2b22b8e18996c9f834b2f28c97eb3ea", func := "bikeshare/bikesharelaw07.PqueueRuns", spec := "pqueueRuns", unfollowed := true, recurses := true, apart := false, narrowed := true }
def PqueueRunsUptoSaid : Prop := pqueueRunsUptoRow.holds Try.pinned (OpenSpec.upto pqueueRunsSpec)

/-- 'bikesharelaw07.PqueueMerges', WHERE WHAT IT READS IS OF BULK AT MOST 1048576: true; the input reads as it did. -/
def pqueueMergesUptoRow : OpenClaim := { program := "ytkbfpkejogdieaa", sum := "ce4a77e5423822bc2c421cbf133e9384c2b22b8e18996c9f834b2f28c97eb3ea", func := "bikeshare/bikesharelaw07.PqueueMerges", spec := "pqueueMerges", unfollowed := true, recurses := true, apart := false, narrowed := true }
def PqueueMergesUptoSaid : Prop := pqueueMergesUptoRow.holds Try.pinned (OpenSpec.upto pqueueMergesSpec)

/-- 'bikesharelaw07.PqueuePeeks', WHERE WHAT IT READS IS OF BULK AT MOST 1048576: true; the input reads as it did. -/
def pqueuePeeksUptoRow : OpenClaim := { program := "ytkbfpkejogdieaa", sum := "ce4a77e5423822bc2c421cbf133e9384c2b22b8e18996c9f834b2f28c97eb3ea", func := "bikeshare/bikesharelaw07.PqueuePeeks", spec := "pqueuePeeks", unfollowed := true, recurses := true, apart := false, narrowed := true }
def PqueuePeeksUptoSaid : Prop := pqueuePeeksUptoRow.holds Try.pinned (OpenSpec.upto pqueuePeeksSpec)

/-- 'bikesharelaw07.PqueueWords', WHERE WHAT IT READS IS OF BULK AT MOST 1048576: true; the input reads as it did. -/
def pqueueWordsUptoRow : OpenClaim := { program := "ytkbfpkejogdieaa", sum := "ce4a77e5423822bc2c421cbf133e9384c2b22b8e18996c9f834b2f28c97eb3ea", func := "bikeshare/bikesharelaw07.PqueueWords", spec := "pqueueWords", unfollowed := true, recurses := true, apart := false, narrowed := true }
def PqueueWordsUptoSaid : Prop := pqueueWordsUptoRow.holds Try.pinned (OpenSpec.upto pqueueWordsSpec)

/-- 'bikesharelaw07.PqueueNil', WHERE WHAT IT READS IS OF BULK AT MOST 1048576: true; the input reads as it did. -/
def pqueueNilUptoRow : OpenClaim := { program := "ytkbfpkejogdieaa", sum := "ce4a77e5423822bc2c421cbf133e9384c2b22b8e18996c9f834b2f28c97eb3ea", func := "bikeshare/bikesharelaw07.PqueueNil", spec := "pqueueNil", unfollowed := true, recurses := true, apart := false, narrowed := true }
def PqueueNilUptoSaid : Prop := pqueueNilUptoRow.holds Try.pinned (OpenSpec.upto pqueueNilSpec)

end Rows
end Go.Proofs.Ytkbfpkejogdieaa
