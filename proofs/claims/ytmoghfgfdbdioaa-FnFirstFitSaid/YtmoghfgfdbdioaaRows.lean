/-
  No cell of these rows narrows 'for every input' (looked for: loops, veiled, ifaces, maps, wideKeys, modest, calm, conditions, laid).
  DERIVED. THE GIVEN ROWS OF THIS SEAT. 5 by the template 'for every input the law returns true; each argument reads behind the call as it read before'; 0 by the template 'total and deterministic' (their statements: YtmoghfgfdbdioaaTotals.lean).
  GIVEN WITH THE SEED: the statements are not yours to turn. If you find one false, say at which input.
  Laid BY PROGRAM, IN A SANDBOX (cutbox-rows.mjs): the forced cells as the released guide's own fill.sh prints them over the translation eb1980c010645f37… (all of the seat's roots in one cut). By AI agents, Wed Nov 11 2026. No macro, syntax, notation, axiom, sorry.
-/
import Derived.Test.YtmoghfgfdbdioaaChecked
import GoSem.Claim
import GoSem.ClaimJoined
import GoSem.ClaimMapViews
import Derived.JoinedTies
import Derived.KernelRfl
namespace Go.Proofs.Ytmoghfgfdbdioaa
/- THE CELL 'sum', in the pinned program and in every row, IS THE sha256 OF THE DUMP (.gsa) THAT YtmoghfgfdbdioaaProg.lean LOADS. Nothing in Lean hashes anything: it is a label: what it is worth is what the hold of that sum in a sandbox is worth. -/
noncomputable def Try.pinned : Pinned := { name := "ytmoghfgfdbdioaa", sum := "eb1980c010645f376da44a0dd9f89ef485e04fc9df098c37e597b137ea128b13", checked := Try.checked }
namespace Rows
def none {H : Type} : Left H := { results := [], args := [] }

/-- 'laws.FnFirstFit': WHATEVER THE INPUT: true; the input reads as it did. -/
def fnFirstFitSpec : ChangeSpec := { name := "fnFirstFit", fn := fun _ => fun
  | [d] => { results := [.lit (.bool true)], args := [d] }
  | _ => none }
def fnFirstFitRow : OpenClaim := { program := "ytmoghfgfdbdioaa", sum := "eb1980c010645f376da44a0dd9f89ef485e04fc9df098c37e597b137ea128b13", func := "loop.example/sortingoffice/laws.FnFirstFit", spec := "fnFirstFit", unfollowed := true, recurses := true, apart := false }
def FnFirstFitSaid : Prop := fnFirstFitRow.holds Try.pinned (OpenSpec.ofChange fnFirstFitSpec)

/-- ITS FALSE NEIGHBOUR: 'it returns false'. Refute it at one input. -/
def fnFirstFitWrong : ChangeSpec := { name := "fnFirstFit", fn := fun _ => fun
  | [d] => { results := [.lit (.bool false)], args := [d] }
  | _ => none }
def FnFirstFitWrongFalsely : Prop := fnFirstFitRow.holds Try.pinned (OpenSpec.ofChange fnFirstFitWrong)

/-- 'laws.FnFitSorted': WHATEVER THE INPUT: true; the input reads as it did. -/
def fnFitSortedSpec : ChangeSpec := { name := "fnFitSorted", fn := fun _ => fun
  | [d] => { results := [.lit (.bool true)], args := [d] }
  | _ => none }
def fnFitSortedRow : OpenClaim := { program := "ytmoghfgfdbdioaa", sum := "eb1980c010645f376da44a0dd9f89ef485e04fc9df098c37e597b137ea128b13", func := "loop.example/sortingoffice/laws.FnFitSorted", spec := "fnFitSorted", unfollowed := true, recurses := true, apart := false }
def FnFitSortedSaid : Prop := fnFitSortedRow.holds Try.pinned (OpenSpec.ofChange fnFitSortedSpec)

/-- ITS FALSE NEIGHBOUR: 'it returns false'. Refute it at one input. -/
def fnFitSortedWrong : ChangeSpec := { name := "fnFitSorted", fn := fun _ => fun
  | [d] => { results := [.lit (.bool false)], args := [d] }
  | _ => none }
def FnFitSortedWrongFalsely : Prop := fnFitSortedRow.holds Try.pinned (OpenSpec.ofChange fnFitSortedWrong)

/-- 'laws.FnLoads': WHATEVER THE INPUT: true; the input reads as it did. -/
def fnLoadsSpec : ChangeSpec := { name := "fnLoads", fn := fun _ => fun
  | [d] => { results := [.lit (.bool true)], args := [d] }
  | _ => none }
def fnLoadsRow : OpenClaim := { program := "ytmoghfgfdbdioaa", sum := "eb1980c010645f376da44a0dd9f89ef485e04fc9df098c37e597b137ea128b13", func := "loop.example/sortingoffice/laws.FnLoads", spec := "fnLoads", unfollowed := true, recurses := true, apart := false }
def FnLoadsSaid : Prop := fnLoadsRow.holds Try.pinned (OpenSpec.ofChange fnLoadsSpec)

/-- ITS FALSE NEIGHBOUR: 'it returns false'. Refute it at one input. -/
def fnLoadsWrong : ChangeSpec := { name := "fnLoads", fn := fun _ => fun
  | [d] => { results := [.lit (.bool false)], args := [d] }
  | _ => none }
def FnLoadsWrongFalsely : Prop := fnLoadsRow.holds Try.pinned (OpenSpec.ofChange fnLoadsWrong)

/-- 'laws.FnLoading': WHATEVER THE INPUT: true; the input reads as it did. -/
def fnLoadingSpec : ChangeSpec := { name := "fnLoading", fn := fun _ => fun
  | [d] => { results := [.lit (.bool true)], args := [d] }
  | _ => none }
def fnLoadingRow : OpenClaim := { program := "ytmoghfgfdbdioaa", sum := "eb1980c010645f376da44a0dd9f89ef485e04fc9df098c37e597b137ea128b13", func := "loop.example/sortingoffice/laws.FnLoading", spec := "fnLoading", unfollowed := true, recurses := true, apart := false }
def FnLoadingSaid : Prop := fnLoadingRow.holds Try.pinned (OpenSpec.ofChange fnLoadingSpec)

/-- ITS FALSE NEIGHBOUR: 'it returns false'. Refute it at one input. -/
def fnLoadingWrong : ChangeSpec := { name := "fnLoading", fn := fun _ => fun
  | [d] => { results := [.lit (.bool false)], args := [d] }
  | _ => none }
def FnLoadingWrongFalsely : Prop := fnLoadingRow.holds Try.pinned (OpenSpec.ofChange fnLoadingWrong)

/-- 'laws.FnLeastTrucks': WHATEVER THE INPUT: true; the input reads as it did. -/
def fnLeastTrucksSpec : ChangeSpec := { name := "fnLeastTrucks", fn := fun _ => fun
  | [d] => { results := [.lit (.bool true)], args := [d] }
  | _ => none }
def fnLeastTrucksRow : OpenClaim := { program := "ytmoghfgfdbdioaa", sum := "eb1980c010645f376da44a0dd9f89ef485e04fc9df098c37e597b137ea128b13", func := "loop.example/sortingoffice/laws.FnLeastTrucks", spec := "fnLeastTrucks", unfollowed := true, recurses := true, apart := false }
def FnLeastTrucksSaid : Prop := fnLeastTrucksRow.holds Try.pinned (OpenSpec.ofChange fnLeastTrucksSpec)

/-- ITS FALSE NEIGHBOUR: 'it returns false'. Refute it at one input. -/
def fnLeastTrucksWrong : ChangeSpec := { name := "fnLeastTrucks", fn := fun _ => fun
  | [d] => { results := [.lit (.bool false)], args := [d] }
  | _ => none }
def FnLeastTrucksWrongFalsely : Prop := fnLeastTrucksRow.holds Try.pinned (OpenSpec.ofChange fnLeastTrucksWrong)

/- THE SECOND FORM. 'bulk': how many values and letters a reading holds, each counted each time it is reached (what is shared counts as often as it is met; a slice's spare places count too). A statement '..UptoSaid' is the law's where the arguments, and the package variables that the reading takes, are together of bulk at most 1048576: NARROWER than '..Said'. Prove '..Said' where nothing that the law and all that it calls make is longer than what came in: it says more and counts as full. Else prove '..UptoSaid'. A law counts once. -/
mutual
def uptoBulk {H : Type} : DataW H → Nat
  | .lit (.string bytes) => bytes.length + 1
  | .lit _ => 1
  | .nil => 1
  | .ptr d => uptoBulk d + 1
  | .slice elems spare => uptoBulkAll elems + uptoBulkAll spare + 1
  | .agg parts => uptoBulkAll parts + 1
  | .iface _ d => uptoBulk d + 1
  | .map entries => uptoBulkEntries entries + 1
  | .held _ => 1
def uptoBulkAll {H : Type} : List (DataW H) → Nat
  | [] => 0
  | d :: r => uptoBulk d + uptoBulkAll r
def uptoBulkEntries {H : Type} : List (Lit × DataW H) → Nat
  | [] => 0
  | x :: r => uptoBulkEntry x + uptoBulkEntries r
def uptoBulkEntry {H : Type} : Lit × DataW H → Nat
  | (.string bytes, d) => bytes.length + uptoBulk d + 1
  | (_, d) => uptoBulk d + 1
 end
def uptoSmall : (H : Type) → List (DataW H) → Bool := fun _ ds => decide (uptoBulkAll ds ≤ 1048576)
def OpenSpec.upto (s : _root_.Go.ChangeSpec) : _root_.Go.OpenSpec := { _root_.Go.OpenSpec.ofChange s with cond := some uptoSmall }

/-- 'laws.FnFirstFit', WHERE WHAT IT READS IS OF BULK AT MOST 1048576: true; the input reads as it did. -/
def fnFirstFitUptoRow : OpenClaim := { program := "ytmoghfgfdbdioaa", sum := "eb1980c010645f376da44a0dd9f89ef485e04fc9df098c37e597b137ea128b13", func := "loop.example/sortingoffice/laws.FnFirstFit", spec := "fnFirstFit", unfollowed := true, recurses := true, apart := false, narrowed := true }
def FnFirstFitUptoSaid : Prop := fnFirstFitUptoRow.holds Try.pinned (OpenSpec.upto fnFirstFitSpec)

/-- 'laws.FnFitSorted', WHERE WHAT IT READS IS OF BULK AT MOST 1048576: true; the input reads as it did. -/
def fnFitSortedUptoRow : OpenClaim := { program := "ytmoghfgfdbdioaa", sum := "eb1980c010645f376da44a0dd9f89ef485e04fc9df098c37e597b137ea128b13", func := "loop.example/sortingoffice/laws.FnFitSorted", spec := "fnFitSorted", unfollowed := true, recurses := true, apart := false, narrowed := true }
def FnFitSortedUptoSaid : Prop := fnFitSortedUptoRow.holds Try.pinned (OpenSpec.upto fnFitSortedSpec)

/-- 'laws.FnLoads', WHERE WHAT IT READS IS OF BULK AT MOST 1048576: true; the input reads as it did. -/
def fnLoadsUptoRow : OpenClaim := { program := "ytmoghfgfdbdioaa", sum := "eb1980c010645f376da44a0dd9f89ef485e04fc9df098c37e597b137ea128b13", func := "loop.example/sortingoffice/laws.FnLoads", spec := "fnLoads", unfollowed := true, recurses := true, apart := false, narrowed := true }
def FnLoadsUptoSaid : Prop := fnLoadsUptoRow.holds Try.pinned (OpenSpec.upto fnLoadsSpec)

/-- 'laws.FnLoading', WHERE WHAT IT READS IS OF BULK AT MOST 1048576: true; the input reads as it did. -/
def fnLoadingUptoRow : OpenClaim := { program := "ytmoghfgfdbdioaa", sum := "eb1980c010645f376da44a0dd9f89ef485e04fc9df098c37e597b137ea128b13", func := "loop.example/sortingoffice/laws.FnLoading", spec := "fnLoading", unfollowed := true, recurses := true, apart := false, narrowed := true }
def FnLoadingUptoSaid : Prop := fnLoadingUptoRow.holds Try.pinned (OpenSpec.upto fnLoadingSpec)

/-- 'laws.FnLeastTrucks', WHERE WHAT IT READS IS OF BULK AT MOST 1048576: true; the input reads as it did. -/
def fnLeastTrucksUptoRow : OpenClaim := { program := "ytmoghfgfdbdioaa", sum := "eb1980c010645f376da44a0dd9f89ef485e04fc9df098c37e597b137ea128b13", func := "loop.example/sortingoffice/laws.FnLeastTrucks", spec := "fnLeastTrucks", unfollowed := true, recurses := true, apart := false, narrowed := true }
def FnLeastTrucksUptoSaid : Prop := fnLeastTrucksUptoRow.holds Try.pinned (OpenSpec.upto fnLeastTrucksSpec)

end Rows
end Go.Proofs.Ytmoghfgfdbdioaa
