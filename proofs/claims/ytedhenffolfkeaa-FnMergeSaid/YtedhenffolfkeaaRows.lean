/-
  No cell of these rows narrows 'for every input' (looked for: loops, veiled, ifaces, maps, wideKeys, modest, calm, conditions, laid).
  DERIVED. THE GIVEN ROWS OF THIS SEAT. 8 by the template 'for every input the law returns true; each argument reads behind the call as it read before'; 0 by the template 'total and deterministic' (their statements: YtedhenffolfkeaaTotals.lean).
  GIVEN WITH THE SEED: the statements are not yours to turn. If you find one false, say at which input.
  Laid BY PROGRAM, IN A SANDBOX (cutbox-rows.mjs): the forced cells as the released guide's own fill.sh prints them over the translation 7fc7870f6d0f65d9… (all of the seat's roots in one cut). By AI agents, Wed Nov 11 2026. No macro, syntax, notation, axiom, sorry.
-/
import Derived.Test.YtedhenffolfkeaaChecked
import GoSem.Claim
import GoSem.ClaimJoined
import GoSem.ClaimMapViews
import Derived.JoinedTies
import Derived.KernelRfl
namespace Go.Proofs.Ytedhenffolfkeaa
/- THE CELL 'sum', in the pinned program and in every row, IS THE sha256 OF THE DUMP (.gsa) THAT YtedhenffolfkeaaProg.lean LOADS. Nothing in Lean hashes anything: it is a label: what it is worth is what the hold of that sum in a sandbox is worth. -/
noncomputable def Try.pinned : Pinned := { name := "ytedhenffolfkeaa", sum := "7fc7870f6d0f65d9192ef435ab0aa5824be32bb0a39263f3bf19f34c0c05bfbc", checked := Try.checked }
namespace Rows
def none {H : Type} : Left H := { results := [], args := [] }

/-- 'laws.FnSortBatch': WHATEVER THE INPUT: true; the input reads as it did. -/
def fnSortBatchSpec : ChangeSpec := { name := "fnSortBatch", fn := fun _ => fun
  | [d] => { results := [.lit (.bool true)], args := [d] }
  | _ => none }
def fnSortBatchRow : OpenClaim := { program := "ytedhenffolfkeaa", sum := "7fc7870f6d0f65d9192ef435ab0aa5824be32bb0a39263f3bf19f34c0c05bfbc", func := "loop.example/sortingoffice/laws.FnSortBatch", spec := "fnSortBatch", inPlace := ["internal/reflectlite.ValueOf", "internal/reflectlite.Swapper", "(internal/reflectlite.Value).Len"], unfollowed := true, recurses := true, apart := false }
def FnSortBatchSaid : Prop := fnSortBatchRow.holds Try.pinned (OpenSpec.ofChange fnSortBatchSpec)

/-- ITS FALSE NEIGHBOUR: 'it returns false'. Refute it at one input. -/
def fnSortBatchWrong : ChangeSpec := { name := "fnSortBatch", fn := fun _ => fun
  | [d] => { results := [.lit (.bool false)], args := [d] }
  | _ => none }
def FnSortBatchWrongFalsely : Prop := fnSortBatchRow.holds Try.pinned (OpenSpec.ofChange fnSortBatchWrong)

/-- 'laws.FnPasses': WHATEVER THE INPUT: true; the input reads as it did. -/
def fnPassesSpec : ChangeSpec := { name := "fnPasses", fn := fun _ => fun
  | [d] => { results := [.lit (.bool true)], args := [d] }
  | _ => none }
def fnPassesRow : OpenClaim := { program := "ytedhenffolfkeaa", sum := "7fc7870f6d0f65d9192ef435ab0aa5824be32bb0a39263f3bf19f34c0c05bfbc", func := "loop.example/sortingoffice/laws.FnPasses", spec := "fnPasses", inPlace := ["internal/reflectlite.ValueOf", "internal/reflectlite.Swapper", "(internal/reflectlite.Value).Len"], unfollowed := true, recurses := true, apart := false }
def FnPassesSaid : Prop := fnPassesRow.holds Try.pinned (OpenSpec.ofChange fnPassesSpec)

/-- ITS FALSE NEIGHBOUR: 'it returns false'. Refute it at one input. -/
def fnPassesWrong : ChangeSpec := { name := "fnPasses", fn := fun _ => fun
  | [d] => { results := [.lit (.bool false)], args := [d] }
  | _ => none }
def FnPassesWrongFalsely : Prop := fnPassesRow.holds Try.pinned (OpenSpec.ofChange fnPassesWrong)

/-- 'laws.FnMerge': WHATEVER THE INPUT: true; the input reads as it did. -/
def fnMergeSpec : ChangeSpec := { name := "fnMerge", fn := fun _ => fun
  | [d] => { results := [.lit (.bool true)], args := [d] }
  | _ => none }
def fnMergeRow : OpenClaim := { program := "ytedhenffolfkeaa", sum := "7fc7870f6d0f65d9192ef435ab0aa5824be32bb0a39263f3bf19f34c0c05bfbc", func := "loop.example/sortingoffice/laws.FnMerge", spec := "fnMerge", inPlace := ["internal/reflectlite.ValueOf", "internal/reflectlite.Swapper", "(internal/reflectlite.Value).Len"], unfollowed := true, recurses := true, apart := false }
def FnMergeSaid : Prop := fnMergeRow.holds Try.pinned (OpenSpec.ofChange fnMergeSpec)

/-- ITS FALSE NEIGHBOUR: 'it returns false'. Refute it at one input. -/
def fnMergeWrong : ChangeSpec := { name := "fnMerge", fn := fun _ => fun
  | [d] => { results := [.lit (.bool false)], args := [d] }
  | _ => none }
def FnMergeWrongFalsely : Prop := fnMergeRow.holds Try.pinned (OpenSpec.ofChange fnMergeWrong)

/-- 'laws.FnMergeSort': WHATEVER THE INPUT: true; the input reads as it did. -/
def fnMergeSortSpec : ChangeSpec := { name := "fnMergeSort", fn := fun _ => fun
  | [d1, d2] => { results := [.lit (.bool true)], args := [d1, d2] }
  | _ => none }
def fnMergeSortRow : OpenClaim := { program := "ytedhenffolfkeaa", sum := "7fc7870f6d0f65d9192ef435ab0aa5824be32bb0a39263f3bf19f34c0c05bfbc", func := "loop.example/sortingoffice/laws.FnMergeSort", spec := "fnMergeSort", inPlace := ["internal/reflectlite.ValueOf", "internal/reflectlite.Swapper", "(internal/reflectlite.Value).Len"], unfollowed := true, recurses := true, apart := false }
def FnMergeSortSaid : Prop := fnMergeSortRow.holds Try.pinned (OpenSpec.ofChange fnMergeSortSpec)

/-- ITS FALSE NEIGHBOUR: 'it returns false'. Refute it at one input. -/
def fnMergeSortWrong : ChangeSpec := { name := "fnMergeSort", fn := fun _ => fun
  | [d1, d2] => { results := [.lit (.bool false)], args := [d1, d2] }
  | _ => none }
def FnMergeSortWrongFalsely : Prop := fnMergeSortRow.holds Try.pinned (OpenSpec.ofChange fnMergeSortWrong)

/-- 'laws.FnCodesOf': WHATEVER THE INPUT: true; the input reads as it did. -/
def fnCodesOfSpec : ChangeSpec := { name := "fnCodesOf", fn := fun _ => fun
  | [d] => { results := [.lit (.bool true)], args := [d] }
  | _ => none }
def fnCodesOfRow : OpenClaim := { program := "ytedhenffolfkeaa", sum := "7fc7870f6d0f65d9192ef435ab0aa5824be32bb0a39263f3bf19f34c0c05bfbc", func := "loop.example/sortingoffice/laws.FnCodesOf", spec := "fnCodesOf", inPlace := ["internal/reflectlite.ValueOf", "internal/reflectlite.Swapper", "(internal/reflectlite.Value).Len"], unfollowed := true, recurses := true, apart := false }
def FnCodesOfSaid : Prop := fnCodesOfRow.holds Try.pinned (OpenSpec.ofChange fnCodesOfSpec)

/-- ITS FALSE NEIGHBOUR: 'it returns false'. Refute it at one input. -/
def fnCodesOfWrong : ChangeSpec := { name := "fnCodesOf", fn := fun _ => fun
  | [d] => { results := [.lit (.bool false)], args := [d] }
  | _ => none }
def FnCodesOfWrongFalsely : Prop := fnCodesOfRow.holds Try.pinned (OpenSpec.ofChange fnCodesOfWrong)

/-- 'laws.FnExactSortBatch': WHATEVER THE INPUT: true; the input reads as it did. -/
def fnExactSortBatchSpec : ChangeSpec := { name := "fnExactSortBatch", fn := fun _ => fun
  | [d] => { results := [.lit (.bool true)], args := [d] }
  | _ => none }
def fnExactSortBatchRow : OpenClaim := { program := "ytedhenffolfkeaa", sum := "7fc7870f6d0f65d9192ef435ab0aa5824be32bb0a39263f3bf19f34c0c05bfbc", func := "loop.example/sortingoffice/laws.FnExactSortBatch", spec := "fnExactSortBatch", inPlace := ["internal/reflectlite.ValueOf", "internal/reflectlite.Swapper", "(internal/reflectlite.Value).Len"], unfollowed := true, recurses := true, apart := false }
def FnExactSortBatchSaid : Prop := fnExactSortBatchRow.holds Try.pinned (OpenSpec.ofChange fnExactSortBatchSpec)

/-- ITS FALSE NEIGHBOUR: 'it returns false'. Refute it at one input. -/
def fnExactSortBatchWrong : ChangeSpec := { name := "fnExactSortBatch", fn := fun _ => fun
  | [d] => { results := [.lit (.bool false)], args := [d] }
  | _ => none }
def FnExactSortBatchWrongFalsely : Prop := fnExactSortBatchRow.holds Try.pinned (OpenSpec.ofChange fnExactSortBatchWrong)

/-- 'laws.FnExactMergeBatches': WHATEVER THE INPUT: true; the input reads as it did. -/
def fnExactMergeBatchesSpec : ChangeSpec := { name := "fnExactMergeBatches", fn := fun _ => fun
  | [d1, d2] => { results := [.lit (.bool true)], args := [d1, d2] }
  | _ => none }
def fnExactMergeBatchesRow : OpenClaim := { program := "ytedhenffolfkeaa", sum := "7fc7870f6d0f65d9192ef435ab0aa5824be32bb0a39263f3bf19f34c0c05bfbc", func := "loop.example/sortingoffice/laws.FnExactMergeBatches", spec := "fnExactMergeBatches", inPlace := ["internal/reflectlite.ValueOf", "internal/reflectlite.Swapper", "(internal/reflectlite.Value).Len"], unfollowed := true, recurses := true, apart := false }
def FnExactMergeBatchesSaid : Prop := fnExactMergeBatchesRow.holds Try.pinned (OpenSpec.ofChange fnExactMergeBatchesSpec)

/-- ITS FALSE NEIGHBOUR: 'it returns false'. Refute it at one input. -/
def fnExactMergeBatchesWrong : ChangeSpec := { name := "fnExactMergeBatches", fn := fun _ => fun
  | [d1, d2] => { results := [.lit (.bool false)], args := [d1, d2] }
  | _ => none }
def FnExactMergeBatchesWrongFalsely : Prop := fnExactMergeBatchesRow.holds Try.pinned (OpenSpec.ofChange fnExactMergeBatchesWrong)

/-- 'laws.FnExactCodesOf': WHATEVER THE INPUT: true; the input reads as it did. -/
def fnExactCodesOfSpec : ChangeSpec := { name := "fnExactCodesOf", fn := fun _ => fun
  | [d] => { results := [.lit (.bool true)], args := [d] }
  | _ => none }
def fnExactCodesOfRow : OpenClaim := { program := "ytedhenffolfkeaa", sum := "7fc7870f6d0f65d9192ef435ab0aa5824be32bb0a39263f3bf19f34c0c05bfbc", func := "loop.example/sortingoffice/laws.FnExactCodesOf", spec := "fnExactCodesOf", inPlace := ["internal/reflectlite.ValueOf", "internal/reflectlite.Swapper", "(internal/reflectlite.Value).Len"], unfollowed := true, recurses := true, apart := false }
def FnExactCodesOfSaid : Prop := fnExactCodesOfRow.holds Try.pinned (OpenSpec.ofChange fnExactCodesOfSpec)

/-- ITS FALSE NEIGHBOUR: 'it returns false'. Refute it at one input. -/
def fnExactCodesOfWrong : ChangeSpec := { name := "fnExactCodesOf", fn := fun _ => fun
  | [d] => { results := [.lit (.bool false)], args := [d] }
  | _ => none }
def FnExactCodesOfWrongFalsely : Prop := fnExactCodesOfRow.holds Try.pinned (OpenSpec.ofChange fnExactCodesOfWrong)

/- THE SECOND FORM. 'bulk': how many values and letters a reading holds, each counted each time it is reached (what is shared counts as often as it is met; a slice's spare places count too). A statement '..UptoSaid' is the law's where the arguments, and the package variables that the reading takes, are together of bulk at most 1048576: NARROWER than '..Said'. Prove '..Said' where nothing that the law and all that it calls make is longer than what came in: it says more and counts as full. Else prove '..UptoSaid'. A law counts once. -/
mutual
def uptoBulk {H : Type} : DataW H → Nat
  | .lit (.string bytes) => bytes.length + 1
  | .lit _ => 1
  | .nil => 1
  | .ptr d => uptoBulk d + 1
  | .slice elems spare => uptoBulkAll elems + uptoBulkAll spare + 1
  | .agg parts => uptoBulkAll parts + 1
  | .iface _ d => uptoBulk d + 1
  | .map entries => uptoBulkEntries entries + 1
  | .held _ => 1
def uptoBulkAll {H : Type} : List (DataW H) → Nat
  | [] => 0
  | d :: r => uptoBulk d + uptoBulkAll r
def uptoBulkEntries {H : Type} : List (Lit × DataW H) → Nat
  | [] => 0
  | x :: r => uptoBulkEntry x + uptoBulkEntries r
def uptoBulkEntry {H : Type} : Lit × DataW H → Nat
  | (.string bytes, d) => bytes.length + uptoBulk d + 1
  | (_, d) => uptoBulk d + 1
 end
def uptoSmall : (H : Type) → List (DataW H) → Bool := fun _ ds => decide (uptoBulkAll ds ≤ 1048576)
def OpenSpec.upto (s : _root_.Go.ChangeSpec) : _root_.Go.OpenSpec := { _root_.Go.OpenSpec.ofChange s with cond := some uptoSmall }

/-- 'laws.FnSortBatch', WHERE WHAT IT READS IS OF BULK AT MOST 1048576: true; the input reads as it did. -/
def fnSortBatchUptoRow : OpenClaim := { program := "ytedhenffolfkeaa", sum := "7fc7870f6d0f65d9192ef435ab0aa5824be32bb0a39263f3bf19f34c0c05bfbc", func := "loop.example/sortingoffice/laws.FnSortBatch", spec := "fnSortBatch", inPlace := ["internal/reflectlite.ValueOf", "internal/reflectlite.Swapper", "(internal/reflectlite.Value).Len"], unfollowed := true, recurses := true, apart := false, narrowed := true }
def FnSortBatchUptoSaid : Prop := fnSortBatchUptoRow.holds Try.pinned (OpenSpec.upto fnSortBatchSpec)

/-- 'laws.FnPasses', WHERE WHAT IT READS IS OF BULK AT MOST 1048576: true; the input reads as it did. -/
def fnPassesUptoRow : OpenClaim := { program := "ytedhenffolfkeaa", sum := "7fc7870f6d0f65d9192ef435ab0aa5824be32bb0a39263f3bf19f34c0c05bfbc", func := "loop.example/sortingoffice/laws.FnPasses", spec := "fnPasses", inPlace := ["internal/reflectlite.ValueOf", "internal/reflectlite.Swapper", "(internal/reflectlite.Value).Len"], unfollowed := true, recurses := true, apart := false, narrowed := true }
def FnPassesUptoSaid : Prop := fnPassesUptoRow.holds Try.pinned (OpenSpec.upto fnPassesSpec)

/-- 'laws.FnMerge', WHERE WHAT IT READS IS OF BULK AT MOST 1048576: true; the input reads as it did. -/
def fnMergeUptoRow : OpenClaim := { program := "ytedhenffolfkeaa", sum := "7fc7870f6d0f65d9192ef435ab0aa5824be32bb0a39263f3bf19f34c0c05bfbc", func := "loop.example/sortingoffice/laws.FnMerge", spec := "fnMerge", inPlace := ["internal/reflectlite.ValueOf", "internal/reflectlite.Swapper", "(internal/reflectlite.Value).Len"], unfollowed := true, recurses := true, apart := false, narrowed := true }
def FnMergeUptoSaid : Prop := fnMergeUptoRow.holds Try.pinned (OpenSpec.upto fnMergeSpec)

/-- 'laws.FnMergeSort', WHERE WHAT IT READS IS OF BULK AT MOST 1048576: true; the input reads as it did. -/
def fnMergeSortUptoRow : OpenClaim := { program := "ytedhenffolfkeaa", sum := "7fc7870f6d0f65d9192ef435ab0aa5824be32bb0a39263f3bf19f34c0c05bfbc", func := "loop.example/sortingoffice/laws.FnMergeSort", spec := "fnMergeSort", inPlace := ["internal/reflectlite.ValueOf", "internal/reflectlite.Swapper", "(internal/reflectlite.Value).Len"], unfollowed := true, recurses := true, apart := false, narrowed := true }
def FnMergeSortUptoSaid : Prop := fnMergeSortUptoRow.holds Try.pinned (OpenSpec.upto fnMergeSortSpec)

/-- 'laws.FnCodesOf', WHERE WHAT IT READS IS OF BULK AT MOST 1048576: true; the input reads as it did. -/
def fnCodesOfUptoRow : OpenClaim := { program := "ytedhenffolfkeaa", sum := "7fc7870f6d0f65d9192ef435ab0aa5824be32bb0a39263f3bf19f34c0c05bfbc", func := "loop.example/sortingoffice/laws.FnCodesOf", spec := "fnCodesOf", inPlace := ["internal/reflectlite.ValueOf", "internal/reflectlite.Swapper", "(internal/reflectlite.Value).Len"], unfollowed := true, recurses := true, apart := false, narrowed := true }
def FnCodesOfUptoSaid : Prop := fnCodesOfUptoRow.holds Try.pinned (OpenSpec.upto fnCodesOfSpec)

/-- 'laws.FnExactSortBatch', WHERE WHAT IT READS IS OF BULK AT MOST 1048576: true; the input reads as it did. -/
def fnExactSortBatchUptoRow : OpenClaim := { program := "ytedhenffolfkeaa", sum := "7fc7870f6d0f65d9192ef435ab0aa5824be32bb0a39263f3bf19f34c0c05bfbc", func := "loop.example/sortingoffice/laws.FnExactSortBatch", spec := "fnExactSortBatch", inPlace := ["internal/reflectlite.ValueOf", "internal/reflectlite.Swapper", "(internal/reflectlite.Value).Len"], unfollowed := true, recurses := true, apart := false, narrowed := true }
def FnExactSortBatchUptoSaid : Prop := fnExactSortBatchUptoRow.holds Try.pinned (OpenSpec.upto fnExactSortBatchSpec)

/-- 'laws.FnExactMergeBatches', WHERE WHAT IT READS IS OF BULK AT MOST 1048576: true; the input reads as it did. -/
def fnExactMergeBatchesUptoRow : OpenClaim := { program := "ytedhenffolfkeaa", sum := "7fc7870f6d0f65d9192ef435ab0aa5824be32bb0a39263f3bf19f34c0c05bfbc", func := "loop.example/sortingoffice/laws.FnExactMergeBatches", spec := "fnExactMergeBatches", inPlace := ["internal/reflectlite.ValueOf", "internal/reflectlite.Swapper", "(internal/reflectlite.Value).Len"], unfollowed := true, recurses := true, apart := false, narrowed := true }
def FnExactMergeBatchesUptoSaid : Prop := fnExactMergeBatchesUptoRow.holds Try.pinned (OpenSpec.upto fnExactMergeBatchesSpec)

/-- 'laws.FnExactCodesOf', WHERE WHAT IT READS IS OF BULK AT MOST 1048576: true; the input reads as it did. -/
def fnExactCodesOfUptoRow : OpenClaim := { program := "ytedhenffolfkeaa", sum := "7fc7870f6d0f65d9192ef435ab0aa5824be32bb0a39263f3bf19f34c0c05bfbc", func := "loop.example/sortingoffice/laws.FnExactCodesOf", spec := "fnExactCodesOf", inPlace := ["internal/reflectlite.ValueOf", "internal/reflectlite.Swapper", "(internal/reflectlite.Value).Len"], unfollowed := true, recurses := true, apart := false, narrowed := true }
def FnExactCodesOfUptoSaid : Prop := fnExactCodesOfUptoRow.holds Try.pinned (OpenSpec.upto fnExactCodesOfSpec)

end Rows
end Go.Proofs.Ytedhenffolfkeaa
