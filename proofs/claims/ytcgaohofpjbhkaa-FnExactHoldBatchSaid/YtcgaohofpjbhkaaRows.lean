/-
  No cell of these rows narrows 'for every input' (looked for: loops, veiled, ifaces, maps, wideKeys, modest, calm, conditions, laid).
  DERIVED. THE GIVEN ROWS OF THIS SEAT. 6 by the template 'for every input the law returns true; each argument reads behind the call as it read before'; 0 by the template 'total and deterministic' (their statements: YtcgaohofpjbhkaaTotals.lean).
  GIVEN WITH THE SEED: the statements are not yours to turn. If you find one false, say at which input.
  Laid BY PROGRAM, IN A SANDBOX (cutbox-rows.mjs): the forced cells as the released guide's own fill.sh prints them over the translation ff6601c9b1546f7f… (all of the seat's roots in one cut). By AI agents, Wed Nov 11 2026. No macro, syntax, notation, axiom, sorry.
-/
import Derived.Test.YtcgaohofpjbhkaaChecked
import GoSem.Claim
import GoSem.ClaimJoined
import GoSem.ClaimMapViews
import Derived.JoinedTies
import Derived.KernelRfl
namespace Go.Proofs.Ytcgaohofpjbhkaa
/- THE CELL 'sum', in the pinned program and in every row, IS THE sha256 OF THE DUMP (.gsa) THAT YtcgaohofpjbhkaaProg.lean LOADS. Nothing in Lean hashes anything: it is a label: what it is worth is what the hold of that sum in a sandbox is worth. -/
noncomputable def Try.pinned : Pinned := { name := "ytcgaohofpjbhkaa", sum := "ff6601c9b1546f7f365f537b2fd3ce77c771063a23fcdc6ab7e54470924fb9b2", checked := Try.checked }
namespace Rows
def none {H : Type} : Left H := { results := [], args := [] }

/-- 'laws.FnExactSplitBatch': WHATEVER THE INPUT: true; the input reads as it did. -/
def fnExactSplitBatchSpec : ChangeSpec := { name := "fnExactSplitBatch", fn := fun _ => fun
  | [d1, d2] => { results := [.lit (.bool true)], args := [d1, d2] }
  | _ => none }
def fnExactSplitBatchRow : OpenClaim := { program := "ytcgaohofpjbhkaa", sum := "ff6601c9b1546f7f365f537b2fd3ce77c771063a23fcdc6ab7e54470924fb9b2", func := "loop.example/sortingoffice/laws.FnExactSplitBatch", spec := "fnExactSplitBatch", unfollowed := true, recurses := true, apart := false }
def FnExactSplitBatchSaid : Prop := fnExactSplitBatchRow.holds Try.pinned (OpenSpec.ofChange fnExactSplitBatchSpec)

/-- ITS FALSE NEIGHBOUR: 'it returns false'. Refute it at one input. -/
def fnExactSplitBatchWrong : ChangeSpec := { name := "fnExactSplitBatch", fn := fun _ => fun
  | [d1, d2] => { results := [.lit (.bool false)], args := [d1, d2] }
  | _ => none }
def FnExactSplitBatchWrongFalsely : Prop := fnExactSplitBatchRow.holds Try.pinned (OpenSpec.ofChange fnExactSplitBatchWrong)

/-- 'laws.FnSplit': WHATEVER THE INPUT: true; the input reads as it did. -/
def fnSplitSpec : ChangeSpec := { name := "fnSplit", fn := fun _ => fun
  | [d] => { results := [.lit (.bool true)], args := [d] }
  | _ => none }
def fnSplitRow : OpenClaim := { program := "ytcgaohofpjbhkaa", sum := "ff6601c9b1546f7f365f537b2fd3ce77c771063a23fcdc6ab7e54470924fb9b2", func := "loop.example/sortingoffice/laws.FnSplit", spec := "fnSplit", unfollowed := true, recurses := true, apart := false }
def FnSplitSaid : Prop := fnSplitRow.holds Try.pinned (OpenSpec.ofChange fnSplitSpec)

/-- ITS FALSE NEIGHBOUR: 'it returns false'. Refute it at one input. -/
def fnSplitWrong : ChangeSpec := { name := "fnSplit", fn := fun _ => fun
  | [d] => { results := [.lit (.bool false)], args := [d] }
  | _ => none }
def FnSplitWrongFalsely : Prop := fnSplitRow.holds Try.pinned (OpenSpec.ofChange fnSplitWrong)

/-- 'laws.FnExactCountPrefix': WHATEVER THE INPUT: true; the input reads as it did. -/
def fnExactCountPrefixSpec : ChangeSpec := { name := "fnExactCountPrefix", fn := fun _ => fun
  | [d1, d2] => { results := [.lit (.bool true)], args := [d1, d2] }
  | _ => none }
def fnExactCountPrefixRow : OpenClaim := { program := "ytcgaohofpjbhkaa", sum := "ff6601c9b1546f7f365f537b2fd3ce77c771063a23fcdc6ab7e54470924fb9b2", func := "loop.example/sortingoffice/laws.FnExactCountPrefix", spec := "fnExactCountPrefix", unfollowed := true, recurses := true, apart := false }
def FnExactCountPrefixSaid : Prop := fnExactCountPrefixRow.holds Try.pinned (OpenSpec.ofChange fnExactCountPrefixSpec)

/-- ITS FALSE NEIGHBOUR: 'it returns false'. Refute it at one input. -/
def fnExactCountPrefixWrong : ChangeSpec := { name := "fnExactCountPrefix", fn := fun _ => fun
  | [d1, d2] => { results := [.lit (.bool false)], args := [d1, d2] }
  | _ => none }
def FnExactCountPrefixWrongFalsely : Prop := fnExactCountPrefixRow.holds Try.pinned (OpenSpec.ofChange fnExactCountPrefixWrong)

/-- 'laws.FnCountPrefix': WHATEVER THE INPUT: true; the input reads as it did. -/
def fnCountPrefixSpec : ChangeSpec := { name := "fnCountPrefix", fn := fun _ => fun
  | [d] => { results := [.lit (.bool true)], args := [d] }
  | _ => none }
def fnCountPrefixRow : OpenClaim := { program := "ytcgaohofpjbhkaa", sum := "ff6601c9b1546f7f365f537b2fd3ce77c771063a23fcdc6ab7e54470924fb9b2", func := "loop.example/sortingoffice/laws.FnCountPrefix", spec := "fnCountPrefix", unfollowed := true, recurses := true, apart := false }
def FnCountPrefixSaid : Prop := fnCountPrefixRow.holds Try.pinned (OpenSpec.ofChange fnCountPrefixSpec)

/-- ITS FALSE NEIGHBOUR: 'it returns false'. Refute it at one input. -/
def fnCountPrefixWrong : ChangeSpec := { name := "fnCountPrefix", fn := fun _ => fun
  | [d] => { results := [.lit (.bool false)], args := [d] }
  | _ => none }
def FnCountPrefixWrongFalsely : Prop := fnCountPrefixRow.holds Try.pinned (OpenSpec.ofChange fnCountPrefixWrong)

/-- 'laws.FnExactHoldBatch': WHATEVER THE INPUT: true; the input reads as it did. -/
def fnExactHoldBatchSpec : ChangeSpec := { name := "fnExactHoldBatch", fn := fun _ => fun
  | [d1, d2] => { results := [.lit (.bool true)], args := [d1, d2] }
  | _ => none }
def fnExactHoldBatchRow : OpenClaim := { program := "ytcgaohofpjbhkaa", sum := "ff6601c9b1546f7f365f537b2fd3ce77c771063a23fcdc6ab7e54470924fb9b2", func := "loop.example/sortingoffice/laws.FnExactHoldBatch", spec := "fnExactHoldBatch", unfollowed := true, recurses := true, apart := false }
def FnExactHoldBatchSaid : Prop := fnExactHoldBatchRow.holds Try.pinned (OpenSpec.ofChange fnExactHoldBatchSpec)

/-- ITS FALSE NEIGHBOUR: 'it returns false'. Refute it at one input. -/
def fnExactHoldBatchWrong : ChangeSpec := { name := "fnExactHoldBatch", fn := fun _ => fun
  | [d1, d2] => { results := [.lit (.bool false)], args := [d1, d2] }
  | _ => none }
def FnExactHoldBatchWrongFalsely : Prop := fnExactHoldBatchRow.holds Try.pinned (OpenSpec.ofChange fnExactHoldBatchWrong)

/-- 'laws.FnHold': WHATEVER THE INPUT: true; the input reads as it did. -/
def fnHoldSpec : ChangeSpec := { name := "fnHold", fn := fun _ => fun
  | [d] => { results := [.lit (.bool true)], args := [d] }
  | _ => none }
def fnHoldRow : OpenClaim := { program := "ytcgaohofpjbhkaa", sum := "ff6601c9b1546f7f365f537b2fd3ce77c771063a23fcdc6ab7e54470924fb9b2", func := "loop.example/sortingoffice/laws.FnHold", spec := "fnHold", unfollowed := true, recurses := true, apart := false }
def FnHoldSaid : Prop := fnHoldRow.holds Try.pinned (OpenSpec.ofChange fnHoldSpec)

/-- ITS FALSE NEIGHBOUR: 'it returns false'. Refute it at one input. -/
def fnHoldWrong : ChangeSpec := { name := "fnHold", fn := fun _ => fun
  | [d] => { results := [.lit (.bool false)], args := [d] }
  | _ => none }
def FnHoldWrongFalsely : Prop := fnHoldRow.holds Try.pinned (OpenSpec.ofChange fnHoldWrong)

/- THE SECOND FORM. 'bulk': how many values and letters a reading holds, each counted each time it is reached (what is shared counts as often as it is met; a slice's spare places count too). A statement '..UptoSaid' is the law's where the arguments, and the package variables that the reading takes, are together of bulk at most 1048576: NARROWER than '..Said'. Prove '..Said' where nothing that the law and all that it calls make is longer than what came in: it says more and counts as full. Else prove '..UptoSaid'. A law counts once. -/
mutual
def uptoBulk {H : Type} : DataW H → Nat
  | .lit (.string bytes) => bytes.length + 1
  | .lit _ => 1
  | .nil => 1
  | .ptr d => uptoBulk d + 1
  | .slice elems spare => uptoBulkAll elems + uptoBulkAll spare + 1
  | .agg parts => uptoBulkAll parts + 1
  | .iface _ d => uptoBulk d + 1
  | .map entries => uptoBulkEntries entries + 1
  | .held _ => 1
def uptoBulkAll {H : Type} : List (DataW H) → Nat
  | [] => 0
  | d :: r => uptoBulk d + uptoBulkAll r
def uptoBulkEntries {H : Type} : List (Lit × DataW H) → Nat
  | [] => 0
  | x :: r => uptoBulkEntry x + uptoBulkEntries r
def uptoBulkEntry {H : Type} : Lit × DataW H → Nat
  | (.string bytes, d) => bytes.length + uptoBulk d + 1
  | (_, d) => uptoBulk d + 1
 end
def uptoSmall : (H : Type) → List (DataW H) → Bool := fun _ ds => decide (uptoBulkAll ds ≤ 1048576)
def OpenSpec.upto (s : _root_.Go.ChangeSpec) : _root_.Go.OpenSpec := { _root_.Go.OpenSpec.ofChange s with cond := some uptoSmall }

/-- 'laws.FnExactSplitBatch', WHERE WHAT IT READS IS OF BULK AT MOST 1048576: true; the input reads as it did. -/
def fnExactSplitBatchUptoRow : OpenClaim := { program := "ytcgaohofpjbhkaa", sum := "ff6601c9b1546f7f365f537b2fd3ce77c771063a23fcdc6ab7e54470924fb9b2", func := "loop.example/sortingoffice/laws.FnExactSplitBatch", spec := "fnExactSplitBatch", unfollowed := true, recurses := true, apart := false, narrowed := true }
def FnExactSplitBatchUptoSaid : Prop := fnExactSplitBatchUptoRow.holds Try.pinned (OpenSpec.upto fnExactSplitBatchSpec)

/-- 'laws.FnSplit', WHERE WHAT IT READS IS OF BULK AT MOST 1048576: true; the input reads as it did. -/
def fnSplitUptoRow : OpenClaim := { program := "ytcgaohofpjbhkaa", sum := "ff6601c9b1546f7f365f537b2fd3ce77c771063a23fcdc6ab7e54470924fb9b2", func := "loop.example/sortingoffice/laws.FnSplit", spec := "fnSplit", unfollowed := true, recurses := true, apart := false, narrowed := true }
def FnSplitUptoSaid : Prop := fnSplitUptoRow.holds Try.pinned (OpenSpec.upto fnSplitSpec)

/-- 'laws.FnExactCountPrefix', WHERE WHAT IT READS IS OF BULK AT MOST 1048576: true; the input reads as it did. -/
def fnExactCountPrefixUptoRow : OpenClaim := { program := "ytcgaohofpjbhkaa", sum := "ff6601c9b1546f7f365f537b2fd3ce77c771063a23fcdc6ab7e54470924fb9b2", func := "loop.example/sortingoffice/laws.FnExactCountPrefix", spec := "fnExactCountPrefix", unfollowed := true, recurses := true, apart := false, narrowed := true }
def FnExactCountPrefixUptoSaid : Prop := fnExactCountPrefixUptoRow.holds Try.pinned (OpenSpec.upto fnExactCountPrefixSpec)

/-- 'laws.FnCountPrefix', WHERE WHAT IT READS IS OF BULK AT MOST 1048576: true; the input reads as it did. -/
def fnCountPrefixUptoRow : OpenClaim := { program := "ytcgaohofpjbhkaa", sum := "ff6601c9b1546f7f365f537b2fd3ce77c771063a23fcdc6ab7e54470924fb9b2", func := "loop.example/sortingoffice/laws.FnCountPrefix", spec := "fnCountPrefix", unfollowed := true, recurses := true, apart := false, narrowed := true }
def FnCountPrefixUptoSaid : Prop := fnCountPrefixUptoRow.holds Try.pinned (OpenSpec.upto fnCountPrefixSpec)

/-- 'laws.FnExactHoldBatch', WHERE WHAT IT READS IS OF BULK AT MOST 1048576: true; the input reads as it did. -/
def fnExactHoldBatchUptoRow : OpenClaim := { program := "ytcgaohofpjbhkaa", sum := "ff6601c9b1546f7f365f537b2fd3ce77c771063a23fcdc6ab7e54470924fb9b2", func := "loop.example/sortingoffice/laws.FnExactHoldBatch", spec := "fnExactHoldBatch", unfollowed := true, recurses := true, apart := false, narrowed := true }
def FnExactHoldBatchUptoSaid : Prop := fnExactHoldBatchUptoRow.holds Try.pinned (OpenSpec.upto fnExactHoldBatchSpec)

/-- 'laws.FnHold', WHERE WHAT IT READS IS OF BULK AT MOST 1048576: true; the input reads as it did. -/
def fnHoldUptoRow : OpenClaim := { program := "ytcgaohofpjbhkaa", sum := "ff6601c9b1546f7f365f537b2fd3ce77c771063a23fcdc6ab7e54470924fb9b2", func := "loop.example/sortingoffice/laws.FnHold", spec := "fnHold", unfollowed := true, recurses := true, apart := false, narrowed := true }
def FnHoldUptoSaid : Prop := fnHoldUptoRow.holds Try.pinned (OpenSpec.upto fnHoldSpec)

end Rows
end Go.Proofs.Ytcgaohofpjbhkaa
