/-
  No cell of these rows narrows 'for every input' (looked for: loops, veiled, ifaces, maps, wideKeys, modest, calm, conditions, laid).
  DERIVED. THE GIVEN ROWS OF THIS SEAT. 9 by the template 'for every input the law returns true; each argument reads behind the call as it read before'; 0 by the template 'total and deterministic' (their statements: YtiecniogkcgefaaTotals.lean).
  GIVEN WITH THE SEED: the statements are not yours to turn. If you find one false, say at which input.
  Laid BY PROGRAM, IN A SANDBOX (cutbox-rows.mjs): the forced cells as the released guide's own fill.sh prints them over the translation e32eec6203eee20b… (all of the seat's roots in one cut). By AI agents, Wed Nov 11 2026. No macro, syntax, notation, axiom, sorry.
-/
import Derived.Test.YtiecniogkcgefaaChecked
import GoSem.Claim
import GoSem.ClaimJoined
import GoSem.ClaimMapViews
import Derived.JoinedTies
import Derived.KernelRfl
namespace Go.Proofs.Ytiecniogkcgefaa
/- THE CELL 'sum', in the pinned program and in every row, IS THE sha256 OF THE DUMP (.gsa) THAT YtiecniogkcgefaaProg.lean LOADS. Nothing in Lean hashes anything: it is a label: what it is worth is what the hold of that sum in a sandbox is worth. -/
noncomputable def Try.pinned : Pinned := { name := "ytiecniogkcgefaa", sum := "e32eec6203eee20b8d4af4c063ce092b631bf961ae2242d52c69cd228483cbe5", checked := Try.checked }
namespace Rows
def none {H : Type} : Left H := { results := [], args := [] }

/-- 'laws.FnExactRulesValid': WHATEVER THE INPUT: true; the input reads as it did. -/
def fnExactRulesValidSpec : ChangeSpec := { name := "fnExactRulesValid", fn := fun _ => fun
  | [d] => { results := [.lit (.bool true)], args := [d] }
  | _ => none }
def fnExactRulesValidRow : OpenClaim := { program := "ytiecniogkcgefaa", sum := "e32eec6203eee20b8d4af4c063ce092b631bf961ae2242d52c69cd228483cbe5", func := "loop.example/sortingoffice/laws.FnExactRulesValid", spec := "fnExactRulesValid", unfollowed := true, recurses := true, apart := false }
def FnExactRulesValidSaid : Prop := fnExactRulesValidRow.holds Try.pinned (OpenSpec.ofChange fnExactRulesValidSpec)

/-- ITS FALSE NEIGHBOUR: 'it returns false'. Refute it at one input. -/
def fnExactRulesValidWrong : ChangeSpec := { name := "fnExactRulesValid", fn := fun _ => fun
  | [d] => { results := [.lit (.bool false)], args := [d] }
  | _ => none }
def FnExactRulesValidWrongFalsely : Prop := fnExactRulesValidRow.holds Try.pinned (OpenSpec.ofChange fnExactRulesValidWrong)

/-- 'laws.FnExactLookUp': WHATEVER THE INPUT: true; the input reads as it did. -/
def fnExactLookUpSpec : ChangeSpec := { name := "fnExactLookUp", fn := fun _ => fun
  | [d1, d2] => { results := [.lit (.bool true)], args := [d1, d2] }
  | _ => none }
def fnExactLookUpRow : OpenClaim := { program := "ytiecniogkcgefaa", sum := "e32eec6203eee20b8d4af4c063ce092b631bf961ae2242d52c69cd228483cbe5", func := "loop.example/sortingoffice/laws.FnExactLookUp", spec := "fnExactLookUp", unfollowed := true, recurses := true, apart := false }
def FnExactLookUpSaid : Prop := fnExactLookUpRow.holds Try.pinned (OpenSpec.ofChange fnExactLookUpSpec)

/-- ITS FALSE NEIGHBOUR: 'it returns false'. Refute it at one input. -/
def fnExactLookUpWrong : ChangeSpec := { name := "fnExactLookUp", fn := fun _ => fun
  | [d1, d2] => { results := [.lit (.bool false)], args := [d1, d2] }
  | _ => none }
def FnExactLookUpWrongFalsely : Prop := fnExactLookUpRow.holds Try.pinned (OpenSpec.ofChange fnExactLookUpWrong)

/-- 'laws.FnExactAddRule': WHATEVER THE INPUT: true; the input reads as it did. -/
def fnExactAddRuleSpec : ChangeSpec := { name := "fnExactAddRule", fn := fun _ => fun
  | [d1, d2, d3] => { results := [.lit (.bool true)], args := [d1, d2, d3] }
  | _ => none }
def fnExactAddRuleRow : OpenClaim := { program := "ytiecniogkcgefaa", sum := "e32eec6203eee20b8d4af4c063ce092b631bf961ae2242d52c69cd228483cbe5", func := "loop.example/sortingoffice/laws.FnExactAddRule", spec := "fnExactAddRule", unfollowed := true, recurses := true, apart := false }
def FnExactAddRuleSaid : Prop := fnExactAddRuleRow.holds Try.pinned (OpenSpec.ofChange fnExactAddRuleSpec)

/-- ITS FALSE NEIGHBOUR: 'it returns false'. Refute it at one input. -/
def fnExactAddRuleWrong : ChangeSpec := { name := "fnExactAddRule", fn := fun _ => fun
  | [d1, d2, d3] => { results := [.lit (.bool false)], args := [d1, d2, d3] }
  | _ => none }
def FnExactAddRuleWrongFalsely : Prop := fnExactAddRuleRow.holds Try.pinned (OpenSpec.ofChange fnExactAddRuleWrong)

/-- 'laws.FnExactRemoveRule': WHATEVER THE INPUT: true; the input reads as it did. -/
def fnExactRemoveRuleSpec : ChangeSpec := { name := "fnExactRemoveRule", fn := fun _ => fun
  | [d1, d2] => { results := [.lit (.bool true)], args := [d1, d2] }
  | _ => none }
def fnExactRemoveRuleRow : OpenClaim := { program := "ytiecniogkcgefaa", sum := "e32eec6203eee20b8d4af4c063ce092b631bf961ae2242d52c69cd228483cbe5", func := "loop.example/sortingoffice/laws.FnExactRemoveRule", spec := "fnExactRemoveRule", unfollowed := true, recurses := true, apart := false }
def FnExactRemoveRuleSaid : Prop := fnExactRemoveRuleRow.holds Try.pinned (OpenSpec.ofChange fnExactRemoveRuleSpec)

/-- ITS FALSE NEIGHBOUR: 'it returns false'. Refute it at one input. -/
def fnExactRemoveRuleWrong : ChangeSpec := { name := "fnExactRemoveRule", fn := fun _ => fun
  | [d1, d2] => { results := [.lit (.bool false)], args := [d1, d2] }
  | _ => none }
def FnExactRemoveRuleWrongFalsely : Prop := fnExactRemoveRuleRow.holds Try.pinned (OpenSpec.ofChange fnExactRemoveRuleWrong)

/-- 'laws.FnExactShrinkRules': WHATEVER THE INPUT: true; the input reads as it did. -/
def fnExactShrinkRulesSpec : ChangeSpec := { name := "fnExactShrinkRules", fn := fun _ => fun
  | [d] => { results := [.lit (.bool true)], args := [d] }
  | _ => none }
def fnExactShrinkRulesRow : OpenClaim := { program := "ytiecniogkcgefaa", sum := "e32eec6203eee20b8d4af4c063ce092b631bf961ae2242d52c69cd228483cbe5", func := "loop.example/sortingoffice/laws.FnExactShrinkRules", spec := "fnExactShrinkRules", unfollowed := true, recurses := true, apart := false }
def FnExactShrinkRulesSaid : Prop := fnExactShrinkRulesRow.holds Try.pinned (OpenSpec.ofChange fnExactShrinkRulesSpec)

/-- ITS FALSE NEIGHBOUR: 'it returns false'. Refute it at one input. -/
def fnExactShrinkRulesWrong : ChangeSpec := { name := "fnExactShrinkRules", fn := fun _ => fun
  | [d] => { results := [.lit (.bool false)], args := [d] }
  | _ => none }
def FnExactShrinkRulesWrongFalsely : Prop := fnExactShrinkRulesRow.holds Try.pinned (OpenSpec.ofChange fnExactShrinkRulesWrong)

/-- 'laws.FnExactNetworkValid': WHATEVER THE INPUT: true; the input reads as it did. -/
def fnExactNetworkValidSpec : ChangeSpec := { name := "fnExactNetworkValid", fn := fun _ => fun
  | [d] => { results := [.lit (.bool true)], args := [d] }
  | _ => none }
def fnExactNetworkValidRow : OpenClaim := { program := "ytiecniogkcgefaa", sum := "e32eec6203eee20b8d4af4c063ce092b631bf961ae2242d52c69cd228483cbe5", func := "loop.example/sortingoffice/laws.FnExactNetworkValid", spec := "fnExactNetworkValid", unfollowed := true, recurses := true, apart := false }
def FnExactNetworkValidSaid : Prop := fnExactNetworkValidRow.holds Try.pinned (OpenSpec.ofChange fnExactNetworkValidSpec)

/-- ITS FALSE NEIGHBOUR: 'it returns false'. Refute it at one input. -/
def fnExactNetworkValidWrong : ChangeSpec := { name := "fnExactNetworkValid", fn := fun _ => fun
  | [d] => { results := [.lit (.bool false)], args := [d] }
  | _ => none }
def FnExactNetworkValidWrongFalsely : Prop := fnExactNetworkValidRow.holds Try.pinned (OpenSpec.ofChange fnExactNetworkValidWrong)

/-- 'laws.FnExactRoutePath': WHATEVER THE INPUT: true; the input reads as it did. -/
def fnExactRoutePathSpec : ChangeSpec := { name := "fnExactRoutePath", fn := fun _ => fun
  | [d1, d2, d3] => { results := [.lit (.bool true)], args := [d1, d2, d3] }
  | _ => none }
def fnExactRoutePathRow : OpenClaim := { program := "ytiecniogkcgefaa", sum := "e32eec6203eee20b8d4af4c063ce092b631bf961ae2242d52c69cd228483cbe5", func := "loop.example/sortingoffice/laws.FnExactRoutePath", spec := "fnExactRoutePath", unfollowed := true, recurses := true, apart := false }
def FnExactRoutePathSaid : Prop := fnExactRoutePathRow.holds Try.pinned (OpenSpec.ofChange fnExactRoutePathSpec)

/-- ITS FALSE NEIGHBOUR: 'it returns false'. Refute it at one input. -/
def fnExactRoutePathWrong : ChangeSpec := { name := "fnExactRoutePath", fn := fun _ => fun
  | [d1, d2, d3] => { results := [.lit (.bool false)], args := [d1, d2, d3] }
  | _ => none }
def FnExactRoutePathWrongFalsely : Prop := fnExactRoutePathRow.holds Try.pinned (OpenSpec.ofChange fnExactRoutePathWrong)

/-- 'laws.FnExactHomeOf': WHATEVER THE INPUT: true; the input reads as it did. -/
def fnExactHomeOfSpec : ChangeSpec := { name := "fnExactHomeOf", fn := fun _ => fun
  | [d1, d2, d3] => { results := [.lit (.bool true)], args := [d1, d2, d3] }
  | _ => none }
def fnExactHomeOfRow : OpenClaim := { program := "ytiecniogkcgefaa", sum := "e32eec6203eee20b8d4af4c063ce092b631bf961ae2242d52c69cd228483cbe5", func := "loop.example/sortingoffice/laws.FnExactHomeOf", spec := "fnExactHomeOf", unfollowed := true, recurses := true, apart := false }
def FnExactHomeOfSaid : Prop := fnExactHomeOfRow.holds Try.pinned (OpenSpec.ofChange fnExactHomeOfSpec)

/-- ITS FALSE NEIGHBOUR: 'it returns false'. Refute it at one input. -/
def fnExactHomeOfWrong : ChangeSpec := { name := "fnExactHomeOf", fn := fun _ => fun
  | [d1, d2, d3] => { results := [.lit (.bool false)], args := [d1, d2, d3] }
  | _ => none }
def FnExactHomeOfWrongFalsely : Prop := fnExactHomeOfRow.holds Try.pinned (OpenSpec.ofChange fnExactHomeOfWrong)

/-- 'laws.FnExactTransitCount': WHATEVER THE INPUT: true; the input reads as it did. -/
def fnExactTransitCountSpec : ChangeSpec := { name := "fnExactTransitCount", fn := fun _ => fun
  | [d1, d2, d3] => { results := [.lit (.bool true)], args := [d1, d2, d3] }
  | _ => none }
def fnExactTransitCountRow : OpenClaim := { program := "ytiecniogkcgefaa", sum := "e32eec6203eee20b8d4af4c063ce092b631bf961ae2242d52c69cd228483cbe5", func := "loop.example/sortingoffice/laws.FnExactTransitCount", spec := "fnExactTransitCount", unfollowed := true, recurses := true, apart := false }
def FnExactTransitCountSaid : Prop := fnExactTransitCountRow.holds Try.pinned (OpenSpec.ofChange fnExactTransitCountSpec)

/-- ITS FALSE NEIGHBOUR: 'it returns false'. Refute it at one input. -/
def fnExactTransitCountWrong : ChangeSpec := { name := "fnExactTransitCount", fn := fun _ => fun
  | [d1, d2, d3] => { results := [.lit (.bool false)], args := [d1, d2, d3] }
  | _ => none }
def FnExactTransitCountWrongFalsely : Prop := fnExactTransitCountRow.holds Try.pinned (OpenSpec.ofChange fnExactTransitCountWrong)

/- THE SECOND FORM. 'bulk': how many values and letters a reading holds, each counted each time it is reached (what is shared counts as often as it is met; a slice's spare places count too). A statement '..UptoSaid' is the law's where the arguments, and the package variables that the reading takes, are together of bulk at most 1048576: NARROWER than '..Said'. Prove '..Said' where nothing that the law and all that it calls make is longer than what came in: it says more and counts as full. Else prove '..UptoSaid'. A law counts once. -/
mutual
def uptoBulk {H : Type} : DataW H → Nat
  | .lit (.string bytes) => bytes.length + 1
  | .lit _ => 1
  | .nil => 1
  | .ptr d => uptoBulk d + 1
  | .slice elems spare => uptoBulkAll elems + uptoBulkAll spare + 1
  | .agg parts => uptoBulkAll parts + 1
  | .iface _ d => uptoBulk d + 1
  | .map entries => uptoBulkEntries entries + 1
  | .held _ => 1
def uptoBulkAll {H : Type} : List (DataW H) → Nat
  | [] => 0
  | d :: r => uptoBulk d + uptoBulkAll r
def uptoBulkEntries {H : Type} : List (Lit × DataW H) → Nat
  | [] => 0
  | x :: r => uptoBulkEntry x + uptoBulkEntries r
def uptoBulkEntry {H : Type} : Lit × DataW H → Nat
  | (.string bytes, d) => bytes.length + uptoBulk d + 1
  | (_, d) => uptoBulk d + 1
 end
def uptoSmall : (H : Type) → List (DataW H) → Bool := fun _ ds => decide (uptoBulkAll ds ≤ 1048576)
def OpenSpec.upto (s : _root_.Go.ChangeSpec) : _root_.Go.OpenSpec := { _root_.Go.OpenSpec.ofChange s with cond := some uptoSmall }

/-- 'laws.FnExactRulesValid', WHERE WHAT IT READS IS OF BULK AT MOST 1048576: true; the input reads as it did. -/
def fnExactRulesValidUptoRow : OpenClaim := { program := "ytiecniogkcgefaa", sum := "e32eec6203eee20b8d4af4c063ce092b631bf961ae2242d52c69cd228483cbe5", func := "loop.example/sortingoffice/laws.FnExactRulesValid", spec := "fnExactRulesValid", unfollowed := true, recurses := true, apart := false, narrowed := true }
def FnExactRulesValidUptoSaid : Prop := fnExactRulesValidUptoRow.holds Try.pinned (OpenSpec.upto fnExactRulesValidSpec)

/-- 'laws.FnExactLookUp', WHERE WHAT IT READS IS OF BULK AT MOST 1048576: true; the input reads as it did. -/
def fnExactLookUpUptoRow : OpenClaim := { program := "ytiecniogkcgefaa", sum := "e32eec6203eee20b8d4af4c063ce092b631bf961ae2242d52c69cd228483cbe5", func := "loop.example/sortingoffice/laws.FnExactLookUp", spec := "fnExactLookUp", unfollowed := true, recurses := true, apart := false, narrowed := true }
def FnExactLookUpUptoSaid : Prop := fnExactLookUpUptoRow.holds Try.pinned (OpenSpec.upto fnExactLookUpSpec)

/-- 'laws.FnExactAddRule', WHERE WHAT IT READS IS OF BULK AT MOST 1048576: true; the input reads as it did. -/
def fnExactAddRuleUptoRow : OpenClaim := { program := "ytiecniogkcgefaa", sum := "e32eec6203eee20b8d4af4c063ce092b631bf961ae2242d52c69cd228483cbe5", func := "loop.example/sortingoffice/laws.FnExactAddRule", spec := "fnExactAddRule", unfollowed := true, recurses := true, apart := false, narrowed := true }
def FnExactAddRuleUptoSaid : Prop := fnExactAddRuleUptoRow.holds Try.pinned (OpenSpec.upto fnExactAddRuleSpec)

/-- 'laws.FnExactRemoveRule', WHERE WHAT IT READS IS OF BULK AT MOST 1048576: true; the input reads as it did. -/
def fnExactRemoveRuleUptoRow : OpenClaim := { program := "ytiecniogkcgefaa", sum := "e32eec6203eee20b8d4af4c063ce092b631bf961ae2242d52c69cd228483cbe5", func := "loop.example/sortingoffice/laws.FnExactRemoveRule", spec := "fnExactRemoveRule", unfollowed := true, recurses := true, apart := false, narrowed := true }
def FnExactRemoveRuleUptoSaid : Prop := fnExactRemoveRuleUptoRow.holds Try.pinned (OpenSpec.upto fnExactRemoveRuleSpec)

/-- 'laws.FnExactShrinkRules', WHERE WHAT IT READS IS OF BULK AT MOST 1048576: true; the input reads as it did. -/
def fnExactShrinkRulesUptoRow : OpenClaim := { program := "ytiecniogkcgefaa", sum := "e32eec6203eee20b8d4af4c063ce092b631bf961ae2242d52c69cd228483cbe5", func := "loop.example/sortingoffice/laws.FnExactShrinkRules", spec := "fnExactShrinkRules", unfollowed := true, recurses := true, apart := false, narrowed := true }
def FnExactShrinkRulesUptoSaid : Prop := fnExactShrinkRulesUptoRow.holds Try.pinned (OpenSpec.upto fnExactShrinkRulesSpec)

/-- 'laws.FnExactNetworkValid', WHERE WHAT IT READS IS OF BULK AT MOST 1048576: true; the input reads as it did. -/
def fnExactNetworkValidUptoRow : OpenClaim := { program := "ytiecniogkcgefaa", sum := "e32eec6203eee20b8d4af4c063ce092b631bf961ae2242d52c69cd228483cbe5", func := "loop.example/sortingoffice/laws.FnExactNetworkValid", spec := "fnExactNetworkValid", unfollowed := true, recurses := true, apart := false, narrowed := true }
def FnExactNetworkValidUptoSaid : Prop := fnExactNetworkValidUptoRow.holds Try.pinned (OpenSpec.upto fnExactNetworkValidSpec)

/-- 'laws.FnExactRoutePath', WHERE WHAT IT READS IS OF BULK AT MOST 1048576: true; the input reads as it did. -/
def fnExactRoutePathUptoRow : OpenClaim := { program := "ytiecniogkcgefaa", sum := "e32eec6203eee20b8d4af4c063ce092b631bf961ae2242d52c69cd228483cbe5", func := "loop.example/sortingoffice/laws.FnExactRoutePath", spec := "fnExactRoutePath", unfollowed := true, recurses := true, apart := false, narrowed := true }
def FnExactRoutePathUptoSaid : Prop := fnExactRoutePathUptoRow.holds Try.pinned (OpenSpec.upto fnExactRoutePathSpec)

/-- 'laws.FnExactHomeOf', WHERE WHAT IT READS IS OF BULK AT MOST 1048576: true; the input reads as it did. -/
def fnExactHomeOfUptoRow : OpenClaim := { program := "ytiecniogkcgefaa", sum := "e32eec6203eee20b8d4af4c063ce092b631bf961ae2242d52c69cd228483cbe5", func := "loop.example/sortingoffice/laws.FnExactHomeOf", spec := "fnExactHomeOf", unfollowed := true, recurses := true, apart := false, narrowed := true }
def FnExactHomeOfUptoSaid : Prop := fnExactHomeOfUptoRow.holds Try.pinned (OpenSpec.upto fnExactHomeOfSpec)

/-- 'laws.FnExactTransitCount', WHERE WHAT IT READS IS OF BULK AT MOST 1048576: true; the input reads as it did. -/
def fnExactTransitCountUptoRow : OpenClaim := { program := "ytiecniogkcgefaa", sum := "e32eec6203eee20b8d4af4c063ce092b631bf961ae2242d52c69cd228483cbe5", func := "loop.example/sortingoffice/laws.FnExactTransitCount", spec := "fnExactTransitCount", unfollowed := true, recurses := true, apart := false, narrowed := true }
def FnExactTransitCountUptoSaid : Prop := fnExactTransitCountUptoRow.holds Try.pinned (OpenSpec.upto fnExactTransitCountSpec)

end Rows
end Go.Proofs.Ytiecniogkcgefaa
