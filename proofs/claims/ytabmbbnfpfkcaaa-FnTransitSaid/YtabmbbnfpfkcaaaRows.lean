/-
  No cell of these rows narrows 'for every input' (looked for: loops, veiled, ifaces, maps, wideKeys, modest, calm, conditions, laid).
  DERIVED. THE GIVEN ROWS OF THIS SEAT. 6 by the template 'for every input the law returns true; each argument reads behind the call as it read before'; 0 by the template 'total and deterministic' (their statements: YtabmbbnfpfkcaaaTotals.lean).
  GIVEN WITH THE SEED: the statements are not yours to turn. If you find one false, say at which input.
  Laid BY PROGRAM, IN A SANDBOX (cutbox-rows.mjs): the forced cells as the released guide's own fill.sh prints them over the translation ec6154df815d0f67… (all of the seat's roots in one cut). By AI agents, Wed Nov 11 2026. No macro, syntax, notation, axiom, sorry.
-/
import Derived.Test.YtabmbbnfpfkcaaaChecked
import GoSem.Claim
import GoSem.ClaimJoined
import GoSem.ClaimMapViews
import Derived.JoinedTies
import Derived.KernelRfl
namespace Go.Proofs.Ytabmbbnfpfkcaaa
/- THE CELL 'sum', in the pinned program and in every row, IS THE sha256 OF THE DUMP (.gsa) THAT YtabmbbnfpfkcaaaProg.lean LOADS. Nothing in Lean hashes anything: it is a label: what it is worth is what the hold of that sum in a sandbox is worth. -/
noncomputable def Try.pinned : Pinned := { name := "ytabmbbnfpfkcaaa", sum := "ec6154df815d0f67755a50bcea5f514d7b46f2a1147920f9845cb9ce3ca68506", checked := Try.checked }
namespace Rows
def none {H : Type} : Left H := { results := [], args := [] }

/-- 'laws.FnLookUp': WHATEVER THE INPUT: true; the input reads as it did. -/
def fnLookUpSpec : ChangeSpec := { name := "fnLookUp", fn := fun _ => fun
  | [d] => { results := [.lit (.bool true)], args := [d] }
  | _ => none }
def fnLookUpRow : OpenClaim := { program := "ytabmbbnfpfkcaaa", sum := "ec6154df815d0f67755a50bcea5f514d7b46f2a1147920f9845cb9ce3ca68506", func := "loop.example/sortingoffice/laws.FnLookUp", spec := "fnLookUp", unfollowed := true, recurses := true, apart := false }
def FnLookUpSaid : Prop := fnLookUpRow.holds Try.pinned (OpenSpec.ofChange fnLookUpSpec)

/-- ITS FALSE NEIGHBOUR: 'it returns false'. Refute it at one input. -/
def fnLookUpWrong : ChangeSpec := { name := "fnLookUp", fn := fun _ => fun
  | [d] => { results := [.lit (.bool false)], args := [d] }
  | _ => none }
def FnLookUpWrongFalsely : Prop := fnLookUpRow.holds Try.pinned (OpenSpec.ofChange fnLookUpWrong)

/-- 'laws.FnAddRule': WHATEVER THE INPUT: true; the input reads as it did. -/
def fnAddRuleSpec : ChangeSpec := { name := "fnAddRule", fn := fun _ => fun
  | [d] => { results := [.lit (.bool true)], args := [d] }
  | _ => none }
def fnAddRuleRow : OpenClaim := { program := "ytabmbbnfpfkcaaa", sum := "ec6154df815d0f67755a50bcea5f514d7b46f2a1147920f9845cb9ce3ca68506", func := "loop.example/sortingoffice/laws.FnAddRule", spec := "fnAddRule", unfollowed := true, recurses := true, apart := false }
def FnAddRuleSaid : Prop := fnAddRuleRow.holds Try.pinned (OpenSpec.ofChange fnAddRuleSpec)

/-- ITS FALSE NEIGHBOUR: 'it returns false'. Refute it at one input. -/
def fnAddRuleWrong : ChangeSpec := { name := "fnAddRule", fn := fun _ => fun
  | [d] => { results := [.lit (.bool false)], args := [d] }
  | _ => none }
def FnAddRuleWrongFalsely : Prop := fnAddRuleRow.holds Try.pinned (OpenSpec.ofChange fnAddRuleWrong)

/-- 'laws.FnRoute': WHATEVER THE INPUT: true; the input reads as it did. -/
def fnRouteSpec : ChangeSpec := { name := "fnRoute", fn := fun _ => fun
  | [d] => { results := [.lit (.bool true)], args := [d] }
  | _ => none }
def fnRouteRow : OpenClaim := { program := "ytabmbbnfpfkcaaa", sum := "ec6154df815d0f67755a50bcea5f514d7b46f2a1147920f9845cb9ce3ca68506", func := "loop.example/sortingoffice/laws.FnRoute", spec := "fnRoute", unfollowed := true, recurses := true, apart := false }
def FnRouteSaid : Prop := fnRouteRow.holds Try.pinned (OpenSpec.ofChange fnRouteSpec)

/-- ITS FALSE NEIGHBOUR: 'it returns false'. Refute it at one input. -/
def fnRouteWrong : ChangeSpec := { name := "fnRoute", fn := fun _ => fun
  | [d] => { results := [.lit (.bool false)], args := [d] }
  | _ => none }
def FnRouteWrongFalsely : Prop := fnRouteRow.holds Try.pinned (OpenSpec.ofChange fnRouteWrong)

/-- 'laws.FnRouteSuffix': WHATEVER THE INPUT: true; the input reads as it did. -/
def fnRouteSuffixSpec : ChangeSpec := { name := "fnRouteSuffix", fn := fun _ => fun
  | [d1, d2] => { results := [.lit (.bool true)], args := [d1, d2] }
  | _ => none }
def fnRouteSuffixRow : OpenClaim := { program := "ytabmbbnfpfkcaaa", sum := "ec6154df815d0f67755a50bcea5f514d7b46f2a1147920f9845cb9ce3ca68506", func := "loop.example/sortingoffice/laws.FnRouteSuffix", spec := "fnRouteSuffix", unfollowed := true, recurses := true, apart := false }
def FnRouteSuffixSaid : Prop := fnRouteSuffixRow.holds Try.pinned (OpenSpec.ofChange fnRouteSuffixSpec)

/-- ITS FALSE NEIGHBOUR: 'it returns false'. Refute it at one input. -/
def fnRouteSuffixWrong : ChangeSpec := { name := "fnRouteSuffix", fn := fun _ => fun
  | [d1, d2] => { results := [.lit (.bool false)], args := [d1, d2] }
  | _ => none }
def FnRouteSuffixWrongFalsely : Prop := fnRouteSuffixRow.holds Try.pinned (OpenSpec.ofChange fnRouteSuffixWrong)

/-- 'laws.FnHome': WHATEVER THE INPUT: true; the input reads as it did. -/
def fnHomeSpec : ChangeSpec := { name := "fnHome", fn := fun _ => fun
  | [d] => { results := [.lit (.bool true)], args := [d] }
  | _ => none }
def fnHomeRow : OpenClaim := { program := "ytabmbbnfpfkcaaa", sum := "ec6154df815d0f67755a50bcea5f514d7b46f2a1147920f9845cb9ce3ca68506", func := "loop.example/sortingoffice/laws.FnHome", spec := "fnHome", unfollowed := true, recurses := true, apart := false }
def FnHomeSaid : Prop := fnHomeRow.holds Try.pinned (OpenSpec.ofChange fnHomeSpec)

/-- ITS FALSE NEIGHBOUR: 'it returns false'. Refute it at one input. -/
def fnHomeWrong : ChangeSpec := { name := "fnHome", fn := fun _ => fun
  | [d] => { results := [.lit (.bool false)], args := [d] }
  | _ => none }
def FnHomeWrongFalsely : Prop := fnHomeRow.holds Try.pinned (OpenSpec.ofChange fnHomeWrong)

/-- 'laws.FnTransit': WHATEVER THE INPUT: true; the input reads as it did. -/
def fnTransitSpec : ChangeSpec := { name := "fnTransit", fn := fun _ => fun
  | [d1, d2] => { results := [.lit (.bool true)], args := [d1, d2] }
  | _ => none }
def fnTransitRow : OpenClaim := { program := "ytabmbbnfpfkcaaa", sum := "ec6154df815d0f67755a50bcea5f514d7b46f2a1147920f9845cb9ce3ca68506", func := "loop.example/sortingoffice/laws.FnTransit", spec := "fnTransit", unfollowed := true, recurses := true, apart := false }
def FnTransitSaid : Prop := fnTransitRow.holds Try.pinned (OpenSpec.ofChange fnTransitSpec)

/-- ITS FALSE NEIGHBOUR: 'it returns false'. Refute it at one input. -/
def fnTransitWrong : ChangeSpec := { name := "fnTransit", fn := fun _ => fun
  | [d1, d2] => { results := [.lit (.bool false)], args := [d1, d2] }
  | _ => none }
def FnTransitWrongFalsely : Prop := fnTransitRow.holds Try.pinned (OpenSpec.ofChange fnTransitWrong)

/- THE SECOND FORM. 'bulk': how many values and letters a reading holds, each counted each time it is reached (what is shared counts as often as it is met; a slice's spare places count too). A statement '..UptoSaid' is the law's where the arguments, and the package variables that the reading takes, are together of bulk at most 1048576: NARROWER than '..Said'. Prove '..Said' where nothing that the law and all that it calls make is longer than what came in: it says more and counts as full. Else prove '..UptoSaid'. A law counts once. -/
mutual
def uptoBulk {H : Type} : DataW H → Nat
  | .lit (.string bytes) => bytes.length + 1
  | .lit _ => 1
  | .nil => 1
  | .ptr d => uptoBulk d + 1
  | .slice elems spare => uptoBulkAll elems + uptoBulkAll spare + 1
  | .agg parts => uptoBulkAll parts + 1
  | .iface _ d => uptoBulk d + 1
  | .map entries => uptoBulkEntries entries + 1
  | .held _ => 1
def uptoBulkAll {H : Type} : List (DataW H) → Nat
  | [] => 0
  | d :: r => uptoBulk d + uptoBulkAll r
def uptoBulkEntries {H : Type} : List (Lit × DataW H) → Nat
  | [] => 0
  | x :: r => uptoBulkEntry x + uptoBulkEntries r
def uptoBulkEntry {H : Type} : Lit × DataW H → Nat
  | (.string bytes, d) => bytes.length + uptoBulk d + 1
  | (_, d) => uptoBulk d + 1
 end
def uptoSmall : (H : Type) → List (DataW H) → Bool := fun _ ds => decide (uptoBulkAll ds ≤ 1048576)
def OpenSpec.upto (s : _root_.Go.ChangeSpec) : _root_.Go.OpenSpec := { _root_.Go.OpenSpec.ofChange s with cond := some uptoSmall }

/-- 'laws.FnLookUp', WHERE WHAT IT READS IS OF BULK AT MOST 1048576: true; the input reads as it did. -/
def fnLookUpUptoRow : OpenClaim := { program := "ytabmbbnfpfkcaaa", sum := "ec6154df815d0f67755a50bcea5f514d7b46f2a1147920f9845cb9ce3ca68506", func := "loop.example/sortingoffice/laws.FnLookUp", spec := "fnLookUp", unfollowed := true, recurses := true, apart := false, narrowed := true }
def FnLookUpUptoSaid : Prop := fnLookUpUptoRow.holds Try.pinned (OpenSpec.upto fnLookUpSpec)

/-- 'laws.FnAddRule', WHERE WHAT IT READS IS OF BULK AT MOST 1048576: true; the input reads as it did. -/
def fnAddRuleUptoRow : OpenClaim := { program := "ytabmbbnfpfkcaaa", sum := "ec6154df815d0f67755a50bcea5f514d7b46f2a1147920f9845cb9ce3ca68506", func := "loop.example/sortingoffice/laws.FnAddRule", spec := "fnAddRule", unfollowed := true, recurses := true, apart := false, narrowed := true }
def FnAddRuleUptoSaid : Prop := fnAddRuleUptoRow.holds Try.pinned (OpenSpec.upto fnAddRuleSpec)

/-- 'laws.FnRoute', WHERE WHAT IT READS IS OF BULK AT MOST 1048576: true; the input reads as it did. -/
def fnRouteUptoRow : OpenClaim := { program := "ytabmbbnfpfkcaaa", sum := "ec6154df815d0f67755a50bcea5f514d7b46f2a1147920f9845cb9ce3ca68506", func := "loop.example/sortingoffice/laws.FnRoute", spec := "fnRoute", unfollowed := true, recurses := true, apart := false, narrowed := true }
def FnRouteUptoSaid : Prop := fnRouteUptoRow.holds Try.pinned (OpenSpec.upto fnRouteSpec)

/-- 'laws.FnRouteSuffix', WHERE WHAT IT READS IS OF BULK AT MOST 1048576: true; the input reads as it did. -/
def fnRouteSuffixUptoRow : OpenClaim := { program := "ytabmbbnfpfkcaaa", sum := "ec6154df815d0f67755a50bcea5f514d7b46f2a1147920f9845cb9ce3ca68506", func := "loop.example/sortingoffice/laws.FnRouteSuffix", spec := "fnRouteSuffix", unfollowed := true, recurses := true, apart := false, narrowed := true }
def FnRouteSuffixUptoSaid : Prop := fnRouteSuffixUptoRow.holds Try.pinned (OpenSpec.upto fnRouteSuffixSpec)

/-- 'laws.FnHome', WHERE WHAT IT READS IS OF BULK AT MOST 1048576: true; the input reads as it did. -/
def fnHomeUptoRow : OpenClaim := { program := "ytabmbbnfpfkcaaa", sum := "ec6154df815d0f67755a50bcea5f514d7b46f2a1147920f9845cb9ce3ca68506", func := "loop.example/sortingoffice/laws.FnHome", spec := "fnHome", unfollowed := true, recurses := true, apart := false, narrowed := true }
def FnHomeUptoSaid : Prop := fnHomeUptoRow.holds Try.pinned (OpenSpec.upto fnHomeSpec)

/-- 'laws.FnTransit', WHERE WHAT IT READS IS OF BULK AT MOST 1048576: true; the input reads as it did. -/
def fnTransitUptoRow : OpenClaim := { program := "ytabmbbnfpfkcaaa", sum := "ec6154df815d0f67755a50bcea5f514d7b46f2a1147920f9845cb9ce3ca68506", func := "loop.example/sortingoffice/laws.FnTransit", spec := "fnTransit", unfollowed := true, recurses := true, apart := false, narrowed := true }
def FnTransitUptoSaid : Prop := fnTransitUptoRow.holds Try.pinned (OpenSpec.upto fnTransitSpec)

end Rows
end Go.Proofs.Ytabmbbnfpfkcaaa
