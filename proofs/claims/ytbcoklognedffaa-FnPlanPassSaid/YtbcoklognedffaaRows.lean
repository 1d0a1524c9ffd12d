/-
  No cell of these rows narrows 'for every input' (looked for: loops, veiled, ifaces, maps, wideKeys, modest, calm, conditions, laid).
  DERIVED. THE GIVEN ROWS OF THIS SEAT. 8 by the template 'for every input the law returns true; each argument reads behind the call as it read before'; 0 by the template 'total and deterministic' (their statements: YtbcoklognedffaaTotals.lean).
  GIVEN WITH THE SEED: the statements are not yours to turn. If you find one false, say at which input.
  Laid BY PROGRAM, IN A SANDBOX (cutbox-rows.mjs): the forced cells as the released guide's own fill.sh prints them over the translation ae15d556b29440a1… (all of the seat's roots in one cut). By AI agents, Wed Nov 11 2026. No macro, syntax, notation, axiom, sorry.
-/
import Derived.Test.YtbcoklognedffaaChecked
import GoSem.Claim
import GoSem.ClaimJoined
import GoSem.ClaimMapViews
import Derived.JoinedTies
import Derived.KernelRfl
namespace Go.Proofs.Ytbcoklognedffaa
/- THE CELL 'sum', in the pinned program and in every row, IS THE sha256 OF THE DUMP (.gsa) THAT YtbcoklognedffaaProg.lean LOADS. Nothing in Lean hashes anything: it is a label: what it is worth is what the hold of that sum in a sandbox is worth. -/
noncomputable def Try.pinned : Pinned := { name := "ytbcoklognedffaa", sum := "ae15d556b29440a16a424ebe33618f2ebc13a209480a494a2849097aeb189966", checked := Try.checked }
namespace Rows
def none {H : Type} : Left H := { results := [], args := [] }

/-- 'laws.FnPlanPass': WHATEVER THE INPUT: true; the input reads as it did. -/
def fnPlanPassSpec : ChangeSpec := { name := "fnPlanPass", fn := fun _ => fun
  | [d] => { results := [.lit (.bool true)], args := [d] }
  | _ => none }
def fnPlanPassRow : OpenClaim := { program := "ytbcoklognedffaa", sum := "ae15d556b29440a16a424ebe33618f2ebc13a209480a494a2849097aeb189966", func := "loop.example/sortingoffice/laws.FnPlanPass", spec := "fnPlanPass", unfollowed := true, recurses := true, apart := false }
def FnPlanPassSaid : Prop := fnPlanPassRow.holds Try.pinned (OpenSpec.ofChange fnPlanPassSpec)

/-- ITS FALSE NEIGHBOUR: 'it returns false'. Refute it at one input. -/
def fnPlanPassWrong : ChangeSpec := { name := "fnPlanPass", fn := fun _ => fun
  | [d] => { results := [.lit (.bool false)], args := [d] }
  | _ => none }
def FnPlanPassWrongFalsely : Prop := fnPlanPassRow.holds Try.pinned (OpenSpec.ofChange fnPlanPassWrong)

/-- 'laws.FnRunPlan': WHATEVER THE INPUT: true; the input reads as it did. -/
def fnRunPlanSpec : ChangeSpec := { name := "fnRunPlan", fn := fun _ => fun
  | [d] => { results := [.lit (.bool true)], args := [d] }
  | _ => none }
def fnRunPlanRow : OpenClaim := { program := "ytbcoklognedffaa", sum := "ae15d556b29440a16a424ebe33618f2ebc13a209480a494a2849097aeb189966", func := "loop.example/sortingoffice/laws.FnRunPlan", spec := "fnRunPlan", unfollowed := true, recurses := true, apart := false }
def FnRunPlanSaid : Prop := fnRunPlanRow.holds Try.pinned (OpenSpec.ofChange fnRunPlanSpec)

/-- ITS FALSE NEIGHBOUR: 'it returns false'. Refute it at one input. -/
def fnRunPlanWrong : ChangeSpec := { name := "fnRunPlan", fn := fun _ => fun
  | [d] => { results := [.lit (.bool false)], args := [d] }
  | _ => none }
def FnRunPlanWrongFalsely : Prop := fnRunPlanRow.holds Try.pinned (OpenSpec.ofChange fnRunPlanWrong)

/-- 'laws.FnInOrder': WHATEVER THE INPUT: true; the input reads as it did. -/
def fnInOrderSpec : ChangeSpec := { name := "fnInOrder", fn := fun _ => fun
  | [d] => { results := [.lit (.bool true)], args := [d] }
  | _ => none }
def fnInOrderRow : OpenClaim := { program := "ytbcoklognedffaa", sum := "ae15d556b29440a16a424ebe33618f2ebc13a209480a494a2849097aeb189966", func := "loop.example/sortingoffice/laws.FnInOrder", spec := "fnInOrder", recurses := true, apart := false }
def FnInOrderSaid : Prop := fnInOrderRow.holds Try.pinned (OpenSpec.ofChange fnInOrderSpec)

/-- ITS FALSE NEIGHBOUR: 'it returns false'. Refute it at one input. -/
def fnInOrderWrong : ChangeSpec := { name := "fnInOrder", fn := fun _ => fun
  | [d] => { results := [.lit (.bool false)], args := [d] }
  | _ => none }
def FnInOrderWrongFalsely : Prop := fnInOrderRow.holds Try.pinned (OpenSpec.ofChange fnInOrderWrong)

/-- 'laws.FnTreat': WHATEVER THE INPUT: true; the input reads as it did. -/
def fnTreatSpec : ChangeSpec := { name := "fnTreat", fn := fun _ => fun
  | [d] => { results := [.lit (.bool true)], args := [d] }
  | _ => none }
def fnTreatRow : OpenClaim := { program := "ytbcoklognedffaa", sum := "ae15d556b29440a16a424ebe33618f2ebc13a209480a494a2849097aeb189966", func := "loop.example/sortingoffice/laws.FnTreat", spec := "fnTreat", recurses := true, apart := false }
def FnTreatSaid : Prop := fnTreatRow.holds Try.pinned (OpenSpec.ofChange fnTreatSpec)

/-- ITS FALSE NEIGHBOUR: 'it returns false'. Refute it at one input. -/
def fnTreatWrong : ChangeSpec := { name := "fnTreat", fn := fun _ => fun
  | [d] => { results := [.lit (.bool false)], args := [d] }
  | _ => none }
def FnTreatWrongFalsely : Prop := fnTreatRow.holds Try.pinned (OpenSpec.ofChange fnTreatWrong)

/-- 'laws.FnMissortsValid': WHATEVER THE INPUT: true; the input reads as it did. -/
def fnMissortsValidSpec : ChangeSpec := { name := "fnMissortsValid", fn := fun _ => fun
  | [d] => { results := [.lit (.bool true)], args := [d] }
  | _ => none }
def fnMissortsValidRow : OpenClaim := { program := "ytbcoklognedffaa", sum := "ae15d556b29440a16a424ebe33618f2ebc13a209480a494a2849097aeb189966", func := "loop.example/sortingoffice/laws.FnMissortsValid", spec := "fnMissortsValid", recurses := true, apart := false }
def FnMissortsValidSaid : Prop := fnMissortsValidRow.holds Try.pinned (OpenSpec.ofChange fnMissortsValidSpec)

/-- ITS FALSE NEIGHBOUR: 'it returns false'. Refute it at one input. -/
def fnMissortsValidWrong : ChangeSpec := { name := "fnMissortsValid", fn := fun _ => fun
  | [d] => { results := [.lit (.bool false)], args := [d] }
  | _ => none }
def FnMissortsValidWrongFalsely : Prop := fnMissortsValidRow.holds Try.pinned (OpenSpec.ofChange fnMissortsValidWrong)

/-- 'laws.FnMissing': WHATEVER THE INPUT: true; the input reads as it did. -/
def fnMissingSpec : ChangeSpec := { name := "fnMissing", fn := fun _ => fun
  | [d] => { results := [.lit (.bool true)], args := [d] }
  | _ => none }
def fnMissingRow : OpenClaim := { program := "ytbcoklognedffaa", sum := "ae15d556b29440a16a424ebe33618f2ebc13a209480a494a2849097aeb189966", func := "loop.example/sortingoffice/laws.FnMissing", spec := "fnMissing", unfollowed := true, recurses := true, apart := false }
def FnMissingSaid : Prop := fnMissingRow.holds Try.pinned (OpenSpec.ofChange fnMissingSpec)

/-- ITS FALSE NEIGHBOUR: 'it returns false'. Refute it at one input. -/
def fnMissingWrong : ChangeSpec := { name := "fnMissing", fn := fun _ => fun
  | [d] => { results := [.lit (.bool false)], args := [d] }
  | _ => none }
def FnMissingWrongFalsely : Prop := fnMissingRow.holds Try.pinned (OpenSpec.ofChange fnMissingWrong)

/-- 'laws.FnKept': WHATEVER THE INPUT: true; the input reads as it did. -/
def fnKeptSpec : ChangeSpec := { name := "fnKept", fn := fun _ => fun
  | [d] => { results := [.lit (.bool true)], args := [d] }
  | _ => none }
def fnKeptRow : OpenClaim := { program := "ytbcoklognedffaa", sum := "ae15d556b29440a16a424ebe33618f2ebc13a209480a494a2849097aeb189966", func := "loop.example/sortingoffice/laws.FnKept", spec := "fnKept", recurses := true, apart := false }
def FnKeptSaid : Prop := fnKeptRow.holds Try.pinned (OpenSpec.ofChange fnKeptSpec)

/-- ITS FALSE NEIGHBOUR: 'it returns false'. Refute it at one input. -/
def fnKeptWrong : ChangeSpec := { name := "fnKept", fn := fun _ => fun
  | [d] => { results := [.lit (.bool false)], args := [d] }
  | _ => none }
def FnKeptWrongFalsely : Prop := fnKeptRow.holds Try.pinned (OpenSpec.ofChange fnKeptWrong)

/-- 'laws.FnKeptMany': WHATEVER THE INPUT: true; the input reads as it did. -/
def fnKeptManySpec : ChangeSpec := { name := "fnKeptMany", fn := fun _ => fun
  | [d] => { results := [.lit (.bool true)], args := [d] }
  | _ => none }
def fnKeptManyRow : OpenClaim := { program := "ytbcoklognedffaa", sum := "ae15d556b29440a16a424ebe33618f2ebc13a209480a494a2849097aeb189966", func := "loop.example/sortingoffice/laws.FnKeptMany", spec := "fnKeptMany", recurses := true, apart := false }
def FnKeptManySaid : Prop := fnKeptManyRow.holds Try.pinned (OpenSpec.ofChange fnKeptManySpec)

/-- ITS FALSE NEIGHBOUR: 'it returns false'. Refute it at one input. -/
def fnKeptManyWrong : ChangeSpec := { name := "fnKeptMany", fn := fun _ => fun
  | [d] => { results := [.lit (.bool false)], args := [d] }
  | _ => none }
def FnKeptManyWrongFalsely : Prop := fnKeptManyRow.holds Try.pinned (OpenSpec.ofChange fnKeptManyWrong)

/- THE SECOND FORM. 'bulk': how many values and letters a reading holds, each counted each time it is reached (what is shared counts as often as it is met; a slice's spare places count too). A statement '..UptoSaid' is the law's where the arguments, and the package variables that the reading takes, are together of bulk at most 1048576: NARROWER than '..Said'. Prove '..Said' where nothing that the law and all that it calls make is longer than what came in: it says more and counts as full. Else prove '..UptoSaid'. A law counts once. -/
mutual
def uptoBulk {H : Type} : DataW H → Nat
  | .lit (.string bytes) => bytes.length + 1
  | .lit _ => 1
  | .nil => 1
  | .ptr d => uptoBulk d + 1
  | .slice elems spare => uptoBulkAll elems + uptoBulkAll spare + 1
  | .agg parts => uptoBulkAll parts + 1
  | .iface _ d => uptoBulk d + 1
  | .map entries => uptoBulkEntries entries + 1
  | .held _ => 1
def uptoBulkAll {H : Type} : List (DataW H) → Nat
  | [] => 0
  | d :: r => uptoBulk d + uptoBulkAll r
def uptoBulkEntries {H : Type} : List (Lit × DataW H) → Nat
  | [] => 0
  | x :: r => uptoBulkEntry x + uptoBulkEntries r
def uptoBulkEntry {H : Type} : Lit × DataW H → Nat
  | (.string bytes, d) => bytes.length + uptoBulk d + 1
  | (_, d) => uptoBulk d + 1
 end
def uptoSmall : (H : Type) → List (DataW H) → Bool := fun _ ds => decide (uptoBulkAll ds ≤ 1048576)
def OpenSpec.upto (s : _root_.Go.ChangeSpec) : _root_.Go.OpenSpec := { _root_.Go.OpenSpec.ofChange s with cond := some uptoSmall }

/-- 'laws.FnPlanPass', WHERE WHAT IT READS IS OF BULK AT MOST 1048576: true; the input reads as it did. -/
def fnPlanPassUptoRow : OpenClaim := { program := "ytbcoklognedffaa", sum := "ae15d556b29440a16a424ebe33618f2ebc13a209480a494a2849097aeb189966", func := "loop.example/sortingoffice/laws.FnPlanPass", spec := "fnPlanPass", unfollowed := true, recurses := true, apart := false, narrowed := true }
def FnPlanPassUptoSaid : Prop := fnPlanPassUptoRow.holds Try.pinned (OpenSpec.upto fnPlanPassSpec)

/-- 'laws.FnRunPlan', WHERE WHAT IT READS IS OF BULK AT MOST 1048576: true; the input reads as it did. -/
def fnRunPlanUptoRow : OpenClaim := { program := "ytbcoklognedffaa", sum := "ae15d556b29440a16a424ebe33618f2ebc13a209480a494a2849097aeb189966", func := "loop.example/sortingoffice/laws.FnRunPlan", spec := "fnRunPlan", unfollowed := true, recurses := true, apart := false, narrowed := true }
def FnRunPlanUptoSaid : Prop := fnRunPlanUptoRow.holds Try.pinned (OpenSpec.upto fnRunPlanSpec)

/-- 'laws.FnInOrder', WHERE WHAT IT READS IS OF BULK AT MOST 1048576: true; the input reads as it did. -/
def fnInOrderUptoRow : OpenClaim := { program := "ytbcoklognedffaa", sum := "ae15d556b29440a16a424ebe33618f2ebc13a209480a494a2849097aeb189966", func := "loop.example/sortingoffice/laws.FnInOrder", spec := "fnInOrder", recurses := true, apart := false, narrowed := true }
def FnInOrderUptoSaid : Prop := fnInOrderUptoRow.holds Try.pinned (OpenSpec.upto fnInOrderSpec)

/-- 'laws.FnTreat', WHERE WHAT IT READS IS OF BULK AT MOST 1048576: true; the input reads as it did. -/
def fnTreatUptoRow : OpenClaim := { program := "ytbcoklognedffaa", sum := "ae15d556b29440a16a424ebe33618f2ebc13a209480a494a2849097aeb189966", func := "loop.example/sortingoffice/laws.FnTreat", spec := "fnTreat", recurses := true, apart := false, narrowed := true }
def FnTreatUptoSaid : Prop := fnTreatUptoRow.holds Try.pinned (OpenSpec.upto fnTreatSpec)

/-- 'laws.FnMissortsValid', WHERE WHAT IT READS IS OF BULK AT MOST 1048576: true; the input reads as it did. -/
def fnMissortsValidUptoRow : OpenClaim := { program := "ytbcoklognedffaa", sum := "ae15d556b29440a16a424ebe33618f2ebc13a209480a494a2849097aeb189966", func := "loop.example/sortingoffice/laws.FnMissortsValid", spec := "fnMissortsValid", recurses := true, apart := false, narrowed := true }
def FnMissortsValidUptoSaid : Prop := fnMissortsValidUptoRow.holds Try.pinned (OpenSpec.upto fnMissortsValidSpec)

/-- 'laws.FnMissing', WHERE WHAT IT READS IS OF BULK AT MOST 1048576: true; the input reads as it did. -/
def fnMissingUptoRow : OpenClaim := { program := "ytbcoklognedffaa", sum := "ae15d556b29440a16a424ebe33618f2ebc13a209480a494a2849097aeb189966", func := "loop.example/sortingoffice/laws.FnMissing", spec := "fnMissing", unfollowed := true, recurses := true, apart := false, narrowed := true }
def FnMissingUptoSaid : Prop := fnMissingUptoRow.holds Try.pinned (OpenSpec.upto fnMissingSpec)

/-- 'laws.FnKept', WHERE WHAT IT READS IS OF BULK AT MOST 1048576: true; the input reads as it did. -/
def fnKeptUptoRow : OpenClaim := { program := "ytbcoklognedffaa", sum := "ae15d556b29440a16a424ebe33618f2ebc13a209480a494a2849097aeb189966", func := "loop.example/sortingoffice/laws.FnKept", spec := "fnKept", recurses := true, apart := false, narrowed := true }
def FnKeptUptoSaid : Prop := fnKeptUptoRow.holds Try.pinned (OpenSpec.upto fnKeptSpec)

/-- 'laws.FnKeptMany', WHERE WHAT IT READS IS OF BULK AT MOST 1048576: true; the input reads as it did. -/
def fnKeptManyUptoRow : OpenClaim := { program := "ytbcoklognedffaa", sum := "ae15d556b29440a16a424ebe33618f2ebc13a209480a494a2849097aeb189966", func := "loop.example/sortingoffice/laws.FnKeptMany", spec := "fnKeptMany", recurses := true, apart := false, narrowed := true }
def FnKeptManyUptoSaid : Prop := fnKeptManyUptoRow.holds Try.pinned (OpenSpec.upto fnKeptManySpec)

end Rows
end Go.Proofs.Ytbcoklognedffaa
