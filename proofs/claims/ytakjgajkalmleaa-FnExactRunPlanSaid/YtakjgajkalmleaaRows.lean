/-
  No cell of these rows narrows 'for every input' (looked for: loops, veiled, ifaces, maps, wideKeys, modest, calm, conditions, laid).
  DERIVED. THE GIVEN ROWS OF THIS SEAT. 8 by the template 'for every input the law returns true; each argument reads behind the call as it read before'; 0 by the template 'total and deterministic' (their statements: YtakjgajkalmleaaTotals.lean).
  GIVEN WITH THE SEED: the statements are not yours to turn. If you find one false, say at which input.
  Laid BY PROGRAM, IN A SANDBOX (cutbox-rows.mjs): the forced cells as the released guide's own fill.sh prints them over the translation 781bca668e8bcaff… (all of the seat's roots in one cut). By AI agents, Wed Nov 11 2026. No macro, syntax, notation, axiom, sorry.
-/
import Derived.Test.YtakjgajkalmleaaChecked
import GoSem.Claim
import GoSem.ClaimJoined
import GoSem.ClaimMapViews
import Derived.JoinedTies
import Derived.KernelRfl
namespace Go.Proofs.Ytakjgajkalmleaa
/- THE CELL 'sum', in the pinned program and in every row, IS THE sha256 OF THE DUMP (.gsa) THAT YtakjgajkalmleaaProg.lean LOADS. Nothing in Lean hashes anything: it is a label: what it is worth is what the hold of that sum in a sandbox is worth. -/
noncomputable def Try.pinned : Pinned := { name := "ytakjgajkalmleaa", sum := "781bca668e8bcaffcfedb9282034877ac303fbdff97275b8112e28397925786a", checked := Try.checked }
namespace Rows
def none {H : Type} : Left H := { results := [], args := [] }

/-- 'laws.FnExactCollectBins': WHATEVER THE INPUT: true; the input reads as it did. -/
def fnExactCollectBinsSpec : ChangeSpec := { name := "fnExactCollectBins", fn := fun _ => fun
  | [d] => { results := [.lit (.bool true)], args := [d] }
  | _ => none }
def fnExactCollectBinsRow : OpenClaim := { program := "ytakjgajkalmleaa", sum := "781bca668e8bcaffcfedb9282034877ac303fbdff97275b8112e28397925786a", func := "loop.example/sortingoffice/laws.FnExactCollectBins", spec := "fnExactCollectBins", apart := false }
def FnExactCollectBinsSaid : Prop := fnExactCollectBinsRow.holds Try.pinned (OpenSpec.ofChange fnExactCollectBinsSpec)

/-- ITS FALSE NEIGHBOUR: 'it returns false'. Refute it at one input. -/
def fnExactCollectBinsWrong : ChangeSpec := { name := "fnExactCollectBins", fn := fun _ => fun
  | [d] => { results := [.lit (.bool false)], args := [d] }
  | _ => none }
def FnExactCollectBinsWrongFalsely : Prop := fnExactCollectBinsRow.holds Try.pinned (OpenSpec.ofChange fnExactCollectBinsWrong)

/-- 'laws.FnExactVaryingDigits': WHATEVER THE INPUT: true; the input reads as it did. -/
def fnExactVaryingDigitsSpec : ChangeSpec := { name := "fnExactVaryingDigits", fn := fun _ => fun
  | [d] => { results := [.lit (.bool true)], args := [d] }
  | _ => none }
def fnExactVaryingDigitsRow : OpenClaim := { program := "ytakjgajkalmleaa", sum := "781bca668e8bcaffcfedb9282034877ac303fbdff97275b8112e28397925786a", func := "loop.example/sortingoffice/laws.FnExactVaryingDigits", spec := "fnExactVaryingDigits", unfollowed := true, recurses := true, apart := false }
def FnExactVaryingDigitsSaid : Prop := fnExactVaryingDigitsRow.holds Try.pinned (OpenSpec.ofChange fnExactVaryingDigitsSpec)

/-- ITS FALSE NEIGHBOUR: 'it returns false'. Refute it at one input. -/
def fnExactVaryingDigitsWrong : ChangeSpec := { name := "fnExactVaryingDigits", fn := fun _ => fun
  | [d] => { results := [.lit (.bool false)], args := [d] }
  | _ => none }
def FnExactVaryingDigitsWrongFalsely : Prop := fnExactVaryingDigitsRow.holds Try.pinned (OpenSpec.ofChange fnExactVaryingDigitsWrong)

/-- 'laws.FnExactRunPlan': WHATEVER THE INPUT: true; the input reads as it did. -/
def fnExactRunPlanSpec : ChangeSpec := { name := "fnExactRunPlan", fn := fun _ => fun
  | [d1, d2] => { results := [.lit (.bool true)], args := [d1, d2] }
  | _ => none }
def fnExactRunPlanRow : OpenClaim := { program := "ytakjgajkalmleaa", sum := "781bca668e8bcaffcfedb9282034877ac303fbdff97275b8112e28397925786a", func := "loop.example/sortingoffice/laws.FnExactRunPlan", spec := "fnExactRunPlan", apart := false }
def FnExactRunPlanSaid : Prop := fnExactRunPlanRow.holds Try.pinned (OpenSpec.ofChange fnExactRunPlanSpec)

/-- ITS FALSE NEIGHBOUR: 'it returns false'. Refute it at one input. -/
def fnExactRunPlanWrong : ChangeSpec := { name := "fnExactRunPlan", fn := fun _ => fun
  | [d1, d2] => { results := [.lit (.bool false)], args := [d1, d2] }
  | _ => none }
def FnExactRunPlanWrongFalsely : Prop := fnExactRunPlanRow.holds Try.pinned (OpenSpec.ofChange fnExactRunPlanWrong)

/-- 'laws.FnExactBinLoads': WHATEVER THE INPUT: true; the input reads as it did. -/
def fnExactBinLoadsSpec : ChangeSpec := { name := "fnExactBinLoads", fn := fun _ => fun
  | [d1, d2, d3] => { results := [.lit (.bool true)], args := [d1, d2, d3] }
  | _ => none }
def fnExactBinLoadsRow : OpenClaim := { program := "ytakjgajkalmleaa", sum := "781bca668e8bcaffcfedb9282034877ac303fbdff97275b8112e28397925786a", func := "loop.example/sortingoffice/laws.FnExactBinLoads", spec := "fnExactBinLoads", apart := false }
def FnExactBinLoadsSaid : Prop := fnExactBinLoadsRow.holds Try.pinned (OpenSpec.ofChange fnExactBinLoadsSpec)

/-- ITS FALSE NEIGHBOUR: 'it returns false'. Refute it at one input. -/
def fnExactBinLoadsWrong : ChangeSpec := { name := "fnExactBinLoads", fn := fun _ => fun
  | [d1, d2, d3] => { results := [.lit (.bool false)], args := [d1, d2, d3] }
  | _ => none }
def FnExactBinLoadsWrongFalsely : Prop := fnExactBinLoadsRow.holds Try.pinned (OpenSpec.ofChange fnExactBinLoadsWrong)

/-- 'laws.FnBinPass': WHATEVER THE INPUT: true; the input reads as it did. -/
def fnBinPassSpec : ChangeSpec := { name := "fnBinPass", fn := fun _ => fun
  | [d] => { results := [.lit (.bool true)], args := [d] }
  | _ => none }
def fnBinPassRow : OpenClaim := { program := "ytakjgajkalmleaa", sum := "781bca668e8bcaffcfedb9282034877ac303fbdff97275b8112e28397925786a", func := "loop.example/sortingoffice/laws.FnBinPass", spec := "fnBinPass", unfollowed := true, recurses := true, apart := false }
def FnBinPassSaid : Prop := fnBinPassRow.holds Try.pinned (OpenSpec.ofChange fnBinPassSpec)

/-- ITS FALSE NEIGHBOUR: 'it returns false'. Refute it at one input. -/
def fnBinPassWrong : ChangeSpec := { name := "fnBinPass", fn := fun _ => fun
  | [d] => { results := [.lit (.bool false)], args := [d] }
  | _ => none }
def FnBinPassWrongFalsely : Prop := fnBinPassRow.holds Try.pinned (OpenSpec.ofChange fnBinPassWrong)

/-- 'laws.FnCollect': WHATEVER THE INPUT: true; the input reads as it did. -/
def fnCollectSpec : ChangeSpec := { name := "fnCollect", fn := fun _ => fun
  | [d] => { results := [.lit (.bool true)], args := [d] }
  | _ => none }
def fnCollectRow : OpenClaim := { program := "ytakjgajkalmleaa", sum := "781bca668e8bcaffcfedb9282034877ac303fbdff97275b8112e28397925786a", func := "loop.example/sortingoffice/laws.FnCollect", spec := "fnCollect", recurses := true, apart := false }
def FnCollectSaid : Prop := fnCollectRow.holds Try.pinned (OpenSpec.ofChange fnCollectSpec)

/-- ITS FALSE NEIGHBOUR: 'it returns false'. Refute it at one input. -/
def fnCollectWrong : ChangeSpec := { name := "fnCollect", fn := fun _ => fun
  | [d] => { results := [.lit (.bool false)], args := [d] }
  | _ => none }
def FnCollectWrongFalsely : Prop := fnCollectRow.holds Try.pinned (OpenSpec.ofChange fnCollectWrong)

/-- 'laws.FnSortPass': WHATEVER THE INPUT: true; the input reads as it did. -/
def fnSortPassSpec : ChangeSpec := { name := "fnSortPass", fn := fun _ => fun
  | [d] => { results := [.lit (.bool true)], args := [d] }
  | _ => none }
def fnSortPassRow : OpenClaim := { program := "ytakjgajkalmleaa", sum := "781bca668e8bcaffcfedb9282034877ac303fbdff97275b8112e28397925786a", func := "loop.example/sortingoffice/laws.FnSortPass", spec := "fnSortPass", unfollowed := true, recurses := true, apart := false }
def FnSortPassSaid : Prop := fnSortPassRow.holds Try.pinned (OpenSpec.ofChange fnSortPassSpec)

/-- ITS FALSE NEIGHBOUR: 'it returns false'. Refute it at one input. -/
def fnSortPassWrong : ChangeSpec := { name := "fnSortPass", fn := fun _ => fun
  | [d] => { results := [.lit (.bool false)], args := [d] }
  | _ => none }
def FnSortPassWrongFalsely : Prop := fnSortPassRow.holds Try.pinned (OpenSpec.ofChange fnSortPassWrong)

/-- 'laws.FnInversions': WHATEVER THE INPUT: true; the input reads as it did. -/
def fnInversionsSpec : ChangeSpec := { name := "fnInversions", fn := fun _ => fun
  | [d] => { results := [.lit (.bool true)], args := [d] }
  | _ => none }
def fnInversionsRow : OpenClaim := { program := "ytakjgajkalmleaa", sum := "781bca668e8bcaffcfedb9282034877ac303fbdff97275b8112e28397925786a", func := "loop.example/sortingoffice/laws.FnInversions", spec := "fnInversions", recurses := true, apart := false }
def FnInversionsSaid : Prop := fnInversionsRow.holds Try.pinned (OpenSpec.ofChange fnInversionsSpec)

/-- ITS FALSE NEIGHBOUR: 'it returns false'. Refute it at one input. -/
def fnInversionsWrong : ChangeSpec := { name := "fnInversions", fn := fun _ => fun
  | [d] => { results := [.lit (.bool false)], args := [d] }
  | _ => none }
def FnInversionsWrongFalsely : Prop := fnInversionsRow.holds Try.pinned (OpenSpec.ofChange fnInversionsWrong)

/- THE SECOND FORM. 'bulk': how many values and letters a reading holds, each counted each time it is reached (what is shared counts as often as it is met; a slice's spare places count too). A statement '..UptoSaid' is the law's where the arguments, and the package variables that the reading takes, are together of bulk at most 1048576: NARROWER than '..Said'. Prove '..Said' where nothing that the law and all that it calls make is longer than what came in: it says more and counts as full. Else prove '..UptoSaid'. A law counts once. -/
mutual
def uptoBulk {H : Type} : DataW H → Nat
  | .lit (.string bytes) => bytes.length + 1
  | .lit _ => 1
  | .nil => 1
  | .ptr d => uptoBulk d + 1
  | .slice elems spare => uptoBulkAll elems + uptoBulkAll spare + 1
  | .agg parts => uptoBulkAll parts + 1
  | .iface _ d => uptoBulk d + 1
  | .map entries => uptoBulkEntries entries + 1
  | .held _ => 1
def uptoBulkAll {H : Type} : List (DataW H) → Nat
  | [] => 0
  | d :: r => uptoBulk d + uptoBulkAll r
def uptoBulkEntries {H : Type} : List (Lit × DataW H) → Nat
  | [] => 0
  | x :: r => uptoBulkEntry x + uptoBulkEntries r
def uptoBulkEntry {H : Type} : Lit × DataW H → Nat
  | (.string bytes, d) => bytes.length + uptoBulk d + 1
  | (_, d) => uptoBulk d + 1
 end
def uptoSmall : (H : Type) → List (DataW H) → Bool := fun _ ds => decide (uptoBulkAll ds ≤ 1048576)
def OpenSpec.upto (s : _root_.Go.ChangeSpec) : _root_.Go.OpenSpec := { _root_.Go.OpenSpec.ofChange s with cond := some uptoSmall }

/-- 'laws.FnExactCollectBins', WHERE WHAT IT READS IS OF BULK AT MOST 1048576: true; the input reads as it did. -/
def fnExactCollectBinsUptoRow : OpenClaim := { program := "ytakjgajkalmleaa", sum := "781bca668e8bcaffcfedb9282034877ac303fbdff97275b8112e28397925786a", func := "loop.example/sortingoffice/laws.FnExactCollectBins", spec := "fnExactCollectBins", apart := false, narrowed := true }
def FnExactCollectBinsUptoSaid : Prop := fnExactCollectBinsUptoRow.holds Try.pinned (OpenSpec.upto fnExactCollectBinsSpec)

/-- 'laws.FnExactVaryingDigits', WHERE WHAT IT READS IS OF BULK AT MOST 1048576: true; the input reads as it did. -/
def fnExactVaryingDigitsUptoRow : OpenClaim := { program := "ytakjgajkalmleaa", sum := "781bca668e8bcaffcfedb9282034877ac303fbdff97275b8112e28397925786a", func := "loop.example/sortingoffice/laws.FnExactVaryingDigits", spec := "fnExactVaryingDigits", unfollowed := true, recurses := true, apart := false, narrowed := true }
def FnExactVaryingDigitsUptoSaid : Prop := fnExactVaryingDigitsUptoRow.holds Try.pinned (OpenSpec.upto fnExactVaryingDigitsSpec)

/-- 'laws.FnExactRunPlan', WHERE WHAT IT READS IS OF BULK AT MOST 1048576: true; the input reads as it did. -/
def fnExactRunPlanUptoRow : OpenClaim := { program := "ytakjgajkalmleaa", sum := "781bca668e8bcaffcfedb9282034877ac303fbdff97275b8112e28397925786a", func := "loop.example/sortingoffice/laws.FnExactRunPlan", spec := "fnExactRunPlan", apart := false, narrowed := true }
def FnExactRunPlanUptoSaid : Prop := fnExactRunPlanUptoRow.holds Try.pinned (OpenSpec.upto fnExactRunPlanSpec)

/-- 'laws.FnExactBinLoads', WHERE WHAT IT READS IS OF BULK AT MOST 1048576: true; the input reads as it did. -/
def fnExactBinLoadsUptoRow : OpenClaim := { program := "ytakjgajkalmleaa", sum := "781bca668e8bcaffcfedb9282034877ac303fbdff97275b8112e28397925786a", func := "loop.example/sortingoffice/laws.FnExactBinLoads", spec := "fnExactBinLoads", apart := false, narrowed := true }
def FnExactBinLoadsUptoSaid : Prop := fnExactBinLoadsUptoRow.holds Try.pinned (OpenSpec.upto fnExactBinLoadsSpec)

/-- 'laws.FnBinPass', WHERE WHAT IT READS IS OF BULK AT MOST 1048576: true; the input reads as it did. -/
def fnBinPassUptoRow : OpenClaim := { program := "ytakjgajkalmleaa", sum := "781bca668e8bcaffcfedb9282034877ac303fbdff97275b8112e28397925786a", func := "loop.example/sortingoffice/laws.FnBinPass", spec := "fnBinPass", unfollowed := true, recurses := true, apart := false, narrowed := true }
def FnBinPassUptoSaid : Prop := fnBinPassUptoRow.holds Try.pinned (OpenSpec.upto fnBinPassSpec)

/-- 'laws.FnCollect', WHERE WHAT IT READS IS OF BULK AT MOST 1048576: true; the input reads as it did. -/
def fnCollectUptoRow : OpenClaim := { program := "ytakjgajkalmleaa", sum := "781bca668e8bcaffcfedb9282034877ac303fbdff97275b8112e28397925786a", func := "loop.example/sortingoffice/laws.FnCollect", spec := "fnCollect", recurses := true, apart := false, narrowed := true }
def FnCollectUptoSaid : Prop := fnCollectUptoRow.holds Try.pinned (OpenSpec.upto fnCollectSpec)

/-- 'laws.FnSortPass', WHERE WHAT IT READS IS OF BULK AT MOST 1048576: true; the input reads as it did. -/
def fnSortPassUptoRow : OpenClaim := { program := "ytakjgajkalmleaa", sum := "781bca668e8bcaffcfedb9282034877ac303fbdff97275b8112e28397925786a", func := "loop.example/sortingoffice/laws.FnSortPass", spec := "fnSortPass", unfollowed := true, recurses := true, apart := false, narrowed := true }
def FnSortPassUptoSaid : Prop := fnSortPassUptoRow.holds Try.pinned (OpenSpec.upto fnSortPassSpec)

/-- 'laws.FnInversions', WHERE WHAT IT READS IS OF BULK AT MOST 1048576: true; the input reads as it did. -/
def fnInversionsUptoRow : OpenClaim := { program := "ytakjgajkalmleaa", sum := "781bca668e8bcaffcfedb9282034877ac303fbdff97275b8112e28397925786a", func := "loop.example/sortingoffice/laws.FnInversions", spec := "fnInversions", recurses := true, apart := false, narrowed := true }
def FnInversionsUptoSaid : Prop := fnInversionsUptoRow.holds Try.pinned (OpenSpec.upto fnInversionsSpec)

end Rows
end Go.Proofs.Ytakjgajkalmleaa
