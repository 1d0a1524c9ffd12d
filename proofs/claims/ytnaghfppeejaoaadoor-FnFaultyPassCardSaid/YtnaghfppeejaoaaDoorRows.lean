/-
  NARROWER THAN 'FOR EVERY INPUT', by the rows' own cells (each row's printed sentence says how): FnFaultyPass: ifaces, laid · FnWrong: ifaces, laid · FnRepair: ifaces, laid · FnFinish: ifaces, laid · FnFinishFirst: ifaces, laid · FnRepairedFirst: ifaces, laid · FnRepairedLast: ifaces, laid · FnRestarted: ifaces, laid.
  DERIVED. THE GIVEN ROWS OF THIS SEAT. 8 by the template 'for every input the law returns true; each argument reads behind the call as it read before'; 0 by the template 'total and deterministic' (their statements: YtnaghfppeejaoaaDoorTotals.lean).
  GIVEN WITH THE SEED: the statements are not yours to turn. If you find one false, say at which input.
  Laid BY PROGRAM, IN A SANDBOX (cutbox-rows.mjs): the forced cells as the released guide's own fill.sh prints them over the translation 7af4282511c25820… (all of the seat's roots in one cut). By AI agents, Wed Nov 11 2026. No macro, syntax, notation, axiom, sorry.
-/
import Derived.Test.YtnaghfppeejaoaaDoorChecked
import GoSem.Claim
import GoSem.ClaimJoined
import GoSem.ClaimMapViews
import Derived.JoinedTies
import Derived.KernelRfl
namespace Go.Proofs.YtnaghfppeejaoaaDoor
/- THE CELL 'sum', in the pinned program and in every row, IS THE sha256 OF THE DUMP (.gsa) THAT YtnaghfppeejaoaaDoorProg.lean LOADS. Nothing in Lean hashes anything: it is a label: what it is worth is what the hold of that sum in a sandbox is worth. -/
noncomputable def Tryd.pinned : Pinned := { name := "ytnaghfppeejaoaadoor", sum := "7af4282511c258209d18515111f9d2ef0e264e425bac79a5d91e6a3f0e42133e", checked := Tryd.checked }
namespace Rows
def none {H : Type} : Left H := { results := [], args := [] }

/- WHAT THE LISTED PACKAGE-LEVEL VARIABLES READ AS WHEN THE CALL BEGINS. Each datum BY PROGRAM (the guide's laid-datum.mjs) off the statement by which the dump's own 'gosem.cut.vars' lays the variable. In a bare row this is a premise. The card (YtnaghfppeejaoaaDoorCards.lean) ties it to the program's text. -/
def laid_loop_example_sortingoffice_impl_errJam {H : Type} : DataW H := .iface "*errors.errorString" (.ptr (.agg [.lit (.string [116, 104, 101, 32, 109, 97, 99, 104, 105, 110, 101, 32, 105, 115, 32, 106, 97, 109, 109, 101, 100])]))

/-- 'laws.FnFaultyPass': WHATEVER THE INPUT: true; the input reads as it did. -/
def fnFaultyPassSpec : ChangeSpec := { name := "fnFaultyPass", vars := ["loop.example/sortingoffice/impl.errJam"], fn := fun _ => fun
  | [d, g1] => { results := [.lit (.bool true)], args := [d], vars := [g1] }
  | _ => none }
def fnFaultyPassRow : OpenClaim := { program := "ytnaghfppeejaoaadoor", sum := "7af4282511c258209d18515111f9d2ef0e264e425bac79a5d91e6a3f0e42133e", func := "loop.example/sortingoffice/laws.FnFaultyPass", spec := "fnFaultyPass", inPlace := ["internal/reflectlite.TypeOf"], unfollowed := true, recurses := true, named := ["loop.example/sortingoffice/impl.errJam"], ifaces := true, apart := false, laid := [("loop.example/sortingoffice/impl.errJam", laid_loop_example_sortingoffice_impl_errJam)] }
def FnFaultyPassSaid : Prop := fnFaultyPassRow.holds Tryd.pinned (OpenSpec.ofChange fnFaultyPassSpec)

/-- ITS FALSE NEIGHBOUR: 'it returns false'. Refute it at one input. -/
def fnFaultyPassWrong : ChangeSpec := { name := "fnFaultyPass", vars := ["loop.example/sortingoffice/impl.errJam"], fn := fun _ => fun
  | [d, g1] => { results := [.lit (.bool false)], args := [d], vars := [g1] }
  | _ => none }
def FnFaultyPassWrongFalsely : Prop := fnFaultyPassRow.holds Tryd.pinned (OpenSpec.ofChange fnFaultyPassWrong)

/-- 'laws.FnWrong': WHATEVER THE INPUT: true; the input reads as it did. -/
def fnWrongSpec : ChangeSpec := { name := "fnWrong", vars := ["loop.example/sortingoffice/impl.errJam"], fn := fun _ => fun
  | [d, g1] => { results := [.lit (.bool true)], args := [d], vars := [g1] }
  | _ => none }
def fnWrongRow : OpenClaim := { program := "ytnaghfppeejaoaadoor", sum := "7af4282511c258209d18515111f9d2ef0e264e425bac79a5d91e6a3f0e42133e", func := "loop.example/sortingoffice/laws.FnWrong", spec := "fnWrong", inPlace := ["internal/reflectlite.TypeOf"], unfollowed := true, recurses := true, named := ["loop.example/sortingoffice/impl.errJam"], ifaces := true, apart := false, laid := [("loop.example/sortingoffice/impl.errJam", laid_loop_example_sortingoffice_impl_errJam)] }
def FnWrongSaid : Prop := fnWrongRow.holds Tryd.pinned (OpenSpec.ofChange fnWrongSpec)

/-- ITS FALSE NEIGHBOUR: 'it returns false'. Refute it at one input. -/
def fnWrongWrong : ChangeSpec := { name := "fnWrong", vars := ["loop.example/sortingoffice/impl.errJam"], fn := fun _ => fun
  | [d, g1] => { results := [.lit (.bool false)], args := [d], vars := [g1] }
  | _ => none }
def FnWrongWrongFalsely : Prop := fnWrongRow.holds Tryd.pinned (OpenSpec.ofChange fnWrongWrong)

/-- 'laws.FnRepair': WHATEVER THE INPUT: true; the input reads as it did. -/
def fnRepairSpec : ChangeSpec := { name := "fnRepair", vars := ["loop.example/sortingoffice/impl.errJam"], fn := fun _ => fun
  | [d, g1] => { results := [.lit (.bool true)], args := [d], vars := [g1] }
  | _ => none }
def fnRepairRow : OpenClaim := { program := "ytnaghfppeejaoaadoor", sum := "7af4282511c258209d18515111f9d2ef0e264e425bac79a5d91e6a3f0e42133e", func := "loop.example/sortingoffice/laws.FnRepair", spec := "fnRepair", inPlace := ["internal/reflectlite.TypeOf"], unfollowed := true, recurses := true, named := ["loop.example/sortingoffice/impl.errJam"], ifaces := true, apart := false, laid := [("loop.example/sortingoffice/impl.errJam", laid_loop_example_sortingoffice_impl_errJam)] }
def FnRepairSaid : Prop := fnRepairRow.holds Tryd.pinned (OpenSpec.ofChange fnRepairSpec)

/-- ITS FALSE NEIGHBOUR: 'it returns false'. Refute it at one input. -/
def fnRepairWrong : ChangeSpec := { name := "fnRepair", vars := ["loop.example/sortingoffice/impl.errJam"], fn := fun _ => fun
  | [d, g1] => { results := [.lit (.bool false)], args := [d], vars := [g1] }
  | _ => none }
def FnRepairWrongFalsely : Prop := fnRepairRow.holds Tryd.pinned (OpenSpec.ofChange fnRepairWrong)

/-- 'laws.FnFinish': WHATEVER THE INPUT: true; the input reads as it did. -/
def fnFinishSpec : ChangeSpec := { name := "fnFinish", vars := ["loop.example/sortingoffice/impl.errJam"], fn := fun _ => fun
  | [d, g1] => { results := [.lit (.bool true)], args := [d], vars := [g1] }
  | _ => none }
def fnFinishRow : OpenClaim := { program := "ytnaghfppeejaoaadoor", sum := "7af4282511c258209d18515111f9d2ef0e264e425bac79a5d91e6a3f0e42133e", func := "loop.example/sortingoffice/laws.FnFinish", spec := "fnFinish", inPlace := ["internal/reflectlite.TypeOf"], unfollowed := true, recurses := true, named := ["loop.example/sortingoffice/impl.errJam"], ifaces := true, apart := false, laid := [("loop.example/sortingoffice/impl.errJam", laid_loop_example_sortingoffice_impl_errJam)] }
def FnFinishSaid : Prop := fnFinishRow.holds Tryd.pinned (OpenSpec.ofChange fnFinishSpec)

/-- ITS FALSE NEIGHBOUR: 'it returns false'. Refute it at one input. -/
def fnFinishWrong : ChangeSpec := { name := "fnFinish", vars := ["loop.example/sortingoffice/impl.errJam"], fn := fun _ => fun
  | [d, g1] => { results := [.lit (.bool false)], args := [d], vars := [g1] }
  | _ => none }
def FnFinishWrongFalsely : Prop := fnFinishRow.holds Tryd.pinned (OpenSpec.ofChange fnFinishWrong)

/-- 'laws.FnFinishFirst': WHATEVER THE INPUT: true; the input reads as it did. -/
def fnFinishFirstSpec : ChangeSpec := { name := "fnFinishFirst", vars := ["loop.example/sortingoffice/impl.errJam"], fn := fun _ => fun
  | [d, g1] => { results := [.lit (.bool true)], args := [d], vars := [g1] }
  | _ => none }
def fnFinishFirstRow : OpenClaim := { program := "ytnaghfppeejaoaadoor", sum := "7af4282511c258209d18515111f9d2ef0e264e425bac79a5d91e6a3f0e42133e", func := "loop.example/sortingoffice/laws.FnFinishFirst", spec := "fnFinishFirst", inPlace := ["internal/reflectlite.TypeOf"], unfollowed := true, recurses := true, named := ["loop.example/sortingoffice/impl.errJam"], ifaces := true, apart := false, laid := [("loop.example/sortingoffice/impl.errJam", laid_loop_example_sortingoffice_impl_errJam)] }
def FnFinishFirstSaid : Prop := fnFinishFirstRow.holds Tryd.pinned (OpenSpec.ofChange fnFinishFirstSpec)

/-- ITS FALSE NEIGHBOUR: 'it returns false'. Refute it at one input. -/
def fnFinishFirstWrong : ChangeSpec := { name := "fnFinishFirst", vars := ["loop.example/sortingoffice/impl.errJam"], fn := fun _ => fun
  | [d, g1] => { results := [.lit (.bool false)], args := [d], vars := [g1] }
  | _ => none }
def FnFinishFirstWrongFalsely : Prop := fnFinishFirstRow.holds Tryd.pinned (OpenSpec.ofChange fnFinishFirstWrong)

/-- 'laws.FnRepairedFirst': WHATEVER THE INPUT: true; the input reads as it did. -/
def fnRepairedFirstSpec : ChangeSpec := { name := "fnRepairedFirst", vars := ["loop.example/sortingoffice/impl.errJam"], fn := fun _ => fun
  | [d, g1] => { results := [.lit (.bool true)], args := [d], vars := [g1] }
  | _ => none }
def fnRepairedFirstRow : OpenClaim := { program := "ytnaghfppeejaoaadoor", sum := "7af4282511c258209d18515111f9d2ef0e264e425bac79a5d91e6a3f0e42133e", func := "loop.example/sortingoffice/laws.FnRepairedFirst", spec := "fnRepairedFirst", inPlace := ["internal/reflectlite.TypeOf"], unfollowed := true, recurses := true, named := ["loop.example/sortingoffice/impl.errJam"], ifaces := true, apart := false, laid := [("loop.example/sortingoffice/impl.errJam", laid_loop_example_sortingoffice_impl_errJam)] }
def FnRepairedFirstSaid : Prop := fnRepairedFirstRow.holds Tryd.pinned (OpenSpec.ofChange fnRepairedFirstSpec)

/-- ITS FALSE NEIGHBOUR: 'it returns false'. Refute it at one input. -/
def fnRepairedFirstWrong : ChangeSpec := { name := "fnRepairedFirst", vars := ["loop.example/sortingoffice/impl.errJam"], fn := fun _ => fun
  | [d, g1] => { results := [.lit (.bool false)], args := [d], vars := [g1] }
  | _ => none }
def FnRepairedFirstWrongFalsely : Prop := fnRepairedFirstRow.holds Tryd.pinned (OpenSpec.ofChange fnRepairedFirstWrong)

/-- 'laws.FnRepairedLast': WHATEVER THE INPUT: true; the input reads as it did. -/
def fnRepairedLastSpec : ChangeSpec := { name := "fnRepairedLast", vars := ["loop.example/sortingoffice/impl.errJam"], fn := fun _ => fun
  | [d, g1] => { results := [.lit (.bool true)], args := [d], vars := [g1] }
  | _ => none }
def fnRepairedLastRow : OpenClaim := { program := "ytnaghfppeejaoaadoor", sum := "7af4282511c258209d18515111f9d2ef0e264e425bac79a5d91e6a3f0e42133e", func := "loop.example/sortingoffice/laws.FnRepairedLast", spec := "fnRepairedLast", inPlace := ["internal/reflectlite.TypeOf"], unfollowed := true, recurses := true, named := ["loop.example/sortingoffice/impl.errJam"], ifaces := true, apart := false, laid := [("loop.example/sortingoffice/impl.errJam", laid_loop_example_sortingoffice_impl_errJam)] }
def FnRepairedLastSaid : Prop := fnRepairedLastRow.holds Tryd.pinned (OpenSpec.ofChange fnRepairedLastSpec)

/-- ITS FALSE NEIGHBOUR: 'it returns false'. Refute it at one input. -/
def fnRepairedLastWrong : ChangeSpec := { name := "fnRepairedLast", vars := ["loop.example/sortingoffice/impl.errJam"], fn := fun _ => fun
  | [d, g1] => { results := [.lit (.bool false)], args := [d], vars := [g1] }
  | _ => none }
def FnRepairedLastWrongFalsely : Prop := fnRepairedLastRow.holds Tryd.pinned (OpenSpec.ofChange fnRepairedLastWrong)

/-- 'laws.FnRestarted': WHATEVER THE INPUT: true; the input reads as it did. -/
def fnRestartedSpec : ChangeSpec := { name := "fnRestarted", vars := ["loop.example/sortingoffice/impl.errJam"], fn := fun _ => fun
  | [d, g1] => { results := [.lit (.bool true)], args := [d], vars := [g1] }
  | _ => none }
def fnRestartedRow : OpenClaim := { program := "ytnaghfppeejaoaadoor", sum := "7af4282511c258209d18515111f9d2ef0e264e425bac79a5d91e6a3f0e42133e", func := "loop.example/sortingoffice/laws.FnRestarted", spec := "fnRestarted", inPlace := ["internal/reflectlite.TypeOf"], unfollowed := true, recurses := true, named := ["loop.example/sortingoffice/impl.errJam"], ifaces := true, apart := false, laid := [("loop.example/sortingoffice/impl.errJam", laid_loop_example_sortingoffice_impl_errJam)] }
def FnRestartedSaid : Prop := fnRestartedRow.holds Tryd.pinned (OpenSpec.ofChange fnRestartedSpec)

/-- ITS FALSE NEIGHBOUR: 'it returns false'. Refute it at one input. -/
def fnRestartedWrong : ChangeSpec := { name := "fnRestarted", vars := ["loop.example/sortingoffice/impl.errJam"], fn := fun _ => fun
  | [d, g1] => { results := [.lit (.bool false)], args := [d], vars := [g1] }
  | _ => none }
def FnRestartedWrongFalsely : Prop := fnRestartedRow.holds Tryd.pinned (OpenSpec.ofChange fnRestartedWrong)

/- THE SECOND FORM. 'bulk': how many values and letters a reading holds, each counted each time it is reached (what is shared counts as often as it is met; a slice's spare places count too). A statement '..UptoSaid' is the law's where the arguments, and the package variables that the reading takes, are together of bulk at most 1048576: NARROWER than '..Said'. Prove '..Said' where nothing that the law and all that it calls make is longer than what came in: it says more and counts as full. Else prove '..UptoSaid'. A law counts once. -/
mutual
def uptoBulk {H : Type} : DataW H → Nat
  | .lit (.string bytes) => bytes.length + 1
  | .lit _ => 1
  | .nil => 1
  | .ptr d => uptoBulk d + 1
  | .slice elems spare => uptoBulkAll elems + uptoBulkAll spare + 1
  | .agg parts => uptoBulkAll parts + 1
  | .iface _ d => uptoBulk d + 1
  | .map entries => uptoBulkEntries entries + 1
  | .held _ => 1
def uptoBulkAll {H : Type} : List (DataW H) → Nat
  | [] => 0
  | d :: r => uptoBulk d + uptoBulkAll r
def uptoBulkEntries {H : Type} : List (Lit × DataW H) → Nat
  | [] => 0
  | x :: r => uptoBulkEntry x + uptoBulkEntries r
def uptoBulkEntry {H : Type} : Lit × DataW H → Nat
  | (.string bytes, d) => bytes.length + uptoBulk d + 1
  | (_, d) => uptoBulk d + 1
 end
def uptoSmall : (H : Type) → List (DataW H) → Bool := fun _ ds => decide (uptoBulkAll ds ≤ 1048576)
def OpenSpec.upto (s : _root_.Go.ChangeSpec) : _root_.Go.OpenSpec := { _root_.Go.OpenSpec.ofChange s with cond := some uptoSmall }

/-- 'laws.FnFaultyPass', WHERE WHAT IT READS IS OF BULK AT MOST 1048576: true; the input reads as it did. -/
def fnFaultyPassUptoRow : OpenClaim := { program := "ytnaghfppeejaoaadoor", sum := "7af4282511c258209d18515111f9d2ef0e264e425bac79a5d91e6a3f0e42133e", func := "loop.example/sortingoffice/laws.FnFaultyPass", spec := "fnFaultyPass", inPlace := ["internal/reflectlite.TypeOf"], unfollowed := true, recurses := true, named := ["loop.example/sortingoffice/impl.errJam"], ifaces := true, apart := false, laid := [("loop.example/sortingoffice/impl.errJam", laid_loop_example_sortingoffice_impl_errJam)], narrowed := true }
def FnFaultyPassUptoSaid : Prop := fnFaultyPassUptoRow.holds Tryd.pinned (OpenSpec.upto fnFaultyPassSpec)

/-- 'laws.FnWrong', WHERE WHAT IT READS IS OF BULK AT MOST 1048576: true; the input reads as it did. -/
def fnWrongUptoRow : OpenClaim := { program := "ytnaghfppeejaoaadoor", sum := "7af4282511c258209d18515111f9d2ef0e264e425bac79a5d91e6a3f0e42133e", func := "loop.example/sortingoffice/laws.FnWrong", spec := "fnWrong", inPlace := ["internal/reflectlite.TypeOf"], unfollowed := true, recurses := true, named := ["loop.example/sortingoffice/impl.errJam"], ifaces := true, apart := false, laid := [("loop.example/sortingoffice/impl.errJam", laid_loop_example_sortingoffice_impl_errJam)], narrowed := true }
def FnWrongUptoSaid : Prop := fnWrongUptoRow.holds Tryd.pinned (OpenSpec.upto fnWrongSpec)

/-- 'laws.FnRepair', WHERE WHAT IT READS IS OF BULK AT MOST 1048576: true; the input reads as it did. -/
def fnRepairUptoRow : OpenClaim := { program := "ytnaghfppeejaoaadoor", sum := "7af4282511c258209d18515111f9d2ef0e264e425bac79a5d91e6a3f0e42133e", func := "loop.example/sortingoffice/laws.FnRepair", spec := "fnRepair", inPlace := ["internal/reflectlite.TypeOf"], unfollowed := true, recurses := true, named := ["loop.example/sortingoffice/impl.errJam"], ifaces := true, apart := false, laid := [("loop.example/sortingoffice/impl.errJam", laid_loop_example_sortingoffice_impl_errJam)], narrowed := true }
def FnRepairUptoSaid : Prop := fnRepairUptoRow.holds Tryd.pinned (OpenSpec.upto fnRepairSpec)

/-- 'laws.FnFinish', WHERE WHAT IT READS IS OF BULK AT MOST 1048576: true; the input reads as it did. -/
def fnFinishUptoRow : OpenClaim := { program := "ytnaghfppeejaoaadoor", sum := "7af4282511c258209d18515111f9d2ef0e264e425bac79a5d91e6a3f0e42133e", func := "loop.example/sortingoffice/laws.FnFinish", spec := "fnFinish", inPlace := ["internal/reflectlite.TypeOf"], unfollowed := true, recurses := true, named := ["loop.example/sortingoffice/impl.errJam"], ifaces := true, apart := false, laid := [("loop.example/sortingoffice/impl.errJam", laid_loop_example_sortingoffice_impl_errJam)], narrowed := true }
def FnFinishUptoSaid : Prop := fnFinishUptoRow.holds Tryd.pinned (OpenSpec.upto fnFinishSpec)

/-- 'laws.FnFinishFirst', WHERE WHAT IT READS IS OF BULK AT MOST 1048576: true; the input reads as it did. -/
def fnFinishFirstUptoRow : OpenClaim := { program := "ytnaghfppeejaoaadoor", sum := "7af4282511c258209d18515111f9d2ef0e264e425bac79a5d91e6a3f0e42133e", func := "loop.example/sortingoffice/laws.FnFinishFirst", spec := "fnFinishFirst", inPlace := ["internal/reflectlite.TypeOf"], unfollowed := true, recurses := true, named := ["loop.example/sortingoffice/impl.errJam"], ifaces := true, apart := false, laid := [("loop.example/sortingoffice/impl.errJam", laid_loop_example_sortingoffice_impl_errJam)], narrowed := true }
def FnFinishFirstUptoSaid : Prop := fnFinishFirstUptoRow.holds Tryd.pinned (OpenSpec.upto fnFinishFirstSpec)

/-- 'laws.FnRepairedFirst', WHERE WHAT IT READS IS OF BULK AT MOST 1048576: true; the input reads as it did. -/
def fnRepairedFirstUptoRow : OpenClaim := { program := "ytnaghfppeejaoaadoor", sum := "7af4282511c258209d18515111f9d2ef0e264e425bac79a5d91e6a3f0e42133e", func := "loop.example/sortingoffice/laws.FnRepairedFirst", spec := "fnRepairedFirst", inPlace := ["internal/reflectlite.TypeOf"], unfollowed := true, recurses := true, named := ["loop.example/sortingoffice/impl.errJam"], ifaces := true, apart := false, laid := [("loop.example/sortingoffice/impl.errJam", laid_loop_example_sortingoffice_impl_errJam)], narrowed := true }
def FnRepairedFirstUptoSaid : Prop := fnRepairedFirstUptoRow.holds Tryd.pinned (OpenSpec.upto fnRepairedFirstSpec)

/-- 'laws.FnRepairedLast', WHERE WHAT IT READS IS OF BULK AT MOST 1048576: true; the input reads as it did. -/
def fnRepairedLastUptoRow : OpenClaim := { program := "ytnaghfppeejaoaadoor", sum := "7af4282511c258209d18515111f9d2ef0e264e425bac79a5d91e6a3f0e42133e", func := "loop.example/sortingoffice/laws.FnRepairedLast", spec := "fnRepairedLast", inPlace := ["internal/reflectlite.TypeOf"], unfollowed := true, recurses := true, named := ["loop.example/sortingoffice/impl.errJam"], ifaces := true, apart := false, laid := [("loop.example/sortingoffice/impl.errJam", laid_loop_example_sortingoffice_impl_errJam)], narrowed := true }
def FnRepairedLastUptoSaid : Prop := fnRepairedLastUptoRow.holds Tryd.pinned (OpenSpec.upto fnRepairedLastSpec)

/-- 'laws.FnRestarted', WHERE WHAT IT READS IS OF BULK AT MOST 1048576: true; the input reads as it did. -/
def fnRestartedUptoRow : OpenClaim := { program := "ytnaghfppeejaoaadoor", sum := "7af4282511c258209d18515111f9d2ef0e264e425bac79a5d91e6a3f0e42133e", func := "loop.example/sortingoffice/laws.FnRestarted", spec := "fnRestarted", inPlace := ["internal/reflectlite.TypeOf"], unfollowed := true, recurses := true, named := ["loop.example/sortingoffice/impl.errJam"], ifaces := true, apart := false, laid := [("loop.example/sortingoffice/impl.errJam", laid_loop_example_sortingoffice_impl_errJam)], narrowed := true }
def FnRestartedUptoSaid : Prop := fnRestartedUptoRow.holds Tryd.pinned (OpenSpec.upto fnRestartedSpec)

end Rows
end Go.Proofs.YtnaghfppeejaoaaDoor
