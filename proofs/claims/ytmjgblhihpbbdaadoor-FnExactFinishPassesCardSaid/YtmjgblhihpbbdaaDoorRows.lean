/-
  NARROWER THAN 'FOR EVERY INPUT', by the rows' own cells (each row's printed sentence says how): FnExactRepairBins: ifaces, laid · FnExactFinishPasses: ifaces, laid · FnExactRunRepaired: ifaces, laid · FnExactRunRestarted: ifaces, laid.
  DERIVED. THE GIVEN ROWS OF THIS SEAT. 4 by the template 'for every input the law returns true; each argument reads behind the call as it read before'; 0 by the template 'total and deterministic' (their statements: YtmjgblhihpbbdaaDoorTotals.lean).
  GIVEN WITH THE SEED: the statements are not yours to turn. If you find one false, say at which input.
  Laid BY PROGRAM, IN A SANDBOX (cutbox-rows.mjs): the forced cells as the released guide's own fill.sh prints them over the translation 6a48d1e3bc621023… (all of the seat's roots in one cut). By AI agents, Wed Nov 11 2026. No macro, syntax, notation, axiom, sorry.
-/
import Derived.Test.YtmjgblhihpbbdaaDoorChecked
import GoSem.Claim
import GoSem.ClaimJoined
import GoSem.ClaimMapViews
import Derived.JoinedTies
import Derived.KernelRfl
namespace Go.Proofs.YtmjgblhihpbbdaaDoor
/- THE CELL 'sum', in the pinned program and in every row, IS THE sha256 OF THE DUMP (.gsa) THAT YtmjgblhihpbbdaaDoorProg.lean LOADS. Nothing in Lean hashes anything: it is a label: what it is worth is what the hold of that sum in a sandbox is worth. -/
noncomputable def Tryd.pinned : Pinned := { name := "ytmjgblhihpbbdaadoor", sum := "6a48d1e3bc621023604ba565f59c27a79ce4dd0e5a34ac3b6d191f611d820083", checked := Tryd.checked }
namespace Rows
def none {H : Type} : Left H := { results := [], args := [] }

/- WHAT THE LISTED PACKAGE-LEVEL VARIABLES READ AS WHEN THE CALL BEGINS. Each datum BY PROGRAM (the guide's laid-datum.mjs) off the statement by which the dump's own 'gosem.cut.vars' lays the variable. In a bare row this is a premise. The card (YtmjgblhihpbbdaaDoorCards.lean) ties it to the program's text. -/
def laid_loop_example_sortingoffice_impl_errJam {H : Type} : DataW H := .iface "*errors.errorString" (.ptr (.agg [.lit (.string [116, 104, 101, 32, 109, 97, 99, 104, 105, 110, 101, 32, 105, 115, 32, 106, 97, 109, 109, 101, 100])]))

/-- 'laws.FnExactRepairBins': WHATEVER THE INPUT: true; the input reads as it did. -/
def fnExactRepairBinsSpec : ChangeSpec := { name := "fnExactRepairBins", vars := ["loop.example/sortingoffice/impl.errJam"], fn := fun _ => fun
  | [d1, d2, d3, g1] => { results := [.lit (.bool true)], args := [d1, d2, d3], vars := [g1] }
  | _ => none }
def fnExactRepairBinsRow : OpenClaim := { program := "ytmjgblhihpbbdaadoor", sum := "6a48d1e3bc621023604ba565f59c27a79ce4dd0e5a34ac3b6d191f611d820083", func := "loop.example/sortingoffice/laws.FnExactRepairBins", spec := "fnExactRepairBins", inPlace := ["internal/reflectlite.TypeOf"], unfollowed := true, recurses := true, named := ["loop.example/sortingoffice/impl.errJam"], ifaces := true, apart := false, laid := [("loop.example/sortingoffice/impl.errJam", laid_loop_example_sortingoffice_impl_errJam)] }
def FnExactRepairBinsSaid : Prop := fnExactRepairBinsRow.holds Tryd.pinned (OpenSpec.ofChange fnExactRepairBinsSpec)

/-- ITS FALSE NEIGHBOUR: 'it returns false'. Refute it at one input. -/
def fnExactRepairBinsWrong : ChangeSpec := { name := "fnExactRepairBins", vars := ["loop.example/sortingoffice/impl.errJam"], fn := fun _ => fun
  | [d1, d2, d3, g1] => { results := [.lit (.bool false)], args := [d1, d2, d3], vars := [g1] }
  | _ => none }
def FnExactRepairBinsWrongFalsely : Prop := fnExactRepairBinsRow.holds Tryd.pinned (OpenSpec.ofChange fnExactRepairBinsWrong)

/-- 'laws.FnExactFinishPasses': WHATEVER THE INPUT: true; the input reads as it did. -/
def fnExactFinishPassesSpec : ChangeSpec := { name := "fnExactFinishPasses", vars := ["loop.example/sortingoffice/impl.errJam"], fn := fun _ => fun
  | [d1, d2, d3, g1] => { results := [.lit (.bool true)], args := [d1, d2, d3], vars := [g1] }
  | _ => none }
def fnExactFinishPassesRow : OpenClaim := { program := "ytmjgblhihpbbdaadoor", sum := "6a48d1e3bc621023604ba565f59c27a79ce4dd0e5a34ac3b6d191f611d820083", func := "loop.example/sortingoffice/laws.FnExactFinishPasses", spec := "fnExactFinishPasses", inPlace := ["internal/reflectlite.TypeOf"], unfollowed := true, recurses := true, named := ["loop.example/sortingoffice/impl.errJam"], ifaces := true, apart := false, laid := [("loop.example/sortingoffice/impl.errJam", laid_loop_example_sortingoffice_impl_errJam)] }
def FnExactFinishPassesSaid : Prop := fnExactFinishPassesRow.holds Tryd.pinned (OpenSpec.ofChange fnExactFinishPassesSpec)

/-- ITS FALSE NEIGHBOUR: 'it returns false'. Refute it at one input. -/
def fnExactFinishPassesWrong : ChangeSpec := { name := "fnExactFinishPasses", vars := ["loop.example/sortingoffice/impl.errJam"], fn := fun _ => fun
  | [d1, d2, d3, g1] => { results := [.lit (.bool false)], args := [d1, d2, d3], vars := [g1] }
  | _ => none }
def FnExactFinishPassesWrongFalsely : Prop := fnExactFinishPassesRow.holds Tryd.pinned (OpenSpec.ofChange fnExactFinishPassesWrong)

/-- 'laws.FnExactRunRepaired': WHATEVER THE INPUT: true; the input reads as it did. -/
def fnExactRunRepairedSpec : ChangeSpec := { name := "fnExactRunRepaired", vars := ["loop.example/sortingoffice/impl.errJam"], fn := fun _ => fun
  | [d1, d2, d3, d4, g1] => { results := [.lit (.bool true)], args := [d1, d2, d3, d4], vars := [g1] }
  | _ => none }
def fnExactRunRepairedRow : OpenClaim := { program := "ytmjgblhihpbbdaadoor", sum := "6a48d1e3bc621023604ba565f59c27a79ce4dd0e5a34ac3b6d191f611d820083", func := "loop.example/sortingoffice/laws.FnExactRunRepaired", spec := "fnExactRunRepaired", inPlace := ["internal/reflectlite.TypeOf"], unfollowed := true, recurses := true, named := ["loop.example/sortingoffice/impl.errJam"], ifaces := true, apart := false, laid := [("loop.example/sortingoffice/impl.errJam", laid_loop_example_sortingoffice_impl_errJam)] }
def FnExactRunRepairedSaid : Prop := fnExactRunRepairedRow.holds Tryd.pinned (OpenSpec.ofChange fnExactRunRepairedSpec)

/-- ITS FALSE NEIGHBOUR: 'it returns false'. Refute it at one input. -/
def fnExactRunRepairedWrong : ChangeSpec := { name := "fnExactRunRepaired", vars := ["loop.example/sortingoffice/impl.errJam"], fn := fun _ => fun
  | [d1, d2, d3, d4, g1] => { results := [.lit (.bool false)], args := [d1, d2, d3, d4], vars := [g1] }
  | _ => none }
def FnExactRunRepairedWrongFalsely : Prop := fnExactRunRepairedRow.holds Tryd.pinned (OpenSpec.ofChange fnExactRunRepairedWrong)

/-- 'laws.FnExactRunRestarted': WHATEVER THE INPUT: true; the input reads as it did. -/
def fnExactRunRestartedSpec : ChangeSpec := { name := "fnExactRunRestarted", vars := ["loop.example/sortingoffice/impl.errJam"], fn := fun _ => fun
  | [d1, d2, d3, d4, g1] => { results := [.lit (.bool true)], args := [d1, d2, d3, d4], vars := [g1] }
  | _ => none }
def fnExactRunRestartedRow : OpenClaim := { program := "ytmjgblhihpbbdaadoor", sum := "6a48d1e3bc621023604ba565f59c27a79ce4dd0e5a34ac3b6d191f611d820083", func := "loop.example/sortingoffice/laws.FnExactRunRestarted", spec := "fnExactRunRestarted", inPlace := ["internal/reflectlite.TypeOf"], unfollowed := true, recurses := true, named := ["loop.example/sortingoffice/impl.errJam"], ifaces := true, apart := false, laid := [("loop.example/sortingoffice/impl.errJam", laid_loop_example_sortingoffice_impl_errJam)] }
def FnExactRunRestartedSaid : Prop := fnExactRunRestartedRow.holds Tryd.pinned (OpenSpec.ofChange fnExactRunRestartedSpec)

/-- ITS FALSE NEIGHBOUR: 'it returns false'. Refute it at one input. -/
def fnExactRunRestartedWrong : ChangeSpec := { name := "fnExactRunRestarted", vars := ["loop.example/sortingoffice/impl.errJam"], fn := fun _ => fun
  | [d1, d2, d3, d4, g1] => { results := [.lit (.bool false)], args := [d1, d2, d3, d4], vars := [g1] }
  | _ => none }
def FnExactRunRestartedWrongFalsely : Prop := fnExactRunRestartedRow.holds Tryd.pinned (OpenSpec.ofChange fnExactRunRestartedWrong)

/- THE SECOND FORM. 'bulk': how many values and letters a reading holds, each counted each time it is reached (what is shared counts as often as it is met; a slice's spare places count too). A statement '..UptoSaid' is the law's where the arguments, and the package variables that the reading takes, are together of bulk at most 1048576: NARROWER than '..Said'. Prove '..Said' where nothing that the law and all that it calls make is longer than what came in: it says more and counts as full. Else prove '..UptoSaid'. A law counts once. -/
mutual
def uptoBulk {H : Type} : DataW H → Nat
  | .lit (.string bytes) => bytes.length + 1
  | .lit _ => 1
  | .nil => 1
  | .ptr d => uptoBulk d + 1
  | .slice elems spare => uptoBulkAll elems + uptoBulkAll spare + 1
  | .agg parts => uptoBulkAll parts + 1
  | .iface _ d => uptoBulk d + 1
  | .map entries => uptoBulkEntries entries + 1
  | .held _ => 1
def uptoBulkAll {H : Type} : List (DataW H) → Nat
  | [] => 0
  | d :: r => uptoBulk d + uptoBulkAll r
def uptoBulkEntries {H : Type} : List (Lit × DataW H) → Nat
  | [] => 0
  | x :: r => uptoBulkEntry x + uptoBulkEntries r
def uptoBulkEntry {H : Type} : Lit × DataW H → Nat
  | (.string bytes, d) => bytes.length + uptoBulk d + 1
  | (_, d) => uptoBulk d + 1
 end
def uptoSmall : (H : Type) → List (DataW H) → Bool := fun _ ds => decide (uptoBulkAll ds ≤ 1048576)
def OpenSpec.upto (s : _root_.Go.ChangeSpec) : _root_.Go.OpenSpec := { _root_.Go.OpenSpec.ofChange s with cond := some uptoSmall }

/-- 'laws.FnExactRepairBins', WHERE WHAT IT READS IS OF BULK AT MOST 1048576: true; the input reads as it did. -/
def fnExactRepairBinsUptoRow : OpenClaim := { program := "ytmjgblhihpbbdaadoor", sum := "6a48d1e3bc621023604ba565f59c27a79ce4dd0e5a34ac3b6d191f611d820083", func := "loop.example/sortingoffice/laws.FnExactRepairBins", spec := "fnExactRepairBins", inPlace := ["internal/reflectlite.TypeOf"], unfollowed := true, recurses := true, named := ["loop.example/sortingoffice/impl.errJam"], ifaces := true, apart := false, laid := [("loop.example/sortingoffice/impl.errJam", laid_loop_example_sortingoffice_impl_errJam)], narrowed := true }
def FnExactRepairBinsUptoSaid : Prop := fnExactRepairBinsUptoRow.holds Tryd.pinned (OpenSpec.upto fnExactRepairBinsSpec)

/-- 'laws.FnExactFinishPasses', WHERE WHAT IT READS IS OF BULK AT MOST 1048576: true; the input reads as it did. -/
def fnExactFinishPassesUptoRow : OpenClaim := { program := "ytmjgblhihpbbdaadoor", sum := "6a48d1e3bc621023604ba565f59c27a79ce4dd0e5a34ac3b6d191f611d820083", func := "loop.example/sortingoffice/laws.FnExactFinishPasses", spec := "fnExactFinishPasses", inPlace := ["internal/reflectlite.TypeOf"], unfollowed := true, recurses := true, named := ["loop.example/sortingoffice/impl.errJam"], ifaces := true, apart := false, laid := [("loop.example/sortingoffice/impl.errJam", laid_loop_example_sortingoffice_impl_errJam)], narrowed := true }
def FnExactFinishPassesUptoSaid : Prop := fnExactFinishPassesUptoRow.holds Tryd.pinned (OpenSpec.upto fnExactFinishPassesSpec)

/-- 'laws.FnExactRunRepaired', WHERE WHAT IT READS IS OF BULK AT MOST 1048576: true; the input reads as it did. -/
def fnExactRunRepairedUptoRow : OpenClaim := { program := "ytmjgblhihpbbdaadoor", sum := "6a48d1e3bc621023604ba565f59c27a79ce4dd0e5a34ac3b6d191f611d820083", func := "loop.example/sortingoffice/laws.FnExactRunRepaired", spec := "fnExactRunRepaired", inPlace := ["internal/reflectlite.TypeOf"], unfollowed := true, recurses := true, named := ["loop.example/sortingoffice/impl.errJam"], ifaces := true, apart := false, laid := [("loop.example/sortingoffice/impl.errJam", laid_loop_example_sortingoffice_impl_errJam)], narrowed := true }
def FnExactRunRepairedUptoSaid : Prop := fnExactRunRepairedUptoRow.holds Tryd.pinned (OpenSpec.upto fnExactRunRepairedSpec)

/-- 'laws.FnExactRunRestarted', WHERE WHAT IT READS IS OF BULK AT MOST 1048576: true; the input reads as it did. -/
def fnExactRunRestartedUptoRow : OpenClaim := { program := "ytmjgblhihpbbdaadoor", sum := "6a48d1e3bc621023604ba565f59c27a79ce4dd0e5a34ac3b6d191f611d820083", func := "loop.example/sortingoffice/laws.FnExactRunRestarted", spec := "fnExactRunRestarted", inPlace := ["internal/reflectlite.TypeOf"], unfollowed := true, recurses := true, named := ["loop.example/sortingoffice/impl.errJam"], ifaces := true, apart := false, laid := [("loop.example/sortingoffice/impl.errJam", laid_loop_example_sortingoffice_impl_errJam)], narrowed := true }
def FnExactRunRestartedUptoSaid : Prop := fnExactRunRestartedUptoRow.holds Tryd.pinned (OpenSpec.upto fnExactRunRestartedSpec)

end Rows
end Go.Proofs.YtmjgblhihpbbdaaDoor
