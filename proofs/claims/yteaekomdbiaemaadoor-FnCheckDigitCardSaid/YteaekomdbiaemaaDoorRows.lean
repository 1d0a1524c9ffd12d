/-
  NARROWER THAN 'FOR EVERY INPUT', by the rows' own cells (each row's printed sentence says how): FnCheckDigit: laid · FnCheckValid: laid · FnDigitBars: laid · FnBarsDigit: laid · FnExactCheckDigit: laid · FnExactCheckValid: laid · FnExactDigitBars: laid · FnExactBarsDigit: laid · FnExactBarsOf: laid.
  DERIVED. THE GIVEN ROWS OF THIS SEAT. 9 by the template 'for every input the law returns true; each argument reads behind the call as it read before'; 0 by the template 'total and deterministic' (their statements: YteaekomdbiaemaaDoorTotals.lean).
  GIVEN WITH THE SEED: the statements are not yours to turn. If you find one false, say at which input.
  Laid BY PROGRAM, IN A SANDBOX (cutbox-rows.mjs): the forced cells as the released guide's own fill.sh prints them over the translation 892c95501c5bc8e9… (all of the seat's roots in one cut). By AI agents, Wed Nov 11 2026. No macro, syntax, notation, axiom, sorry.
-/
import Derived.Test.YteaekomdbiaemaaDoorChecked
import GoSem.Claim
import GoSem.ClaimJoined
import GoSem.ClaimMapViews
import Derived.JoinedTies
import Derived.KernelRfl
namespace Go.Proofs.YteaekomdbiaemaaDoor
/- THE CELL 'sum', in the pinned program and in every row, IS THE sha256 OF THE DUMP (.gsa) THAT YteaekomdbiaemaaDoorProg.lean LOADS. Nothing in Lean hashes anything: it is a label: what it is worth is what the hold of that sum in a sandbox is worth. -/
noncomputable def Tryd.pinned : Pinned := { name := "yteaekomdbiaemaadoor", sum := "892c95501c5bc8e9b3915a85c0789904b749c777fcad31ef9f37934dfe48b6a8", checked := Tryd.checked }
namespace Rows
def none {H : Type} : Left H := { results := [], args := [] }

/- WHAT THE LISTED PACKAGE-LEVEL VARIABLES READ AS WHEN THE CALL BEGINS. Each datum BY PROGRAM (the guide's laid-datum.mjs) off the statement by which the dump's own 'gosem.cut.vars' lays the variable. In a bare row this is a premise. The card (YteaekomdbiaemaaDoorCards.lean) ties it to the program's text. -/
def laid_loop_example_sortingoffice_impl_checkDigits {H : Type} : DataW H := .agg [.lit (.int .i64 0), .lit (.int .i64 9), .lit (.int .i64 8), .lit (.int .i64 7), .lit (.int .i64 6), .lit (.int .i64 5), .lit (.int .i64 4), .lit (.int .i64 3), .lit (.int .i64 2), .lit (.int .i64 1)]
def laid_loop_example_sortingoffice_impl_barsTable {H : Type} : DataW H := .agg [.lit (.string [124, 124, 46, 46, 46]), .lit (.string [46, 46, 46, 124, 124]), .lit (.string [46, 46, 124, 46, 124]), .lit (.string [46, 46, 124, 124, 46]), .lit (.string [46, 124, 46, 46, 124]), .lit (.string [46, 124, 46, 124, 46]), .lit (.string [46, 124, 124, 46, 46]), .lit (.string [124, 46, 46, 46, 124]), .lit (.string [124, 46, 46, 124, 46]), .lit (.string [124, 46, 124, 46, 46])]

/-- 'laws.FnCheckDigit': WHATEVER THE INPUT: true; the input reads as it did. -/
def fnCheckDigitSpec : ChangeSpec := { name := "fnCheckDigit", vars := ["loop.example/sortingoffice/impl.checkDigits"], fn := fun _ => fun
  | [d, g1] => { results := [.lit (.bool true)], args := [d], vars := [g1] }
  | _ => none }
def fnCheckDigitRow : OpenClaim := { program := "yteaekomdbiaemaadoor", sum := "892c95501c5bc8e9b3915a85c0789904b749c777fcad31ef9f37934dfe48b6a8", func := "loop.example/sortingoffice/laws.FnCheckDigit", spec := "fnCheckDigit", recurses := true, named := ["loop.example/sortingoffice/impl.checkDigits"], apart := false, laid := [("loop.example/sortingoffice/impl.checkDigits", laid_loop_example_sortingoffice_impl_checkDigits)] }
def FnCheckDigitSaid : Prop := fnCheckDigitRow.holds Tryd.pinned (OpenSpec.ofChange fnCheckDigitSpec)

/-- ITS FALSE NEIGHBOUR: 'it returns false'. Refute it at one input. -/
def fnCheckDigitWrong : ChangeSpec := { name := "fnCheckDigit", vars := ["loop.example/sortingoffice/impl.checkDigits"], fn := fun _ => fun
  | [d, g1] => { results := [.lit (.bool false)], args := [d], vars := [g1] }
  | _ => none }
def FnCheckDigitWrongFalsely : Prop := fnCheckDigitRow.holds Tryd.pinned (OpenSpec.ofChange fnCheckDigitWrong)

/-- 'laws.FnCheckValid': WHATEVER THE INPUT: true; the input reads as it did. -/
def fnCheckValidSpec : ChangeSpec := { name := "fnCheckValid", vars := ["loop.example/sortingoffice/impl.checkDigits"], fn := fun _ => fun
  | [d1, d2, g1] => { results := [.lit (.bool true)], args := [d1, d2], vars := [g1] }
  | _ => none }
def fnCheckValidRow : OpenClaim := { program := "yteaekomdbiaemaadoor", sum := "892c95501c5bc8e9b3915a85c0789904b749c777fcad31ef9f37934dfe48b6a8", func := "loop.example/sortingoffice/laws.FnCheckValid", spec := "fnCheckValid", recurses := true, named := ["loop.example/sortingoffice/impl.checkDigits"], apart := false, laid := [("loop.example/sortingoffice/impl.checkDigits", laid_loop_example_sortingoffice_impl_checkDigits)] }
def FnCheckValidSaid : Prop := fnCheckValidRow.holds Tryd.pinned (OpenSpec.ofChange fnCheckValidSpec)

/-- ITS FALSE NEIGHBOUR: 'it returns false'. Refute it at one input. -/
def fnCheckValidWrong : ChangeSpec := { name := "fnCheckValid", vars := ["loop.example/sortingoffice/impl.checkDigits"], fn := fun _ => fun
  | [d1, d2, g1] => { results := [.lit (.bool false)], args := [d1, d2], vars := [g1] }
  | _ => none }
def FnCheckValidWrongFalsely : Prop := fnCheckValidRow.holds Tryd.pinned (OpenSpec.ofChange fnCheckValidWrong)

/-- 'laws.FnDigitBars': WHATEVER THE INPUT: true; the input reads as it did. -/
def fnDigitBarsSpec : ChangeSpec := { name := "fnDigitBars", vars := ["loop.example/sortingoffice/impl.barsTable"], fn := fun _ => fun
  | [d, g1] => { results := [.lit (.bool true)], args := [d], vars := [g1] }
  | _ => none }
def fnDigitBarsRow : OpenClaim := { program := "yteaekomdbiaemaadoor", sum := "892c95501c5bc8e9b3915a85c0789904b749c777fcad31ef9f37934dfe48b6a8", func := "loop.example/sortingoffice/laws.FnDigitBars", spec := "fnDigitBars", named := ["loop.example/sortingoffice/impl.barsTable"], apart := false, laid := [("loop.example/sortingoffice/impl.barsTable", laid_loop_example_sortingoffice_impl_barsTable)] }
def FnDigitBarsSaid : Prop := fnDigitBarsRow.holds Tryd.pinned (OpenSpec.ofChange fnDigitBarsSpec)

/-- ITS FALSE NEIGHBOUR: 'it returns false'. Refute it at one input. -/
def fnDigitBarsWrong : ChangeSpec := { name := "fnDigitBars", vars := ["loop.example/sortingoffice/impl.barsTable"], fn := fun _ => fun
  | [d, g1] => { results := [.lit (.bool false)], args := [d], vars := [g1] }
  | _ => none }
def FnDigitBarsWrongFalsely : Prop := fnDigitBarsRow.holds Tryd.pinned (OpenSpec.ofChange fnDigitBarsWrong)

/-- 'laws.FnBarsDigit': WHATEVER THE INPUT: true; the input reads as it did. -/
def fnBarsDigitSpec : ChangeSpec := { name := "fnBarsDigit", vars := ["loop.example/sortingoffice/impl.barsTable"], fn := fun _ => fun
  | [d, g1] => { results := [.lit (.bool true)], args := [d], vars := [g1] }
  | _ => none }
def fnBarsDigitRow : OpenClaim := { program := "yteaekomdbiaemaadoor", sum := "892c95501c5bc8e9b3915a85c0789904b749c777fcad31ef9f37934dfe48b6a8", func := "loop.example/sortingoffice/laws.FnBarsDigit", spec := "fnBarsDigit", named := ["loop.example/sortingoffice/impl.barsTable"], apart := false, laid := [("loop.example/sortingoffice/impl.barsTable", laid_loop_example_sortingoffice_impl_barsTable)] }
def FnBarsDigitSaid : Prop := fnBarsDigitRow.holds Tryd.pinned (OpenSpec.ofChange fnBarsDigitSpec)

/-- ITS FALSE NEIGHBOUR: 'it returns false'. Refute it at one input. -/
def fnBarsDigitWrong : ChangeSpec := { name := "fnBarsDigit", vars := ["loop.example/sortingoffice/impl.barsTable"], fn := fun _ => fun
  | [d, g1] => { results := [.lit (.bool false)], args := [d], vars := [g1] }
  | _ => none }
def FnBarsDigitWrongFalsely : Prop := fnBarsDigitRow.holds Tryd.pinned (OpenSpec.ofChange fnBarsDigitWrong)

/-- 'laws.FnExactCheckDigit': WHATEVER THE INPUT: true; the input reads as it did. -/
def fnExactCheckDigitSpec : ChangeSpec := { name := "fnExactCheckDigit", vars := ["loop.example/sortingoffice/impl.checkDigits"], fn := fun _ => fun
  | [d, g1] => { results := [.lit (.bool true)], args := [d], vars := [g1] }
  | _ => none }
def fnExactCheckDigitRow : OpenClaim := { program := "yteaekomdbiaemaadoor", sum := "892c95501c5bc8e9b3915a85c0789904b749c777fcad31ef9f37934dfe48b6a8", func := "loop.example/sortingoffice/laws.FnExactCheckDigit", spec := "fnExactCheckDigit", named := ["loop.example/sortingoffice/impl.checkDigits"], apart := false, laid := [("loop.example/sortingoffice/impl.checkDigits", laid_loop_example_sortingoffice_impl_checkDigits)] }
def FnExactCheckDigitSaid : Prop := fnExactCheckDigitRow.holds Tryd.pinned (OpenSpec.ofChange fnExactCheckDigitSpec)

/-- ITS FALSE NEIGHBOUR: 'it returns false'. Refute it at one input. -/
def fnExactCheckDigitWrong : ChangeSpec := { name := "fnExactCheckDigit", vars := ["loop.example/sortingoffice/impl.checkDigits"], fn := fun _ => fun
  | [d, g1] => { results := [.lit (.bool false)], args := [d], vars := [g1] }
  | _ => none }
def FnExactCheckDigitWrongFalsely : Prop := fnExactCheckDigitRow.holds Tryd.pinned (OpenSpec.ofChange fnExactCheckDigitWrong)

/-- 'laws.FnExactCheckValid': WHATEVER THE INPUT: true; the input reads as it did. -/
def fnExactCheckValidSpec : ChangeSpec := { name := "fnExactCheckValid", vars := ["loop.example/sortingoffice/impl.checkDigits"], fn := fun _ => fun
  | [d, g1] => { results := [.lit (.bool true)], args := [d], vars := [g1] }
  | _ => none }
def fnExactCheckValidRow : OpenClaim := { program := "yteaekomdbiaemaadoor", sum := "892c95501c5bc8e9b3915a85c0789904b749c777fcad31ef9f37934dfe48b6a8", func := "loop.example/sortingoffice/laws.FnExactCheckValid", spec := "fnExactCheckValid", named := ["loop.example/sortingoffice/impl.checkDigits"], apart := false, laid := [("loop.example/sortingoffice/impl.checkDigits", laid_loop_example_sortingoffice_impl_checkDigits)] }
def FnExactCheckValidSaid : Prop := fnExactCheckValidRow.holds Tryd.pinned (OpenSpec.ofChange fnExactCheckValidSpec)

/-- ITS FALSE NEIGHBOUR: 'it returns false'. Refute it at one input. -/
def fnExactCheckValidWrong : ChangeSpec := { name := "fnExactCheckValid", vars := ["loop.example/sortingoffice/impl.checkDigits"], fn := fun _ => fun
  | [d, g1] => { results := [.lit (.bool false)], args := [d], vars := [g1] }
  | _ => none }
def FnExactCheckValidWrongFalsely : Prop := fnExactCheckValidRow.holds Tryd.pinned (OpenSpec.ofChange fnExactCheckValidWrong)

/-- 'laws.FnExactDigitBars': WHATEVER THE INPUT: true; the input reads as it did. -/
def fnExactDigitBarsSpec : ChangeSpec := { name := "fnExactDigitBars", vars := ["loop.example/sortingoffice/impl.barsTable"], fn := fun _ => fun
  | [d, g1] => { results := [.lit (.bool true)], args := [d], vars := [g1] }
  | _ => none }
def fnExactDigitBarsRow : OpenClaim := { program := "yteaekomdbiaemaadoor", sum := "892c95501c5bc8e9b3915a85c0789904b749c777fcad31ef9f37934dfe48b6a8", func := "loop.example/sortingoffice/laws.FnExactDigitBars", spec := "fnExactDigitBars", named := ["loop.example/sortingoffice/impl.barsTable"], apart := false, laid := [("loop.example/sortingoffice/impl.barsTable", laid_loop_example_sortingoffice_impl_barsTable)] }
def FnExactDigitBarsSaid : Prop := fnExactDigitBarsRow.holds Tryd.pinned (OpenSpec.ofChange fnExactDigitBarsSpec)

/-- ITS FALSE NEIGHBOUR: 'it returns false'. Refute it at one input. -/
def fnExactDigitBarsWrong : ChangeSpec := { name := "fnExactDigitBars", vars := ["loop.example/sortingoffice/impl.barsTable"], fn := fun _ => fun
  | [d, g1] => { results := [.lit (.bool false)], args := [d], vars := [g1] }
  | _ => none }
def FnExactDigitBarsWrongFalsely : Prop := fnExactDigitBarsRow.holds Tryd.pinned (OpenSpec.ofChange fnExactDigitBarsWrong)

/-- 'laws.FnExactBarsDigit': WHATEVER THE INPUT: true; the input reads as it did. -/
def fnExactBarsDigitSpec : ChangeSpec := { name := "fnExactBarsDigit", vars := ["loop.example/sortingoffice/impl.barsTable"], fn := fun _ => fun
  | [d, g1] => { results := [.lit (.bool true)], args := [d], vars := [g1] }
  | _ => none }
def fnExactBarsDigitRow : OpenClaim := { program := "yteaekomdbiaemaadoor", sum := "892c95501c5bc8e9b3915a85c0789904b749c777fcad31ef9f37934dfe48b6a8", func := "loop.example/sortingoffice/laws.FnExactBarsDigit", spec := "fnExactBarsDigit", named := ["loop.example/sortingoffice/impl.barsTable"], apart := false, laid := [("loop.example/sortingoffice/impl.barsTable", laid_loop_example_sortingoffice_impl_barsTable)] }
def FnExactBarsDigitSaid : Prop := fnExactBarsDigitRow.holds Tryd.pinned (OpenSpec.ofChange fnExactBarsDigitSpec)

/-- ITS FALSE NEIGHBOUR: 'it returns false'. Refute it at one input. -/
def fnExactBarsDigitWrong : ChangeSpec := { name := "fnExactBarsDigit", vars := ["loop.example/sortingoffice/impl.barsTable"], fn := fun _ => fun
  | [d, g1] => { results := [.lit (.bool false)], args := [d], vars := [g1] }
  | _ => none }
def FnExactBarsDigitWrongFalsely : Prop := fnExactBarsDigitRow.holds Tryd.pinned (OpenSpec.ofChange fnExactBarsDigitWrong)

/-- 'laws.FnExactBarsOf': WHATEVER THE INPUT: true; the input reads as it did. -/
def fnExactBarsOfSpec : ChangeSpec := { name := "fnExactBarsOf", vars := ["loop.example/sortingoffice/impl.barsTable", "loop.example/sortingoffice/impl.checkDigits"], fn := fun _ => fun
  | [d, g1, g2] => { results := [.lit (.bool true)], args := [d], vars := [g1, g2] }
  | _ => none }
def fnExactBarsOfRow : OpenClaim := { program := "yteaekomdbiaemaadoor", sum := "892c95501c5bc8e9b3915a85c0789904b749c777fcad31ef9f37934dfe48b6a8", func := "loop.example/sortingoffice/laws.FnExactBarsOf", spec := "fnExactBarsOf", named := ["loop.example/sortingoffice/impl.barsTable", "loop.example/sortingoffice/impl.checkDigits"], apart := false, laid := [("loop.example/sortingoffice/impl.checkDigits", laid_loop_example_sortingoffice_impl_checkDigits), ("loop.example/sortingoffice/impl.barsTable", laid_loop_example_sortingoffice_impl_barsTable)] }
def FnExactBarsOfSaid : Prop := fnExactBarsOfRow.holds Tryd.pinned (OpenSpec.ofChange fnExactBarsOfSpec)

/-- ITS FALSE NEIGHBOUR: 'it returns false'. Refute it at one input. -/
def fnExactBarsOfWrong : ChangeSpec := { name := "fnExactBarsOf", vars := ["loop.example/sortingoffice/impl.barsTable", "loop.example/sortingoffice/impl.checkDigits"], fn := fun _ => fun
  | [d, g1, g2] => { results := [.lit (.bool false)], args := [d], vars := [g1, g2] }
  | _ => none }
def FnExactBarsOfWrongFalsely : Prop := fnExactBarsOfRow.holds Tryd.pinned (OpenSpec.ofChange fnExactBarsOfWrong)

/- THE SECOND FORM. 'bulk': how many values and letters a reading holds, each counted each time it is reached (what is shared counts as often as it is met; a slice's spare places count too). A statement '..UptoSaid' is the law's where the arguments, and the package variables that the reading takes, are together of bulk at most 1048576: NARROWER than '..Said'. Prove '..Said' where nothing that the law and all that it calls make is longer than what came in: it says more and counts as full. Else prove '..UptoSaid'. A law counts once. -/
mutual
def uptoBulk {H : Type} : DataW H → Nat
  | .lit (.string bytes) => bytes.length + 1
  | .lit _ => 1
  | .nil => 1
  | .ptr d => uptoBulk d + 1
  | .slice elems spare => uptoBulkAll elems + uptoBulkAll spare + 1
  | .agg parts => uptoBulkAll parts + 1
  | .iface _ d => uptoBulk d + 1
  | .map entries => uptoBulkEntries entries + 1
  | .held _ => 1
def uptoBulkAll {H : Type} : List (DataW H) → Nat
  | [] => 0
  | d :: r => uptoBulk d + uptoBulkAll r
def uptoBulkEntries {H : Type} : List (Lit × DataW H) → Nat
  | [] => 0
  | x :: r => uptoBulkEntry x + uptoBulkEntries r
def uptoBulkEntry {H : Type} : Lit × DataW H → Nat
  | (.string bytes, d) => bytes.length + uptoBulk d + 1
  | (_, d) => uptoBulk d + 1
 end
def uptoSmall : (H : Type) → List (DataW H) → Bool := fun _ ds => decide (uptoBulkAll ds ≤ 1048576)
def OpenSpec.upto (s : _root_.Go.ChangeSpec) : _root_.Go.OpenSpec := { _root_.Go.OpenSpec.ofChange s with cond := some uptoSmall }

/-- 'laws.FnCheckDigit', WHERE WHAT IT READS IS OF BULK AT MOST 1048576: true; the input reads as it did. -/
def fnCheckDigitUptoRow : OpenClaim := { program := "yteaekomdbiaemaadoor", sum := "892c95501c5bc8e9b3915a85c0789904b749c777fcad31ef9f37934dfe48b6a8", func := "loop.example/sortingoffice/laws.FnCheckDigit", spec := "fnCheckDigit", recurses := true, named := ["loop.example/sortingoffice/impl.checkDigits"], apart := false, laid := [("loop.example/sortingoffice/impl.checkDigits", laid_loop_example_sortingoffice_impl_checkDigits)], narrowed := true }
def FnCheckDigitUptoSaid : Prop := fnCheckDigitUptoRow.holds Tryd.pinned (OpenSpec.upto fnCheckDigitSpec)

/-- 'laws.FnCheckValid', WHERE WHAT IT READS IS OF BULK AT MOST 1048576: true; the input reads as it did. -/
def fnCheckValidUptoRow : OpenClaim := { program := "yteaekomdbiaemaadoor", sum := "892c95501c5bc8e9b3915a85c0789904b749c777fcad31ef9f37934dfe48b6a8", func := "loop.example/sortingoffice/laws.FnCheckValid", spec := "fnCheckValid", recurses := true, named := ["loop.example/sortingoffice/impl.checkDigits"], apart := false, laid := [("loop.example/sortingoffice/impl.checkDigits", laid_loop_example_sortingoffice_impl_checkDigits)], narrowed := true }
def FnCheckValidUptoSaid : Prop := fnCheckValidUptoRow.holds Tryd.pinned (OpenSpec.upto fnCheckValidSpec)

/-- 'laws.FnDigitBars', WHERE WHAT IT READS IS OF BULK AT MOST 1048576: true; the input reads as it did. -/
def fnDigitBarsUptoRow : OpenClaim := { program := "yteaekomdbiaemaadoor", sum := "892c95501c5bc8e9b3915a85c0789904b749c777fcad31ef9f37934dfe48b6a8", func := "loop.example/sortingoffice/laws.FnDigitBars", spec := "fnDigitBars", named := ["loop.example/sortingoffice/impl.barsTable"], apart := false, laid := [("loop.example/sortingoffice/impl.barsTable", laid_loop_example_sortingoffice_impl_barsTable)], narrowed := true }
def FnDigitBarsUptoSaid : Prop := fnDigitBarsUptoRow.holds Tryd.pinned (OpenSpec.upto fnDigitBarsSpec)

/-- 'laws.FnBarsDigit', WHERE WHAT IT READS IS OF BULK AT MOST 1048576: true; the input reads as it did. -/
def fnBarsDigitUptoRow : OpenClaim := { program := "yteaekomdbiaemaadoor", sum := "892c95501c5bc8e9b3915a85c0789904b749c777fcad31ef9f37934dfe48b6a8", func := "loop.example/sortingoffice/laws.FnBarsDigit", spec := "fnBarsDigit", named := ["loop.example/sortingoffice/impl.barsTable"], apart := false, laid := [("loop.example/sortingoffice/impl.barsTable", laid_loop_example_sortingoffice_impl_barsTable)], narrowed := true }
def FnBarsDigitUptoSaid : Prop := fnBarsDigitUptoRow.holds Tryd.pinned (OpenSpec.upto fnBarsDigitSpec)

/-- 'laws.FnExactCheckDigit', WHERE WHAT IT READS IS OF BULK AT MOST 1048576: true; the input reads as it did. -/
def fnExactCheckDigitUptoRow : OpenClaim := { program := "yteaekomdbiaemaadoor", sum := "892c95501c5bc8e9b3915a85c0789904b749c777fcad31ef9f37934dfe48b6a8", func := "loop.example/sortingoffice/laws.FnExactCheckDigit", spec := "fnExactCheckDigit", named := ["loop.example/sortingoffice/impl.checkDigits"], apart := false, laid := [("loop.example/sortingoffice/impl.checkDigits", laid_loop_example_sortingoffice_impl_checkDigits)], narrowed := true }
def FnExactCheckDigitUptoSaid : Prop := fnExactCheckDigitUptoRow.holds Tryd.pinned (OpenSpec.upto fnExactCheckDigitSpec)

/-- 'laws.FnExactCheckValid', WHERE WHAT IT READS IS OF BULK AT MOST 1048576: true; the input reads as it did. -/
def fnExactCheckValidUptoRow : OpenClaim := { program := "yteaekomdbiaemaadoor", sum := "892c95501c5bc8e9b3915a85c0789904b749c777fcad31ef9f37934dfe48b6a8", func := "loop.example/sortingoffice/laws.FnExactCheckValid", spec := "fnExactCheckValid", named := ["loop.example/sortingoffice/impl.checkDigits"], apart := false, laid := [("loop.example/sortingoffice/impl.checkDigits", laid_loop_example_sortingoffice_impl_checkDigits)], narrowed := true }
def FnExactCheckValidUptoSaid : Prop := fnExactCheckValidUptoRow.holds Tryd.pinned (OpenSpec.upto fnExactCheckValidSpec)

/-- 'laws.FnExactDigitBars', WHERE WHAT IT READS IS OF BULK AT MOST 1048576: true; the input reads as it did. -/
def fnExactDigitBarsUptoRow : OpenClaim := { program := "yteaekomdbiaemaadoor", sum := "892c95501c5bc8e9b3915a85c0789904b749c777fcad31ef9f37934dfe48b6a8", func := "loop.example/sortingoffice/laws.FnExactDigitBars", spec := "fnExactDigitBars", named := ["loop.example/sortingoffice/impl.barsTable"], apart := false, laid := [("loop.example/sortingoffice/impl.barsTable", laid_loop_example_sortingoffice_impl_barsTable)], narrowed := true }
def FnExactDigitBarsUptoSaid : Prop := fnExactDigitBarsUptoRow.holds Tryd.pinned (OpenSpec.upto fnExactDigitBarsSpec)

/-- 'laws.FnExactBarsDigit', WHERE WHAT IT READS IS OF BULK AT MOST 1048576: true; the input reads as it did. -/
def fnExactBarsDigitUptoRow : OpenClaim := { program := "yteaekomdbiaemaadoor", sum := "892c95501c5bc8e9b3915a85c0789904b749c777fcad31ef9f37934dfe48b6a8", func := "loop.example/sortingoffice/laws.FnExactBarsDigit", spec := "fnExactBarsDigit", named := ["loop.example/sortingoffice/impl.barsTable"], apart := false, laid := [("loop.example/sortingoffice/impl.barsTable", laid_loop_example_sortingoffice_impl_barsTable)], narrowed := true }
def FnExactBarsDigitUptoSaid : Prop := fnExactBarsDigitUptoRow.holds Tryd.pinned (OpenSpec.upto fnExactBarsDigitSpec)

/-- 'laws.FnExactBarsOf', WHERE WHAT IT READS IS OF BULK AT MOST 1048576: true; the input reads as it did. -/
def fnExactBarsOfUptoRow : OpenClaim := { program := "yteaekomdbiaemaadoor", sum := "892c95501c5bc8e9b3915a85c0789904b749c777fcad31ef9f37934dfe48b6a8", func := "loop.example/sortingoffice/laws.FnExactBarsOf", spec := "fnExactBarsOf", named := ["loop.example/sortingoffice/impl.barsTable", "loop.example/sortingoffice/impl.checkDigits"], apart := false, laid := [("loop.example/sortingoffice/impl.checkDigits", laid_loop_example_sortingoffice_impl_checkDigits), ("loop.example/sortingoffice/impl.barsTable", laid_loop_example_sortingoffice_impl_barsTable)], narrowed := true }
def FnExactBarsOfUptoSaid : Prop := fnExactBarsOfUptoRow.holds Tryd.pinned (OpenSpec.upto fnExactBarsOfSpec)

end Rows
end Go.Proofs.YteaekomdbiaemaaDoor
