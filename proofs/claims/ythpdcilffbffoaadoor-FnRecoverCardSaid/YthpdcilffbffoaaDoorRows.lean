/-
  NARROWER THAN 'FOR EVERY INPUT', by the rows' own cells (each row's printed sentence says how): FnBarsRead: laid · FnReadBars: laid · FnReadEither: laid · FnRecover: laid · FnRecoverTrue: laid · FnExactReadBars: laid · FnExactReadEither: laid · FnExactRecoverBars: laid.
  DERIVED. THE GIVEN ROWS OF THIS SEAT. 8 by the template 'for every input the law returns true; each argument reads behind the call as it read before'; 0 by the template 'total and deterministic' (their statements: YthpdcilffbffoaaDoorTotals.lean).
  GIVEN WITH THE SEED: the statements are not yours to turn. If you find one false, say at which input.
  Laid BY PROGRAM, IN A SANDBOX (cutbox-rows.mjs): the forced cells as the released guide's own fill.sh prints them over the translation 9c128204bdc2e62b… (all of the seat's roots in one cut). By AI agents, Wed Nov 11 2026. No macro, syntax, notation, axiom, sorry.
-/
import Derived.Test.YthpdcilffbffoaaDoorChecked
import GoSem.Claim
import GoSem.ClaimJoined
import GoSem.ClaimMapViews
import Derived.JoinedTies
import Derived.KernelRfl
namespace Go.Proofs.YthpdcilffbffoaaDoor
/- THE CELL 'sum', in the pinned program and in every row, IS THE sha256 OF THE DUMP (.gsa) THAT YthpdcilffbffoaaDoorProg.lean LOADS. Nothing in Lean hashes anything: it is a label: what it is worth is what the hold of that sum in a sandbox is worth. -/
noncomputable def Tryd.pinned : Pinned := { name := "ythpdcilffbffoaadoor", sum := "9c128204bdc2e62be950e354373aa0492ff7b014bdad033079083569e4f1ea57", checked := Tryd.checked }
namespace Rows
def none {H : Type} : Left H := { results := [], args := [] }

/- WHAT THE LISTED PACKAGE-LEVEL VARIABLES READ AS WHEN THE CALL BEGINS. Each datum BY PROGRAM (the guide's laid-datum.mjs) off the statement by which the dump's own 'gosem.cut.vars' lays the variable. In a bare row this is a premise. The card (YthpdcilffbffoaaDoorCards.lean) ties it to the program's text. -/
def laid_math_bits_deBruijn32tab {H : Type} : DataW H := .agg [.lit (.int .u8 0), .lit (.int .u8 1), .lit (.int .u8 28), .lit (.int .u8 2), .lit (.int .u8 29), .lit (.int .u8 14), .lit (.int .u8 24), .lit (.int .u8 3), .lit (.int .u8 30), .lit (.int .u8 22), .lit (.int .u8 20), .lit (.int .u8 15), .lit (.int .u8 25), .lit (.int .u8 17), .lit (.int .u8 4), .lit (.int .u8 8), .lit (.int .u8 31), .lit (.int .u8 27), .lit (.int .u8 13), .lit (.int .u8 23), .lit (.int .u8 21), .lit (.int .u8 19), .lit (.int .u8 16), .lit (.int .u8 7), .lit (.int .u8 26), .lit (.int .u8 12), .lit (.int .u8 18), .lit (.int .u8 6), .lit (.int .u8 11), .lit (.int .u8 5), .lit (.int .u8 10), .lit (.int .u8 9)]
def laid_math_bits_deBruijn64tab {H : Type} : DataW H := .agg [.lit (.int .u8 0), .lit (.int .u8 1), .lit (.int .u8 56), .lit (.int .u8 2), .lit (.int .u8 57), .lit (.int .u8 49), .lit (.int .u8 28), .lit (.int .u8 3), .lit (.int .u8 61), .lit (.int .u8 58), .lit (.int .u8 42), .lit (.int .u8 50), .lit (.int .u8 38), .lit (.int .u8 29), .lit (.int .u8 17), .lit (.int .u8 4), .lit (.int .u8 62), .lit (.int .u8 47), .lit (.int .u8 59), .lit (.int .u8 36), .lit (.int .u8 45), .lit (.int .u8 43), .lit (.int .u8 51), .lit (.int .u8 22), .lit (.int .u8 53), .lit (.int .u8 39), .lit (.int .u8 33), .lit (.int .u8 30), .lit (.int .u8 24), .lit (.int .u8 18), .lit (.int .u8 12), .lit (.int .u8 5), .lit (.int .u8 63), .lit (.int .u8 55), .lit (.int .u8 48), .lit (.int .u8 27), .lit (.int .u8 60), .lit (.int .u8 41), .lit (.int .u8 37), .lit (.int .u8 16), .lit (.int .u8 46), .lit (.int .u8 35), .lit (.int .u8 44), .lit (.int .u8 21), .lit (.int .u8 52), .lit (.int .u8 32), .lit (.int .u8 23), .lit (.int .u8 11), .lit (.int .u8 54), .lit (.int .u8 26), .lit (.int .u8 40), .lit (.int .u8 15), .lit (.int .u8 34), .lit (.int .u8 20), .lit (.int .u8 31), .lit (.int .u8 10), .lit (.int .u8 25), .lit (.int .u8 14), .lit (.int .u8 19), .lit (.int .u8 9), .lit (.int .u8 13), .lit (.int .u8 8), .lit (.int .u8 7), .lit (.int .u8 6)]
def laid_internal_strconv_uint64pow10 {H : Type} : DataW H := .agg [.lit (.int .u64 1), .lit (.int .u64 10), .lit (.int .u64 100), .lit (.int .u64 1000), .lit (.int .u64 10000), .lit (.int .u64 100000), .lit (.int .u64 1000000), .lit (.int .u64 10000000), .lit (.int .u64 100000000), .lit (.int .u64 1000000000), .lit (.int .u64 10000000000), .lit (.int .u64 100000000000), .lit (.int .u64 1000000000000), .lit (.int .u64 10000000000000), .lit (.int .u64 100000000000000), .lit (.int .u64 1000000000000000), .lit (.int .u64 10000000000000000), .lit (.int .u64 100000000000000000), .lit (.int .u64 1000000000000000000), .lit (.int .u64 10000000000000000000)]
def laid_loop_example_sortingoffice_impl_checkDigits {H : Type} : DataW H := .agg [.lit (.int .i64 0), .lit (.int .i64 9), .lit (.int .i64 8), .lit (.int .i64 7), .lit (.int .i64 6), .lit (.int .i64 5), .lit (.int .i64 4), .lit (.int .i64 3), .lit (.int .i64 2), .lit (.int .i64 1)]
def laid_loop_example_sortingoffice_impl_barsTable {H : Type} : DataW H := .agg [.lit (.string [124, 124, 46, 46, 46]), .lit (.string [46, 46, 46, 124, 124]), .lit (.string [46, 46, 124, 46, 124]), .lit (.string [46, 46, 124, 124, 46]), .lit (.string [46, 124, 46, 46, 124]), .lit (.string [46, 124, 46, 124, 46]), .lit (.string [46, 124, 124, 46, 46]), .lit (.string [124, 46, 46, 46, 124]), .lit (.string [124, 46, 46, 124, 46]), .lit (.string [124, 46, 124, 46, 46])]

/-- 'laws.FnBarsRead': WHATEVER THE INPUT: true; the input reads as it did. -/
def fnBarsReadSpec : ChangeSpec := { name := "fnBarsRead", vars := ["loop.example/sortingoffice/impl.barsTable", "loop.example/sortingoffice/impl.checkDigits"], fn := fun _ => fun
  | [d, g1, g2] => { results := [.lit (.bool true)], args := [d], vars := [g1, g2] }
  | _ => none }
def fnBarsReadRow : OpenClaim := { program := "ythpdcilffbffoaadoor", sum := "9c128204bdc2e62be950e354373aa0492ff7b014bdad033079083569e4f1ea57", func := "loop.example/sortingoffice/laws.FnBarsRead", spec := "fnBarsRead", recurses := true, named := ["loop.example/sortingoffice/impl.barsTable", "loop.example/sortingoffice/impl.checkDigits", "internal/strconv.uint64pow10", "math/bits.deBruijn32tab", "math/bits.deBruijn64tab"], apart := false, laid := [("math/bits.deBruijn32tab", laid_math_bits_deBruijn32tab), ("math/bits.deBruijn64tab", laid_math_bits_deBruijn64tab), ("internal/strconv.uint64pow10", laid_internal_strconv_uint64pow10), ("loop.example/sortingoffice/impl.checkDigits", laid_loop_example_sortingoffice_impl_checkDigits), ("loop.example/sortingoffice/impl.barsTable", laid_loop_example_sortingoffice_impl_barsTable)] }
def FnBarsReadSaid : Prop := fnBarsReadRow.holds Tryd.pinned (OpenSpec.ofChange fnBarsReadSpec)

/-- ITS FALSE NEIGHBOUR: 'it returns false'. Refute it at one input. -/
def fnBarsReadWrong : ChangeSpec := { name := "fnBarsRead", vars := ["loop.example/sortingoffice/impl.barsTable", "loop.example/sortingoffice/impl.checkDigits"], fn := fun _ => fun
  | [d, g1, g2] => { results := [.lit (.bool false)], args := [d], vars := [g1, g2] }
  | _ => none }
def FnBarsReadWrongFalsely : Prop := fnBarsReadRow.holds Tryd.pinned (OpenSpec.ofChange fnBarsReadWrong)

/-- 'laws.FnReadBars': WHATEVER THE INPUT: true; the input reads as it did. -/
def fnReadBarsSpec : ChangeSpec := { name := "fnReadBars", vars := ["loop.example/sortingoffice/impl.barsTable", "loop.example/sortingoffice/impl.checkDigits"], fn := fun _ => fun
  | [d, g1, g2] => { results := [.lit (.bool true)], args := [d], vars := [g1, g2] }
  | _ => none }
def fnReadBarsRow : OpenClaim := { program := "ythpdcilffbffoaadoor", sum := "9c128204bdc2e62be950e354373aa0492ff7b014bdad033079083569e4f1ea57", func := "loop.example/sortingoffice/laws.FnReadBars", spec := "fnReadBars", recurses := true, named := ["loop.example/sortingoffice/impl.barsTable", "loop.example/sortingoffice/impl.checkDigits", "internal/strconv.uint64pow10", "math/bits.deBruijn32tab", "math/bits.deBruijn64tab"], apart := false, laid := [("math/bits.deBruijn32tab", laid_math_bits_deBruijn32tab), ("math/bits.deBruijn64tab", laid_math_bits_deBruijn64tab), ("internal/strconv.uint64pow10", laid_internal_strconv_uint64pow10), ("loop.example/sortingoffice/impl.checkDigits", laid_loop_example_sortingoffice_impl_checkDigits), ("loop.example/sortingoffice/impl.barsTable", laid_loop_example_sortingoffice_impl_barsTable)] }
def FnReadBarsSaid : Prop := fnReadBarsRow.holds Tryd.pinned (OpenSpec.ofChange fnReadBarsSpec)

/-- ITS FALSE NEIGHBOUR: 'it returns false'. Refute it at one input. -/
def fnReadBarsWrong : ChangeSpec := { name := "fnReadBars", vars := ["loop.example/sortingoffice/impl.barsTable", "loop.example/sortingoffice/impl.checkDigits"], fn := fun _ => fun
  | [d, g1, g2] => { results := [.lit (.bool false)], args := [d], vars := [g1, g2] }
  | _ => none }
def FnReadBarsWrongFalsely : Prop := fnReadBarsRow.holds Tryd.pinned (OpenSpec.ofChange fnReadBarsWrong)

/-- 'laws.FnReadEither': WHATEVER THE INPUT: true; the input reads as it did. -/
def fnReadEitherSpec : ChangeSpec := { name := "fnReadEither", vars := ["loop.example/sortingoffice/impl.barsTable", "loop.example/sortingoffice/impl.checkDigits"], fn := fun _ => fun
  | [d, g1, g2] => { results := [.lit (.bool true)], args := [d], vars := [g1, g2] }
  | _ => none }
def fnReadEitherRow : OpenClaim := { program := "ythpdcilffbffoaadoor", sum := "9c128204bdc2e62be950e354373aa0492ff7b014bdad033079083569e4f1ea57", func := "loop.example/sortingoffice/laws.FnReadEither", spec := "fnReadEither", recurses := true, named := ["loop.example/sortingoffice/impl.barsTable", "loop.example/sortingoffice/impl.checkDigits", "internal/strconv.uint64pow10", "math/bits.deBruijn32tab", "math/bits.deBruijn64tab"], apart := false, laid := [("math/bits.deBruijn32tab", laid_math_bits_deBruijn32tab), ("math/bits.deBruijn64tab", laid_math_bits_deBruijn64tab), ("internal/strconv.uint64pow10", laid_internal_strconv_uint64pow10), ("loop.example/sortingoffice/impl.checkDigits", laid_loop_example_sortingoffice_impl_checkDigits), ("loop.example/sortingoffice/impl.barsTable", laid_loop_example_sortingoffice_impl_barsTable)] }
def FnReadEitherSaid : Prop := fnReadEitherRow.holds Tryd.pinned (OpenSpec.ofChange fnReadEitherSpec)

/-- ITS FALSE NEIGHBOUR: 'it returns false'. Refute it at one input. -/
def fnReadEitherWrong : ChangeSpec := { name := "fnReadEither", vars := ["loop.example/sortingoffice/impl.barsTable", "loop.example/sortingoffice/impl.checkDigits"], fn := fun _ => fun
  | [d, g1, g2] => { results := [.lit (.bool false)], args := [d], vars := [g1, g2] }
  | _ => none }
def FnReadEitherWrongFalsely : Prop := fnReadEitherRow.holds Tryd.pinned (OpenSpec.ofChange fnReadEitherWrong)

/-- 'laws.FnRecover': WHATEVER THE INPUT: true; the input reads as it did. -/
def fnRecoverSpec : ChangeSpec := { name := "fnRecover", vars := ["loop.example/sortingoffice/impl.barsTable", "loop.example/sortingoffice/impl.checkDigits"], fn := fun _ => fun
  | [d1, d2, g1, g2] => { results := [.lit (.bool true)], args := [d1, d2], vars := [g1, g2] }
  | _ => none }
def fnRecoverRow : OpenClaim := { program := "ythpdcilffbffoaadoor", sum := "9c128204bdc2e62be950e354373aa0492ff7b014bdad033079083569e4f1ea57", func := "loop.example/sortingoffice/laws.FnRecover", spec := "fnRecover", recurses := true, named := ["loop.example/sortingoffice/impl.barsTable", "loop.example/sortingoffice/impl.checkDigits", "internal/strconv.uint64pow10", "math/bits.deBruijn32tab", "math/bits.deBruijn64tab"], apart := false, laid := [("math/bits.deBruijn32tab", laid_math_bits_deBruijn32tab), ("math/bits.deBruijn64tab", laid_math_bits_deBruijn64tab), ("internal/strconv.uint64pow10", laid_internal_strconv_uint64pow10), ("loop.example/sortingoffice/impl.checkDigits", laid_loop_example_sortingoffice_impl_checkDigits), ("loop.example/sortingoffice/impl.barsTable", laid_loop_example_sortingoffice_impl_barsTable)] }
def FnRecoverSaid : Prop := fnRecoverRow.holds Tryd.pinned (OpenSpec.ofChange fnRecoverSpec)

/-- ITS FALSE NEIGHBOUR: 'it returns false'. Refute it at one input. -/
def fnRecoverWrong : ChangeSpec := { name := "fnRecover", vars := ["loop.example/sortingoffice/impl.barsTable", "loop.example/sortingoffice/impl.checkDigits"], fn := fun _ => fun
  | [d1, d2, g1, g2] => { results := [.lit (.bool false)], args := [d1, d2], vars := [g1, g2] }
  | _ => none }
def FnRecoverWrongFalsely : Prop := fnRecoverRow.holds Tryd.pinned (OpenSpec.ofChange fnRecoverWrong)

/-- 'laws.FnRecoverTrue': WHATEVER THE INPUT: true; the input reads as it did. -/
def fnRecoverTrueSpec : ChangeSpec := { name := "fnRecoverTrue", vars := ["loop.example/sortingoffice/impl.barsTable", "loop.example/sortingoffice/impl.checkDigits"], fn := fun _ => fun
  | [d, g1, g2] => { results := [.lit (.bool true)], args := [d], vars := [g1, g2] }
  | _ => none }
def fnRecoverTrueRow : OpenClaim := { program := "ythpdcilffbffoaadoor", sum := "9c128204bdc2e62be950e354373aa0492ff7b014bdad033079083569e4f1ea57", func := "loop.example/sortingoffice/laws.FnRecoverTrue", spec := "fnRecoverTrue", recurses := true, named := ["loop.example/sortingoffice/impl.barsTable", "loop.example/sortingoffice/impl.checkDigits", "internal/strconv.uint64pow10", "math/bits.deBruijn32tab", "math/bits.deBruijn64tab"], apart := false, laid := [("math/bits.deBruijn32tab", laid_math_bits_deBruijn32tab), ("math/bits.deBruijn64tab", laid_math_bits_deBruijn64tab), ("internal/strconv.uint64pow10", laid_internal_strconv_uint64pow10), ("loop.example/sortingoffice/impl.checkDigits", laid_loop_example_sortingoffice_impl_checkDigits), ("loop.example/sortingoffice/impl.barsTable", laid_loop_example_sortingoffice_impl_barsTable)] }
def FnRecoverTrueSaid : Prop := fnRecoverTrueRow.holds Tryd.pinned (OpenSpec.ofChange fnRecoverTrueSpec)

/-- ITS FALSE NEIGHBOUR: 'it returns false'. Refute it at one input. -/
def fnRecoverTrueWrong : ChangeSpec := { name := "fnRecoverTrue", vars := ["loop.example/sortingoffice/impl.barsTable", "loop.example/sortingoffice/impl.checkDigits"], fn := fun _ => fun
  | [d, g1, g2] => { results := [.lit (.bool false)], args := [d], vars := [g1, g2] }
  | _ => none }
def FnRecoverTrueWrongFalsely : Prop := fnRecoverTrueRow.holds Tryd.pinned (OpenSpec.ofChange fnRecoverTrueWrong)

/-- 'laws.FnExactReadBars': WHATEVER THE INPUT: true; the input reads as it did. -/
def fnExactReadBarsSpec : ChangeSpec := { name := "fnExactReadBars", vars := ["loop.example/sortingoffice/impl.barsTable", "loop.example/sortingoffice/impl.checkDigits"], fn := fun _ => fun
  | [d, g1, g2] => { results := [.lit (.bool true)], args := [d], vars := [g1, g2] }
  | _ => none }
def fnExactReadBarsRow : OpenClaim := { program := "ythpdcilffbffoaadoor", sum := "9c128204bdc2e62be950e354373aa0492ff7b014bdad033079083569e4f1ea57", func := "loop.example/sortingoffice/laws.FnExactReadBars", spec := "fnExactReadBars", recurses := true, named := ["loop.example/sortingoffice/impl.barsTable", "loop.example/sortingoffice/impl.checkDigits", "internal/strconv.uint64pow10", "math/bits.deBruijn32tab", "math/bits.deBruijn64tab"], apart := false, laid := [("math/bits.deBruijn32tab", laid_math_bits_deBruijn32tab), ("math/bits.deBruijn64tab", laid_math_bits_deBruijn64tab), ("internal/strconv.uint64pow10", laid_internal_strconv_uint64pow10), ("loop.example/sortingoffice/impl.checkDigits", laid_loop_example_sortingoffice_impl_checkDigits), ("loop.example/sortingoffice/impl.barsTable", laid_loop_example_sortingoffice_impl_barsTable)] }
def FnExactReadBarsSaid : Prop := fnExactReadBarsRow.holds Tryd.pinned (OpenSpec.ofChange fnExactReadBarsSpec)

/-- ITS FALSE NEIGHBOUR: 'it returns false'. Refute it at one input. -/
def fnExactReadBarsWrong : ChangeSpec := { name := "fnExactReadBars", vars := ["loop.example/sortingoffice/impl.barsTable", "loop.example/sortingoffice/impl.checkDigits"], fn := fun _ => fun
  | [d, g1, g2] => { results := [.lit (.bool false)], args := [d], vars := [g1, g2] }
  | _ => none }
def FnExactReadBarsWrongFalsely : Prop := fnExactReadBarsRow.holds Tryd.pinned (OpenSpec.ofChange fnExactReadBarsWrong)

/-- 'laws.FnExactReadEither': WHATEVER THE INPUT: true; the input reads as it did. -/
def fnExactReadEitherSpec : ChangeSpec := { name := "fnExactReadEither", vars := ["loop.example/sortingoffice/impl.barsTable", "loop.example/sortingoffice/impl.checkDigits"], fn := fun _ => fun
  | [d, g1, g2] => { results := [.lit (.bool true)], args := [d], vars := [g1, g2] }
  | _ => none }
def fnExactReadEitherRow : OpenClaim := { program := "ythpdcilffbffoaadoor", sum := "9c128204bdc2e62be950e354373aa0492ff7b014bdad033079083569e4f1ea57", func := "loop.example/sortingoffice/laws.FnExactReadEither", spec := "fnExactReadEither", recurses := true, named := ["loop.example/sortingoffice/impl.barsTable", "loop.example/sortingoffice/impl.checkDigits", "internal/strconv.uint64pow10", "math/bits.deBruijn32tab", "math/bits.deBruijn64tab"], apart := false, laid := [("math/bits.deBruijn32tab", laid_math_bits_deBruijn32tab), ("math/bits.deBruijn64tab", laid_math_bits_deBruijn64tab), ("internal/strconv.uint64pow10", laid_internal_strconv_uint64pow10), ("loop.example/sortingoffice/impl.checkDigits", laid_loop_example_sortingoffice_impl_checkDigits), ("loop.example/sortingoffice/impl.barsTable", laid_loop_example_sortingoffice_impl_barsTable)] }
def FnExactReadEitherSaid : Prop := fnExactReadEitherRow.holds Tryd.pinned (OpenSpec.ofChange fnExactReadEitherSpec)

/-- ITS FALSE NEIGHBOUR: 'it returns false'. Refute it at one input. -/
def fnExactReadEitherWrong : ChangeSpec := { name := "fnExactReadEither", vars := ["loop.example/sortingoffice/impl.barsTable", "loop.example/sortingoffice/impl.checkDigits"], fn := fun _ => fun
  | [d, g1, g2] => { results := [.lit (.bool false)], args := [d], vars := [g1, g2] }
  | _ => none }
def FnExactReadEitherWrongFalsely : Prop := fnExactReadEitherRow.holds Tryd.pinned (OpenSpec.ofChange fnExactReadEitherWrong)

/-- 'laws.FnExactRecoverBars': WHATEVER THE INPUT: true; the input reads as it did. -/
def fnExactRecoverBarsSpec : ChangeSpec := { name := "fnExactRecoverBars", vars := ["loop.example/sortingoffice/impl.barsTable", "loop.example/sortingoffice/impl.checkDigits"], fn := fun _ => fun
  | [d, g1, g2] => { results := [.lit (.bool true)], args := [d], vars := [g1, g2] }
  | _ => none }
def fnExactRecoverBarsRow : OpenClaim := { program := "ythpdcilffbffoaadoor", sum := "9c128204bdc2e62be950e354373aa0492ff7b014bdad033079083569e4f1ea57", func := "loop.example/sortingoffice/laws.FnExactRecoverBars", spec := "fnExactRecoverBars", recurses := true, named := ["loop.example/sortingoffice/impl.barsTable", "loop.example/sortingoffice/impl.checkDigits", "internal/strconv.uint64pow10", "math/bits.deBruijn32tab", "math/bits.deBruijn64tab"], apart := false, laid := [("math/bits.deBruijn32tab", laid_math_bits_deBruijn32tab), ("math/bits.deBruijn64tab", laid_math_bits_deBruijn64tab), ("internal/strconv.uint64pow10", laid_internal_strconv_uint64pow10), ("loop.example/sortingoffice/impl.checkDigits", laid_loop_example_sortingoffice_impl_checkDigits), ("loop.example/sortingoffice/impl.barsTable", laid_loop_example_sortingoffice_impl_barsTable)] }
def FnExactRecoverBarsSaid : Prop := fnExactRecoverBarsRow.holds Tryd.pinned (OpenSpec.ofChange fnExactRecoverBarsSpec)

/-- ITS FALSE NEIGHBOUR: 'it returns false'. Refute it at one input. -/
def fnExactRecoverBarsWrong : ChangeSpec := { name := "fnExactRecoverBars", vars := ["loop.example/sortingoffice/impl.barsTable", "loop.example/sortingoffice/impl.checkDigits"], fn := fun _ => fun
  | [d, g1, g2] => { results := [.lit (.bool false)], args := [d], vars := [g1, g2] }
  | _ => none }
def FnExactRecoverBarsWrongFalsely : Prop := fnExactRecoverBarsRow.holds Tryd.pinned (OpenSpec.ofChange fnExactRecoverBarsWrong)

/- THE SECOND FORM. 'bulk': how many values and letters a reading holds, each counted each time it is reached (what is shared counts as often as it is met; a slice's spare places count too). A statement '..UptoSaid' is the law's where the arguments, and the package variables that the reading takes, are together of bulk at most 1048576: NARROWER than '..Said'. Prove '..Said' where nothing that the law and all that it calls make is longer than what came in: it says more and counts as full. Else prove '..UptoSaid'. A law counts once. -/
mutual
def uptoBulk {H : Type} : DataW H → Nat
  | .lit (.string bytes) => bytes.length + 1
  | .lit _ => 1
  | .nil => 1
  | .ptr d => uptoBulk d + 1
  | .slice elems spare => uptoBulkAll elems + uptoBulkAll spare + 1
  | .agg parts => uptoBulkAll parts + 1
  | .iface _ d => uptoBulk d + 1
  | .map entries => uptoBulkEntries entries + 1
  | .held _ => 1
def uptoBulkAll {H : Type} : List (DataW H) → Nat
  | [] => 0
  | d :: r => uptoBulk d + uptoBulkAll r
def uptoBulkEntries {H : Type} : List (Lit × DataW H) → Nat
  | [] => 0
  | x :: r => uptoBulkEntry x + uptoBulkEntries r
def uptoBulkEntry {H : Type} : Lit × DataW H → Nat
  | (.string bytes, d) => bytes.length + uptoBulk d + 1
  | (_, d) => uptoBulk d + 1
 end
def uptoSmall : (H : Type) → List (DataW H) → Bool := fun _ ds => decide (uptoBulkAll ds ≤ 1048576)
def OpenSpec.upto (s : _root_.Go.ChangeSpec) : _root_.Go.OpenSpec := { _root_.Go.OpenSpec.ofChange s with cond := some uptoSmall }

/-- 'laws.FnBarsRead', WHERE WHAT IT READS IS OF BULK AT MOST 1048576: true; the input reads as it did. -/
def fnBarsReadUptoRow : OpenClaim := { program := "ythpdcilffbffoaadoor", sum := "9c128204bdc2e62be950e354373aa0492ff7b014bdad033079083569e4f1ea57", func := "loop.example/sortingoffice/laws.FnBarsRead", spec := "fnBarsRead", recurses := true, named := ["loop.example/sortingoffice/impl.barsTable", "loop.example/sortingoffice/impl.checkDigits", "internal/strconv.uint64pow10", "math/bits.deBruijn32tab", "math/bits.deBruijn64tab"], apart := false, laid := [("math/bits.deBruijn32tab", laid_math_bits_deBruijn32tab), ("math/bits.deBruijn64tab", laid_math_bits_deBruijn64tab), ("internal/strconv.uint64pow10", laid_internal_strconv_uint64pow10), ("loop.example/sortingoffice/impl.checkDigits", laid_loop_example_sortingoffice_impl_checkDigits), ("loop.example/sortingoffice/impl.barsTable", laid_loop_example_sortingoffice_impl_barsTable)], narrowed := true }
def FnBarsReadUptoSaid : Prop := fnBarsReadUptoRow.holds Tryd.pinned (OpenSpec.upto fnBarsReadSpec)

/-- 'laws.FnReadBars', WHERE WHAT IT READS IS OF BULK AT MOST 1048576: true; the input reads as it did. -/
def fnReadBarsUptoRow : OpenClaim := { program := "ythpdcilffbffoaadoor", sum := "9c128204bdc2e62be950e354373aa0492ff7b014bdad033079083569e4f1ea57", func := "loop.example/sortingoffice/laws.FnReadBars", spec := "fnReadBars", recurses := true, named := ["loop.example/sortingoffice/impl.barsTable", "loop.example/sortingoffice/impl.checkDigits", "internal/strconv.uint64pow10", "math/bits.deBruijn32tab", "math/bits.deBruijn64tab"], apart := false, laid := [("math/bits.deBruijn32tab", laid_math_bits_deBruijn32tab), ("math/bits.deBruijn64tab", laid_math_bits_deBruijn64tab), ("internal/strconv.uint64pow10", laid_internal_strconv_uint64pow10), ("loop.example/sortingoffice/impl.checkDigits", laid_loop_example_sortingoffice_impl_checkDigits), ("loop.example/sortingoffice/impl.barsTable", laid_loop_example_sortingoffice_impl_barsTable)], narrowed := true }
def FnReadBarsUptoSaid : Prop := fnReadBarsUptoRow.holds Tryd.pinned (OpenSpec.upto fnReadBarsSpec)

/-- 'laws.FnReadEither', WHERE WHAT IT READS IS OF BULK AT MOST 1048576: true; the input reads as it did. -/
def fnReadEitherUptoRow : OpenClaim := { program := "ythpdcilffbffoaadoor", sum := "9c128204bdc2e62be950e354373aa0492ff7b014bdad033079083569e4f1ea57", func := "loop.example/sortingoffice/laws.FnReadEither", spec := "fnReadEither", recurses := true, named := ["loop.example/sortingoffice/impl.barsTable", "loop.example/sortingoffice/impl.checkDigits", "internal/strconv.uint64pow10", "math/bits.deBruijn32tab", "math/bits.deBruijn64tab"], apart := false, laid := [("math/bits.deBruijn32tab", laid_math_bits_deBruijn32tab), ("math/bits.deBruijn64tab", laid_math_bits_deBruijn64tab), ("internal/strconv.uint64pow10", laid_internal_strconv_uint64pow10), ("loop.example/sortingoffice/impl.checkDigits", laid_loop_example_sortingoffice_impl_checkDigits), ("loop.example/sortingoffice/impl.barsTable", laid_loop_example_sortingoffice_impl_barsTable)], narrowed := true }
def FnReadEitherUptoSaid : Prop := fnReadEitherUptoRow.holds Tryd.pinned (OpenSpec.upto fnReadEitherSpec)

/-- 'laws.FnRecover', WHERE WHAT IT READS IS OF BULK AT MOST 1048576: true; the input reads as it did. -/
def fnRecoverUptoRow : OpenClaim := { program := "ythpdcilffbffoaadoor", sum := "9c128204bdc2e62be950e354373aa0492ff7b014bdad033079083569e4f1ea57", func := "loop.example/sortingoffice/laws.FnRecover", spec := "fnRecover", recurses := true, named := ["loop.example/sortingoffice/impl.barsTable", "loop.example/sortingoffice/impl.checkDigits", "internal/strconv.uint64pow10", "math/bits.deBruijn32tab", "math/bits.deBruijn64tab"], apart := false, laid := [("math/bits.deBruijn32tab", laid_math_bits_deBruijn32tab), ("math/bits.deBruijn64tab", laid_math_bits_deBruijn64tab), ("internal/strconv.uint64pow10", laid_internal_strconv_uint64pow10), ("loop.example/sortingoffice/impl.checkDigits", laid_loop_example_sortingoffice_impl_checkDigits), ("loop.example/sortingoffice/impl.barsTable", laid_loop_example_sortingoffice_impl_barsTable)], narrowed := true }
def FnRecoverUptoSaid : Prop := fnRecoverUptoRow.holds Tryd.pinned (OpenSpec.upto fnRecoverSpec)

/-- 'laws.FnRecoverTrue', WHERE WHAT IT READS IS OF BULK AT MOST 1048576: true; the input reads as it did. -/
def fnRecoverTrueUptoRow : OpenClaim := { program := "ythpdcilffbffoaadoor", sum := "9c128204bdc2e62be950e354373aa0492ff7b014bdad033079083569e4f1ea57", func := "loop.example/sortingoffice/laws.FnRecoverTrue", spec := "fnRecoverTrue", recurses := true, named := ["loop.example/sortingoffice/impl.barsTable", "loop.example/sortingoffice/impl.checkDigits", "internal/strconv.uint64pow10", "math/bits.deBruijn32tab", "math/bits.deBruijn64tab"], apart := false, laid := [("math/bits.deBruijn32tab", laid_math_bits_deBruijn32tab), ("math/bits.deBruijn64tab", laid_math_bits_deBruijn64tab), ("internal/strconv.uint64pow10", laid_internal_strconv_uint64pow10), ("loop.example/sortingoffice/impl.checkDigits", laid_loop_example_sortingoffice_impl_checkDigits), ("loop.example/sortingoffice/impl.barsTable", laid_loop_example_sortingoffice_impl_barsTable)], narrowed := true }
def FnRecoverTrueUptoSaid : Prop := fnRecoverTrueUptoRow.holds Tryd.pinned (OpenSpec.upto fnRecoverTrueSpec)

/-- 'laws.FnExactReadBars', WHERE WHAT IT READS IS OF BULK AT MOST 1048576: true; the input reads as it did. -/
def fnExactReadBarsUptoRow : OpenClaim := { program := "ythpdcilffbffoaadoor", sum := "9c128204bdc2e62be950e354373aa0492ff7b014bdad033079083569e4f1ea57", func := "loop.example/sortingoffice/laws.FnExactReadBars", spec := "fnExactReadBars", recurses := true, named := ["loop.example/sortingoffice/impl.barsTable", "loop.example/sortingoffice/impl.checkDigits", "internal/strconv.uint64pow10", "math/bits.deBruijn32tab", "math/bits.deBruijn64tab"], apart := false, laid := [("math/bits.deBruijn32tab", laid_math_bits_deBruijn32tab), ("math/bits.deBruijn64tab", laid_math_bits_deBruijn64tab), ("internal/strconv.uint64pow10", laid_internal_strconv_uint64pow10), ("loop.example/sortingoffice/impl.checkDigits", laid_loop_example_sortingoffice_impl_checkDigits), ("loop.example/sortingoffice/impl.barsTable", laid_loop_example_sortingoffice_impl_barsTable)], narrowed := true }
def FnExactReadBarsUptoSaid : Prop := fnExactReadBarsUptoRow.holds Tryd.pinned (OpenSpec.upto fnExactReadBarsSpec)

/-- 'laws.FnExactReadEither', WHERE WHAT IT READS IS OF BULK AT MOST 1048576: true; the input reads as it did. -/
def fnExactReadEitherUptoRow : OpenClaim := { program := "ythpdcilffbffoaadoor", sum := "9c128204bdc2e62be950e354373aa0492ff7b014bdad033079083569e4f1ea57", func := "loop.example/sortingoffice/laws.FnExactReadEither", spec := "fnExactReadEither", recurses := true, named := ["loop.example/sortingoffice/impl.barsTable", "loop.example/sortingoffice/impl.checkDigits", "internal/strconv.uint64pow10", "math/bits.deBruijn32tab", "math/bits.deBruijn64tab"], apart := false, laid := [("math/bits.deBruijn32tab", laid_math_bits_deBruijn32tab), ("math/bits.deBruijn64tab", laid_math_bits_deBruijn64tab), ("internal/strconv.uint64pow10", laid_internal_strconv_uint64pow10), ("loop.example/sortingoffice/impl.checkDigits", laid_loop_example_sortingoffice_impl_checkDigits), ("loop.example/sortingoffice/impl.barsTable", laid_loop_example_sortingoffice_impl_barsTable)], narrowed := true }
def FnExactReadEitherUptoSaid : Prop := fnExactReadEitherUptoRow.holds Tryd.pinned (OpenSpec.upto fnExactReadEitherSpec)

/-- 'laws.FnExactRecoverBars', WHERE WHAT IT READS IS OF BULK AT MOST 1048576: true; the input reads as it did. -/
def fnExactRecoverBarsUptoRow : OpenClaim := { program := "ythpdcilffbffoaadoor", sum := "9c128204bdc2e62be950e354373aa0492ff7b014bdad033079083569e4f1ea57", func := "loop.example/sortingoffice/laws.FnExactRecoverBars", spec := "fnExactRecoverBars", recurses := true, named := ["loop.example/sortingoffice/impl.barsTable", "loop.example/sortingoffice/impl.checkDigits", "internal/strconv.uint64pow10", "math/bits.deBruijn32tab", "math/bits.deBruijn64tab"], apart := false, laid := [("math/bits.deBruijn32tab", laid_math_bits_deBruijn32tab), ("math/bits.deBruijn64tab", laid_math_bits_deBruijn64tab), ("internal/strconv.uint64pow10", laid_internal_strconv_uint64pow10), ("loop.example/sortingoffice/impl.checkDigits", laid_loop_example_sortingoffice_impl_checkDigits), ("loop.example/sortingoffice/impl.barsTable", laid_loop_example_sortingoffice_impl_barsTable)], narrowed := true }
def FnExactRecoverBarsUptoSaid : Prop := fnExactRecoverBarsUptoRow.holds Tryd.pinned (OpenSpec.upto fnExactRecoverBarsSpec)

end Rows
end Go.Proofs.YthpdcilffbffoaaDoor
