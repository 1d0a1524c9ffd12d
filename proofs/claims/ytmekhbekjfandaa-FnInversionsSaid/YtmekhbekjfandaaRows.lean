/-
  No cell of these rows narrows 'for every input' (looked for: loops, veiled, ifaces, maps, wideKeys, modest, calm, conditions, laid).
  DERIVED. THE GIVEN ROWS OF THIS SEAT. 5 by the template 'for every input the law returns true; each argument reads behind the call as it read before'; 0 by the template 'total and deterministic' (their statements: YtmekhbekjfandaaTotals.lean).
  GIVEN WITH THE SEED: the statements are not yours to turn. If you find one false, say at which input.
  Laid BY PROGRAM, IN A SANDBOX (cutbox-rows.mjs): the forced cells as the released guide's own fill.sh prints them over the translation 0b279958c61fc353… (all of the seat's roots in one cut). By AI agents, Wed Nov 11 2026. No macro, syntax, notation, axiom, sorry.
-/
import Derived.Test.YtmekhbekjfandaaChecked
import GoSem.Claim
import GoSem.ClaimJoined
import GoSem.ClaimMapViews
import Derived.JoinedTies
import Derived.KernelRfl
namespace Go.Proofs.Ytmekhbekjfandaa
/- THE CELL 'sum', in the pinned program and in every row, IS THE sha256 OF THE DUMP (.gsa) THAT YtmekhbekjfandaaProg.lean LOADS. Nothing in Lean hashes anything: it is a label: what it is worth is what the hold of that sum in a sandbox is worth. -/
noncomputable def Try.pinned : Pinned := { name := "ytmekhbekjfandaa", sum := "0b279958c61fc35349f2262c4d6f634bd917cb797cc61bcb0fa15ae9cc402309", checked := Try.checked }
namespace Rows
def none {H : Type} : Left H := { results := [], args := [] }

/-- 'laws.FnInversions': WHATEVER THE INPUT: true; the input reads as it did. -/
def fnInversionsSpec : ChangeSpec := { name := "fnInversions", fn := fun _ => fun
  | [d] => { results := [.lit (.bool true)], args := [d] }
  | _ => none }
def fnInversionsRow : OpenClaim := { program := "ytmekhbekjfandaa", sum := "0b279958c61fc35349f2262c4d6f634bd917cb797cc61bcb0fa15ae9cc402309", func := "loop.example/sortingoffice/laws.FnInversions", spec := "fnInversions", recurses := true, apart := false }
def FnInversionsSaid : Prop := fnInversionsRow.holds Try.pinned (OpenSpec.ofChange fnInversionsSpec)

/-- ITS FALSE NEIGHBOUR: 'it returns false'. Refute it at one input. -/
def fnInversionsWrong : ChangeSpec := { name := "fnInversions", fn := fun _ => fun
  | [d] => { results := [.lit (.bool false)], args := [d] }
  | _ => none }
def FnInversionsWrongFalsely : Prop := fnInversionsRow.holds Try.pinned (OpenSpec.ofChange fnInversionsWrong)

/-- 'laws.FnLabel': WHATEVER THE INPUT: true; the input reads as it did. -/
def fnLabelSpec : ChangeSpec := { name := "fnLabel", fn := fun _ => fun
  | [d] => { results := [.lit (.bool true)], args := [d] }
  | _ => none }
def fnLabelRow : OpenClaim := { program := "ytmekhbekjfandaa", sum := "0b279958c61fc35349f2262c4d6f634bd917cb797cc61bcb0fa15ae9cc402309", func := "loop.example/sortingoffice/laws.FnLabel", spec := "fnLabel", recurses := true, apart := false }
def FnLabelSaid : Prop := fnLabelRow.holds Try.pinned (OpenSpec.ofChange fnLabelSpec)

/-- ITS FALSE NEIGHBOUR: 'it returns false'. Refute it at one input. -/
def fnLabelWrong : ChangeSpec := { name := "fnLabel", fn := fun _ => fun
  | [d] => { results := [.lit (.bool false)], args := [d] }
  | _ => none }
def FnLabelWrongFalsely : Prop := fnLabelRow.holds Try.pinned (OpenSpec.ofChange fnLabelWrong)

/-- 'laws.FnTrayOf': WHATEVER THE INPUT: true; the input reads as it did. -/
def fnTrayOfSpec : ChangeSpec := { name := "fnTrayOf", fn := fun _ => fun
  | [d] => { results := [.lit (.bool true)], args := [d] }
  | _ => none }
def fnTrayOfRow : OpenClaim := { program := "ytmekhbekjfandaa", sum := "0b279958c61fc35349f2262c4d6f634bd917cb797cc61bcb0fa15ae9cc402309", func := "loop.example/sortingoffice/laws.FnTrayOf", spec := "fnTrayOf", unfollowed := true, recurses := true, apart := false }
def FnTrayOfSaid : Prop := fnTrayOfRow.holds Try.pinned (OpenSpec.ofChange fnTrayOfSpec)

/-- ITS FALSE NEIGHBOUR: 'it returns false'. Refute it at one input. -/
def fnTrayOfWrong : ChangeSpec := { name := "fnTrayOf", fn := fun _ => fun
  | [d] => { results := [.lit (.bool false)], args := [d] }
  | _ => none }
def FnTrayOfWrongFalsely : Prop := fnTrayOfRow.holds Try.pinned (OpenSpec.ofChange fnTrayOfWrong)

/-- 'laws.FnEmptyTrays': WHATEVER THE INPUT: true; the input reads as it did. -/
def fnEmptyTraysSpec : ChangeSpec := { name := "fnEmptyTrays", fn := fun _ => fun
  | [d] => { results := [.lit (.bool true)], args := [d] }
  | _ => none }
def fnEmptyTraysRow : OpenClaim := { program := "ytmekhbekjfandaa", sum := "0b279958c61fc35349f2262c4d6f634bd917cb797cc61bcb0fa15ae9cc402309", func := "loop.example/sortingoffice/laws.FnEmptyTrays", spec := "fnEmptyTrays", recurses := true, apart := false }
def FnEmptyTraysSaid : Prop := fnEmptyTraysRow.holds Try.pinned (OpenSpec.ofChange fnEmptyTraysSpec)

/-- ITS FALSE NEIGHBOUR: 'it returns false'. Refute it at one input. -/
def fnEmptyTraysWrong : ChangeSpec := { name := "fnEmptyTrays", fn := fun _ => fun
  | [d] => { results := [.lit (.bool false)], args := [d] }
  | _ => none }
def FnEmptyTraysWrongFalsely : Prop := fnEmptyTraysRow.holds Try.pinned (OpenSpec.ofChange fnEmptyTraysWrong)

/-- 'laws.FnLoads': WHATEVER THE INPUT: true; the input reads as it did. -/
def fnLoadsSpec : ChangeSpec := { name := "fnLoads", fn := fun _ => fun
  | [d] => { results := [.lit (.bool true)], args := [d] }
  | _ => none }
def fnLoadsRow : OpenClaim := { program := "ytmekhbekjfandaa", sum := "0b279958c61fc35349f2262c4d6f634bd917cb797cc61bcb0fa15ae9cc402309", func := "loop.example/sortingoffice/laws.FnLoads", spec := "fnLoads", unfollowed := true, recurses := true, apart := false }
def FnLoadsSaid : Prop := fnLoadsRow.holds Try.pinned (OpenSpec.ofChange fnLoadsSpec)

/-- ITS FALSE NEIGHBOUR: 'it returns false'. Refute it at one input. -/
def fnLoadsWrong : ChangeSpec := { name := "fnLoads", fn := fun _ => fun
  | [d] => { results := [.lit (.bool false)], args := [d] }
  | _ => none }
def FnLoadsWrongFalsely : Prop := fnLoadsRow.holds Try.pinned (OpenSpec.ofChange fnLoadsWrong)

/- THE SECOND FORM. 'bulk': how many values and letters a reading holds, each counted each time it is reached (what is shared counts as often as it is met; a slice's spare places count too). A statement '..UptoSaid' is the law's where the arguments, and the package variables that the reading takes, are together of bulk at most 1048576: NARROWER than '..Said'. Prove '..Said' where nothing that the law and all that it calls make is longer than what came in: it says more and counts as full. Else prove '..UptoSaid'. A law counts once. -/
mutual
def uptoBulk {H : Type} : DataW H → Nat
  | .lit (.string bytes) => bytes.length + 1
  | .lit _ => 1
  | .nil => 1
  | .ptr d => uptoBulk d + 1
  | .slice elems spare => uptoBulkAll elems + uptoBulkAll spare + 1
  | .agg parts => uptoBulkAll parts + 1
  | .iface _ d => uptoBulk d + 1
  | .map entries => uptoBulkEntries entries + 1
  | .held _ => 1
def uptoBulkAll {H : Type} : List (DataW H) → Nat
  | [] => 0
  | d :: r => uptoBulk d + uptoBulkAll r
def uptoBulkEntries {H : Type} : List (Lit × DataW H) → Nat
  | [] => 0
  | x :: r => uptoBulkEntry x + uptoBulkEntries r
def uptoBulkEntry {H : Type} : Lit × DataW H → Nat
  | (.string bytes, d) => bytes.length + uptoBulk d + 1
  | (_, d) => uptoBulk d + 1
 end
def uptoSmall : (H : Type) → List (DataW H) → Bool := fun _ ds => decide (uptoBulkAll ds ≤ 1048576)
def OpenSpec.upto (s : _root_.Go.ChangeSpec) : _root_.Go.OpenSpec := { _root_.Go.OpenSpec.ofChange s with cond := some uptoSmall }

/-- 'laws.FnInversions', WHERE WHAT IT READS IS OF BULK AT MOST 1048576: true; the input reads as it did. -/
def fnInversionsUptoRow : OpenClaim := { program := "ytmekhbekjfandaa", sum := "0b279958c61fc35349f2262c4d6f634bd917cb797cc61bcb0fa15ae9cc402309", func := "loop.example/sortingoffice/laws.FnInversions", spec := "fnInversions", recurses := true, apart := false, narrowed := true }
def FnInversionsUptoSaid : Prop := fnInversionsUptoRow.holds Try.pinned (OpenSpec.upto fnInversionsSpec)

/-- 'laws.FnLabel', WHERE WHAT IT READS IS OF BULK AT MOST 1048576: true; the input reads as it did. -/
def fnLabelUptoRow : OpenClaim := { program := "ytmekhbekjfandaa", sum := "0b279958c61fc35349f2262c4d6f634bd917cb797cc61bcb0fa15ae9cc402309", func := "loop.example/sortingoffice/laws.FnLabel", spec := "fnLabel", recurses := true, apart := false, narrowed := true }
def FnLabelUptoSaid : Prop := fnLabelUptoRow.holds Try.pinned (OpenSpec.upto fnLabelSpec)

/-- 'laws.FnTrayOf', WHERE WHAT IT READS IS OF BULK AT MOST 1048576: true; the input reads as it did. -/
def fnTrayOfUptoRow : OpenClaim := { program := "ytmekhbekjfandaa", sum := "0b279958c61fc35349f2262c4d6f634bd917cb797cc61bcb0fa15ae9cc402309", func := "loop.example/sortingoffice/laws.FnTrayOf", spec := "fnTrayOf", unfollowed := true, recurses := true, apart := false, narrowed := true }
def FnTrayOfUptoSaid : Prop := fnTrayOfUptoRow.holds Try.pinned (OpenSpec.upto fnTrayOfSpec)

/-- 'laws.FnEmptyTrays', WHERE WHAT IT READS IS OF BULK AT MOST 1048576: true; the input reads as it did. -/
def fnEmptyTraysUptoRow : OpenClaim := { program := "ytmekhbekjfandaa", sum := "0b279958c61fc35349f2262c4d6f634bd917cb797cc61bcb0fa15ae9cc402309", func := "loop.example/sortingoffice/laws.FnEmptyTrays", spec := "fnEmptyTrays", recurses := true, apart := false, narrowed := true }
def FnEmptyTraysUptoSaid : Prop := fnEmptyTraysUptoRow.holds Try.pinned (OpenSpec.upto fnEmptyTraysSpec)

/-- 'laws.FnLoads', WHERE WHAT IT READS IS OF BULK AT MOST 1048576: true; the input reads as it did. -/
def fnLoadsUptoRow : OpenClaim := { program := "ytmekhbekjfandaa", sum := "0b279958c61fc35349f2262c4d6f634bd917cb797cc61bcb0fa15ae9cc402309", func := "loop.example/sortingoffice/laws.FnLoads", spec := "fnLoads", unfollowed := true, recurses := true, apart := false, narrowed := true }
def FnLoadsUptoSaid : Prop := fnLoadsUptoRow.holds Try.pinned (OpenSpec.upto fnLoadsSpec)

end Rows
end Go.Proofs.Ytmekhbekjfandaa
