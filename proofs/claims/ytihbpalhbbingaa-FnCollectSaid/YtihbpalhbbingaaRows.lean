/-
  No cell of these rows narrows 'for every input' (looked for: loops, veiled, ifaces, maps, wideKeys, modest, calm, conditions, laid).
  DERIVED. THE GIVEN ROWS OF THIS SEAT. 4 by the template 'for every input the law returns true; each argument reads behind the call as it read before'; 0 by the template 'total and deterministic' (their statements: YtihbpalhbbingaaTotals.lean).
  GIVEN WITH THE SEED: the statements are not yours to turn. If you find one false, say at which input.
  Laid BY PROGRAM, IN A SANDBOX (cutbox-rows.mjs): the forced cells as the released guide's own fill.sh prints them over the translation 302b0bb8c56768b4… (all of the seat's roots in one cut). By AI agents, Wed Nov 11 2026. No macro, syntax, notation, axiom, sorry.
-/
import Derived.Test.YtihbpalhbbingaaChecked
import GoSem.Claim
import GoSem.ClaimJoined
import GoSem.ClaimMapViews
import Derived.JoinedTies
import Derived.KernelRfl
namespace Go.Proofs.Ytihbpalhbbingaa
/- THE CELL 'sum', in the pinned program and in every row, IS THE sha256 OF THE DUMP (.gsa) THAT YtihbpalhbbingaaProg.lean LOADS. Nothing in Lean hashes anything: it is a label: what it is worth is what the hold of that sum in a sandbox is worth. -/
noncomputable def Try.pinned : Pinned := { name := "ytihbpalhbbingaa", sum := "302b0bb8c56768b4dd6f50dd8aae5304833a6faff11ba9687347cdad0d43c023", checked := Try.checked }
namespace Rows
def none {H : Type} : Left H := { results := [], args := [] }

/-- 'laws.FnCollect': WHATEVER THE INPUT: true; the input reads as it did. -/
def fnCollectSpec : ChangeSpec := { name := "fnCollect", fn := fun _ => fun
  | [d] => { results := [.lit (.bool true)], args := [d] }
  | _ => none }
def fnCollectRow : OpenClaim := { program := "ytihbpalhbbingaa", sum := "302b0bb8c56768b4dd6f50dd8aae5304833a6faff11ba9687347cdad0d43c023", func := "loop.example/sortingoffice/laws.FnCollect", spec := "fnCollect", recurses := true, apart := false }
def FnCollectSaid : Prop := fnCollectRow.holds Try.pinned (OpenSpec.ofChange fnCollectSpec)

/-- ITS FALSE NEIGHBOUR: 'it returns false'. Refute it at one input. -/
def fnCollectWrong : ChangeSpec := { name := "fnCollect", fn := fun _ => fun
  | [d] => { results := [.lit (.bool false)], args := [d] }
  | _ => none }
def FnCollectWrongFalsely : Prop := fnCollectRow.holds Try.pinned (OpenSpec.ofChange fnCollectWrong)

/-- 'laws.FnTrayOf': WHATEVER THE INPUT: true; the input reads as it did. -/
def fnTrayOfSpec : ChangeSpec := { name := "fnTrayOf", fn := fun _ => fun
  | [d] => { results := [.lit (.bool true)], args := [d] }
  | _ => none }
def fnTrayOfRow : OpenClaim := { program := "ytihbpalhbbingaa", sum := "302b0bb8c56768b4dd6f50dd8aae5304833a6faff11ba9687347cdad0d43c023", func := "loop.example/sortingoffice/laws.FnTrayOf", spec := "fnTrayOf", unfollowed := true, recurses := true, apart := false }
def FnTrayOfSaid : Prop := fnTrayOfRow.holds Try.pinned (OpenSpec.ofChange fnTrayOfSpec)

/-- ITS FALSE NEIGHBOUR: 'it returns false'. Refute it at one input. -/
def fnTrayOfWrong : ChangeSpec := { name := "fnTrayOf", fn := fun _ => fun
  | [d] => { results := [.lit (.bool false)], args := [d] }
  | _ => none }
def FnTrayOfWrongFalsely : Prop := fnTrayOfRow.holds Try.pinned (OpenSpec.ofChange fnTrayOfWrong)

/-- 'laws.FnEmptyTrays': WHATEVER THE INPUT: true; the input reads as it did. -/
def fnEmptyTraysSpec : ChangeSpec := { name := "fnEmptyTrays", fn := fun _ => fun
  | [d] => { results := [.lit (.bool true)], args := [d] }
  | _ => none }
def fnEmptyTraysRow : OpenClaim := { program := "ytihbpalhbbingaa", sum := "302b0bb8c56768b4dd6f50dd8aae5304833a6faff11ba9687347cdad0d43c023", func := "loop.example/sortingoffice/laws.FnEmptyTrays", spec := "fnEmptyTrays", recurses := true, apart := false }
def FnEmptyTraysSaid : Prop := fnEmptyTraysRow.holds Try.pinned (OpenSpec.ofChange fnEmptyTraysSpec)

/-- ITS FALSE NEIGHBOUR: 'it returns false'. Refute it at one input. -/
def fnEmptyTraysWrong : ChangeSpec := { name := "fnEmptyTrays", fn := fun _ => fun
  | [d] => { results := [.lit (.bool false)], args := [d] }
  | _ => none }
def FnEmptyTraysWrongFalsely : Prop := fnEmptyTraysRow.holds Try.pinned (OpenSpec.ofChange fnEmptyTraysWrong)

/-- 'laws.FnRepack': WHATEVER THE INPUT: true; the input reads as it did. -/
def fnRepackSpec : ChangeSpec := { name := "fnRepack", fn := fun _ => fun
  | [d] => { results := [.lit (.bool true)], args := [d] }
  | _ => none }
def fnRepackRow : OpenClaim := { program := "ytihbpalhbbingaa", sum := "302b0bb8c56768b4dd6f50dd8aae5304833a6faff11ba9687347cdad0d43c023", func := "loop.example/sortingoffice/laws.FnRepack", spec := "fnRepack", unfollowed := true, recurses := true, apart := false }
def FnRepackSaid : Prop := fnRepackRow.holds Try.pinned (OpenSpec.ofChange fnRepackSpec)

/-- ITS FALSE NEIGHBOUR: 'it returns false'. Refute it at one input. -/
def fnRepackWrong : ChangeSpec := { name := "fnRepack", fn := fun _ => fun
  | [d] => { results := [.lit (.bool false)], args := [d] }
  | _ => none }
def FnRepackWrongFalsely : Prop := fnRepackRow.holds Try.pinned (OpenSpec.ofChange fnRepackWrong)

/- THE SECOND FORM. 'bulk': how many values and letters a reading holds, each counted each time it is reached (what is shared counts as often as it is met; a slice's spare places count too). A statement '..UptoSaid' is the law's where the arguments, and the package variables that the reading takes, are together of bulk at most 1048576: NARROWER than '..Said'. Prove '..Said' where nothing that the law and all that it calls make is longer than what came in: it says more and counts as full. Else prove '..UptoSaid'. A law counts once. -/
mutual
def uptoBulk {H : Type} : DataW H → Nat
  | .lit (.string bytes) => bytes.length + 1
  | .lit _ => 1
  | .nil => 1
  | .ptr d => uptoBulk d + 1
  | .slice elems spare => uptoBulkAll elems + uptoBulkAll spare + 1
  | .agg parts => uptoBulkAll parts + 1
  | .iface _ d => uptoBulk d + 1
  | .map entries => uptoBulkEntries entries + 1
  | .held _ => 1
def uptoBulkAll {H : Type} : List (DataW H) → Nat
  | [] => 0
  | d :: r => uptoBulk d + uptoBulkAll r
def uptoBulkEntries {H : Type} : List (Lit × DataW H) → Nat
  | [] => 0
  | x :: r => uptoBulkEntry x + uptoBulkEntries r
def uptoBulkEntry {H : Type} : Lit × DataW H → Nat
  | (.string bytes, d) => bytes.length + uptoBulk d + 1
  | (_, d) => uptoBulk d + 1
 end
def uptoSmall : (H : Type) → List (DataW H) → Bool := fun _ ds => decide (uptoBulkAll ds ≤ 1048576)
def OpenSpec.upto (s : _root_.Go.ChangeSpec) : _root_.Go.OpenSpec := { _root_.Go.OpenSpec.ofChange s with cond := some uptoSmall }

/-- 'laws.FnCollect', WHERE WHAT IT READS IS OF BULK AT MOST 1048576: true; the input reads as it did. -/
def fnCollectUptoRow : OpenClaim := { program := "ytihbpalhbbingaa", sum := "302b0bb8c56768b4dd6f50dd8aae5304833a6faff11ba9687347cdad0d43c023", func := "loop.example/sortingoffice/laws.FnCollect", spec := "fnCollect", recurses := true, apart := false, narrowed := true }
def FnCollectUptoSaid : Prop := fnCollectUptoRow.holds Try.pinned (OpenSpec.upto fnCollectSpec)

/-- 'laws.FnTrayOf', WHERE WHAT IT READS IS OF BULK AT MOST 1048576: true; the input reads as it did. -/
def fnTrayOfUptoRow : OpenClaim := { program := "ytihbpalhbbingaa", sum := "302b0bb8c56768b4dd6f50dd8aae5304833a6faff11ba9687347cdad0d43c023", func := "loop.example/sortingoffice/laws.FnTrayOf", spec := "fnTrayOf", unfollowed := true, recurses := true, apart := false, narrowed := true }
def FnTrayOfUptoSaid : Prop := fnTrayOfUptoRow.holds Try.pinned (OpenSpec.upto fnTrayOfSpec)

/-- 'laws.FnEmptyTrays', WHERE WHAT IT READS IS OF BULK AT MOST 1048576: true; the input reads as it did. -/
def fnEmptyTraysUptoRow : OpenClaim := { program := "ytihbpalhbbingaa", sum := "302b0bb8c56768b4dd6f50dd8aae5304833a6faff11ba9687347cdad0d43c023", func := "loop.example/sortingoffice/laws.FnEmptyTrays", spec := "fnEmptyTrays", recurses := true, apart := false, narrowed := true }
def FnEmptyTraysUptoSaid : Prop := fnEmptyTraysUptoRow.holds Try.pinned (OpenSpec.upto fnEmptyTraysSpec)

/-- 'laws.FnRepack', WHERE WHAT IT READS IS OF BULK AT MOST 1048576: true; the input reads as it did. -/
def fnRepackUptoRow : OpenClaim := { program := "ytihbpalhbbingaa", sum := "302b0bb8c56768b4dd6f50dd8aae5304833a6faff11ba9687347cdad0d43c023", func := "loop.example/sortingoffice/laws.FnRepack", spec := "fnRepack", unfollowed := true, recurses := true, apart := false, narrowed := true }
def FnRepackUptoSaid : Prop := fnRepackUptoRow.holds Try.pinned (OpenSpec.upto fnRepackSpec)

end Rows
end Go.Proofs.Ytihbpalhbbingaa
