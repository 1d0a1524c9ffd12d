/-
  No cell of these rows narrows 'for every input' (looked for: loops, veiled, ifaces, maps, wideKeys, modest, calm, conditions, laid).
  DERIVED. THE GIVEN ROWS OF THIS SEAT. 7 by the template 'for every input the law returns true; each argument reads behind the call as it read before'; 0 by the template 'total and deterministic' (their statements: YtplplholoimhhaaTotals.lean).
  GIVEN WITH THE SEED: the statements are not yours to turn. If you find one false, say at which input.
  Laid BY PROGRAM, IN A SANDBOX (cutbox-rows.mjs): the forced cells as the released guide's own fill.sh prints them over the translation ba2b644f28896359… (all of the seat's roots in one cut). By AI agents, Wed Nov 11 2026. No macro, syntax, notation, axiom, sorry.
-/
import Derived.Test.YtplplholoimhhaaChecked
import GoSem.Claim
import GoSem.ClaimJoined
import GoSem.ClaimMapViews
import Derived.JoinedTies
import Derived.KernelRfl
namespace Go.Proofs.Ytplplholoimhhaa
/- THE CELL 'sum', in the pinned program and in every row, IS THE sha256 OF THE DUMP (.gsa) THAT YtplplholoimhhaaProg.lean LOADS. Nothing in Lean hashes anything: it is a label: what it is worth is what the hold of that sum in a sandbox is worth. -/
noncomputable def Try.pinned : Pinned := { name := "ytplplholoimhhaa", sum := "ba2b644f28896359b65b6a1ed0293703de23e37316a5f820a2d45bd1bca39870", checked := Try.checked }
namespace Rows
def none {H : Type} : Left H := { results := [], args := [] }

/-- 'laws.FnExactFillTrays': WHATEVER THE INPUT: true; the input reads as it did. -/
def fnExactFillTraysSpec : ChangeSpec := { name := "fnExactFillTrays", fn := fun _ => fun
  | [d1, d2] => { results := [.lit (.bool true)], args := [d1, d2] }
  | _ => none }
def fnExactFillTraysRow : OpenClaim := { program := "ytplplholoimhhaa", sum := "ba2b644f28896359b65b6a1ed0293703de23e37316a5f820a2d45bd1bca39870", func := "loop.example/sortingoffice/laws.FnExactFillTrays", spec := "fnExactFillTrays", unfollowed := true, recurses := true, apart := false }
def FnExactFillTraysSaid : Prop := fnExactFillTraysRow.holds Try.pinned (OpenSpec.ofChange fnExactFillTraysSpec)

/-- ITS FALSE NEIGHBOUR: 'it returns false'. Refute it at one input. -/
def fnExactFillTraysWrong : ChangeSpec := { name := "fnExactFillTrays", fn := fun _ => fun
  | [d1, d2] => { results := [.lit (.bool false)], args := [d1, d2] }
  | _ => none }
def FnExactFillTraysWrongFalsely : Prop := fnExactFillTraysRow.holds Try.pinned (OpenSpec.ofChange fnExactFillTraysWrong)

/-- 'laws.FnExactFillByPrefix': WHATEVER THE INPUT: true; the input reads as it did. -/
def fnExactFillByPrefixSpec : ChangeSpec := { name := "fnExactFillByPrefix", fn := fun _ => fun
  | [d1, d2, d3] => { results := [.lit (.bool true)], args := [d1, d2, d3] }
  | _ => none }
def fnExactFillByPrefixRow : OpenClaim := { program := "ytplplholoimhhaa", sum := "ba2b644f28896359b65b6a1ed0293703de23e37316a5f820a2d45bd1bca39870", func := "loop.example/sortingoffice/laws.FnExactFillByPrefix", spec := "fnExactFillByPrefix", unfollowed := true, recurses := true, apart := false }
def FnExactFillByPrefixSaid : Prop := fnExactFillByPrefixRow.holds Try.pinned (OpenSpec.ofChange fnExactFillByPrefixSpec)

/-- ITS FALSE NEIGHBOUR: 'it returns false'. Refute it at one input. -/
def fnExactFillByPrefixWrong : ChangeSpec := { name := "fnExactFillByPrefix", fn := fun _ => fun
  | [d1, d2, d3] => { results := [.lit (.bool false)], args := [d1, d2, d3] }
  | _ => none }
def FnExactFillByPrefixWrongFalsely : Prop := fnExactFillByPrefixRow.holds Try.pinned (OpenSpec.ofChange fnExactFillByPrefixWrong)

/-- 'laws.FnExactTraysValid': WHATEVER THE INPUT: true; the input reads as it did. -/
def fnExactTraysValidSpec : ChangeSpec := { name := "fnExactTraysValid", fn := fun _ => fun
  | [d1, d2] => { results := [.lit (.bool true)], args := [d1, d2] }
  | _ => none }
def fnExactTraysValidRow : OpenClaim := { program := "ytplplholoimhhaa", sum := "ba2b644f28896359b65b6a1ed0293703de23e37316a5f820a2d45bd1bca39870", func := "loop.example/sortingoffice/laws.FnExactTraysValid", spec := "fnExactTraysValid", apart := false }
def FnExactTraysValidSaid : Prop := fnExactTraysValidRow.holds Try.pinned (OpenSpec.ofChange fnExactTraysValidSpec)

/-- ITS FALSE NEIGHBOUR: 'it returns false'. Refute it at one input. -/
def fnExactTraysValidWrong : ChangeSpec := { name := "fnExactTraysValid", fn := fun _ => fun
  | [d1, d2] => { results := [.lit (.bool false)], args := [d1, d2] }
  | _ => none }
def FnExactTraysValidWrongFalsely : Prop := fnExactTraysValidRow.holds Try.pinned (OpenSpec.ofChange fnExactTraysValidWrong)

/-- 'laws.FnExactEmptyTrays': WHATEVER THE INPUT: true; the input reads as it did. -/
def fnExactEmptyTraysSpec : ChangeSpec := { name := "fnExactEmptyTrays", fn := fun _ => fun
  | [d] => { results := [.lit (.bool true)], args := [d] }
  | _ => none }
def fnExactEmptyTraysRow : OpenClaim := { program := "ytplplholoimhhaa", sum := "ba2b644f28896359b65b6a1ed0293703de23e37316a5f820a2d45bd1bca39870", func := "loop.example/sortingoffice/laws.FnExactEmptyTrays", spec := "fnExactEmptyTrays", apart := false }
def FnExactEmptyTraysSaid : Prop := fnExactEmptyTraysRow.holds Try.pinned (OpenSpec.ofChange fnExactEmptyTraysSpec)

/-- ITS FALSE NEIGHBOUR: 'it returns false'. Refute it at one input. -/
def fnExactEmptyTraysWrong : ChangeSpec := { name := "fnExactEmptyTrays", fn := fun _ => fun
  | [d] => { results := [.lit (.bool false)], args := [d] }
  | _ => none }
def FnExactEmptyTraysWrongFalsely : Prop := fnExactEmptyTraysRow.holds Try.pinned (OpenSpec.ofChange fnExactEmptyTraysWrong)

/-- 'laws.FnExactLabelOf': WHATEVER THE INPUT: true; the input reads as it did. -/
def fnExactLabelOfSpec : ChangeSpec := { name := "fnExactLabelOf", fn := fun _ => fun
  | [d] => { results := [.lit (.bool true)], args := [d] }
  | _ => none }
def fnExactLabelOfRow : OpenClaim := { program := "ytplplholoimhhaa", sum := "ba2b644f28896359b65b6a1ed0293703de23e37316a5f820a2d45bd1bca39870", func := "loop.example/sortingoffice/laws.FnExactLabelOf", spec := "fnExactLabelOf", apart := false }
def FnExactLabelOfSaid : Prop := fnExactLabelOfRow.holds Try.pinned (OpenSpec.ofChange fnExactLabelOfSpec)

/-- ITS FALSE NEIGHBOUR: 'it returns false'. Refute it at one input. -/
def fnExactLabelOfWrong : ChangeSpec := { name := "fnExactLabelOf", fn := fun _ => fun
  | [d] => { results := [.lit (.bool false)], args := [d] }
  | _ => none }
def FnExactLabelOfWrongFalsely : Prop := fnExactLabelOfRow.holds Try.pinned (OpenSpec.ofChange fnExactLabelOfWrong)

/-- 'laws.FnExactTrayOf': WHATEVER THE INPUT: true; the input reads as it did. -/
def fnExactTrayOfSpec : ChangeSpec := { name := "fnExactTrayOf", fn := fun _ => fun
  | [d1, d2] => { results := [.lit (.bool true)], args := [d1, d2] }
  | _ => none }
def fnExactTrayOfRow : OpenClaim := { program := "ytplplholoimhhaa", sum := "ba2b644f28896359b65b6a1ed0293703de23e37316a5f820a2d45bd1bca39870", func := "loop.example/sortingoffice/laws.FnExactTrayOf", spec := "fnExactTrayOf", unfollowed := true, recurses := true, apart := false }
def FnExactTrayOfSaid : Prop := fnExactTrayOfRow.holds Try.pinned (OpenSpec.ofChange fnExactTrayOfSpec)

/-- ITS FALSE NEIGHBOUR: 'it returns false'. Refute it at one input. -/
def fnExactTrayOfWrong : ChangeSpec := { name := "fnExactTrayOf", fn := fun _ => fun
  | [d1, d2] => { results := [.lit (.bool false)], args := [d1, d2] }
  | _ => none }
def FnExactTrayOfWrongFalsely : Prop := fnExactTrayOfRow.holds Try.pinned (OpenSpec.ofChange fnExactTrayOfWrong)

/-- 'laws.FnExactRepackTrays': WHATEVER THE INPUT: true; the input reads as it did. -/
def fnExactRepackTraysSpec : ChangeSpec := { name := "fnExactRepackTrays", fn := fun _ => fun
  | [d1, d2] => { results := [.lit (.bool true)], args := [d1, d2] }
  | _ => none }
def fnExactRepackTraysRow : OpenClaim := { program := "ytplplholoimhhaa", sum := "ba2b644f28896359b65b6a1ed0293703de23e37316a5f820a2d45bd1bca39870", func := "loop.example/sortingoffice/laws.FnExactRepackTrays", spec := "fnExactRepackTrays", unfollowed := true, recurses := true, apart := false }
def FnExactRepackTraysSaid : Prop := fnExactRepackTraysRow.holds Try.pinned (OpenSpec.ofChange fnExactRepackTraysSpec)

/-- ITS FALSE NEIGHBOUR: 'it returns false'. Refute it at one input. -/
def fnExactRepackTraysWrong : ChangeSpec := { name := "fnExactRepackTrays", fn := fun _ => fun
  | [d1, d2] => { results := [.lit (.bool false)], args := [d1, d2] }
  | _ => none }
def FnExactRepackTraysWrongFalsely : Prop := fnExactRepackTraysRow.holds Try.pinned (OpenSpec.ofChange fnExactRepackTraysWrong)

/- THE SECOND FORM. 'bulk': how many values and letters a reading holds, each counted each time it is reached (what is shared counts as often as it is met; a slice's spare places count too). A statement '..UptoSaid' is the law's where the arguments, and the package variables that the reading takes, are together of bulk at most 1048576: NARROWER than '..Said'. Prove '..Said' where nothing that the law and all that it calls make is longer than what came in: it says more and counts as full. Else prove '..UptoSaid'. A law counts once. -/
mutual
def uptoBulk {H : Type} : DataW H → Nat
  | .lit (.string bytes) => bytes.length + 1
  | .lit _ => 1
  | .nil => 1
  | .ptr d => uptoBulk d + 1
  | .slice elems spare => uptoBulkAll elems + uptoBulkAll spare + 1
  | .agg parts => uptoBulkAll parts + 1
  | .iface _ d => uptoBulk d + 1
  | .map entries => uptoBulkEntries entries + 1
  | .held _ => 1
def uptoBulkAll {H : Type} : List (DataW H) → Nat
  | [] => 0
  | d :: r => uptoBulk d + uptoBulkAll r
def uptoBulkEntries {H : Type} : List (Lit × DataW H) → Nat
  | [] => 0
  | x :: r => uptoBulkEntry x + uptoBulkEntries r
def uptoBulkEntry {H : Type} : Lit × DataW H → Nat
  | (.string bytes, d) => bytes.length + uptoBulk d + 1
  | (_, d) => uptoBulk d + 1
 end
def uptoSmall : (H : Type) → List (DataW H) → Bool := fun _ ds => decide (uptoBulkAll ds ≤ 1048576)
def OpenSpec.upto (s : _root_.Go.ChangeSpec) : _root_.Go.OpenSpec := { _root_.Go.OpenSpec.ofChange s with cond := some uptoSmall }

/-- 'laws.FnExactFillTrays', WHERE WHAT IT READS IS OF BULK AT MOST 1048576: true; the input reads as it did. -/
def fnExactFillTraysUptoRow : OpenClaim := { program := "ytplplholoimhhaa", sum := "ba2b644f28896359b65b6a1ed0293703de23e37316a5f820a2d45bd1bca39870", func := "loop.example/sortingoffice/laws.FnExactFillTrays", spec := "fnExactFillTrays", unfollowed := true, recurses := true, apart := false, narrowed := true }
def FnExactFillTraysUptoSaid : Prop := fnExactFillTraysUptoRow.holds Try.pinned (OpenSpec.upto fnExactFillTraysSpec)

/-- 'laws.FnExactFillByPrefix', WHERE WHAT IT READS IS OF BULK AT MOST 1048576: true; the input reads as it did. -/
def fnExactFillByPrefixUptoRow : OpenClaim := { program := "ytplplholoimhhaa", sum := "ba2b644f28896359b65b6a1ed0293703de23e37316a5f820a2d45bd1bca39870", func := "loop.example/sortingoffice/laws.FnExactFillByPrefix", spec := "fnExactFillByPrefix", unfollowed := true, recurses := true, apart := false, narrowed := true }
def FnExactFillByPrefixUptoSaid : Prop := fnExactFillByPrefixUptoRow.holds Try.pinned (OpenSpec.upto fnExactFillByPrefixSpec)

/-- 'laws.FnExactTraysValid', WHERE WHAT IT READS IS OF BULK AT MOST 1048576: true; the input reads as it did. -/
def fnExactTraysValidUptoRow : OpenClaim := { program := "ytplplholoimhhaa", sum := "ba2b644f28896359b65b6a1ed0293703de23e37316a5f820a2d45bd1bca39870", func := "loop.example/sortingoffice/laws.FnExactTraysValid", spec := "fnExactTraysValid", apart := false, narrowed := true }
def FnExactTraysValidUptoSaid : Prop := fnExactTraysValidUptoRow.holds Try.pinned (OpenSpec.upto fnExactTraysValidSpec)

/-- 'laws.FnExactEmptyTrays', WHERE WHAT IT READS IS OF BULK AT MOST 1048576: true; the input reads as it did. -/
def fnExactEmptyTraysUptoRow : OpenClaim := { program := "ytplplholoimhhaa", sum := "ba2b644f28896359b65b6a1ed0293703de23e37316a5f820a2d45bd1bca39870", func := "loop.example/sortingoffice/laws.FnExactEmptyTrays", spec := "fnExactEmptyTrays", apart := false, narrowed := true }
def FnExactEmptyTraysUptoSaid : Prop := fnExactEmptyTraysUptoRow.holds Try.pinned (OpenSpec.upto fnExactEmptyTraysSpec)

/-- 'laws.FnExactLabelOf', WHERE WHAT IT READS IS OF BULK AT MOST 1048576: true; the input reads as it did. -/
def fnExactLabelOfUptoRow : OpenClaim := { program := "ytplplholoimhhaa", sum := "ba2b644f28896359b65b6a1ed0293703de23e37316a5f820a2d45bd1bca39870", func := "loop.example/sortingoffice/laws.FnExactLabelOf", spec := "fnExactLabelOf", apart := false, narrowed := true }
def FnExactLabelOfUptoSaid : Prop := fnExactLabelOfUptoRow.holds Try.pinned (OpenSpec.upto fnExactLabelOfSpec)

/-- 'laws.FnExactTrayOf', WHERE WHAT IT READS IS OF BULK AT MOST 1048576: true; the input reads as it did. -/
def fnExactTrayOfUptoRow : OpenClaim := { program := "ytplplholoimhhaa", sum := "ba2b644f28896359b65b6a1ed0293703de23e37316a5f820a2d45bd1bca39870", func := "loop.example/sortingoffice/laws.FnExactTrayOf", spec := "fnExactTrayOf", unfollowed := true, recurses := true, apart := false, narrowed := true }
def FnExactTrayOfUptoSaid : Prop := fnExactTrayOfUptoRow.holds Try.pinned (OpenSpec.upto fnExactTrayOfSpec)

/-- 'laws.FnExactRepackTrays', WHERE WHAT IT READS IS OF BULK AT MOST 1048576: true; the input reads as it did. -/
def fnExactRepackTraysUptoRow : OpenClaim := { program := "ytplplholoimhhaa", sum := "ba2b644f28896359b65b6a1ed0293703de23e37316a5f820a2d45bd1bca39870", func := "loop.example/sortingoffice/laws.FnExactRepackTrays", spec := "fnExactRepackTrays", unfollowed := true, recurses := true, apart := false, narrowed := true }
def FnExactRepackTraysUptoSaid : Prop := fnExactRepackTraysUptoRow.holds Try.pinned (OpenSpec.upto fnExactRepackTraysSpec)

end Rows
end Go.Proofs.Ytplplholoimhhaa
