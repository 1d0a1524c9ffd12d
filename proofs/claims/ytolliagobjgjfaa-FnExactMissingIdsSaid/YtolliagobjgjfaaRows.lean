/-
  No cell of these rows narrows 'for every input' (looked for: loops, veiled, ifaces, maps, wideKeys, modest, calm, conditions, laid).
  DERIVED. THE GIVEN ROWS OF THIS SEAT. 7 by the template 'for every input the law returns true; each argument reads behind the call as it read before'; 0 by the template 'total and deterministic' (their statements: YtolliagobjgjfaaTotals.lean).
  GIVEN WITH THE SEED: the statements are not yours to turn. If you find one false, say at which input.
  Laid BY PROGRAM, IN A SANDBOX (cutbox-rows.mjs): the forced cells as the released guide's own fill.sh prints them over the translation db4be6622c2883c9… (all of the seat's roots in one cut). By AI agents, Wed Nov 11 2026. No macro, syntax, notation, axiom, sorry.
-/
import Derived.Test.YtolliagobjgjfaaChecked
import GoSem.Claim
import GoSem.ClaimJoined
import GoSem.ClaimMapViews
import Derived.JoinedTies
import Derived.KernelRfl
namespace Go.Proofs.Ytolliagobjgjfaa
/- THE CELL 'sum', in the pinned program and in every row, IS THE sha256 OF THE DUMP (.gsa) THAT YtolliagobjgjfaaProg.lean LOADS. Nothing in Lean hashes anything: it is a label: what it is worth is what the hold of that sum in a sandbox is worth. -/
noncomputable def Try.pinned : Pinned := { name := "ytolliagobjgjfaa", sum := "db4be6622c2883c99948cbfb86ea28e5fe25d91706e865a241d51fc8e3fe1dec", checked := Try.checked }
namespace Rows
def none {H : Type} : Left H := { results := [], args := [] }

/-- 'laws.FnExactMissortsValid': WHATEVER THE INPUT: true; the input reads as it did. -/
def fnExactMissortsValidSpec : ChangeSpec := { name := "fnExactMissortsValid", fn := fun _ => fun
  | [d1, d2] => { results := [.lit (.bool true)], args := [d1, d2] }
  | _ => none }
def fnExactMissortsValidRow : OpenClaim := { program := "ytolliagobjgjfaa", sum := "db4be6622c2883c99948cbfb86ea28e5fe25d91706e865a241d51fc8e3fe1dec", func := "loop.example/sortingoffice/laws.FnExactMissortsValid", spec := "fnExactMissortsValid", apart := false }
def FnExactMissortsValidSaid : Prop := fnExactMissortsValidRow.holds Try.pinned (OpenSpec.ofChange fnExactMissortsValidSpec)

/-- ITS FALSE NEIGHBOUR: 'it returns false'. Refute it at one input. -/
def fnExactMissortsValidWrong : ChangeSpec := { name := "fnExactMissortsValid", fn := fun _ => fun
  | [d1, d2] => { results := [.lit (.bool false)], args := [d1, d2] }
  | _ => none }
def FnExactMissortsValidWrongFalsely : Prop := fnExactMissortsValidRow.holds Try.pinned (OpenSpec.ofChange fnExactMissortsValidWrong)

/-- 'laws.FnExactMissingIds': WHATEVER THE INPUT: true; the input reads as it did. -/
def fnExactMissingIdsSpec : ChangeSpec := { name := "fnExactMissingIds", fn := fun _ => fun
  | [d1, d2] => { results := [.lit (.bool true)], args := [d1, d2] }
  | _ => none }
def fnExactMissingIdsRow : OpenClaim := { program := "ytolliagobjgjfaa", sum := "db4be6622c2883c99948cbfb86ea28e5fe25d91706e865a241d51fc8e3fe1dec", func := "loop.example/sortingoffice/laws.FnExactMissingIds", spec := "fnExactMissingIds", recurses := true, apart := false }
def FnExactMissingIdsSaid : Prop := fnExactMissingIdsRow.holds Try.pinned (OpenSpec.ofChange fnExactMissingIdsSpec)

/-- ITS FALSE NEIGHBOUR: 'it returns false'. Refute it at one input. -/
def fnExactMissingIdsWrong : ChangeSpec := { name := "fnExactMissingIds", fn := fun _ => fun
  | [d1, d2] => { results := [.lit (.bool false)], args := [d1, d2] }
  | _ => none }
def FnExactMissingIdsWrongFalsely : Prop := fnExactMissingIdsRow.holds Try.pinned (OpenSpec.ofChange fnExactMissingIdsWrong)

/-- 'laws.FnExactSealOf': WHATEVER THE INPUT: true; the input reads as it did. -/
def fnExactSealOfSpec : ChangeSpec := { name := "fnExactSealOf", fn := fun _ => fun
  | [d] => { results := [.lit (.bool true)], args := [d] }
  | _ => none }
def fnExactSealOfRow : OpenClaim := { program := "ytolliagobjgjfaa", sum := "db4be6622c2883c99948cbfb86ea28e5fe25d91706e865a241d51fc8e3fe1dec", func := "loop.example/sortingoffice/laws.FnExactSealOf", spec := "fnExactSealOf", unfollowed := true, recurses := true, apart := false }
def FnExactSealOfSaid : Prop := fnExactSealOfRow.holds Try.pinned (OpenSpec.ofChange fnExactSealOfSpec)

/-- ITS FALSE NEIGHBOUR: 'it returns false'. Refute it at one input. -/
def fnExactSealOfWrong : ChangeSpec := { name := "fnExactSealOf", fn := fun _ => fun
  | [d] => { results := [.lit (.bool false)], args := [d] }
  | _ => none }
def FnExactSealOfWrongFalsely : Prop := fnExactSealOfRow.holds Try.pinned (OpenSpec.ofChange fnExactSealOfWrong)

/-- 'laws.FnExactOrderSeal': WHATEVER THE INPUT: true; the input reads as it did. -/
def fnExactOrderSealSpec : ChangeSpec := { name := "fnExactOrderSeal", fn := fun _ => fun
  | [d] => { results := [.lit (.bool true)], args := [d] }
  | _ => none }
def fnExactOrderSealRow : OpenClaim := { program := "ytolliagobjgjfaa", sum := "db4be6622c2883c99948cbfb86ea28e5fe25d91706e865a241d51fc8e3fe1dec", func := "loop.example/sortingoffice/laws.FnExactOrderSeal", spec := "fnExactOrderSeal", unfollowed := true, recurses := true, apart := false }
def FnExactOrderSealSaid : Prop := fnExactOrderSealRow.holds Try.pinned (OpenSpec.ofChange fnExactOrderSealSpec)

/-- ITS FALSE NEIGHBOUR: 'it returns false'. Refute it at one input. -/
def fnExactOrderSealWrong : ChangeSpec := { name := "fnExactOrderSeal", fn := fun _ => fun
  | [d] => { results := [.lit (.bool false)], args := [d] }
  | _ => none }
def FnExactOrderSealWrongFalsely : Prop := fnExactOrderSealRow.holds Try.pinned (OpenSpec.ofChange fnExactOrderSealWrong)

/-- 'laws.FnExactSampleLetters': WHATEVER THE INPUT: true; the input reads as it did. -/
def fnExactSampleLettersSpec : ChangeSpec := { name := "fnExactSampleLetters", fn := fun _ => fun
  | [d1, d2] => { results := [.lit (.bool true)], args := [d1, d2] }
  | _ => none }
def fnExactSampleLettersRow : OpenClaim := { program := "ytolliagobjgjfaa", sum := "db4be6622c2883c99948cbfb86ea28e5fe25d91706e865a241d51fc8e3fe1dec", func := "loop.example/sortingoffice/laws.FnExactSampleLetters", spec := "fnExactSampleLetters", apart := false }
def FnExactSampleLettersSaid : Prop := fnExactSampleLettersRow.holds Try.pinned (OpenSpec.ofChange fnExactSampleLettersSpec)

/-- ITS FALSE NEIGHBOUR: 'it returns false'. Refute it at one input. -/
def fnExactSampleLettersWrong : ChangeSpec := { name := "fnExactSampleLetters", fn := fun _ => fun
  | [d1, d2] => { results := [.lit (.bool false)], args := [d1, d2] }
  | _ => none }
def FnExactSampleLettersWrongFalsely : Prop := fnExactSampleLettersRow.holds Try.pinned (OpenSpec.ofChange fnExactSampleLettersWrong)

/-- 'laws.FnExactKeptLetters': WHATEVER THE INPUT: true; the input reads as it did. -/
def fnExactKeptLettersSpec : ChangeSpec := { name := "fnExactKeptLetters", fn := fun _ => fun
  | [d1, d2] => { results := [.lit (.bool true)], args := [d1, d2] }
  | _ => none }
def fnExactKeptLettersRow : OpenClaim := { program := "ytolliagobjgjfaa", sum := "db4be6622c2883c99948cbfb86ea28e5fe25d91706e865a241d51fc8e3fe1dec", func := "loop.example/sortingoffice/laws.FnExactKeptLetters", spec := "fnExactKeptLetters", apart := false }
def FnExactKeptLettersSaid : Prop := fnExactKeptLettersRow.holds Try.pinned (OpenSpec.ofChange fnExactKeptLettersSpec)

/-- ITS FALSE NEIGHBOUR: 'it returns false'. Refute it at one input. -/
def fnExactKeptLettersWrong : ChangeSpec := { name := "fnExactKeptLetters", fn := fun _ => fun
  | [d1, d2] => { results := [.lit (.bool false)], args := [d1, d2] }
  | _ => none }
def FnExactKeptLettersWrongFalsely : Prop := fnExactKeptLettersRow.holds Try.pinned (OpenSpec.ofChange fnExactKeptLettersWrong)

/-- 'laws.FnExactMovedLetters': WHATEVER THE INPUT: true; the input reads as it did. -/
def fnExactMovedLettersSpec : ChangeSpec := { name := "fnExactMovedLetters", fn := fun _ => fun
  | [d1, d2] => { results := [.lit (.bool true)], args := [d1, d2] }
  | _ => none }
def fnExactMovedLettersRow : OpenClaim := { program := "ytolliagobjgjfaa", sum := "db4be6622c2883c99948cbfb86ea28e5fe25d91706e865a241d51fc8e3fe1dec", func := "loop.example/sortingoffice/laws.FnExactMovedLetters", spec := "fnExactMovedLetters", apart := false }
def FnExactMovedLettersSaid : Prop := fnExactMovedLettersRow.holds Try.pinned (OpenSpec.ofChange fnExactMovedLettersSpec)

/-- ITS FALSE NEIGHBOUR: 'it returns false'. Refute it at one input. -/
def fnExactMovedLettersWrong : ChangeSpec := { name := "fnExactMovedLetters", fn := fun _ => fun
  | [d1, d2] => { results := [.lit (.bool false)], args := [d1, d2] }
  | _ => none }
def FnExactMovedLettersWrongFalsely : Prop := fnExactMovedLettersRow.holds Try.pinned (OpenSpec.ofChange fnExactMovedLettersWrong)

/- THE SECOND FORM. 'bulk': how many values and letters a reading holds, each counted each time it is reached (what is shared counts as often as it is met; a slice's spare places count too). A statement '..UptoSaid' is the law's where the arguments, and the package variables that the reading takes, are together of bulk at most 1048576: NARROWER than '..Said'. Prove '..Said' where nothing that the law and all that it calls make is longer than what came in: it says more and counts as full. Else prove '..UptoSaid'. A law counts once. -/
mutual
def uptoBulk {H : Type} : DataW H → Nat
  | .lit (.string bytes) => bytes.length + 1
  | .lit _ => 1
  | .nil => 1
  | .ptr d => uptoBulk d + 1
  | .slice elems spare => uptoBulkAll elems + uptoBulkAll spare + 1
  | .agg parts => uptoBulkAll parts + 1
  | .iface _ d => uptoBulk d + 1
  | .map entries => uptoBulkEntries entries + 1
  | .held _ => 1
def uptoBulkAll {H : Type} : List (DataW H) → Nat
  | [] => 0
  | d :: r => uptoBulk d + uptoBulkAll r
def uptoBulkEntries {H : Type} : List (Lit × DataW H) → Nat
  | [] => 0
  | x :: r => uptoBulkEntry x + uptoBulkEntries r
def uptoBulkEntry {H : Type} : Lit × DataW H → Nat
  | (.string bytes, d) => bytes.length + uptoBulk d + 1
  | (_, d) => uptoBulk d + 1
 end
def uptoSmall : (H : Type) → List (DataW H) → Bool := fun _ ds => decide (uptoBulkAll ds ≤ 1048576)
def OpenSpec.upto (s : _root_.Go.ChangeSpec) : _root_.Go.OpenSpec := { _root_.Go.OpenSpec.ofChange s with cond := some uptoSmall }

/-- 'laws.FnExactMissortsValid', WHERE WHAT IT READS IS OF BULK AT MOST 1048576: true; the input reads as it did. -/
def fnExactMissortsValidUptoRow : OpenClaim := { program := "ytolliagobjgjfaa", sum := "db4be6622c2883c99948cbfb86ea28e5fe25d91706e865a241d51fc8e3fe1dec", func := "loop.example/sortingoffice/laws.FnExactMissortsValid", spec := "fnExactMissortsValid", apart := false, narrowed := true }
def FnExactMissortsValidUptoSaid : Prop := fnExactMissortsValidUptoRow.holds Try.pinned (OpenSpec.upto fnExactMissortsValidSpec)

/-- 'laws.FnExactMissingIds', WHERE WHAT IT READS IS OF BULK AT MOST 1048576: true; the input reads as it did. -/
def fnExactMissingIdsUptoRow : OpenClaim := { program := "ytolliagobjgjfaa", sum := "db4be6622c2883c99948cbfb86ea28e5fe25d91706e865a241d51fc8e3fe1dec", func := "loop.example/sortingoffice/laws.FnExactMissingIds", spec := "fnExactMissingIds", recurses := true, apart := false, narrowed := true }
def FnExactMissingIdsUptoSaid : Prop := fnExactMissingIdsUptoRow.holds Try.pinned (OpenSpec.upto fnExactMissingIdsSpec)

/-- 'laws.FnExactSealOf', WHERE WHAT IT READS IS OF BULK AT MOST 1048576: true; the input reads as it did. -/
def fnExactSealOfUptoRow : OpenClaim := { program := "ytolliagobjgjfaa", sum := "db4be6622c2883c99948cbfb86ea28e5fe25d91706e865a241d51fc8e3fe1dec", func := "loop.example/sortingoffice/laws.FnExactSealOf", spec := "fnExactSealOf", unfollowed := true, recurses := true, apart := false, narrowed := true }
def FnExactSealOfUptoSaid : Prop := fnExactSealOfUptoRow.holds Try.pinned (OpenSpec.upto fnExactSealOfSpec)

/-- 'laws.FnExactOrderSeal', WHERE WHAT IT READS IS OF BULK AT MOST 1048576: true; the input reads as it did. -/
def fnExactOrderSealUptoRow : OpenClaim := { program := "ytolliagobjgjfaa", sum := "db4be6622c2883c99948cbfb86ea28e5fe25d91706e865a241d51fc8e3fe1dec", func := "loop.example/sortingoffice/laws.FnExactOrderSeal", spec := "fnExactOrderSeal", unfollowed := true, recurses := true, apart := false, narrowed := true }
def FnExactOrderSealUptoSaid : Prop := fnExactOrderSealUptoRow.holds Try.pinned (OpenSpec.upto fnExactOrderSealSpec)

/-- 'laws.FnExactSampleLetters', WHERE WHAT IT READS IS OF BULK AT MOST 1048576: true; the input reads as it did. -/
def fnExactSampleLettersUptoRow : OpenClaim := { program := "ytolliagobjgjfaa", sum := "db4be6622c2883c99948cbfb86ea28e5fe25d91706e865a241d51fc8e3fe1dec", func := "loop.example/sortingoffice/laws.FnExactSampleLetters", spec := "fnExactSampleLetters", apart := false, narrowed := true }
def FnExactSampleLettersUptoSaid : Prop := fnExactSampleLettersUptoRow.holds Try.pinned (OpenSpec.upto fnExactSampleLettersSpec)

/-- 'laws.FnExactKeptLetters', WHERE WHAT IT READS IS OF BULK AT MOST 1048576: true; the input reads as it did. -/
def fnExactKeptLettersUptoRow : OpenClaim := { program := "ytolliagobjgjfaa", sum := "db4be6622c2883c99948cbfb86ea28e5fe25d91706e865a241d51fc8e3fe1dec", func := "loop.example/sortingoffice/laws.FnExactKeptLetters", spec := "fnExactKeptLetters", apart := false, narrowed := true }
def FnExactKeptLettersUptoSaid : Prop := fnExactKeptLettersUptoRow.holds Try.pinned (OpenSpec.upto fnExactKeptLettersSpec)

/-- 'laws.FnExactMovedLetters', WHERE WHAT IT READS IS OF BULK AT MOST 1048576: true; the input reads as it did. -/
def fnExactMovedLettersUptoRow : OpenClaim := { program := "ytolliagobjgjfaa", sum := "db4be6622c2883c99948cbfb86ea28e5fe25d91706e865a241d51fc8e3fe1dec", func := "loop.example/sortingoffice/laws.FnExactMovedLetters", spec := "fnExactMovedLetters", apart := false, narrowed := true }
def FnExactMovedLettersUptoSaid : Prop := fnExactMovedLettersUptoRow.holds Try.pinned (OpenSpec.upto fnExactMovedLettersSpec)

end Rows
end Go.Proofs.Ytolliagobjgjfaa
