/-
  No cell of these rows narrows 'for every input' (looked for: loops, veiled, ifaces, maps, wideKeys, modest, calm, conditions, laid).
  DERIVED. THE GIVEN ROWS OF THIS SEAT. 8 by the template 'for every input the law returns true; each argument reads behind the call as it read before'; 0 by the template 'total and deterministic' (their statements: YtmjdjakalkjkhaaTotals.lean).
  GIVEN WITH THE SEED: the statements are not yours to turn. If you find one false, say at which input.
  Laid BY PROGRAM, IN A SANDBOX (cutbox-rows.mjs): the forced cells as the released guide's own fill.sh prints them over the translation 2fcd36f7939fc378… (all of the seat's roots in one cut). By AI agents, Wed Nov 11 2026. No macro, syntax, notation, axiom, sorry.
-/
import Derived.Test.YtmjdjakalkjkhaaChecked
import GoSem.Claim
import GoSem.ClaimJoined
import GoSem.ClaimMapViews
import Derived.JoinedTies
import Derived.KernelRfl
namespace Go.Proofs.Ytmjdjakalkjkhaa
/- THE CELL 'sum', in the pinned program and in every row, IS THE sha256 OF THE DUMP (.gsa) THAT YtmjdjakalkjkhaaProg.lean LOADS. Nothing in Lean hashes anything: it is a label: what it is worth is what the hold of that sum in a sandbox is worth. -/
noncomputable def Try.pinned : Pinned := { name := "ytmjdjakalkjkhaa", sum := "2fcd36f7939fc378b21dec65c3c6166abf084b8eafff954287b078f142a8b696", checked := Try.checked }
namespace Rows
def none {H : Type} : Left H := { results := [], args := [] }

/-- 'laws.FnExactLeastTrays': WHATEVER THE INPUT: true; the input reads as it did. -/
def fnExactLeastTraysSpec : ChangeSpec := { name := "fnExactLeastTrays", fn := fun _ => fun
  | [d1, d2] => { results := [.lit (.bool true)], args := [d1, d2] }
  | _ => none }
def fnExactLeastTraysRow : OpenClaim := { program := "ytmjdjakalkjkhaa", sum := "2fcd36f7939fc378b21dec65c3c6166abf084b8eafff954287b078f142a8b696", func := "loop.example/sortingoffice/laws.FnExactLeastTrays", spec := "fnExactLeastTrays", apart := false }
def FnExactLeastTraysSaid : Prop := fnExactLeastTraysRow.holds Try.pinned (OpenSpec.ofChange fnExactLeastTraysSpec)

/-- ITS FALSE NEIGHBOUR: 'it returns false'. Refute it at one input. -/
def fnExactLeastTraysWrong : ChangeSpec := { name := "fnExactLeastTrays", fn := fun _ => fun
  | [d1, d2] => { results := [.lit (.bool false)], args := [d1, d2] }
  | _ => none }
def FnExactLeastTraysWrongFalsely : Prop := fnExactLeastTraysRow.holds Try.pinned (OpenSpec.ofChange fnExactLeastTraysWrong)

/-- 'laws.FnExactWeightsValid': WHATEVER THE INPUT: true; the input reads as it did. -/
def fnExactWeightsValidSpec : ChangeSpec := { name := "fnExactWeightsValid", fn := fun _ => fun
  | [d1, d2] => { results := [.lit (.bool true)], args := [d1, d2] }
  | _ => none }
def fnExactWeightsValidRow : OpenClaim := { program := "ytmjdjakalkjkhaa", sum := "2fcd36f7939fc378b21dec65c3c6166abf084b8eafff954287b078f142a8b696", func := "loop.example/sortingoffice/laws.FnExactWeightsValid", spec := "fnExactWeightsValid", unfollowed := true, recurses := true, apart := false }
def FnExactWeightsValidSaid : Prop := fnExactWeightsValidRow.holds Try.pinned (OpenSpec.ofChange fnExactWeightsValidSpec)

/-- ITS FALSE NEIGHBOUR: 'it returns false'. Refute it at one input. -/
def fnExactWeightsValidWrong : ChangeSpec := { name := "fnExactWeightsValid", fn := fun _ => fun
  | [d1, d2] => { results := [.lit (.bool false)], args := [d1, d2] }
  | _ => none }
def FnExactWeightsValidWrongFalsely : Prop := fnExactWeightsValidRow.holds Try.pinned (OpenSpec.ofChange fnExactWeightsValidWrong)

/-- 'laws.FnExactFirstFit': WHATEVER THE INPUT: true; the input reads as it did. -/
def fnExactFirstFitSpec : ChangeSpec := { name := "fnExactFirstFit", fn := fun _ => fun
  | [d1, d2] => { results := [.lit (.bool true)], args := [d1, d2] }
  | _ => none }
def fnExactFirstFitRow : OpenClaim := { program := "ytmjdjakalkjkhaa", sum := "2fcd36f7939fc378b21dec65c3c6166abf084b8eafff954287b078f142a8b696", func := "loop.example/sortingoffice/laws.FnExactFirstFit", spec := "fnExactFirstFit", unfollowed := true, recurses := true, apart := false }
def FnExactFirstFitSaid : Prop := fnExactFirstFitRow.holds Try.pinned (OpenSpec.ofChange fnExactFirstFitSpec)

/-- ITS FALSE NEIGHBOUR: 'it returns false'. Refute it at one input. -/
def fnExactFirstFitWrong : ChangeSpec := { name := "fnExactFirstFit", fn := fun _ => fun
  | [d1, d2] => { results := [.lit (.bool false)], args := [d1, d2] }
  | _ => none }
def FnExactFirstFitWrongFalsely : Prop := fnExactFirstFitRow.holds Try.pinned (OpenSpec.ofChange fnExactFirstFitWrong)

/-- 'laws.FnExactFitSorted': WHATEVER THE INPUT: true; the input reads as it did. -/
def fnExactFitSortedSpec : ChangeSpec := { name := "fnExactFitSorted", fn := fun _ => fun
  | [d1, d2] => { results := [.lit (.bool true)], args := [d1, d2] }
  | _ => none }
def fnExactFitSortedRow : OpenClaim := { program := "ytmjdjakalkjkhaa", sum := "2fcd36f7939fc378b21dec65c3c6166abf084b8eafff954287b078f142a8b696", func := "loop.example/sortingoffice/laws.FnExactFitSorted", spec := "fnExactFitSorted", unfollowed := true, recurses := true, apart := false }
def FnExactFitSortedSaid : Prop := fnExactFitSortedRow.holds Try.pinned (OpenSpec.ofChange fnExactFitSortedSpec)

/-- ITS FALSE NEIGHBOUR: 'it returns false'. Refute it at one input. -/
def fnExactFitSortedWrong : ChangeSpec := { name := "fnExactFitSorted", fn := fun _ => fun
  | [d1, d2] => { results := [.lit (.bool false)], args := [d1, d2] }
  | _ => none }
def FnExactFitSortedWrongFalsely : Prop := fnExactFitSortedRow.holds Try.pinned (OpenSpec.ofChange fnExactFitSortedWrong)

/-- 'laws.FnExactTruckCount': WHATEVER THE INPUT: true; the input reads as it did. -/
def fnExactTruckCountSpec : ChangeSpec := { name := "fnExactTruckCount", fn := fun _ => fun
  | [d] => { results := [.lit (.bool true)], args := [d] }
  | _ => none }
def fnExactTruckCountRow : OpenClaim := { program := "ytmjdjakalkjkhaa", sum := "2fcd36f7939fc378b21dec65c3c6166abf084b8eafff954287b078f142a8b696", func := "loop.example/sortingoffice/laws.FnExactTruckCount", spec := "fnExactTruckCount", apart := false }
def FnExactTruckCountSaid : Prop := fnExactTruckCountRow.holds Try.pinned (OpenSpec.ofChange fnExactTruckCountSpec)

/-- ITS FALSE NEIGHBOUR: 'it returns false'. Refute it at one input. -/
def fnExactTruckCountWrong : ChangeSpec := { name := "fnExactTruckCount", fn := fun _ => fun
  | [d] => { results := [.lit (.bool false)], args := [d] }
  | _ => none }
def FnExactTruckCountWrongFalsely : Prop := fnExactTruckCountRow.holds Try.pinned (OpenSpec.ofChange fnExactTruckCountWrong)

/-- 'laws.FnExactTruckLoads': WHATEVER THE INPUT: true; the input reads as it did. -/
def fnExactTruckLoadsSpec : ChangeSpec := { name := "fnExactTruckLoads", fn := fun _ => fun
  | [d1, d2] => { results := [.lit (.bool true)], args := [d1, d2] }
  | _ => none }
def fnExactTruckLoadsRow : OpenClaim := { program := "ytmjdjakalkjkhaa", sum := "2fcd36f7939fc378b21dec65c3c6166abf084b8eafff954287b078f142a8b696", func := "loop.example/sortingoffice/laws.FnExactTruckLoads", spec := "fnExactTruckLoads", unfollowed := true, recurses := true, apart := false }
def FnExactTruckLoadsSaid : Prop := fnExactTruckLoadsRow.holds Try.pinned (OpenSpec.ofChange fnExactTruckLoadsSpec)

/-- ITS FALSE NEIGHBOUR: 'it returns false'. Refute it at one input. -/
def fnExactTruckLoadsWrong : ChangeSpec := { name := "fnExactTruckLoads", fn := fun _ => fun
  | [d1, d2] => { results := [.lit (.bool false)], args := [d1, d2] }
  | _ => none }
def FnExactTruckLoadsWrongFalsely : Prop := fnExactTruckLoadsRow.holds Try.pinned (OpenSpec.ofChange fnExactTruckLoadsWrong)

/-- 'laws.FnExactLoadingValid': WHATEVER THE INPUT: true; the input reads as it did. -/
def fnExactLoadingValidSpec : ChangeSpec := { name := "fnExactLoadingValid", fn := fun _ => fun
  | [d1, d2, d3] => { results := [.lit (.bool true)], args := [d1, d2, d3] }
  | _ => none }
def fnExactLoadingValidRow : OpenClaim := { program := "ytmjdjakalkjkhaa", sum := "2fcd36f7939fc378b21dec65c3c6166abf084b8eafff954287b078f142a8b696", func := "loop.example/sortingoffice/laws.FnExactLoadingValid", spec := "fnExactLoadingValid", unfollowed := true, recurses := true, apart := false }
def FnExactLoadingValidSaid : Prop := fnExactLoadingValidRow.holds Try.pinned (OpenSpec.ofChange fnExactLoadingValidSpec)

/-- ITS FALSE NEIGHBOUR: 'it returns false'. Refute it at one input. -/
def fnExactLoadingValidWrong : ChangeSpec := { name := "fnExactLoadingValid", fn := fun _ => fun
  | [d1, d2, d3] => { results := [.lit (.bool false)], args := [d1, d2, d3] }
  | _ => none }
def FnExactLoadingValidWrongFalsely : Prop := fnExactLoadingValidRow.holds Try.pinned (OpenSpec.ofChange fnExactLoadingValidWrong)

/-- 'laws.FnExactLeastTrucks': WHATEVER THE INPUT: true; the input reads as it did. -/
def fnExactLeastTrucksSpec : ChangeSpec := { name := "fnExactLeastTrucks", fn := fun _ => fun
  | [d1, d2] => { results := [.lit (.bool true)], args := [d1, d2] }
  | _ => none }
def fnExactLeastTrucksRow : OpenClaim := { program := "ytmjdjakalkjkhaa", sum := "2fcd36f7939fc378b21dec65c3c6166abf084b8eafff954287b078f142a8b696", func := "loop.example/sortingoffice/laws.FnExactLeastTrucks", spec := "fnExactLeastTrucks", unfollowed := true, recurses := true, apart := false }
def FnExactLeastTrucksSaid : Prop := fnExactLeastTrucksRow.holds Try.pinned (OpenSpec.ofChange fnExactLeastTrucksSpec)

/-- ITS FALSE NEIGHBOUR: 'it returns false'. Refute it at one input. -/
def fnExactLeastTrucksWrong : ChangeSpec := { name := "fnExactLeastTrucks", fn := fun _ => fun
  | [d1, d2] => { results := [.lit (.bool false)], args := [d1, d2] }
  | _ => none }
def FnExactLeastTrucksWrongFalsely : Prop := fnExactLeastTrucksRow.holds Try.pinned (OpenSpec.ofChange fnExactLeastTrucksWrong)

/- THE SECOND FORM. 'bulk': how many values and letters a reading holds, each counted each time it is reached (what is shared counts as often as it is met; a slice's spare places count too). A statement '..UptoSaid' is the law's where the arguments, and the package variables that the reading takes, are together of bulk at most 1048576: NARROWER than '..Said'. Prove '..Said' where nothing that the law and all that it calls make is longer than what came in: it says more and counts as full. Else prove '..UptoSaid'. A law counts once. -/
mutual
def uptoBulk {H : Type} : DataW H → Nat
  | .lit (.string bytes) => bytes.length + 1
  | .lit _ => 1
  | .nil => 1
  | .ptr d => uptoBulk d + 1
  | .slice elems spare => uptoBulkAll elems + uptoBulkAll spare + 1
  | .agg parts => uptoBulkAll parts + 1
  | .iface _ d => uptoBulk d + 1
  | .map entries => uptoBulkEntries entries + 1
  | .held _ => 1
def uptoBulkAll {H : Type} : List (DataW H) → Nat
  | [] => 0
  | d :: r => uptoBulk d + uptoBulkAll r
def uptoBulkEntries {H : Type} : List (Lit × DataW H) → Nat
  | [] => 0
  | x :: r => uptoBulkEntry x + uptoBulkEntries r
def uptoBulkEntry {H : Type} : Lit × DataW H → Nat
  | (.string bytes, d) => bytes.length + uptoBulk d + 1
  | (_, d) => uptoBulk d + 1
 end
def uptoSmall : (H : Type) → List (DataW H) → Bool := fun _ ds => decide (uptoBulkAll ds ≤ 1048576)
def OpenSpec.upto (s : _root_.Go.ChangeSpec) : _root_.Go.OpenSpec := { _root_.Go.OpenSpec.ofChange s with cond := some uptoSmall }

/-- 'laws.FnExactLeastTrays', WHERE WHAT IT READS IS OF BULK AT MOST 1048576: true; the input reads as it did. -/
def fnExactLeastTraysUptoRow : OpenClaim := { program := "ytmjdjakalkjkhaa", sum := "2fcd36f7939fc378b21dec65c3c6166abf084b8eafff954287b078f142a8b696", func := "loop.example/sortingoffice/laws.FnExactLeastTrays", spec := "fnExactLeastTrays", apart := false, narrowed := true }
def FnExactLeastTraysUptoSaid : Prop := fnExactLeastTraysUptoRow.holds Try.pinned (OpenSpec.upto fnExactLeastTraysSpec)

/-- 'laws.FnExactWeightsValid', WHERE WHAT IT READS IS OF BULK AT MOST 1048576: true; the input reads as it did. -/
def fnExactWeightsValidUptoRow : OpenClaim := { program := "ytmjdjakalkjkhaa", sum := "2fcd36f7939fc378b21dec65c3c6166abf084b8eafff954287b078f142a8b696", func := "loop.example/sortingoffice/laws.FnExactWeightsValid", spec := "fnExactWeightsValid", unfollowed := true, recurses := true, apart := false, narrowed := true }
def FnExactWeightsValidUptoSaid : Prop := fnExactWeightsValidUptoRow.holds Try.pinned (OpenSpec.upto fnExactWeightsValidSpec)

/-- 'laws.FnExactFirstFit', WHERE WHAT IT READS IS OF BULK AT MOST 1048576: true; the input reads as it did. -/
def fnExactFirstFitUptoRow : OpenClaim := { program := "ytmjdjakalkjkhaa", sum := "2fcd36f7939fc378b21dec65c3c6166abf084b8eafff954287b078f142a8b696", func := "loop.example/sortingoffice/laws.FnExactFirstFit", spec := "fnExactFirstFit", unfollowed := true, recurses := true, apart := false, narrowed := true }
def FnExactFirstFitUptoSaid : Prop := fnExactFirstFitUptoRow.holds Try.pinned (OpenSpec.upto fnExactFirstFitSpec)

/-- 'laws.FnExactFitSorted', WHERE WHAT IT READS IS OF BULK AT MOST 1048576: true; the input reads as it did. -/
def fnExactFitSortedUptoRow : OpenClaim := { program := "ytmjdjakalkjkhaa", sum := "2fcd36f7939fc378b21dec65c3c6166abf084b8eafff954287b078f142a8b696", func := "loop.example/sortingoffice/laws.FnExactFitSorted", spec := "fnExactFitSorted", unfollowed := true, recurses := true, apart := false, narrowed := true }
def FnExactFitSortedUptoSaid : Prop := fnExactFitSortedUptoRow.holds Try.pinned (OpenSpec.upto fnExactFitSortedSpec)

/-- 'laws.FnExactTruckCount', WHERE WHAT IT READS IS OF BULK AT MOST 1048576: true; the input reads as it did. -/
def fnExactTruckCountUptoRow : OpenClaim := { program := "ytmjdjakalkjkhaa", sum := "2fcd36f7939fc378b21dec65c3c6166abf084b8eafff954287b078f142a8b696", func := "loop.example/sortingoffice/laws.FnExactTruckCount", spec := "fnExactTruckCount", apart := false, narrowed := true }
def FnExactTruckCountUptoSaid : Prop := fnExactTruckCountUptoRow.holds Try.pinned (OpenSpec.upto fnExactTruckCountSpec)

/-- 'laws.FnExactTruckLoads', WHERE WHAT IT READS IS OF BULK AT MOST 1048576: true; the input reads as it did. -/
def fnExactTruckLoadsUptoRow : OpenClaim := { program := "ytmjdjakalkjkhaa", sum := "2fcd36f7939fc378b21dec65c3c6166abf084b8eafff954287b078f142a8b696", func := "loop.example/sortingoffice/laws.FnExactTruckLoads", spec := "fnExactTruckLoads", unfollowed := true, recurses := true, apart := false, narrowed := true }
def FnExactTruckLoadsUptoSaid : Prop := fnExactTruckLoadsUptoRow.holds Try.pinned (OpenSpec.upto fnExactTruckLoadsSpec)

/-- 'laws.FnExactLoadingValid', WHERE WHAT IT READS IS OF BULK AT MOST 1048576: true; the input reads as it did. -/
def fnExactLoadingValidUptoRow : OpenClaim := { program := "ytmjdjakalkjkhaa", sum := "2fcd36f7939fc378b21dec65c3c6166abf084b8eafff954287b078f142a8b696", func := "loop.example/sortingoffice/laws.FnExactLoadingValid", spec := "fnExactLoadingValid", unfollowed := true, recurses := true, apart := false, narrowed := true }
def FnExactLoadingValidUptoSaid : Prop := fnExactLoadingValidUptoRow.holds Try.pinned (OpenSpec.upto fnExactLoadingValidSpec)

/-- 'laws.FnExactLeastTrucks', WHERE WHAT IT READS IS OF BULK AT MOST 1048576: true; the input reads as it did. -/
def fnExactLeastTrucksUptoRow : OpenClaim := { program := "ytmjdjakalkjkhaa", sum := "2fcd36f7939fc378b21dec65c3c6166abf084b8eafff954287b078f142a8b696", func := "loop.example/sortingoffice/laws.FnExactLeastTrucks", spec := "fnExactLeastTrucks", unfollowed := true, recurses := true, apart := false, narrowed := true }
def FnExactLeastTrucksUptoSaid : Prop := fnExactLeastTrucksUptoRow.holds Try.pinned (OpenSpec.upto fnExactLeastTrucksSpec)

end Rows
end Go.Proofs.Ytmjdjakalkjkhaa
