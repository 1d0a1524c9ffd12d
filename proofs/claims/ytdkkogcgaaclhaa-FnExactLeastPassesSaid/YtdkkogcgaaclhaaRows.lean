/-
  No cell of these rows narrows 'for every input' (looked for: loops, veiled, ifaces, maps, wideKeys, modest, calm, conditions, laid).
  DERIVED. THE GIVEN ROWS OF THIS SEAT. 6 by the template 'for every input the law returns true; each argument reads behind the call as it read before'; 0 by the template 'total and deterministic' (their statements: YtdkkogcgaaclhaaTotals.lean).
  GIVEN WITH THE SEED: the statements are not yours to turn. If you find one false, say at which input.
  Laid BY PROGRAM, IN A SANDBOX (cutbox-rows.mjs): the forced cells as the released guide's own fill.sh prints them over the translation 7a59395dd33e216a… (all of the seat's roots in one cut). By AI agents, Wed Nov 11 2026. No macro, syntax, notation, axiom, sorry.
-/
import Derived.Test.YtdkkogcgaaclhaaChecked
import GoSem.Claim
import GoSem.ClaimJoined
import GoSem.ClaimMapViews
import Derived.JoinedTies
import Derived.KernelRfl
namespace Go.Proofs.Ytdkkogcgaaclhaa
/- THE CELL 'sum', in the pinned program and in every row, IS THE sha256 OF THE DUMP (.gsa) THAT YtdkkogcgaaclhaaProg.lean LOADS. Nothing in Lean hashes anything: it is a label: what it is worth is what the hold of that sum in a sandbox is worth. -/
noncomputable def Try.pinned : Pinned := { name := "ytdkkogcgaaclhaa", sum := "7a59395dd33e216af339368e63516974b0b511861a582f05aba6aca4ac048b75", checked := Try.checked }
namespace Rows
def none {H : Type} : Left H := { results := [], args := [] }

/-- 'laws.FnExactCapacityOf': WHATEVER THE INPUT: true; the input reads as it did. -/
def fnExactCapacityOfSpec : ChangeSpec := { name := "fnExactCapacityOf", fn := fun _ => fun
  | [d1, d2] => { results := [.lit (.bool true)], args := [d1, d2] }
  | _ => none }
def fnExactCapacityOfRow : OpenClaim := { program := "ytdkkogcgaaclhaa", sum := "7a59395dd33e216af339368e63516974b0b511861a582f05aba6aca4ac048b75", func := "loop.example/sortingoffice/laws.FnExactCapacityOf", spec := "fnExactCapacityOf", apart := false }
def FnExactCapacityOfSaid : Prop := fnExactCapacityOfRow.holds Try.pinned (OpenSpec.ofChange fnExactCapacityOfSpec)

/-- ITS FALSE NEIGHBOUR: 'it returns false'. Refute it at one input. -/
def fnExactCapacityOfWrong : ChangeSpec := { name := "fnExactCapacityOf", fn := fun _ => fun
  | [d1, d2] => { results := [.lit (.bool false)], args := [d1, d2] }
  | _ => none }
def FnExactCapacityOfWrongFalsely : Prop := fnExactCapacityOfRow.holds Try.pinned (OpenSpec.ofChange fnExactCapacityOfWrong)

/-- 'laws.FnExactLeastBins': WHATEVER THE INPUT: true; the input reads as it did. -/
def fnExactLeastBinsSpec : ChangeSpec := { name := "fnExactLeastBins", fn := fun _ => fun
  | [d1, d2] => { results := [.lit (.bool true)], args := [d1, d2] }
  | _ => none }
def fnExactLeastBinsRow : OpenClaim := { program := "ytdkkogcgaaclhaa", sum := "7a59395dd33e216af339368e63516974b0b511861a582f05aba6aca4ac048b75", func := "loop.example/sortingoffice/laws.FnExactLeastBins", spec := "fnExactLeastBins", unfollowed := true, recurses := true, apart := false }
def FnExactLeastBinsSaid : Prop := fnExactLeastBinsRow.holds Try.pinned (OpenSpec.ofChange fnExactLeastBinsSpec)

/-- ITS FALSE NEIGHBOUR: 'it returns false'. Refute it at one input. -/
def fnExactLeastBinsWrong : ChangeSpec := { name := "fnExactLeastBins", fn := fun _ => fun
  | [d1, d2] => { results := [.lit (.bool false)], args := [d1, d2] }
  | _ => none }
def FnExactLeastBinsWrongFalsely : Prop := fnExactLeastBinsRow.holds Try.pinned (OpenSpec.ofChange fnExactLeastBinsWrong)

/-- 'laws.FnExactLeastPasses': WHATEVER THE INPUT: true; the input reads as it did. -/
def fnExactLeastPassesSpec : ChangeSpec := { name := "fnExactLeastPasses", fn := fun _ => fun
  | [d1, d2] => { results := [.lit (.bool true)], args := [d1, d2] }
  | _ => none }
def fnExactLeastPassesRow : OpenClaim := { program := "ytdkkogcgaaclhaa", sum := "7a59395dd33e216af339368e63516974b0b511861a582f05aba6aca4ac048b75", func := "loop.example/sortingoffice/laws.FnExactLeastPasses", spec := "fnExactLeastPasses", unfollowed := true, recurses := true, apart := false }
def FnExactLeastPassesSaid : Prop := fnExactLeastPassesRow.holds Try.pinned (OpenSpec.ofChange fnExactLeastPassesSpec)

/-- ITS FALSE NEIGHBOUR: 'it returns false'. Refute it at one input. -/
def fnExactLeastPassesWrong : ChangeSpec := { name := "fnExactLeastPasses", fn := fun _ => fun
  | [d1, d2] => { results := [.lit (.bool false)], args := [d1, d2] }
  | _ => none }
def FnExactLeastPassesWrongFalsely : Prop := fnExactLeastPassesRow.holds Try.pinned (OpenSpec.ofChange fnExactLeastPassesWrong)

/-- 'laws.FnCapacity': WHATEVER THE INPUT: true; the input reads as it did. -/
def fnCapacitySpec : ChangeSpec := { name := "fnCapacity", fn := fun _ => fun
  | [d] => { results := [.lit (.bool true)], args := [d] }
  | _ => none }
def fnCapacityRow : OpenClaim := { program := "ytdkkogcgaaclhaa", sum := "7a59395dd33e216af339368e63516974b0b511861a582f05aba6aca4ac048b75", func := "loop.example/sortingoffice/laws.FnCapacity", spec := "fnCapacity", unfollowed := true, recurses := true, apart := false }
def FnCapacitySaid : Prop := fnCapacityRow.holds Try.pinned (OpenSpec.ofChange fnCapacitySpec)

/-- ITS FALSE NEIGHBOUR: 'it returns false'. Refute it at one input. -/
def fnCapacityWrong : ChangeSpec := { name := "fnCapacity", fn := fun _ => fun
  | [d] => { results := [.lit (.bool false)], args := [d] }
  | _ => none }
def FnCapacityWrongFalsely : Prop := fnCapacityRow.holds Try.pinned (OpenSpec.ofChange fnCapacityWrong)

/-- 'laws.FnLeastBins': WHATEVER THE INPUT: true; the input reads as it did. -/
def fnLeastBinsSpec : ChangeSpec := { name := "fnLeastBins", fn := fun _ => fun
  | [d] => { results := [.lit (.bool true)], args := [d] }
  | _ => none }
def fnLeastBinsRow : OpenClaim := { program := "ytdkkogcgaaclhaa", sum := "7a59395dd33e216af339368e63516974b0b511861a582f05aba6aca4ac048b75", func := "loop.example/sortingoffice/laws.FnLeastBins", spec := "fnLeastBins", unfollowed := true, recurses := true, apart := false }
def FnLeastBinsSaid : Prop := fnLeastBinsRow.holds Try.pinned (OpenSpec.ofChange fnLeastBinsSpec)

/-- ITS FALSE NEIGHBOUR: 'it returns false'. Refute it at one input. -/
def fnLeastBinsWrong : ChangeSpec := { name := "fnLeastBins", fn := fun _ => fun
  | [d] => { results := [.lit (.bool false)], args := [d] }
  | _ => none }
def FnLeastBinsWrongFalsely : Prop := fnLeastBinsRow.holds Try.pinned (OpenSpec.ofChange fnLeastBinsWrong)

/-- 'laws.FnLeastPasses': WHATEVER THE INPUT: true; the input reads as it did. -/
def fnLeastPassesSpec : ChangeSpec := { name := "fnLeastPasses", fn := fun _ => fun
  | [d] => { results := [.lit (.bool true)], args := [d] }
  | _ => none }
def fnLeastPassesRow : OpenClaim := { program := "ytdkkogcgaaclhaa", sum := "7a59395dd33e216af339368e63516974b0b511861a582f05aba6aca4ac048b75", func := "loop.example/sortingoffice/laws.FnLeastPasses", spec := "fnLeastPasses", unfollowed := true, recurses := true, apart := false }
def FnLeastPassesSaid : Prop := fnLeastPassesRow.holds Try.pinned (OpenSpec.ofChange fnLeastPassesSpec)

/-- ITS FALSE NEIGHBOUR: 'it returns false'. Refute it at one input. -/
def fnLeastPassesWrong : ChangeSpec := { name := "fnLeastPasses", fn := fun _ => fun
  | [d] => { results := [.lit (.bool false)], args := [d] }
  | _ => none }
def FnLeastPassesWrongFalsely : Prop := fnLeastPassesRow.holds Try.pinned (OpenSpec.ofChange fnLeastPassesWrong)

/- THE SECOND FORM. 'bulk': how many values and letters a reading holds, each counted each time it is reached (what is shared counts as often as it is met; a slice's spare places count too). A statement '..UptoSaid' is the law's where the arguments, and the package variables that the reading takes, are together of bulk at most 1048576: NARROWER than '..Said'. Prove '..Said' where nothing that the law and all that it calls make is longer than what came in: it says more and counts as full. Else prove '..UptoSaid'. A law counts once. -/
mutual
def uptoBulk {H : Type} : DataW H → Nat
  | .lit (.string bytes) => bytes.length + 1
  | .lit _ => 1
  | .nil => 1
  | .ptr d => uptoBulk d + 1
  | .slice elems spare => uptoBulkAll elems + uptoBulkAll spare + 1
  | .agg parts => uptoBulkAll parts + 1
  | .iface _ d => uptoBulk d + 1
  | .map entries => uptoBulkEntries entries + 1
  | .held _ => 1
def uptoBulkAll {H : Type} : List (DataW H) → Nat
  | [] => 0
  | d :: r => uptoBulk d + uptoBulkAll r
def uptoBulkEntries {H : Type} : List (Lit × DataW H) → Nat
  | [] => 0
  | x :: r => uptoBulkEntry x + uptoBulkEntries r
def uptoBulkEntry {H : Type} : Lit × DataW H → Nat
  | (.string bytes, d) => bytes.length + uptoBulk d + 1
  | (_, d) => uptoBulk d + 1
 end
def uptoSmall : (H : Type) → List (DataW H) → Bool := fun _ ds => decide (uptoBulkAll ds ≤ 1048576)
def OpenSpec.upto (s : _root_.Go.ChangeSpec) : _root_.Go.OpenSpec := { _root_.Go.OpenSpec.ofChange s with cond := some uptoSmall }

/-- 'laws.FnExactCapacityOf', WHERE WHAT IT READS IS OF BULK AT MOST 1048576: true; the input reads as it did. -/
def fnExactCapacityOfUptoRow : OpenClaim := { program := "ytdkkogcgaaclhaa", sum := "7a59395dd33e216af339368e63516974b0b511861a582f05aba6aca4ac048b75", func := "loop.example/sortingoffice/laws.FnExactCapacityOf", spec := "fnExactCapacityOf", apart := false, narrowed := true }
def FnExactCapacityOfUptoSaid : Prop := fnExactCapacityOfUptoRow.holds Try.pinned (OpenSpec.upto fnExactCapacityOfSpec)

/-- 'laws.FnExactLeastBins', WHERE WHAT IT READS IS OF BULK AT MOST 1048576: true; the input reads as it did. -/
def fnExactLeastBinsUptoRow : OpenClaim := { program := "ytdkkogcgaaclhaa", sum := "7a59395dd33e216af339368e63516974b0b511861a582f05aba6aca4ac048b75", func := "loop.example/sortingoffice/laws.FnExactLeastBins", spec := "fnExactLeastBins", unfollowed := true, recurses := true, apart := false, narrowed := true }
def FnExactLeastBinsUptoSaid : Prop := fnExactLeastBinsUptoRow.holds Try.pinned (OpenSpec.upto fnExactLeastBinsSpec)

/-- 'laws.FnExactLeastPasses', WHERE WHAT IT READS IS OF BULK AT MOST 1048576: true; the input reads as it did. -/
def fnExactLeastPassesUptoRow : OpenClaim := { program := "ytdkkogcgaaclhaa", sum := "7a59395dd33e216af339368e63516974b0b511861a582f05aba6aca4ac048b75", func := "loop.example/sortingoffice/laws.FnExactLeastPasses", spec := "fnExactLeastPasses", unfollowed := true, recurses := true, apart := false, narrowed := true }
def FnExactLeastPassesUptoSaid : Prop := fnExactLeastPassesUptoRow.holds Try.pinned (OpenSpec.upto fnExactLeastPassesSpec)

/-- 'laws.FnCapacity', WHERE WHAT IT READS IS OF BULK AT MOST 1048576: true; the input reads as it did. -/
def fnCapacityUptoRow : OpenClaim := { program := "ytdkkogcgaaclhaa", sum := "7a59395dd33e216af339368e63516974b0b511861a582f05aba6aca4ac048b75", func := "loop.example/sortingoffice/laws.FnCapacity", spec := "fnCapacity", unfollowed := true, recurses := true, apart := false, narrowed := true }
def FnCapacityUptoSaid : Prop := fnCapacityUptoRow.holds Try.pinned (OpenSpec.upto fnCapacitySpec)

/-- 'laws.FnLeastBins', WHERE WHAT IT READS IS OF BULK AT MOST 1048576: true; the input reads as it did. -/
def fnLeastBinsUptoRow : OpenClaim := { program := "ytdkkogcgaaclhaa", sum := "7a59395dd33e216af339368e63516974b0b511861a582f05aba6aca4ac048b75", func := "loop.example/sortingoffice/laws.FnLeastBins", spec := "fnLeastBins", unfollowed := true, recurses := true, apart := false, narrowed := true }
def FnLeastBinsUptoSaid : Prop := fnLeastBinsUptoRow.holds Try.pinned (OpenSpec.upto fnLeastBinsSpec)

/-- 'laws.FnLeastPasses', WHERE WHAT IT READS IS OF BULK AT MOST 1048576: true; the input reads as it did. -/
def fnLeastPassesUptoRow : OpenClaim := { program := "ytdkkogcgaaclhaa", sum := "7a59395dd33e216af339368e63516974b0b511861a582f05aba6aca4ac048b75", func := "loop.example/sortingoffice/laws.FnLeastPasses", spec := "fnLeastPasses", unfollowed := true, recurses := true, apart := false, narrowed := true }
def FnLeastPassesUptoSaid : Prop := fnLeastPassesUptoRow.holds Try.pinned (OpenSpec.upto fnLeastPassesSpec)

end Rows
end Go.Proofs.Ytdkkogcgaaclhaa
