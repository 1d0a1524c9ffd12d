/-
  No cell of these rows narrows 'for every input' (looked for: loops, veiled, ifaces, maps, wideKeys, modest, calm, conditions, laid).
  DERIVED. THE GIVEN ROWS OF THIS SEAT. 5 by the template 'for every input the law returns true; each argument reads behind the call as it read before'; 0 by the template 'total and deterministic' (their statements: YtkalhdobefbkfaaTotals.lean).
  GIVEN WITH THE SEED: the statements are not yours to turn. If you find one false, say at which input.
  Laid BY PROGRAM, IN A SANDBOX (cutbox-rows.mjs): the forced cells as the released guide's own fill.sh prints them over the translation 54592fcfbd612995… (all of the seat's roots in one cut). By AI agents, Wed Nov 11 2026. No macro, syntax, notation, axiom, sorry.
-/
import Derived.Test.YtkalhdobefbkfaaChecked
import GoSem.Claim
import GoSem.ClaimJoined
import GoSem.ClaimMapViews
import Derived.JoinedTies
import Derived.KernelRfl
namespace Go.Proofs.Ytkalhdobefbkfaa
/- THE CELL 'sum', in the pinned program and in every row, IS THE sha256 OF THE DUMP (.gsa) THAT YtkalhdobefbkfaaProg.lean LOADS. Nothing in Lean hashes anything: it is a label: what it is worth is what the hold of that sum in a sandbox is worth. -/
noncomputable def Try.pinned : Pinned := { name := "ytkalhdobefbkfaa", sum := "54592fcfbd6129954f0fe1d067a1b00f5bc9feb843ce94091ea954c04f746041", checked := Try.checked }
namespace Rows
def none {H : Type} : Left H := { results := [], args := [] }

/-- 'laws.FnExactDigitsValid': WHATEVER THE INPUT: true; the input reads as it did. -/
def fnExactDigitsValidSpec : ChangeSpec := { name := "fnExactDigitsValid", fn := fun _ => fun
  | [d] => { results := [.lit (.bool true)], args := [d] }
  | _ => none }
def fnExactDigitsValidRow : OpenClaim := { program := "ytkalhdobefbkfaa", sum := "54592fcfbd6129954f0fe1d067a1b00f5bc9feb843ce94091ea954c04f746041", func := "loop.example/sortingoffice/laws.FnExactDigitsValid", spec := "fnExactDigitsValid", apart := false }
def FnExactDigitsValidSaid : Prop := fnExactDigitsValidRow.holds Try.pinned (OpenSpec.ofChange fnExactDigitsValidSpec)

/-- ITS FALSE NEIGHBOUR: 'it returns false'. Refute it at one input. -/
def fnExactDigitsValidWrong : ChangeSpec := { name := "fnExactDigitsValid", fn := fun _ => fun
  | [d] => { results := [.lit (.bool false)], args := [d] }
  | _ => none }
def FnExactDigitsValidWrongFalsely : Prop := fnExactDigitsValidRow.holds Try.pinned (OpenSpec.ofChange fnExactDigitsValidWrong)

/-- 'laws.FnExactCodeValid': WHATEVER THE INPUT: true; the input reads as it did. -/
def fnExactCodeValidSpec : ChangeSpec := { name := "fnExactCodeValid", fn := fun _ => fun
  | [d] => { results := [.lit (.bool true)], args := [d] }
  | _ => none }
def fnExactCodeValidRow : OpenClaim := { program := "ytkalhdobefbkfaa", sum := "54592fcfbd6129954f0fe1d067a1b00f5bc9feb843ce94091ea954c04f746041", func := "loop.example/sortingoffice/laws.FnExactCodeValid", spec := "fnExactCodeValid", apart := false }
def FnExactCodeValidSaid : Prop := fnExactCodeValidRow.holds Try.pinned (OpenSpec.ofChange fnExactCodeValidSpec)

/-- ITS FALSE NEIGHBOUR: 'it returns false'. Refute it at one input. -/
def fnExactCodeValidWrong : ChangeSpec := { name := "fnExactCodeValid", fn := fun _ => fun
  | [d] => { results := [.lit (.bool false)], args := [d] }
  | _ => none }
def FnExactCodeValidWrongFalsely : Prop := fnExactCodeValidRow.holds Try.pinned (OpenSpec.ofChange fnExactCodeValidWrong)

/-- 'laws.FnExactPlaceValid': WHATEVER THE INPUT: true; the input reads as it did. -/
def fnExactPlaceValidSpec : ChangeSpec := { name := "fnExactPlaceValid", fn := fun _ => fun
  | [d] => { results := [.lit (.bool true)], args := [d] }
  | _ => none }
def fnExactPlaceValidRow : OpenClaim := { program := "ytkalhdobefbkfaa", sum := "54592fcfbd6129954f0fe1d067a1b00f5bc9feb843ce94091ea954c04f746041", func := "loop.example/sortingoffice/laws.FnExactPlaceValid", spec := "fnExactPlaceValid", apart := false }
def FnExactPlaceValidSaid : Prop := fnExactPlaceValidRow.holds Try.pinned (OpenSpec.ofChange fnExactPlaceValidSpec)

/-- ITS FALSE NEIGHBOUR: 'it returns false'. Refute it at one input. -/
def fnExactPlaceValidWrong : ChangeSpec := { name := "fnExactPlaceValid", fn := fun _ => fun
  | [d] => { results := [.lit (.bool false)], args := [d] }
  | _ => none }
def FnExactPlaceValidWrongFalsely : Prop := fnExactPlaceValidRow.holds Try.pinned (OpenSpec.ofChange fnExactPlaceValidWrong)

/-- 'laws.FnExactPlaceOf': WHATEVER THE INPUT: true; the input reads as it did. -/
def fnExactPlaceOfSpec : ChangeSpec := { name := "fnExactPlaceOf", fn := fun _ => fun
  | [d] => { results := [.lit (.bool true)], args := [d] }
  | _ => none }
def fnExactPlaceOfRow : OpenClaim := { program := "ytkalhdobefbkfaa", sum := "54592fcfbd6129954f0fe1d067a1b00f5bc9feb843ce94091ea954c04f746041", func := "loop.example/sortingoffice/laws.FnExactPlaceOf", spec := "fnExactPlaceOf", apart := false }
def FnExactPlaceOfSaid : Prop := fnExactPlaceOfRow.holds Try.pinned (OpenSpec.ofChange fnExactPlaceOfSpec)

/-- ITS FALSE NEIGHBOUR: 'it returns false'. Refute it at one input. -/
def fnExactPlaceOfWrong : ChangeSpec := { name := "fnExactPlaceOf", fn := fun _ => fun
  | [d] => { results := [.lit (.bool false)], args := [d] }
  | _ => none }
def FnExactPlaceOfWrongFalsely : Prop := fnExactPlaceOfRow.holds Try.pinned (OpenSpec.ofChange fnExactPlaceOfWrong)

/-- 'laws.FnExactTurnBars': WHATEVER THE INPUT: true; the input reads as it did. -/
def fnExactTurnBarsSpec : ChangeSpec := { name := "fnExactTurnBars", fn := fun _ => fun
  | [d] => { results := [.lit (.bool true)], args := [d] }
  | _ => none }
def fnExactTurnBarsRow : OpenClaim := { program := "ytkalhdobefbkfaa", sum := "54592fcfbd6129954f0fe1d067a1b00f5bc9feb843ce94091ea954c04f746041", func := "loop.example/sortingoffice/laws.FnExactTurnBars", spec := "fnExactTurnBars", apart := false }
def FnExactTurnBarsSaid : Prop := fnExactTurnBarsRow.holds Try.pinned (OpenSpec.ofChange fnExactTurnBarsSpec)

/-- ITS FALSE NEIGHBOUR: 'it returns false'. Refute it at one input. -/
def fnExactTurnBarsWrong : ChangeSpec := { name := "fnExactTurnBars", fn := fun _ => fun
  | [d] => { results := [.lit (.bool false)], args := [d] }
  | _ => none }
def FnExactTurnBarsWrongFalsely : Prop := fnExactTurnBarsRow.holds Try.pinned (OpenSpec.ofChange fnExactTurnBarsWrong)

/- THE SECOND FORM. 'bulk': how many values and letters a reading holds, each counted each time it is reached (what is shared counts as often as it is met; a slice's spare places count too). A statement '..UptoSaid' is the law's where the arguments, and the package variables that the reading takes, are together of bulk at most 1048576: NARROWER than '..Said'. Prove '..Said' where nothing that the law and all that it calls make is longer than what came in: it says more and counts as full. Else prove '..UptoSaid'. A law counts once. -/
mutual
def uptoBulk {H : Type} : DataW H → Nat
  | .lit (.string bytes) => bytes.length + 1
  | .lit _ => 1
  | .nil => 1
  | .ptr d => uptoBulk d + 1
  | .slice elems spare => uptoBulkAll elems + uptoBulkAll spare + 1
  | .agg parts => uptoBulkAll parts + 1
  | .iface _ d => uptoBulk d + 1
  | .map entries => uptoBulkEntries entries + 1
  | .held _ => 1
def uptoBulkAll {H : Type} : List (DataW H) → Nat
  | [] => 0
  | d :: r => uptoBulk d + uptoBulkAll r
def uptoBulkEntries {H : Type} : List (Lit × DataW H) → Nat
  | [] => 0
  | x :: r => uptoBulkEntry x + uptoBulkEntries r
def uptoBulkEntry {H : Type} : Lit × DataW H → Nat
  | (.string bytes, d) => bytes.length + uptoBulk d + 1
  | (_, d) => uptoBulk d + 1
 end
def uptoSmall : (H : Type) → List (DataW H) → Bool := fun _ ds => decide (uptoBulkAll ds ≤ 1048576)
def OpenSpec.upto (s : _root_.Go.ChangeSpec) : _root_.Go.OpenSpec := { _root_.Go.OpenSpec.ofChange s with cond := some uptoSmall }

/-- 'laws.FnExactDigitsValid', WHERE WHAT IT READS IS OF BULK AT MOST 1048576: true; the input reads as it did. -/
def fnExactDigitsValidUptoRow : OpenClaim := { program := "ytkalhdobefbkfaa", sum := "54592fcfbd6129954f0fe1d067a1b00f5bc9feb843ce94091ea954c04f746041", func := "loop.example/sortingoffice/laws.FnExactDigitsValid", spec := "fnExactDigitsValid", apart := false, narrowed := true }
def FnExactDigitsValidUptoSaid : Prop := fnExactDigitsValidUptoRow.holds Try.pinned (OpenSpec.upto fnExactDigitsValidSpec)

/-- 'laws.FnExactCodeValid', WHERE WHAT IT READS IS OF BULK AT MOST 1048576: true; the input reads as it did. -/
def fnExactCodeValidUptoRow : OpenClaim := { program := "ytkalhdobefbkfaa", sum := "54592fcfbd6129954f0fe1d067a1b00f5bc9feb843ce94091ea954c04f746041", func := "loop.example/sortingoffice/laws.FnExactCodeValid", spec := "fnExactCodeValid", apart := false, narrowed := true }
def FnExactCodeValidUptoSaid : Prop := fnExactCodeValidUptoRow.holds Try.pinned (OpenSpec.upto fnExactCodeValidSpec)

/-- 'laws.FnExactPlaceValid', WHERE WHAT IT READS IS OF BULK AT MOST 1048576: true; the input reads as it did. -/
def fnExactPlaceValidUptoRow : OpenClaim := { program := "ytkalhdobefbkfaa", sum := "54592fcfbd6129954f0fe1d067a1b00f5bc9feb843ce94091ea954c04f746041", func := "loop.example/sortingoffice/laws.FnExactPlaceValid", spec := "fnExactPlaceValid", apart := false, narrowed := true }
def FnExactPlaceValidUptoSaid : Prop := fnExactPlaceValidUptoRow.holds Try.pinned (OpenSpec.upto fnExactPlaceValidSpec)

/-- 'laws.FnExactPlaceOf', WHERE WHAT IT READS IS OF BULK AT MOST 1048576: true; the input reads as it did. -/
def fnExactPlaceOfUptoRow : OpenClaim := { program := "ytkalhdobefbkfaa", sum := "54592fcfbd6129954f0fe1d067a1b00f5bc9feb843ce94091ea954c04f746041", func := "loop.example/sortingoffice/laws.FnExactPlaceOf", spec := "fnExactPlaceOf", apart := false, narrowed := true }
def FnExactPlaceOfUptoSaid : Prop := fnExactPlaceOfUptoRow.holds Try.pinned (OpenSpec.upto fnExactPlaceOfSpec)

/-- 'laws.FnExactTurnBars', WHERE WHAT IT READS IS OF BULK AT MOST 1048576: true; the input reads as it did. -/
def fnExactTurnBarsUptoRow : OpenClaim := { program := "ytkalhdobefbkfaa", sum := "54592fcfbd6129954f0fe1d067a1b00f5bc9feb843ce94091ea954c04f746041", func := "loop.example/sortingoffice/laws.FnExactTurnBars", spec := "fnExactTurnBars", apart := false, narrowed := true }
def FnExactTurnBarsUptoSaid : Prop := fnExactTurnBarsUptoRow.holds Try.pinned (OpenSpec.upto fnExactTurnBarsSpec)

end Rows
end Go.Proofs.Ytkalhdobefbkfaa
