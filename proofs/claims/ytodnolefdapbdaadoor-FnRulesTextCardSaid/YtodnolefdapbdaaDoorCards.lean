/-
  DERIVED. GIVEN WITH THE SEED: THE CARDS: each row of YtodnolefdapbdaaDoorRows.lean that lists a variable, with what it lists TIED to the program's text (the seventh form; the later family's looks); each row that meets fmt, with fmt's text TOLD by the authors' own Lean function (tested against real Go, not proved from fmt's source: count such statements apart). THE CARD IS WHAT COUNTS. Prove the row's statement (the work); the ties are given (YtodnolefdapbdaaDoorTie.lean); close each card by the builder's one call (the guide's Derived/Test/ToyasCard.lean, 'card_holds'). Laid BY PROGRAM, IN A SANDBOX (cutbox-door.mjs). By AI agents, Wed Nov 11 2026. No macro, syntax, notation, axiom, sorry.
-/
import Derived.Test.YtodnolefdapbdaaDoorRows
import GoSem.ClaimSeven
namespace Go.Proofs.YtodnolefdapbdaaDoor
namespace Rows

/-- THE TIED CARD OF 'laws.FnForwardsText'. -/
def fnForwardsTextCard : Claim7 := { stood := { row := fnForwardsTextRow, standIns := [], harness := (true, "6e6e71e984dd7d3e5d02a40758f8def166d1648d2ddbe88229d80c9e9c0dd843"), looks := false }, kinds := [], alts := [], laidByText := true, laidKinds := [.data, .pinned], laidTests := true, laidLooks := .later }
def FnForwardsTextCardSaid : Prop := Claim7.holds Tryd.pinned (.plain (OpenSpec.ofChange fnForwardsTextSpec)) fnForwardsTextCard

/-- THE TIED CARD OF 'laws.FnRulesText'. -/
def fnRulesTextCard : Claim7 := { stood := { row := fnRulesTextRow, standIns := [], harness := (true, "6e6e71e984dd7d3e5d02a40758f8def166d1648d2ddbe88229d80c9e9c0dd843"), looks := false }, kinds := [], alts := [], laidByText := true, laidKinds := [.data, .pinned], laidTests := true, laidLooks := .later }
def FnRulesTextCardSaid : Prop := Claim7.holds Tryd.pinned (.plain (OpenSpec.ofChange fnRulesTextSpec)) fnRulesTextCard

/-- THE SECOND FORM's CARD OF 'laws.FnForwardsText'. -/
def fnForwardsTextUptoCard : Claim7 := { stood := { row := fnForwardsTextUptoRow, standIns := [], harness := (true, "6e6e71e984dd7d3e5d02a40758f8def166d1648d2ddbe88229d80c9e9c0dd843"), looks := false }, kinds := [], alts := [], laidByText := true, laidKinds := [.data, .pinned], laidTests := true, laidLooks := .later }
def FnForwardsTextUptoCardSaid : Prop := Claim7.holds Tryd.pinned (.plain (OpenSpec.upto fnForwardsTextSpec)) fnForwardsTextUptoCard

/-- THE SECOND FORM's CARD OF 'laws.FnRulesText'. -/
def fnRulesTextUptoCard : Claim7 := { stood := { row := fnRulesTextUptoRow, standIns := [], harness := (true, "6e6e71e984dd7d3e5d02a40758f8def166d1648d2ddbe88229d80c9e9c0dd843"), looks := false }, kinds := [], alts := [], laidByText := true, laidKinds := [.data, .pinned], laidTests := true, laidLooks := .later }
def FnRulesTextUptoCardSaid : Prop := Claim7.holds Tryd.pinned (.plain (OpenSpec.upto fnRulesTextSpec)) fnRulesTextUptoCard
end Rows
end Go.Proofs.YtodnolefdapbdaaDoor
