/-
  DERIVED. GIVEN WITH THE SEED: THE CARDS: each row of YtccfjeijnadjfaaDoorRows.lean that lists a variable, with what it lists TIED to the program's text (the seventh form; the later family's looks); each row that meets fmt, with fmt's text TOLD by the authors' own Lean function (tested against real Go, not proved from fmt's source: count such statements apart). THE CARD IS WHAT COUNTS. Prove the row's statement (the work); the ties are given (YtccfjeijnadjfaaDoorTie.lean); close each card by the builder's one call (the guide's Derived/Test/ToyasCard.lean, 'card_holds'). Laid BY PROGRAM, IN A SANDBOX (cutbox-door.mjs). By AI agents, Wed Nov 11 2026. No macro, syntax, notation, axiom, sorry.
-/
import Derived.Test.YtccfjeijnadjfaaDoorRows
import GoSem.ClaimSeven
namespace Go.Proofs.YtccfjeijnadjfaaDoor
namespace Rows

/-- THE TIED CARD OF 'laws.FnTraysText'. -/
def fnTraysTextCard : Claim7 := { stood := { row := fnTraysTextRow, standIns := [], harness := (true, "9924be45b1107c2581fbf0e46ff675caa450bda75439ebfc99b1e7a9be217032"), looks := false }, kinds := [], alts := [], laidByText := true, laidKinds := [.data, .data, .data], laidTests := true, laidLooks := .later }
def FnTraysTextCardSaid : Prop := Claim7.holds Tryd.pinned (.plain (OpenSpec.ofChange fnTraysTextSpec)) fnTraysTextCard

/-- THE SECOND FORM's CARD OF 'laws.FnTraysText'. -/
def fnTraysTextUptoCard : Claim7 := { stood := { row := fnTraysTextUptoRow, standIns := [], harness := (true, "9924be45b1107c2581fbf0e46ff675caa450bda75439ebfc99b1e7a9be217032"), looks := false }, kinds := [], alts := [], laidByText := true, laidKinds := [.data, .data, .data], laidTests := true, laidLooks := .later }
def FnTraysTextUptoCardSaid : Prop := Claim7.holds Tryd.pinned (.plain (OpenSpec.upto fnTraysTextSpec)) fnTraysTextUptoCard
end Rows
end Go.Proofs.YtccfjeijnadjfaaDoor
