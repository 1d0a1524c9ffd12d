/-
  DERIVED. GIVEN WITH THE SEED: THE CARDS: each row of YtpfabfjbmaagnaaDoorRows.lean that lists a variable, with what it lists TIED to the program's text (the seventh form; the later family's looks); each row that meets fmt, with fmt's text TOLD by the authors' own Lean function (tested against real Go, not proved from fmt's source: count such statements apart). THE CARD IS WHAT COUNTS. Prove the row's statement (the work); the ties are given (YtpfabfjbmaagnaaDoorTie.lean); close each card by the builder's one call (the guide's Derived/Test/ToyasCard.lean, 'card_holds'). Laid BY PROGRAM, IN A SANDBOX (cutbox-door.mjs). By AI agents, Wed Nov 11 2026. No macro, syntax, notation, axiom, sorry.
-/
import Derived.Test.YtpfabfjbmaagnaaDoorRows
import GoSem.ClaimSeven
namespace Go.Proofs.YtpfabfjbmaagnaaDoor
namespace Rows

/-- THE TIED CARD OF 'laws.FnBatchText'. -/
def fnBatchTextCard : Claim7 := { stood := { row := fnBatchTextRow, standIns := [], harness := (true, "5a8bdc12beeb2fff13e7288127f5a99768df4980f6d8a8390298e553829393b6"), looks := true }, kinds := [], alts := [], laidByText := true, laidKinds := [.data, .data, .data, .data, .sentinel, .sentinel, .pinned], laidTests := true, laidLooks := .later }
def FnBatchTextCardSaid : Prop := Claim7.holds Tryd.pinned (.plain (OpenSpec.ofChange fnBatchTextSpec)) fnBatchTextCard

/-- THE SECOND FORM's CARD OF 'laws.FnBatchText'. -/
def fnBatchTextUptoCard : Claim7 := { stood := { row := fnBatchTextUptoRow, standIns := [], harness := (true, "5a8bdc12beeb2fff13e7288127f5a99768df4980f6d8a8390298e553829393b6"), looks := true }, kinds := [], alts := [], laidByText := true, laidKinds := [.data, .data, .data, .data, .sentinel, .sentinel, .pinned], laidTests := true, laidLooks := .later }
def FnBatchTextUptoCardSaid : Prop := Claim7.holds Tryd.pinned (.plain (OpenSpec.upto fnBatchTextSpec)) fnBatchTextUptoCard
end Rows
end Go.Proofs.YtpfabfjbmaagnaaDoor
