/-
  DERIVED. GIVEN WITH THE SEED: THE CARDS: each row of YtagbnfccagdlkaaDoorRows.lean that lists a variable, with what it lists TIED to the program's text (the seventh form; the later family's looks); each row that meets fmt, with fmt's text TOLD by the authors' own Lean function (tested against real Go, not proved from fmt's source: count such statements apart). THE CARD IS WHAT COUNTS. Prove the row's statement (the work); the ties are given (YtagbnfccagdlkaaDoorTie.lean); close each card by the builder's one call (the guide's Derived/Test/ToyasCard.lean, 'card_holds'). Laid BY PROGRAM, IN A SANDBOX (cutbox-door.mjs). By AI agents, Wed Nov 11 2026. No macro, syntax, notation, axiom, sorry.
-/
import Derived.Test.YtagbnfccagdlkaaDoorRows
import GoSem.ClaimSeven
namespace Go.Proofs.YtagbnfccagdlkaaDoor
namespace Rows

/-- THE TIED CARD OF 'laws.FnCheckValid'. -/
def fnCheckValidCard : Claim7 := { stood := { row := fnCheckValidRow, standIns := [], harness := (true, "e560c10062650362801cb27c0822e00c4fe1846fd9fcaf4b1f8463b7142ec617"), looks := false }, kinds := [], alts := [], laidByText := true, laidKinds := [.data], laidTests := true, laidLooks := .later }
def FnCheckValidCardSaid : Prop := Claim7.holds Tryd.pinned (.plain (OpenSpec.ofChange fnCheckValidSpec)) fnCheckValidCard

/-- THE SECOND FORM's CARD OF 'laws.FnCheckValid'. -/
def fnCheckValidUptoCard : Claim7 := { stood := { row := fnCheckValidUptoRow, standIns := [], harness := (true, "e560c10062650362801cb27c0822e00c4fe1846fd9fcaf4b1f8463b7142ec617"), looks := false }, kinds := [], alts := [], laidByText := true, laidKinds := [.data], laidTests := true, laidLooks := .later }
def FnCheckValidUptoCardSaid : Prop := Claim7.holds Tryd.pinned (.plain (OpenSpec.upto fnCheckValidSpec)) fnCheckValidUptoCard
end Rows
end Go.Proofs.YtagbnfccagdlkaaDoor
