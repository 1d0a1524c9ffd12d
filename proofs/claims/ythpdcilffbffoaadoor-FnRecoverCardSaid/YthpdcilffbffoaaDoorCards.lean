/-
  DERIVED. GIVEN WITH THE SEED: THE CARDS: each row of YthpdcilffbffoaaDoorRows.lean that lists a variable, with what it lists TIED to the program's text (the seventh form; the later family's looks); each row that meets fmt, with fmt's text TOLD by the authors' own Lean function (tested against real Go, not proved from fmt's source: count such statements apart). THE CARD IS WHAT COUNTS. Prove the row's statement (the work); the ties are given (YthpdcilffbffoaaDoorTie.lean); close each card by the builder's one call (the guide's Derived/Test/ToyasCard.lean, 'card_holds'). Laid BY PROGRAM, IN A SANDBOX (cutbox-door.mjs). By AI agents, Wed Nov 11 2026. No macro, syntax, notation, axiom, sorry.
-/
import Derived.Test.YthpdcilffbffoaaDoorRows
import GoSem.ClaimSeven
namespace Go.Proofs.YthpdcilffbffoaaDoor
namespace Rows

/-- THE TIED CARD OF 'laws.FnBarsRead'. -/
def fnBarsReadCard : Claim7 := { stood := { row := fnBarsReadRow, standIns := [], harness := (true, "c592097f825bc24d536599fdad565b43b78a8c721e0208807648da72979286c8"), looks := false }, kinds := [], alts := [], laidByText := true, laidKinds := [.data, .data, .data, .data, .data], laidTests := true, laidLooks := .later }
def FnBarsReadCardSaid : Prop := Claim7.holds Tryd.pinned (.plain (OpenSpec.ofChange fnBarsReadSpec)) fnBarsReadCard

/-- THE TIED CARD OF 'laws.FnReadBars'. -/
def fnReadBarsCard : Claim7 := { stood := { row := fnReadBarsRow, standIns := [], harness := (true, "c592097f825bc24d536599fdad565b43b78a8c721e0208807648da72979286c8"), looks := false }, kinds := [], alts := [], laidByText := true, laidKinds := [.data, .data, .data, .data, .data], laidTests := true, laidLooks := .later }
def FnReadBarsCardSaid : Prop := Claim7.holds Tryd.pinned (.plain (OpenSpec.ofChange fnReadBarsSpec)) fnReadBarsCard

/-- THE TIED CARD OF 'laws.FnReadEither'. -/
def fnReadEitherCard : Claim7 := { stood := { row := fnReadEitherRow, standIns := [], harness := (true, "c592097f825bc24d536599fdad565b43b78a8c721e0208807648da72979286c8"), looks := false }, kinds := [], alts := [], laidByText := true, laidKinds := [.data, .data, .data, .data, .data], laidTests := true, laidLooks := .later }
def FnReadEitherCardSaid : Prop := Claim7.holds Tryd.pinned (.plain (OpenSpec.ofChange fnReadEitherSpec)) fnReadEitherCard

/-- THE TIED CARD OF 'laws.FnRecover'. -/
def fnRecoverCard : Claim7 := { stood := { row := fnRecoverRow, standIns := [], harness := (true, "c592097f825bc24d536599fdad565b43b78a8c721e0208807648da72979286c8"), looks := false }, kinds := [], alts := [], laidByText := true, laidKinds := [.data, .data, .data, .data, .data], laidTests := true, laidLooks := .later }
def FnRecoverCardSaid : Prop := Claim7.holds Tryd.pinned (.plain (OpenSpec.ofChange fnRecoverSpec)) fnRecoverCard

/-- THE TIED CARD OF 'laws.FnRecoverTrue'. -/
def fnRecoverTrueCard : Claim7 := { stood := { row := fnRecoverTrueRow, standIns := [], harness := (true, "c592097f825bc24d536599fdad565b43b78a8c721e0208807648da72979286c8"), looks := false }, kinds := [], alts := [], laidByText := true, laidKinds := [.data, .data, .data, .data, .data], laidTests := true, laidLooks := .later }
def FnRecoverTrueCardSaid : Prop := Claim7.holds Tryd.pinned (.plain (OpenSpec.ofChange fnRecoverTrueSpec)) fnRecoverTrueCard

/-- THE TIED CARD OF 'laws.FnExactReadBars'. -/
def fnExactReadBarsCard : Claim7 := { stood := { row := fnExactReadBarsRow, standIns := [], harness := (true, "c592097f825bc24d536599fdad565b43b78a8c721e0208807648da72979286c8"), looks := false }, kinds := [], alts := [], laidByText := true, laidKinds := [.data, .data, .data, .data, .data], laidTests := true, laidLooks := .later }
def FnExactReadBarsCardSaid : Prop := Claim7.holds Tryd.pinned (.plain (OpenSpec.ofChange fnExactReadBarsSpec)) fnExactReadBarsCard

/-- THE TIED CARD OF 'laws.FnExactReadEither'. -/
def fnExactReadEitherCard : Claim7 := { stood := { row := fnExactReadEitherRow, standIns := [], harness := (true, "c592097f825bc24d536599fdad565b43b78a8c721e0208807648da72979286c8"), looks := false }, kinds := [], alts := [], laidByText := true, laidKinds := [.data, .data, .data, .data, .data], laidTests := true, laidLooks := .later }
def FnExactReadEitherCardSaid : Prop := Claim7.holds Tryd.pinned (.plain (OpenSpec.ofChange fnExactReadEitherSpec)) fnExactReadEitherCard

/-- THE TIED CARD OF 'laws.FnExactRecoverBars'. -/
def fnExactRecoverBarsCard : Claim7 := { stood := { row := fnExactRecoverBarsRow, standIns := [], harness := (true, "c592097f825bc24d536599fdad565b43b78a8c721e0208807648da72979286c8"), looks := false }, kinds := [], alts := [], laidByText := true, laidKinds := [.data, .data, .data, .data, .data], laidTests := true, laidLooks := .later }
def FnExactRecoverBarsCardSaid : Prop := Claim7.holds Tryd.pinned (.plain (OpenSpec.ofChange fnExactRecoverBarsSpec)) fnExactRecoverBarsCard

/-- THE SECOND FORM's CARD OF 'laws.FnBarsRead'. -/
def fnBarsReadUptoCard : Claim7 := { stood := { row := fnBarsReadUptoRow, standIns := [], harness := (true, "c592097f825bc24d536599fdad565b43b78a8c721e0208807648da72979286c8"), looks := false }, kinds := [], alts := [], laidByText := true, laidKinds := [.data, .data, .data, .data, .data], laidTests := true, laidLooks := .later }
def FnBarsReadUptoCardSaid : Prop := Claim7.holds Tryd.pinned (.plain (OpenSpec.upto fnBarsReadSpec)) fnBarsReadUptoCard

/-- THE SECOND FORM's CARD OF 'laws.FnReadBars'. -/
def fnReadBarsUptoCard : Claim7 := { stood := { row := fnReadBarsUptoRow, standIns := [], harness := (true, "c592097f825bc24d536599fdad565b43b78a8c721e0208807648da72979286c8"), looks := false }, kinds := [], alts := [], laidByText := true, laidKinds := [.data, .data, .data, .data, .data], laidTests := true, laidLooks := .later }
def FnReadBarsUptoCardSaid : Prop := Claim7.holds Tryd.pinned (.plain (OpenSpec.upto fnReadBarsSpec)) fnReadBarsUptoCard

/-- THE SECOND FORM's CARD OF 'laws.FnReadEither'. -/
def fnReadEitherUptoCard : Claim7 := { stood := { row := fnReadEitherUptoRow, standIns := [], harness := (true, "c592097f825bc24d536599fdad565b43b78a8c721e0208807648da72979286c8"), looks := false }, kinds := [], alts := [], laidByText := true, laidKinds := [.data, .data, .data, .data, .data], laidTests := true, laidLooks := .later }
def FnReadEitherUptoCardSaid : Prop := Claim7.holds Tryd.pinned (.plain (OpenSpec.upto fnReadEitherSpec)) fnReadEitherUptoCard

/-- THE SECOND FORM's CARD OF 'laws.FnRecover'. -/
def fnRecoverUptoCard : Claim7 := { stood := { row := fnRecoverUptoRow, standIns := [], harness := (true, "c592097f825bc24d536599fdad565b43b78a8c721e0208807648da72979286c8"), looks := false }, kinds := [], alts := [], laidByText := true, laidKinds := [.data, .data, .data, .data, .data], laidTests := true, laidLooks := .later }
def FnRecoverUptoCardSaid : Prop := Claim7.holds Tryd.pinned (.plain (OpenSpec.upto fnRecoverSpec)) fnRecoverUptoCard

/-- THE SECOND FORM's CARD OF 'laws.FnRecoverTrue'. -/
def fnRecoverTrueUptoCard : Claim7 := { stood := { row := fnRecoverTrueUptoRow, standIns := [], harness := (true, "c592097f825bc24d536599fdad565b43b78a8c721e0208807648da72979286c8"), looks := false }, kinds := [], alts := [], laidByText := true, laidKinds := [.data, .data, .data, .data, .data], laidTests := true, laidLooks := .later }
def FnRecoverTrueUptoCardSaid : Prop := Claim7.holds Tryd.pinned (.plain (OpenSpec.upto fnRecoverTrueSpec)) fnRecoverTrueUptoCard

/-- THE SECOND FORM's CARD OF 'laws.FnExactReadBars'. -/
def fnExactReadBarsUptoCard : Claim7 := { stood := { row := fnExactReadBarsUptoRow, standIns := [], harness := (true, "c592097f825bc24d536599fdad565b43b78a8c721e0208807648da72979286c8"), looks := false }, kinds := [], alts := [], laidByText := true, laidKinds := [.data, .data, .data, .data, .data], laidTests := true, laidLooks := .later }
def FnExactReadBarsUptoCardSaid : Prop := Claim7.holds Tryd.pinned (.plain (OpenSpec.upto fnExactReadBarsSpec)) fnExactReadBarsUptoCard

/-- THE SECOND FORM's CARD OF 'laws.FnExactReadEither'. -/
def fnExactReadEitherUptoCard : Claim7 := { stood := { row := fnExactReadEitherUptoRow, standIns := [], harness := (true, "c592097f825bc24d536599fdad565b43b78a8c721e0208807648da72979286c8"), looks := false }, kinds := [], alts := [], laidByText := true, laidKinds := [.data, .data, .data, .data, .data], laidTests := true, laidLooks := .later }
def FnExactReadEitherUptoCardSaid : Prop := Claim7.holds Tryd.pinned (.plain (OpenSpec.upto fnExactReadEitherSpec)) fnExactReadEitherUptoCard

/-- THE SECOND FORM's CARD OF 'laws.FnExactRecoverBars'. -/
def fnExactRecoverBarsUptoCard : Claim7 := { stood := { row := fnExactRecoverBarsUptoRow, standIns := [], harness := (true, "c592097f825bc24d536599fdad565b43b78a8c721e0208807648da72979286c8"), looks := false }, kinds := [], alts := [], laidByText := true, laidKinds := [.data, .data, .data, .data, .data], laidTests := true, laidLooks := .later }
def FnExactRecoverBarsUptoCardSaid : Prop := Claim7.holds Tryd.pinned (.plain (OpenSpec.upto fnExactRecoverBarsSpec)) fnExactRecoverBarsUptoCard
end Rows
end Go.Proofs.YthpdcilffbffoaaDoor
