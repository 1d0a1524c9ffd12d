/-
  DERIVED. GIVEN WITH THE SEED: THE CARDS: each row of YteaekomdbiaemaaDoorRows.lean that lists a variable, with what it lists TIED to the program's text (the seventh form; the later family's looks); each row that meets fmt, with fmt's text TOLD by the authors' own Lean function (tested against real Go, not proved from fmt's source: count such statements apart). THE CARD IS WHAT COUNTS. Prove the row's statement (the work); the ties are given (YteaekomdbiaemaaDoorTie.lean); close each card by the builder's one call (the guide's Derived/Test/ToyasCard.lean, 'card_holds'). Laid BY PROGRAM, IN A SANDBOX (cutbox-door.mjs). By AI agents, Wed Nov 11 2026. No macro, syntax, notation, axiom, sorry.
-/
import Derived.Test.YteaekomdbiaemaaDoorRows
import GoSem.ClaimSeven
namespace Go.Proofs.YteaekomdbiaemaaDoor
namespace Rows

/-- THE TIED CARD OF 'laws.FnCheckDigit'. -/
def fnCheckDigitCard : Claim7 := { stood := { row := fnCheckDigitRow, standIns := [], harness := (true, "f20aa758a9dcb3f5d0dc7efc00d6231dbe423a493029c7f9f9fb650eb9f8c17e"), looks := false }, kinds := [], alts := [], laidByText := true, laidKinds := [.data], laidTests := true, laidLooks := .later }
def FnCheckDigitCardSaid : Prop := Claim7.holds Tryd.pinned (.plain (OpenSpec.ofChange fnCheckDigitSpec)) fnCheckDigitCard

/-- THE TIED CARD OF 'laws.FnCheckValid'. -/
def fnCheckValidCard : Claim7 := { stood := { row := fnCheckValidRow, standIns := [], harness := (true, "f20aa758a9dcb3f5d0dc7efc00d6231dbe423a493029c7f9f9fb650eb9f8c17e"), looks := false }, kinds := [], alts := [], laidByText := true, laidKinds := [.data], laidTests := true, laidLooks := .later }
def FnCheckValidCardSaid : Prop := Claim7.holds Tryd.pinned (.plain (OpenSpec.ofChange fnCheckValidSpec)) fnCheckValidCard

/-- THE TIED CARD OF 'laws.FnDigitBars'. -/
def fnDigitBarsCard : Claim7 := { stood := { row := fnDigitBarsRow, standIns := [], harness := (true, "f20aa758a9dcb3f5d0dc7efc00d6231dbe423a493029c7f9f9fb650eb9f8c17e"), looks := false }, kinds := [], alts := [], laidByText := true, laidKinds := [.data], laidTests := true, laidLooks := .later }
def FnDigitBarsCardSaid : Prop := Claim7.holds Tryd.pinned (.plain (OpenSpec.ofChange fnDigitBarsSpec)) fnDigitBarsCard

/-- THE TIED CARD OF 'laws.FnBarsDigit'. -/
def fnBarsDigitCard : Claim7 := { stood := { row := fnBarsDigitRow, standIns := [], harness := (true, "f20aa758a9dcb3f5d0dc7efc00d6231dbe423a493029c7f9f9fb650eb9f8c17e"), looks := false }, kinds := [], alts := [], laidByText := true, laidKinds := [.data], laidTests := true, laidLooks := .later }
def FnBarsDigitCardSaid : Prop := Claim7.holds Tryd.pinned (.plain (OpenSpec.ofChange fnBarsDigitSpec)) fnBarsDigitCard

/-- THE TIED CARD OF 'laws.FnExactCheckDigit'. -/
def fnExactCheckDigitCard : Claim7 := { stood := { row := fnExactCheckDigitRow, standIns := [], harness := (true, "f20aa758a9dcb3f5d0dc7efc00d6231dbe423a493029c7f9f9fb650eb9f8c17e"), looks := false }, kinds := [], alts := [], laidByText := true, laidKinds := [.data], laidTests := true, laidLooks := .later }
def FnExactCheckDigitCardSaid : Prop := Claim7.holds Tryd.pinned (.plain (OpenSpec.ofChange fnExactCheckDigitSpec)) fnExactCheckDigitCard

/-- THE TIED CARD OF 'laws.FnExactCheckValid'. -/
def fnExactCheckValidCard : Claim7 := { stood := { row := fnExactCheckValidRow, standIns := [], harness := (true, "f20aa758a9dcb3f5d0dc7efc00d6231dbe423a493029c7f9f9fb650eb9f8c17e"), looks := false }, kinds := [], alts := [], laidByText := true, laidKinds := [.data], laidTests := true, laidLooks := .later }
def FnExactCheckValidCardSaid : Prop := Claim7.holds Tryd.pinned (.plain (OpenSpec.ofChange fnExactCheckValidSpec)) fnExactCheckValidCard

/-- THE TIED CARD OF 'laws.FnExactDigitBars'. -/
def fnExactDigitBarsCard : Claim7 := { stood := { row := fnExactDigitBarsRow, standIns := [], harness := (true, "f20aa758a9dcb3f5d0dc7efc00d6231dbe423a493029c7f9f9fb650eb9f8c17e"), looks := false }, kinds := [], alts := [], laidByText := true, laidKinds := [.data], laidTests := true, laidLooks := .later }
def FnExactDigitBarsCardSaid : Prop := Claim7.holds Tryd.pinned (.plain (OpenSpec.ofChange fnExactDigitBarsSpec)) fnExactDigitBarsCard

/-- THE TIED CARD OF 'laws.FnExactBarsDigit'. -/
def fnExactBarsDigitCard : Claim7 := { stood := { row := fnExactBarsDigitRow, standIns := [], harness := (true, "f20aa758a9dcb3f5d0dc7efc00d6231dbe423a493029c7f9f9fb650eb9f8c17e"), looks := false }, kinds := [], alts := [], laidByText := true, laidKinds := [.data], laidTests := true, laidLooks := .later }
def FnExactBarsDigitCardSaid : Prop := Claim7.holds Tryd.pinned (.plain (OpenSpec.ofChange fnExactBarsDigitSpec)) fnExactBarsDigitCard

/-- THE TIED CARD OF 'laws.FnExactBarsOf'. -/
def fnExactBarsOfCard : Claim7 := { stood := { row := fnExactBarsOfRow, standIns := [], harness := (true, "f20aa758a9dcb3f5d0dc7efc00d6231dbe423a493029c7f9f9fb650eb9f8c17e"), looks := false }, kinds := [], alts := [], laidByText := true, laidKinds := [.data, .data], laidTests := true, laidLooks := .later }
def FnExactBarsOfCardSaid : Prop := Claim7.holds Tryd.pinned (.plain (OpenSpec.ofChange fnExactBarsOfSpec)) fnExactBarsOfCard

/-- THE SECOND FORM's CARD OF 'laws.FnCheckDigit'. -/
def fnCheckDigitUptoCard : Claim7 := { stood := { row := fnCheckDigitUptoRow, standIns := [], harness := (true, "f20aa758a9dcb3f5d0dc7efc00d6231dbe423a493029c7f9f9fb650eb9f8c17e"), looks := false }, kinds := [], alts := [], laidByText := true, laidKinds := [.data], laidTests := true, laidLooks := .later }
def FnCheckDigitUptoCardSaid : Prop := Claim7.holds Tryd.pinned (.plain (OpenSpec.upto fnCheckDigitSpec)) fnCheckDigitUptoCard

/-- THE SECOND FORM's CARD OF 'laws.FnCheckValid'. -/
def fnCheckValidUptoCard : Claim7 := { stood := { row := fnCheckValidUptoRow, standIns := [], harness := (true, "f20aa758a9dcb3f5d0dc7efc00d6231dbe423a493029c7f9f9fb650eb9f8c17e"), looks := false }, kinds := [], alts := [], laidByText := true, laidKinds := [.data], laidTests := true, laidLooks := .later }
def FnCheckValidUptoCardSaid : Prop := Claim7.holds Tryd.pinned (.plain (OpenSpec.upto fnCheckValidSpec)) fnCheckValidUptoCard

/-- THE SECOND FORM's CARD OF 'laws.FnDigitBars'. -/
def fnDigitBarsUptoCard : Claim7 := { stood := { row := fnDigitBarsUptoRow, standIns := [], harness := (true, "f20aa758a9dcb3f5d0dc7efc00d6231dbe423a493029c7f9f9fb650eb9f8c17e"), looks := false }, kinds := [], alts := [], laidByText := true, laidKinds := [.data], laidTests := true, laidLooks := .later }
def FnDigitBarsUptoCardSaid : Prop := Claim7.holds Tryd.pinned (.plain (OpenSpec.upto fnDigitBarsSpec)) fnDigitBarsUptoCard

/-- THE SECOND FORM's CARD OF 'laws.FnBarsDigit'. -/
def fnBarsDigitUptoCard : Claim7 := { stood := { row := fnBarsDigitUptoRow, standIns := [], harness := (true, "f20aa758a9dcb3f5d0dc7efc00d6231dbe423a493029c7f9f9fb650eb9f8c17e"), looks := false }, kinds := [], alts := [], laidByText := true, laidKinds := [.data], laidTests := true, laidLooks := .later }
def FnBarsDigitUptoCardSaid : Prop := Claim7.holds Tryd.pinned (.plain (OpenSpec.upto fnBarsDigitSpec)) fnBarsDigitUptoCard

/-- THE SECOND FORM's CARD OF 'laws.FnExactCheckDigit'. -/
def fnExactCheckDigitUptoCard : Claim7 := { stood := { row := fnExactCheckDigitUptoRow, standIns := [], harness := (true, "f20aa758a9dcb3f5d0dc7efc00d6231dbe423a493029c7f9f9fb650eb9f8c17e"), looks := false }, kinds := [], alts := [], laidByText := true, laidKinds := [.data], laidTests := true, laidLooks := .later }
def FnExactCheckDigitUptoCardSaid : Prop := Claim7.holds Tryd.pinned (.plain (OpenSpec.upto fnExactCheckDigitSpec)) fnExactCheckDigitUptoCard

/-- THE SECOND FORM's CARD OF 'laws.FnExactCheckValid'. -/
def fnExactCheckValidUptoCard : Claim7 := { stood := { row := fnExactCheckValidUptoRow, standIns := [], harness := (true, "f20aa758a9dcb3f5d0dc7efc00d6231dbe423a493029c7f9f9fb650eb9f8c17e"), looks := false }, kinds := [], alts := [], laidByText := true, laidKinds := [.data], laidTests := true, laidLooks := .later }
def FnExactCheckValidUptoCardSaid : Prop := Claim7.holds Tryd.pinned (.plain (OpenSpec.upto fnExactCheckValidSpec)) fnExactCheckValidUptoCard

/-- THE SECOND FORM's CARD OF 'laws.FnExactDigitBars'. -/
def fnExactDigitBarsUptoCard : Claim7 := { stood := { row := fnExactDigitBarsUptoRow, standIns := [], harness := (true, "f20aa758a9dcb3f5d0dc7efc00d6231dbe423a493029c7f9f9fb650eb9f8c17e"), looks := false }, kinds := [], alts := [], laidByText := true, laidKinds := [.data], laidTests := true, laidLooks := .later }
def FnExactDigitBarsUptoCardSaid : Prop := Claim7.holds Tryd.pinned (.plain (OpenSpec.upto fnExactDigitBarsSpec)) fnExactDigitBarsUptoCard

/-- THE SECOND FORM's CARD OF 'laws.FnExactBarsDigit'. -/
def fnExactBarsDigitUptoCard : Claim7 := { stood := { row := fnExactBarsDigitUptoRow, standIns := [], harness := (true, "f20aa758a9dcb3f5d0dc7efc00d6231dbe423a493029c7f9f9fb650eb9f8c17e"), looks := false }, kinds := [], alts := [], laidByText := true, laidKinds := [.data], laidTests := true, laidLooks := .later }
def FnExactBarsDigitUptoCardSaid : Prop := Claim7.holds Tryd.pinned (.plain (OpenSpec.upto fnExactBarsDigitSpec)) fnExactBarsDigitUptoCard

/-- THE SECOND FORM's CARD OF 'laws.FnExactBarsOf'. -/
def fnExactBarsOfUptoCard : Claim7 := { stood := { row := fnExactBarsOfUptoRow, standIns := [], harness := (true, "f20aa758a9dcb3f5d0dc7efc00d6231dbe423a493029c7f9f9fb650eb9f8c17e"), looks := false }, kinds := [], alts := [], laidByText := true, laidKinds := [.data, .data], laidTests := true, laidLooks := .later }
def FnExactBarsOfUptoCardSaid : Prop := Claim7.holds Tryd.pinned (.plain (OpenSpec.upto fnExactBarsOfSpec)) fnExactBarsOfUptoCard
end Rows
end Go.Proofs.YteaekomdbiaemaaDoor
