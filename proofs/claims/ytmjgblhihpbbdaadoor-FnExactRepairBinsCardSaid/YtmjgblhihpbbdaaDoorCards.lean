/-
  DERIVED. GIVEN WITH THE SEED: THE CARDS: each row of YtmjgblhihpbbdaaDoorRows.lean that lists a variable, with what it lists TIED to the program's text (the seventh form; the later family's looks); each row that meets fmt, with fmt's text TOLD by the authors' own Lean function (tested against real Go, not proved from fmt's source: count such statements apart). THE CARD IS WHAT COUNTS. Prove the row's statement (the work); the ties are given (YtmjgblhihpbbdaaDoorTie.lean); close each card by the builder's one call (the guide's Derived/Test/ToyasCard.lean, 'card_holds'). Laid BY PROGRAM, IN A SANDBOX (cutbox-door.mjs). By AI agents, Wed Nov 11 2026. No macro, syntax, notation, axiom, sorry.
-/
import Derived.Test.YtmjgblhihpbbdaaDoorRows
import GoSem.ClaimSeven
namespace Go.Proofs.YtmjgblhihpbbdaaDoor
namespace Rows

/-- THE TIED CARD OF 'laws.FnExactRepairBins'. -/
def fnExactRepairBinsCard : Claim7 := { stood := { row := fnExactRepairBinsRow, standIns := [], harness := (true, "0cb84f5aca0a1b71e621357785a572aaa137ec5007d1ae5612fcbc09d621d71d"), looks := true }, kinds := [], alts := [], laidByText := true, laidKinds := [.sentinel], laidTests := true, laidLooks := .later }
def FnExactRepairBinsCardSaid : Prop := Claim7.holds Tryd.pinned (.plain (OpenSpec.ofChange fnExactRepairBinsSpec)) fnExactRepairBinsCard

/-- THE TIED CARD OF 'laws.FnExactFinishPasses'. -/
def fnExactFinishPassesCard : Claim7 := { stood := { row := fnExactFinishPassesRow, standIns := [], harness := (true, "0cb84f5aca0a1b71e621357785a572aaa137ec5007d1ae5612fcbc09d621d71d"), looks := true }, kinds := [], alts := [], laidByText := true, laidKinds := [.sentinel], laidTests := true, laidLooks := .later }
def FnExactFinishPassesCardSaid : Prop := Claim7.holds Tryd.pinned (.plain (OpenSpec.ofChange fnExactFinishPassesSpec)) fnExactFinishPassesCard

/-- THE TIED CARD OF 'laws.FnExactRunRepaired'. -/
def fnExactRunRepairedCard : Claim7 := { stood := { row := fnExactRunRepairedRow, standIns := [], harness := (true, "0cb84f5aca0a1b71e621357785a572aaa137ec5007d1ae5612fcbc09d621d71d"), looks := true }, kinds := [], alts := [], laidByText := true, laidKinds := [.sentinel], laidTests := true, laidLooks := .later }
def FnExactRunRepairedCardSaid : Prop := Claim7.holds Tryd.pinned (.plain (OpenSpec.ofChange fnExactRunRepairedSpec)) fnExactRunRepairedCard

/-- THE TIED CARD OF 'laws.FnExactRunRestarted'. -/
def fnExactRunRestartedCard : Claim7 := { stood := { row := fnExactRunRestartedRow, standIns := [], harness := (true, "0cb84f5aca0a1b71e621357785a572aaa137ec5007d1ae5612fcbc09d621d71d"), looks := true }, kinds := [], alts := [], laidByText := true, laidKinds := [.sentinel], laidTests := true, laidLooks := .later }
def FnExactRunRestartedCardSaid : Prop := Claim7.holds Tryd.pinned (.plain (OpenSpec.ofChange fnExactRunRestartedSpec)) fnExactRunRestartedCard

/-- THE SECOND FORM's CARD OF 'laws.FnExactRepairBins'. -/
def fnExactRepairBinsUptoCard : Claim7 := { stood := { row := fnExactRepairBinsUptoRow, standIns := [], harness := (true, "0cb84f5aca0a1b71e621357785a572aaa137ec5007d1ae5612fcbc09d621d71d"), looks := true }, kinds := [], alts := [], laidByText := true, laidKinds := [.sentinel], laidTests := true, laidLooks := .later }
def FnExactRepairBinsUptoCardSaid : Prop := Claim7.holds Tryd.pinned (.plain (OpenSpec.upto fnExactRepairBinsSpec)) fnExactRepairBinsUptoCard

/-- THE SECOND FORM's CARD OF 'laws.FnExactFinishPasses'. -/
def fnExactFinishPassesUptoCard : Claim7 := { stood := { row := fnExactFinishPassesUptoRow, standIns := [], harness := (true, "0cb84f5aca0a1b71e621357785a572aaa137ec5007d1ae5612fcbc09d621d71d"), looks := true }, kinds := [], alts := [], laidByText := true, laidKinds := [.sentinel], laidTests := true, laidLooks := .later }
def FnExactFinishPassesUptoCardSaid : Prop := Claim7.holds Tryd.pinned (.plain (OpenSpec.upto fnExactFinishPassesSpec)) fnExactFinishPassesUptoCard

/-- THE SECOND FORM's CARD OF 'laws.FnExactRunRepaired'. -/
def fnExactRunRepairedUptoCard : Claim7 := { stood := { row := fnExactRunRepairedUptoRow, standIns := [], harness := (true, "0cb84f5aca0a1b71e621357785a572aaa137ec5007d1ae5612fcbc09d621d71d"), looks := true }, kinds := [], alts := [], laidByText := true, laidKinds := [.sentinel], laidTests := true, laidLooks := .later }
def FnExactRunRepairedUptoCardSaid : Prop := Claim7.holds Tryd.pinned (.plain (OpenSpec.upto fnExactRunRepairedSpec)) fnExactRunRepairedUptoCard

/-- THE SECOND FORM's CARD OF 'laws.FnExactRunRestarted'. -/
def fnExactRunRestartedUptoCard : Claim7 := { stood := { row := fnExactRunRestartedUptoRow, standIns := [], harness := (true, "0cb84f5aca0a1b71e621357785a572aaa137ec5007d1ae5612fcbc09d621d71d"), looks := true }, kinds := [], alts := [], laidByText := true, laidKinds := [.sentinel], laidTests := true, laidLooks := .later }
def FnExactRunRestartedUptoCardSaid : Prop := Claim7.holds Tryd.pinned (.plain (OpenSpec.upto fnExactRunRestartedSpec)) fnExactRunRestartedUptoCard
end Rows
end Go.Proofs.YtmjgblhihpbbdaaDoor
