/-
  DERIVED. GIVEN WITH THE SEED: THE CARDS: each row of YtnaghfppeejaoaaDoorRows.lean that lists a variable, with what it lists TIED to the program's text (the seventh form; the later family's looks); each row that meets fmt, with fmt's text TOLD by the authors' own Lean function (tested against real Go, not proved from fmt's source: count such statements apart). THE CARD IS WHAT COUNTS. Prove the row's statement (the work); the ties are given (YtnaghfppeejaoaaDoorTie.lean); close each card by the builder's one call (the guide's Derived/Test/ToyasCard.lean, 'card_holds'). Laid BY PROGRAM, IN A SANDBOX (cutbox-door.mjs). By AI agents, Wed Nov 11 2026. No macro, syntax, notation, axiom, sorry.
-/
import Derived.Test.YtnaghfppeejaoaaDoorRows
import GoSem.ClaimSeven
namespace Go.Proofs.YtnaghfppeejaoaaDoor
namespace Rows

/-- THE TIED CARD OF 'laws.FnFaultyPass'. -/
def fnFaultyPassCard : Claim7 := { stood := { row := fnFaultyPassRow, standIns := [], harness := (true, "ee5e2831a54707b6189ae61c981fca60e1bb860d0639a366e2698f0927c048ed"), looks := true }, kinds := [], alts := [], laidByText := true, laidKinds := [.sentinel], laidTests := true, laidLooks := .later }
def FnFaultyPassCardSaid : Prop := Claim7.holds Tryd.pinned (.plain (OpenSpec.ofChange fnFaultyPassSpec)) fnFaultyPassCard

/-- THE TIED CARD OF 'laws.FnWrong'. -/
def fnWrongCard : Claim7 := { stood := { row := fnWrongRow, standIns := [], harness := (true, "ee5e2831a54707b6189ae61c981fca60e1bb860d0639a366e2698f0927c048ed"), looks := true }, kinds := [], alts := [], laidByText := true, laidKinds := [.sentinel], laidTests := true, laidLooks := .later }
def FnWrongCardSaid : Prop := Claim7.holds Tryd.pinned (.plain (OpenSpec.ofChange fnWrongSpec)) fnWrongCard

/-- THE TIED CARD OF 'laws.FnRepair'. -/
def fnRepairCard : Claim7 := { stood := { row := fnRepairRow, standIns := [], harness := (true, "ee5e2831a54707b6189ae61c981fca60e1bb860d0639a366e2698f0927c048ed"), looks := true }, kinds := [], alts := [], laidByText := true, laidKinds := [.sentinel], laidTests := true, laidLooks := .later }
def FnRepairCardSaid : Prop := Claim7.holds Tryd.pinned (.plain (OpenSpec.ofChange fnRepairSpec)) fnRepairCard

/-- THE TIED CARD OF 'laws.FnFinish'. -/
def fnFinishCard : Claim7 := { stood := { row := fnFinishRow, standIns := [], harness := (true, "ee5e2831a54707b6189ae61c981fca60e1bb860d0639a366e2698f0927c048ed"), looks := true }, kinds := [], alts := [], laidByText := true, laidKinds := [.sentinel], laidTests := true, laidLooks := .later }
def FnFinishCardSaid : Prop := Claim7.holds Tryd.pinned (.plain (OpenSpec.ofChange fnFinishSpec)) fnFinishCard

/-- THE TIED CARD OF 'laws.FnFinishFirst'. -/
def fnFinishFirstCard : Claim7 := { stood := { row := fnFinishFirstRow, standIns := [], harness := (true, "ee5e2831a54707b6189ae61c981fca60e1bb860d0639a366e2698f0927c048ed"), looks := true }, kinds := [], alts := [], laidByText := true, laidKinds := [.sentinel], laidTests := true, laidLooks := .later }
def FnFinishFirstCardSaid : Prop := Claim7.holds Tryd.pinned (.plain (OpenSpec.ofChange fnFinishFirstSpec)) fnFinishFirstCard

/-- THE TIED CARD OF 'laws.FnRepairedFirst'. -/
def fnRepairedFirstCard : Claim7 := { stood := { row := fnRepairedFirstRow, standIns := [], harness := (true, "ee5e2831a54707b6189ae61c981fca60e1bb860d0639a366e2698f0927c048ed"), looks := true }, kinds := [], alts := [], laidByText := true, laidKinds := [.sentinel], laidTests := true, laidLooks := .later }
def FnRepairedFirstCardSaid : Prop := Claim7.holds Tryd.pinned (.plain (OpenSpec.ofChange fnRepairedFirstSpec)) fnRepairedFirstCard

/-- THE TIED CARD OF 'laws.FnRepairedLast'. -/
def fnRepairedLastCard : Claim7 := { stood := { row := fnRepairedLastRow, standIns := [], harness := (true, "ee5e2831a54707b6189ae61c981fca60e1bb860d0639a366e2698f0927c048ed"), looks := true }, kinds := [], alts := [], laidByText := true, laidKinds := [.sentinel], laidTests := true, laidLooks := .later }
def FnRepairedLastCardSaid : Prop := Claim7.holds Tryd.pinned (.plain (OpenSpec.ofChange fnRepairedLastSpec)) fnRepairedLastCard

/-- THE TIED CARD OF 'laws.FnRestarted'. -/
def fnRestartedCard : Claim7 := { stood := { row := fnRestartedRow, standIns := [], harness := (true, "ee5e2831a54707b6189ae61c981fca60e1bb860d0639a366e2698f0927c048ed"), looks := true }, kinds := [], alts := [], laidByText := true, laidKinds := [.sentinel], laidTests := true, laidLooks := .later }
def FnRestartedCardSaid : Prop := Claim7.holds Tryd.pinned (.plain (OpenSpec.ofChange fnRestartedSpec)) fnRestartedCard

/-- THE SECOND FORM's CARD OF 'laws.FnFaultyPass'. -/
def fnFaultyPassUptoCard : Claim7 := { stood := { row := fnFaultyPassUptoRow, standIns := [], harness := (true, "ee5e2831a54707b6189ae61c981fca60e1bb860d0639a366e2698f0927c048ed"), looks := true }, kinds := [], alts := [], laidByText := true, laidKinds := [.sentinel], laidTests := true, laidLooks := .later }
def FnFaultyPassUptoCardSaid : Prop := Claim7.holds Tryd.pinned (.plain (OpenSpec.upto fnFaultyPassSpec)) fnFaultyPassUptoCard

/-- THE SECOND FORM's CARD OF 'laws.FnWrong'. -/
def fnWrongUptoCard : Claim7 := { stood := { row := fnWrongUptoRow, standIns := [], harness := (true, "ee5e2831a54707b6189ae61c981fca60e1bb860d0639a366e2698f0927c048ed"), looks := true }, kinds := [], alts := [], laidByText := true, laidKinds := [.sentinel], laidTests := true, laidLooks := .later }
def FnWrongUptoCardSaid : Prop := Claim7.holds Tryd.pinned (.plain (OpenSpec.upto fnWrongSpec)) fnWrongUptoCard

/-- THE SECOND FORM's CARD OF 'laws.FnRepair'. -/
def fnRepairUptoCard : Claim7 := { stood := { row := fnRepairUptoRow, standIns := [], harness := (true, "ee5e2831a54707b6189ae61c981fca60e1bb860d0639a366e2698f0927c048ed"), looks := true }, kinds := [], alts := [], laidByText := true, laidKinds := [.sentinel], laidTests := true, laidLooks := .later }
def FnRepairUptoCardSaid : Prop := Claim7.holds Tryd.pinned (.plain (OpenSpec.upto fnRepairSpec)) fnRepairUptoCard

/-- THE SECOND FORM's CARD OF 'laws.FnFinish'. -/
def fnFinishUptoCard : Claim7 := { stood := { row := fnFinishUptoRow, standIns := [], harness := (true, "ee5e2831a54707b6189ae61c981fca60e1bb860d0639a366e2698f0927c048ed"), looks := true }, kinds := [], alts := [], laidByText := true, laidKinds := [.sentinel], laidTests := true, laidLooks := .later }
def FnFinishUptoCardSaid : Prop := Claim7.holds Tryd.pinned (.plain (OpenSpec.upto fnFinishSpec)) fnFinishUptoCard

/-- THE SECOND FORM's CARD OF 'laws.FnFinishFirst'. -/
def fnFinishFirstUptoCard : Claim7 := { stood := { row := fnFinishFirstUptoRow, standIns := [], harness := (true, "ee5e2831a54707b6189ae61c981fca60e1bb860d0639a366e2698f0927c048ed"), looks := true }, kinds := [], alts := [], laidByText := true, laidKinds := [.sentinel], laidTests := true, laidLooks := .later }
def FnFinishFirstUptoCardSaid : Prop := Claim7.holds Tryd.pinned (.plain (OpenSpec.upto fnFinishFirstSpec)) fnFinishFirstUptoCard

/-- THE SECOND FORM's CARD OF 'laws.FnRepairedFirst'. -/
def fnRepairedFirstUptoCard : Claim7 := { stood := { row := fnRepairedFirstUptoRow, standIns := [], harness := (true, "ee5e2831a54707b6189ae61c981fca60e1bb860d0639a366e2698f0927c048ed"), looks := true }, kinds := [], alts := [], laidByText := true, laidKinds := [.sentinel], laidTests := true, laidLooks := .later }
def FnRepairedFirstUptoCardSaid : Prop := Claim7.holds Tryd.pinned (.plain (OpenSpec.upto fnRepairedFirstSpec)) fnRepairedFirstUptoCard

/-- THE SECOND FORM's CARD OF 'laws.FnRepairedLast'. -/
def fnRepairedLastUptoCard : Claim7 := { stood := { row := fnRepairedLastUptoRow, standIns := [], harness := (true, "ee5e2831a54707b6189ae61c981fca60e1bb860d0639a366e2698f0927c048ed"), looks := true }, kinds := [], alts := [], laidByText := true, laidKinds := [.sentinel], laidTests := true, laidLooks := .later }
def FnRepairedLastUptoCardSaid : Prop := Claim7.holds Tryd.pinned (.plain (OpenSpec.upto fnRepairedLastSpec)) fnRepairedLastUptoCard

/-- THE SECOND FORM's CARD OF 'laws.FnRestarted'. -/
def fnRestartedUptoCard : Claim7 := { stood := { row := fnRestartedUptoRow, standIns := [], harness := (true, "ee5e2831a54707b6189ae61c981fca60e1bb860d0639a366e2698f0927c048ed"), looks := true }, kinds := [], alts := [], laidByText := true, laidKinds := [.sentinel], laidTests := true, laidLooks := .later }
def FnRestartedUptoCardSaid : Prop := Claim7.holds Tryd.pinned (.plain (OpenSpec.upto fnRestartedSpec)) fnRestartedUptoCard
end Rows
end Go.Proofs.YtnaghfppeejaoaaDoor
