/-
  DERIVED. GIVEN WITH THE SEED: THE CARDS: each row of YtakadekgpfjonaaDoorRows.lean that lists a variable, with what it lists TIED to the program's text (the seventh form; the later family's looks); each row that meets fmt, with fmt's text TOLD by the authors' own Lean function (tested against real Go, not proved from fmt's source: count such statements apart). THE CARD IS WHAT COUNTS. Prove the row's statement (the work); the ties are given (YtakadekgpfjonaaDoorTie.lean); close each card by the builder's one call (the guide's Derived/Test/ToyasCard.lean, 'card_holds'). Laid BY PROGRAM, IN A SANDBOX (cutbox-door.mjs). By AI agents, Wed Nov 11 2026. No macro, syntax, notation, axiom, sorry.
-/
import Derived.Test.YtakadekgpfjonaaDoorRows
import GoSem.ClaimSeven
namespace Go.Proofs.YtakadekgpfjonaaDoor
namespace Rows

/-- THE TIED CARD OF 'laws.FnPlaceCode'. -/
def fnPlaceCodeCard : Claim7 := { stood := { row := fnPlaceCodeRow, standIns := [], harness := (true, "e4347102a6760a8532cb1fe21547339dae5614cf846649cde8da01793f62b3a7"), looks := false }, kinds := [], alts := [], laidByText := true, laidKinds := [.data, .data, .data, .data, .pinned], laidTests := true, laidLooks := .later }
def FnPlaceCodeCardSaid : Prop := Claim7.holds Tryd.pinned (.plain (OpenSpec.ofChange fnPlaceCodeSpec)) fnPlaceCodeCard

/-- THE TIED CARD OF 'laws.FnCodePlace'. -/
def fnCodePlaceCard : Claim7 := { stood := { row := fnCodePlaceRow, standIns := [], harness := (true, "e4347102a6760a8532cb1fe21547339dae5614cf846649cde8da01793f62b3a7"), looks := false }, kinds := [], alts := [], laidByText := true, laidKinds := [.data, .data, .data, .data, .pinned], laidTests := true, laidLooks := .later }
def FnCodePlaceCardSaid : Prop := Claim7.holds Tryd.pinned (.plain (OpenSpec.ofChange fnCodePlaceSpec)) fnCodePlaceCard

/-- THE TIED CARD OF 'laws.FnExactCodeOf'. -/
def fnExactCodeOfCard : Claim7 := { stood := { row := fnExactCodeOfRow, standIns := [], harness := (true, "e4347102a6760a8532cb1fe21547339dae5614cf846649cde8da01793f62b3a7"), looks := false }, kinds := [], alts := [], laidByText := true, laidKinds := [.data, .data, .data], laidTests := true, laidLooks := .later }
def FnExactCodeOfCardSaid : Prop := Claim7.holds Tryd.pinned (.plain (OpenSpec.ofChange fnExactCodeOfSpec)) fnExactCodeOfCard

/-- THE TIED CARD OF 'laws.FnExactFormatPlace'. -/
def fnExactFormatPlaceCard : Claim7 := { stood := { row := fnExactFormatPlaceRow, standIns := [], harness := (true, "e4347102a6760a8532cb1fe21547339dae5614cf846649cde8da01793f62b3a7"), looks := false }, kinds := [], alts := [], laidByText := true, laidKinds := [.data, .data, .data], laidTests := true, laidLooks := .later }
def FnExactFormatPlaceCardSaid : Prop := Claim7.holds Tryd.pinned (.plain (OpenSpec.ofChange fnExactFormatPlaceSpec)) fnExactFormatPlaceCard

/-- THE TIED CARD OF 'laws.FnExactParsePlace'. -/
def fnExactParsePlaceCard : Claim7 := { stood := { row := fnExactParsePlaceRow, standIns := [], harness := (true, "e4347102a6760a8532cb1fe21547339dae5614cf846649cde8da01793f62b3a7"), looks := false }, kinds := [], alts := [], laidByText := true, laidKinds := [.data, .data, .data, .data, .pinned], laidTests := true, laidLooks := .later }
def FnExactParsePlaceCardSaid : Prop := Claim7.holds Tryd.pinned (.plain (OpenSpec.ofChange fnExactParsePlaceSpec)) fnExactParsePlaceCard

/-- THE SECOND FORM's CARD OF 'laws.FnPlaceCode'. -/
def fnPlaceCodeUptoCard : Claim7 := { stood := { row := fnPlaceCodeUptoRow, standIns := [], harness := (true, "e4347102a6760a8532cb1fe21547339dae5614cf846649cde8da01793f62b3a7"), looks := false }, kinds := [], alts := [], laidByText := true, laidKinds := [.data, .data, .data, .data, .pinned], laidTests := true, laidLooks := .later }
def FnPlaceCodeUptoCardSaid : Prop := Claim7.holds Tryd.pinned (.plain (OpenSpec.upto fnPlaceCodeSpec)) fnPlaceCodeUptoCard

/-- THE SECOND FORM's CARD OF 'laws.FnCodePlace'. -/
def fnCodePlaceUptoCard : Claim7 := { stood := { row := fnCodePlaceUptoRow, standIns := [], harness := (true, "e4347102a6760a8532cb1fe21547339dae5614cf846649cde8da01793f62b3a7"), looks := false }, kinds := [], alts := [], laidByText := true, laidKinds := [.data, .data, .data, .data, .pinned], laidTests := true, laidLooks := .later }
def FnCodePlaceUptoCardSaid : Prop := Claim7.holds Tryd.pinned (.plain (OpenSpec.upto fnCodePlaceSpec)) fnCodePlaceUptoCard

/-- THE SECOND FORM's CARD OF 'laws.FnExactCodeOf'. -/
def fnExactCodeOfUptoCard : Claim7 := { stood := { row := fnExactCodeOfUptoRow, standIns := [], harness := (true, "e4347102a6760a8532cb1fe21547339dae5614cf846649cde8da01793f62b3a7"), looks := false }, kinds := [], alts := [], laidByText := true, laidKinds := [.data, .data, .data], laidTests := true, laidLooks := .later }
def FnExactCodeOfUptoCardSaid : Prop := Claim7.holds Tryd.pinned (.plain (OpenSpec.upto fnExactCodeOfSpec)) fnExactCodeOfUptoCard

/-- THE SECOND FORM's CARD OF 'laws.FnExactFormatPlace'. -/
def fnExactFormatPlaceUptoCard : Claim7 := { stood := { row := fnExactFormatPlaceUptoRow, standIns := [], harness := (true, "e4347102a6760a8532cb1fe21547339dae5614cf846649cde8da01793f62b3a7"), looks := false }, kinds := [], alts := [], laidByText := true, laidKinds := [.data, .data, .data], laidTests := true, laidLooks := .later }
def FnExactFormatPlaceUptoCardSaid : Prop := Claim7.holds Tryd.pinned (.plain (OpenSpec.upto fnExactFormatPlaceSpec)) fnExactFormatPlaceUptoCard

/-- THE SECOND FORM's CARD OF 'laws.FnExactParsePlace'. -/
def fnExactParsePlaceUptoCard : Claim7 := { stood := { row := fnExactParsePlaceUptoRow, standIns := [], harness := (true, "e4347102a6760a8532cb1fe21547339dae5614cf846649cde8da01793f62b3a7"), looks := false }, kinds := [], alts := [], laidByText := true, laidKinds := [.data, .data, .data, .data, .pinned], laidTests := true, laidLooks := .later }
def FnExactParsePlaceUptoCardSaid : Prop := Claim7.holds Tryd.pinned (.plain (OpenSpec.upto fnExactParsePlaceSpec)) fnExactParsePlaceUptoCard
end Rows
end Go.Proofs.YtakadekgpfjonaaDoor
