/-
  DERIVED. GIVEN WITH THE SEED: THE PROGRAM's TIES (one call each: nine closed facts by the kernel) AND EACH ROW's TIE, after the 31st guide's Derived/Test/Toyas{Tie, Card}.lean. No idea stands in it: it is a product of the set-up. Laid BY PROGRAM, IN A SANDBOX (cutbox-door.mjs). By AI agents, Wed Nov 11 2026. No macro, syntax, notation, axiom, sorry.
-/
import Derived.Test.YteaekomdbiaemaaDoorRows
import Derived.LaidByTextLater
import Derived.SevenTiedAt
import Derived.LaidSub
import Derived.LaidOnce
namespace Go.Proofs.YteaekomdbiaemaaDoor
open Go
set_option maxRecDepth 100000
theorem seatTie1 : Tryd.prog.laidByTextLater [("loop.example/sortingoffice/impl.checkDigits", Rows.laid_loop_example_sortingoffice_impl_checkDigits), ("loop.example/sortingoffice/impl.barsTable", Rows.laid_loop_example_sortingoffice_impl_barsTable)] [.data, .data] true :=
  Program.laidByTextLater_by_one 19 8 11 (by kernel_rfl) (by kernel_rfl) (by kernel_rfl) (by kernel_rfl) (by kernel_rfl) (by kernel_rfl) (fun _ _ => by kernel_rfl)
theorem noOwnUnsafe : Tryd.pinned.checked.prog.headLifts.contains "ownunsafe" = false := by kernel_rfl
theorem tie : Tryd.prog.laidByTextLater [("loop.example/sortingoffice/impl.checkDigits", Rows.laid_loop_example_sortingoffice_impl_checkDigits)] [.data] true :=
  Program.laidByTextLater.sub seatTie1 ["loop.example/sortingoffice/impl.checkDigits"] (by kernel_rfl) (by kernel_rfl)
theorem fnCheckDigit_row_tie : Rows.fnCheckDigitRow.laidByTextAt .later Tryd.pinned [.data] true :=
  OpenClaim.laidByTextAt_later rfl rfl tie noOwnUnsafe
theorem fnCheckValid_row_tie : Rows.fnCheckValidRow.laidByTextAt .later Tryd.pinned [.data] true :=
  OpenClaim.laidByTextAt_later rfl rfl tie noOwnUnsafe
theorem fnExactCheckDigit_row_tie : Rows.fnExactCheckDigitRow.laidByTextAt .later Tryd.pinned [.data] true :=
  OpenClaim.laidByTextAt_later rfl rfl tie noOwnUnsafe
theorem fnExactCheckValid_row_tie : Rows.fnExactCheckValidRow.laidByTextAt .later Tryd.pinned [.data] true :=
  OpenClaim.laidByTextAt_later rfl rfl tie noOwnUnsafe
theorem tie2 : Tryd.prog.laidByTextLater [("loop.example/sortingoffice/impl.barsTable", Rows.laid_loop_example_sortingoffice_impl_barsTable)] [.data] true :=
  Program.laidByTextLater.sub seatTie1 ["loop.example/sortingoffice/impl.barsTable"] (by kernel_rfl) (by kernel_rfl)
theorem fnDigitBars_row_tie : Rows.fnDigitBarsRow.laidByTextAt .later Tryd.pinned [.data] true :=
  OpenClaim.laidByTextAt_later rfl rfl tie2 noOwnUnsafe
theorem fnBarsDigit_row_tie : Rows.fnBarsDigitRow.laidByTextAt .later Tryd.pinned [.data] true :=
  OpenClaim.laidByTextAt_later rfl rfl tie2 noOwnUnsafe
theorem fnExactDigitBars_row_tie : Rows.fnExactDigitBarsRow.laidByTextAt .later Tryd.pinned [.data] true :=
  OpenClaim.laidByTextAt_later rfl rfl tie2 noOwnUnsafe
theorem fnExactBarsDigit_row_tie : Rows.fnExactBarsDigitRow.laidByTextAt .later Tryd.pinned [.data] true :=
  OpenClaim.laidByTextAt_later rfl rfl tie2 noOwnUnsafe
theorem tie3 : Tryd.prog.laidByTextLater [("loop.example/sortingoffice/impl.checkDigits", Rows.laid_loop_example_sortingoffice_impl_checkDigits), ("loop.example/sortingoffice/impl.barsTable", Rows.laid_loop_example_sortingoffice_impl_barsTable)] [.data, .data] true :=
  Program.laidByTextLater.sub seatTie1 ["loop.example/sortingoffice/impl.checkDigits", "loop.example/sortingoffice/impl.barsTable"] (by kernel_rfl) (by kernel_rfl)
theorem fnExactBarsOf_row_tie : Rows.fnExactBarsOfRow.laidByTextAt .later Tryd.pinned [.data, .data] true :=
  OpenClaim.laidByTextAt_later rfl rfl tie3 noOwnUnsafe
theorem fnCheckDigitUpto_row_tie : Rows.fnCheckDigitUptoRow.laidByTextAt .later Tryd.pinned [.data] true :=
  OpenClaim.laidByTextAt_later rfl rfl tie noOwnUnsafe
theorem fnCheckValidUpto_row_tie : Rows.fnCheckValidUptoRow.laidByTextAt .later Tryd.pinned [.data] true :=
  OpenClaim.laidByTextAt_later rfl rfl tie noOwnUnsafe
theorem fnDigitBarsUpto_row_tie : Rows.fnDigitBarsUptoRow.laidByTextAt .later Tryd.pinned [.data] true :=
  OpenClaim.laidByTextAt_later rfl rfl tie2 noOwnUnsafe
theorem fnBarsDigitUpto_row_tie : Rows.fnBarsDigitUptoRow.laidByTextAt .later Tryd.pinned [.data] true :=
  OpenClaim.laidByTextAt_later rfl rfl tie2 noOwnUnsafe
theorem fnExactCheckDigitUpto_row_tie : Rows.fnExactCheckDigitUptoRow.laidByTextAt .later Tryd.pinned [.data] true :=
  OpenClaim.laidByTextAt_later rfl rfl tie noOwnUnsafe
theorem fnExactCheckValidUpto_row_tie : Rows.fnExactCheckValidUptoRow.laidByTextAt .later Tryd.pinned [.data] true :=
  OpenClaim.laidByTextAt_later rfl rfl tie noOwnUnsafe
theorem fnExactDigitBarsUpto_row_tie : Rows.fnExactDigitBarsUptoRow.laidByTextAt .later Tryd.pinned [.data] true :=
  OpenClaim.laidByTextAt_later rfl rfl tie2 noOwnUnsafe
theorem fnExactBarsDigitUpto_row_tie : Rows.fnExactBarsDigitUptoRow.laidByTextAt .later Tryd.pinned [.data] true :=
  OpenClaim.laidByTextAt_later rfl rfl tie2 noOwnUnsafe
theorem fnExactBarsOfUpto_row_tie : Rows.fnExactBarsOfUptoRow.laidByTextAt .later Tryd.pinned [.data, .data] true :=
  OpenClaim.laidByTextAt_later rfl rfl tie3 noOwnUnsafe
end Go.Proofs.YteaekomdbiaemaaDoor
