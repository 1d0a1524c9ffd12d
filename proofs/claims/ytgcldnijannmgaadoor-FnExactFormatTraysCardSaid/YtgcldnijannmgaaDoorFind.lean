/-
  What FindLetter returns, in the program and in the model of the document.
-/
import Derived.Test.YtgcldnijannmgaaDoorSortM
import Derived.Test.YtgcldnijannmgaaDoorBatch
namespace Go.Proofs.YtgcldnijannmgaaDoor
open Go.RowKit
open Go.PlainAid (bt get_bt bt_nonneg bt_le)

end Go.Proofs.YtgcldnijannmgaaDoor
