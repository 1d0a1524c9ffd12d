/-
  What FindLetter returns, in the program and in the model of the document.
-/
import Derived.Test.YtghgipcblhfceaaSortM
import Derived.Test.YtghgipcblhfceaaBatch
namespace Go.Proofs.Ytghgipcblhfceaa
open Go.RowKit
open Go.PlainAid (bt get_bt bt_nonneg bt_le)

end Go.Proofs.Ytghgipcblhfceaa
