/-
  What FindLetter returns, in the program and in the model of the document.
-/
import Derived.Test.YtobmenbhbeflhaaSortM
import Derived.Test.YtobmenbhbeflhaaBatch
namespace Go.Proofs.Ytobmenbhbeflhaa
open Go.RowKit
open Go.PlainAid (bt get_bt bt_nonneg bt_le)

end Go.Proofs.Ytobmenbhbeflhaa
