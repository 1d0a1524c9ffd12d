/-
  What InOrder returns, in the program and in the model of the document.
-/
import Derived.Test.YthnaglnmmgpiaaaRank
import Derived.Test.YthnaglnmmgpiaaaBatch
namespace Go.Proofs.Ythnaglnmmgpiaaa
open Go.RowKit
open Go.PlainAid (bt get_bt bt_nonneg bt_le)

end Go.Proofs.Ythnaglnmmgpiaaa
