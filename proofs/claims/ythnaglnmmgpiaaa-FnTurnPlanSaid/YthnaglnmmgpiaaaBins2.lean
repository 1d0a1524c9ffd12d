/-
  What the model's BinPass leaves, and the program's where there are no bins.
-/
import Derived.Test.YthnaglnmmgpiaaaMgN9
import Derived.Deep.RegionLaw
import Derived.Maps.AppendAt
namespace Go.Proofs.Ythnaglnmmgpiaaa
open Go.RowKit
open Go.PlainAid (bt get_bt bt_nonneg bt_le)

end Go.Proofs.Ythnaglnmmgpiaaa
