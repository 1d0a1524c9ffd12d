/-
  Read-only contracts over slices that may share their block (by gen_matr.py, from Try2).
-/
import Derived.Test.YtccfjeijnadjfaaDoorTry
import Derived.Test.YtccfjeijnadjfaaDoorMgT2
import Derived.BigQuiet
import Derived.Test.YtccfjeijnadjfaaDoorTry2
import Derived.Test.YtccfjeijnadjfaaDoorMgT10
import Derived.Test.YtccfjeijnadjfaaDoorTryR
namespace Go.Proofs.YtccfjeijnadjfaaDoor
open Go.RowKit
open Go.PlainAid (bt get_bt bt_nonneg bt_le)
set_option linter.unusedVariables false

end Go.Proofs.YtccfjeijnadjfaaDoor
