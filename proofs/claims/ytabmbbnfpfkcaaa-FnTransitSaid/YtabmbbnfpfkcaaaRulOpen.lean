/-
  Rules in memory: what XFwdOpen says of orders, said of rules.
-/
import Derived.Test.YtabmbbnfpfkcaaaFwdOpen
import Derived.Test.YtabmbbnfpfkcaaaRul
import Derived.ProofKit
import Derived.OpenShut
import Derived.ChangeOld
import Derived.Deep.SlicePairs
namespace Go.Proofs.Ytabmbbnfpfkcaaa
open Go.ChangeShapes Go.WideShapes Go.ChangeAt Go.RowKit

end Go.Proofs.Ytabmbbnfpfkcaaa
