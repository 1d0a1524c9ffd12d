/-
  An argument that is a slice of orders: what lies in memory.
-/
import Derived.Test.YtabmbbnfpfkcaaaFwd
import Derived.ProofKit
import Derived.OpenShut
import Derived.ChangeOld
import Derived.Deep.SlicePairs
namespace Go.Proofs.Ytabmbbnfpfkcaaa
open Go.ChangeShapes Go.WideShapes Go.ChangeAt Go.RowKit

end Go.Proofs.Ytabmbbnfpfkcaaa
