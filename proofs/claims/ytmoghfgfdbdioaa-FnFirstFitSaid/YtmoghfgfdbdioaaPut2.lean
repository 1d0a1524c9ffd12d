/-
  What put leaves: one letter more in one of the pockets.
-/
import Derived.Test.YtmoghfgfdbdioaaMat
import Derived.Deep.AppendLies
import Derived.Deep.RegionLaw
namespace Go.Proofs.Ytmoghfgfdbdioaa
open Go.RowKit

end Go.Proofs.Ytmoghfgfdbdioaa
