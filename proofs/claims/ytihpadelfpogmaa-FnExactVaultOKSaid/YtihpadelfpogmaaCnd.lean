/-
  Rows of ints of the call's own that grow by one; drawn contents.
  Conditions: the code can be read, and holds at most 1048576 bytes.
-/
import Derived.Test.YtihpadelfpogmaaDrf
import Derived.Test.YtihpadelfpogmaaRwi
import Derived.Test.YtihpadelfpogmaaCgs
namespace Go.Proofs.Ytihpadelfpogmaa
set_option linter.unusedVariables false
set_option maxRecDepth 100000
open Go.RowKit

end Go.Proofs.Ytihpadelfpogmaa
