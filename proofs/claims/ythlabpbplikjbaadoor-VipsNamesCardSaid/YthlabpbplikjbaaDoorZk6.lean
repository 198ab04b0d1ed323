/-
  Numbers' digits by sixteen, as the library writes them: the walk of strconv.FormatUint at base 16 below 2^16. Conditions: as each theorem names them.
-/
import Derived.Test.YthlabpbplikjbaaDoorZk5
import Derived.Lib.TrailingZeros
import Derived.Laws.Rows
import Derived.Test.YthlabpbplikjbaaDoorZk1
namespace Go.Proofs.YthlabpbplikjbaaDoor
open Go.RowKit
set_option linter.unusedVariables false

end Go.Proofs.YthlabpbplikjbaaDoor
