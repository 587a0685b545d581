/-
  Package codec's Reader: Num, Count, Text.
-/
import Derived.Test.YtidhcnecmelkbabZ15
import Derived.Test.YtidhcnecmelkbabClone
import Derived.Shelf.Abstract
namespace Go.Proofs.Ytidhcnecmelkbab
open Go.RowKit
end Go.Proofs.Ytidhcnecmelkbab
