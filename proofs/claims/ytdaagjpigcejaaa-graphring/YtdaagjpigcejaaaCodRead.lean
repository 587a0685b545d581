/-
  Package codec's Reader: Num, Count, Text.
-/
import Derived.Test.YtdaagjpigcejaaaZ24
import Derived.Test.YtdaagjpigcejaaaClone
import Derived.Shelf.Abstract
namespace Go.Proofs.Ytdaagjpigcejaaa
open Go.RowKit

end Go.Proofs.Ytdaagjpigcejaaa
