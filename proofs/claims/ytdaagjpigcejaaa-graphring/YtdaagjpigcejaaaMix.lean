/-
  Package sha's mix: the rounds of one block.
-/
import Derived.Test.YtdaagjpigcejaaaZ16
import Derived.BigQuiet
import Derived.Deep.QuietTactic
import Derived.Deep.RegionHeld3
import Derived.BigRegion
namespace Go.Proofs.Ytdaagjpigcejaaa
open Go.RowKit

end Go.Proofs.Ytdaagjpigcejaaa
