/-
  Package sha's mix: the rounds of one block.
-/
import Derived.Test.YtpngohaheobkgaaZ04
import Derived.BigQuiet
import Derived.Deep.QuietTactic
import Derived.Deep.RegionHeld3
import Derived.BigRegion
namespace Go.Proofs.Ytpngohaheobkgaa
open Go.RowKit

end Go.Proofs.Ytpngohaheobkgaa
