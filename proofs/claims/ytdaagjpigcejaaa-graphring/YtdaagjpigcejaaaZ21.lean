/-
  Package sha's schedule: the words of a block's rounds.
-/
import Derived.Test.YtdaagjpigcejaaaZ15
import Derived.BigQuiet
import Derived.Deep.QuietTactic
import Derived.Deep.RegionHeld3
import Derived.BigRegion
import Derived.Test.YtdaagjpigcejaaaMix
namespace Go.Proofs.Ytdaagjpigcejaaa
open Go.RowKit

end Go.Proofs.Ytdaagjpigcejaaa

/-
  Package sha's mixBlocks.
-/
namespace Go.Proofs.Ytdaagjpigcejaaa
open Go.RowKit


/-- The i-th block of 64 bytes. -/
def blk (l : List UInt8) (i : Nat) : List UInt8 := (l.drop (64 * i)).take 64
/-- So many blocks are mixed in. -/
def comps (H : St) (l : List UInt8) : Nat → St
  | 0 => H
  | n + 1 => comp (comps H l n) (sch (blk l n) 64)

theorem extract_size (s : ByteArray) (a b : Nat) (h1 : a ≤ b) (h2 : b ≤ s.size) : (s.extract a b).size = b - a := by
  rw [ByteArray.size_extract]; omega

end Go.Proofs.Ytdaagjpigcejaaa
