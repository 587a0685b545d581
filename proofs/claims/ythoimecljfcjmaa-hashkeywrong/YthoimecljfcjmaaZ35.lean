/-
  strings.Clone: the same bytes.
-/
import Derived.Test.YthoimecljfcjmaaZ04
import Derived.Lib.UnsafeStr
import Derived.Lib.BufferWrite
import Derived.Laws.MakeOwn
import Derived.Test.YthoimecljfcjmaaZ08
import Derived.Shelf.Abstract
namespace Go.Proofs.Ythoimecljfcjmaa
open Go.RowKit


theorem bare (s : ByteArray) (h : s.size = 0) : s = ⟨#[]⟩ := ByteArray.ext (Array.eq_empty_of_size_eq_zero h)

end Go.Proofs.Ythoimecljfcjmaa

/-
  Package codec's Reader: Num, Count, Text.
-/
namespace Go.Proofs.Ythoimecljfcjmaa
open Go.RowKit

end Go.Proofs.Ythoimecljfcjmaa
