/-
  strings.Clone: the same bytes.
-/
import Derived.Test.YtccaaaifhiigcaaZ06
import Derived.Lib.UnsafeStr
import Derived.Lib.BufferWrite
import Derived.Laws.MakeOwn
import Derived.Test.YtccaaaifhiigcaaZ11
import Derived.Shelf.Abstract
namespace Go.Proofs.Ytccaaaifhiigcaa
open Go.RowKit


theorem bare (s : ByteArray) (h : s.size = 0) : s = ⟨#[]⟩ := ByteArray.ext (Array.eq_empty_of_size_eq_zero h)

end Go.Proofs.Ytccaaaifhiigcaa

/-
  Package codec's Reader: Num, Count, Text.
-/
namespace Go.Proofs.Ytccaaaifhiigcaa
open Go.RowKit

end Go.Proofs.Ytccaaaifhiigcaa
