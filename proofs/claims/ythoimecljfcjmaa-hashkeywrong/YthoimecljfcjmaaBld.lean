/-
  strings.Builder: WriteString, String.
-/
import Derived.Test.YthoimecljfcjmaaSpRows
import Derived.Test.YthoimecljfcjmaaZ04
import Derived.Lib.Builder
import Derived.Lib.AppendStr
import Derived.Lib.UnsafeStr
import Derived.Lib.BufferWrite
import Derived.Laws.Externs
import Derived.Shelf.RegionOpenPlain
namespace Go.Proofs.Ythoimecljfcjmaa
open Go.RowKit
theorem bytes_more (l : List UInt8) (s : ByteArray) : Lib.byteCells l ++ Lib.strCells s = Lib.byteCells (l ++ s.data.toList) := by
  unfold Lib.byteCells Lib.strCells; rw [List.map_append]

end Go.Proofs.Ythoimecljfcjmaa
