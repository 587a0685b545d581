/-
  strings.Clone: the same bytes.
-/
import Derived.Test.YtdaagjpigcejaaaZ22
import Derived.Lib.UnsafeStr
import Derived.Lib.BufferWrite
import Derived.Laws.MakeOwn
namespace Go.Proofs.Ytdaagjpigcejaaa
open Go.RowKit


theorem bare (s : ByteArray) (h : s.size = 0) : s = ⟨#[]⟩ := ByteArray.ext (Array.eq_empty_of_size_eq_zero h)

end Go.Proofs.Ytdaagjpigcejaaa
