/-
  SpecAll, with the document's Read.
-/
import Derived.Test.YtidhcnecmelkbaaSAll
import Derived.Test.YtidhcnecmelkbaaSpRead2
namespace Go.Proofs.Ytidhcnecmelkbaa
open Go.RowKit

theorem all_any (va : Value) (A : SpecM) (vb : Value) (B : SpecM) (s : ByteArray) (_hs : s.size ≤ maxLen) (w : World) (hA : SpecW w va A) (hB : SpecW w vb B) : Calls Try.prog 3 #[va, vb, .string s] w fun e w' => e = .returned (.bool true) ∧ Below w.heap.size w w' :=
  all_walk (fun b w ok h => refread_any b w ok h) va vb s A B w hA hB

end Go.Proofs.Ytidhcnecmelkbaa
