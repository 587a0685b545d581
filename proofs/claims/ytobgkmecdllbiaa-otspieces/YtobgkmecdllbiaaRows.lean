/-
  No cell of these rows narrows 'for every input' (looked for: loops, veiled, ifaces, maps, wideKeys, modest, calm, conditions, laid).
  DERIVED. THE GIVEN ROWS OF THIS SEAT. 5 by the template 'for every input the law returns true; each argument reads behind the call as it read before'; 0 by the template 'total and deterministic' (their statements: YtobgkmecdllbiaaTotals.lean).
  GIVEN WITH THE SEED: the statements are not yours to turn. If you find one false, say at which input.
  Laid BY PROGRAM, IN A SANDBOX (cutbox-rows.mjs): the forced cells as the released guide's own fill.sh prints them over the translation 165342bae7c2ff85… (all of the seat's roots in one cut). By AI agents, Wed Nov 11 2026. No macro, syntax, notation, axiom, sorry.
-/
import Derived.Test.YtobgkmecdllbiaaChecked
import GoSem.Claim
import GoSem.ClaimJoined
import GoSem.ClaimMapViews
import Derived.JoinedTies
import Derived.KernelRfl
namespace Go.Proofs.Ytobgkmecdllbiaa
/- THE CELL 'sum', in the pinned program and in every row, IS THE sha256 OF THE DUMP (.gsa) THAT YtobgkmecdllbiaaProg.lean LOADS. Nothing in Lean hashes anything: it is a label: what it is worth is what the hold of that sum in a sandbox is worth. -/
noncomputable def Try.pinned : Pinned := { name := "ytobgkmecdllbiaa", sum := "165342bae7c2ff8554592c6c6608f481f9fb9502ac0dee4875bb09b9774efb7c", checked := Try.checked }
namespace Rows
def none {H : Type} : Left H := { results := [], args := [] }

/-- 'handsellaw02.OtsAll': WHATEVER THE INPUT: true; the input reads as it did. -/
def otsAllSpec : ChangeSpec := { name := "otsAll", fn := fun _ => fun
  | [d1, d2, d3, d4, d5, d6, d7] => { results := [.lit (.bool true)], args := [d1, d2, d3, d4, d5, d6, d7] }
  | _ => none }
def otsAllRow : OpenClaim := { program := "ytobgkmecdllbiaa", sum := "165342bae7c2ff8554592c6c6608f481f9fb9502ac0dee4875bb09b9774efb7c", func := "handsel/handsellaw02.OtsAll", spec := "otsAll", unfollowed := true, recurses := true, apart := false }
def OtsAllSaid : Prop := otsAllRow.holds Try.pinned (OpenSpec.ofChange otsAllSpec)

/-- ITS FALSE NEIGHBOUR: 'it returns false'. Refute it at one input. -/
def otsAllWrong : ChangeSpec := { name := "otsAll", fn := fun _ => fun
  | [d1, d2, d3, d4, d5, d6, d7] => { results := [.lit (.bool false)], args := [d1, d2, d3, d4, d5, d6, d7] }
  | _ => none }
def OtsAllWrongFalsely : Prop := otsAllRow.holds Try.pinned (OpenSpec.ofChange otsAllWrong)

/-- 'handsellaw02.OtsVerifies': WHATEVER THE INPUT: true; the input reads as it did. -/
def otsVerifiesSpec : ChangeSpec := { name := "otsVerifies", fn := fun _ => fun
  | [d1, d2, d3] => { results := [.lit (.bool true)], args := [d1, d2, d3] }
  | _ => none }
def otsVerifiesRow : OpenClaim := { program := "ytobgkmecdllbiaa", sum := "165342bae7c2ff8554592c6c6608f481f9fb9502ac0dee4875bb09b9774efb7c", func := "handsel/handsellaw02.OtsVerifies", spec := "otsVerifies", unfollowed := true, recurses := true, apart := false }
def OtsVerifiesSaid : Prop := otsVerifiesRow.holds Try.pinned (OpenSpec.ofChange otsVerifiesSpec)

/-- ITS FALSE NEIGHBOUR: 'it returns false'. Refute it at one input. -/
def otsVerifiesWrong : ChangeSpec := { name := "otsVerifies", fn := fun _ => fun
  | [d1, d2, d3] => { results := [.lit (.bool false)], args := [d1, d2, d3] }
  | _ => none }
def OtsVerifiesWrongFalsely : Prop := otsVerifiesRow.holds Try.pinned (OpenSpec.ofChange otsVerifiesWrong)

/-- 'handsellaw02.OtsTurned': WHATEVER THE INPUT: true; the input reads as it did. -/
def otsTurnedSpec : ChangeSpec := { name := "otsTurned", fn := fun _ => fun
  | [d1, d2, d3, d4, d5] => { results := [.lit (.bool true)], args := [d1, d2, d3, d4, d5] }
  | _ => none }
def otsTurnedRow : OpenClaim := { program := "ytobgkmecdllbiaa", sum := "165342bae7c2ff8554592c6c6608f481f9fb9502ac0dee4875bb09b9774efb7c", func := "handsel/handsellaw02.OtsTurned", spec := "otsTurned", unfollowed := true, recurses := true, apart := false }
def OtsTurnedSaid : Prop := otsTurnedRow.holds Try.pinned (OpenSpec.ofChange otsTurnedSpec)

/-- ITS FALSE NEIGHBOUR: 'it returns false'. Refute it at one input. -/
def otsTurnedWrong : ChangeSpec := { name := "otsTurned", fn := fun _ => fun
  | [d1, d2, d3, d4, d5] => { results := [.lit (.bool false)], args := [d1, d2, d3, d4, d5] }
  | _ => none }
def OtsTurnedWrongFalsely : Prop := otsTurnedRow.holds Try.pinned (OpenSpec.ofChange otsTurnedWrong)

/-- 'handsellaw02.OtsPieces': WHATEVER THE INPUT: true; the input reads as it did. -/
def otsPiecesSpec : ChangeSpec := { name := "otsPieces", fn := fun _ => fun
  | [d1, d2, d3] => { results := [.lit (.bool true)], args := [d1, d2, d3] }
  | _ => none }
def otsPiecesRow : OpenClaim := { program := "ytobgkmecdllbiaa", sum := "165342bae7c2ff8554592c6c6608f481f9fb9502ac0dee4875bb09b9774efb7c", func := "handsel/handsellaw02.OtsPieces", spec := "otsPieces", unfollowed := true, recurses := true, apart := false }
def OtsPiecesSaid : Prop := otsPiecesRow.holds Try.pinned (OpenSpec.ofChange otsPiecesSpec)

/-- ITS FALSE NEIGHBOUR: 'it returns false'. Refute it at one input. -/
def otsPiecesWrong : ChangeSpec := { name := "otsPieces", fn := fun _ => fun
  | [d1, d2, d3] => { results := [.lit (.bool false)], args := [d1, d2, d3] }
  | _ => none }
def OtsPiecesWrongFalsely : Prop := otsPiecesRow.holds Try.pinned (OpenSpec.ofChange otsPiecesWrong)

/-- 'handsellaw02.OtsNone': WHATEVER THE INPUT: true; the input reads as it did. -/
def otsNoneSpec : ChangeSpec := { name := "otsNone", fn := fun _ => fun
  | [d1, d2, d3] => { results := [.lit (.bool true)], args := [d1, d2, d3] }
  | _ => none }
def otsNoneRow : OpenClaim := { program := "ytobgkmecdllbiaa", sum := "165342bae7c2ff8554592c6c6608f481f9fb9502ac0dee4875bb09b9774efb7c", func := "handsel/handsellaw02.OtsNone", spec := "otsNone", unfollowed := true, recurses := true, apart := false }
def OtsNoneSaid : Prop := otsNoneRow.holds Try.pinned (OpenSpec.ofChange otsNoneSpec)

/-- ITS FALSE NEIGHBOUR: 'it returns false'. Refute it at one input. -/
def otsNoneWrong : ChangeSpec := { name := "otsNone", fn := fun _ => fun
  | [d1, d2, d3] => { results := [.lit (.bool false)], args := [d1, d2, d3] }
  | _ => none }
def OtsNoneWrongFalsely : Prop := otsNoneRow.holds Try.pinned (OpenSpec.ofChange otsNoneWrong)

/- THE SECOND FORM. 'bulk': how many values and letters a reading holds, each counted each time it is reached (what is shared counts as often as it is met; a slice's spare places count too). A statement '..UptoSaid' is the law's where the arguments, and the package variables that the reading takes, are together of bulk at most 1048576: NARROWER than '..Said'. Prove '..Said' where nothing that the law and all that it calls make is longer than what came in: it says more and counts as full. Else prove '..UptoSaid'. A law counts once. -/
mutual
def uptoBulk {H : Type} : DataW H → Nat
  | .lit (.string bytes) => bytes.length + 1
  | .lit _ => 1
  | .nil => 1
  | .ptr d => uptoBulk d + 1
  | .slice elems spare => uptoBulkAll elems + uptoBulkAll spare + 1
  | .agg parts => uptoBulkAll parts + 1
  | .iface _ d => uptoBulk d + 1
  | .map entries => uptoBulkEntries entries + 1
  | .held _ => 1
def uptoBulkAll {H : Type} : List (DataW H) → Nat
  | [] => 0
  | d :: r => uptoBulk d + uptoBulkAll r
def uptoBulkEntries {H : Type} : List (Lit × DataW H) → Nat
  | [] => 0
  | x :: r => uptoBulkEntry x + uptoBulkEntries r
def uptoBulkEntry {H : Type} : Lit × DataW H → Nat
  | (.string bytes, d) => bytes.length + uptoBulk d + 1
  | (_, d) => uptoBulk d + 1
 end
def uptoSmall : (H : Type) → List (DataW H) → Bool := fun _ ds => decide (uptoBulkAll ds ≤ 1048576)
def OpenSpec.upto (s : _root_.Go.ChangeSpec) : _root_.Go.OpenSpec := { _root_.Go.OpenSpec.ofChange s with cond := some uptoSmall }

/-- 'handsellaw02.OtsAll', WHERE WHAT IT READS IS OF BULK AT MOST 1048576: true; the input reads as it did. -/
def otsAllUptoRow : OpenClaim := { program := "ytobgkmecdllbiaa", sum := "165342bae7c2ff8554592c6c6608f481f9fb9502ac0dee4875bb09b9774efb7c", func := "handsel/handsellaw02.OtsAll", spec := "otsAll", unfollowed := true, recurses := true, apart := false, narrowed := true }
def OtsAllUptoSaid : Prop := otsAllUptoRow.holds Try.pinned (OpenSpec.upto otsAllSpec)

/-- 'handsellaw02.OtsVerifies', WHERE WHAT IT READS IS OF BULK AT MOST 1048576: true; the input reads as it did. -/
def otsVerifiesUptoRow : OpenClaim := { program := "ytobgkmecdllbiaa", sum := "165342bae7c2ff8554592c6c6608f481f9fb9502ac0dee4875bb09b9774efb7c", func := "handsel/handsellaw02.OtsVerifies", spec := "otsVerifies", unfollowed := true, recurses := true, apart := false, narrowed := true }
def OtsVerifiesUptoSaid : Prop := otsVerifiesUptoRow.holds Try.pinned (OpenSpec.upto otsVerifiesSpec)

/-- 'handsellaw02.OtsTurned', WHERE WHAT IT READS IS OF BULK AT MOST 1048576: true; the input reads as it did. -/
def otsTurnedUptoRow : OpenClaim := { program := "ytobgkmecdllbiaa", sum := "165342bae7c2ff8554592c6c6608f481f9fb9502ac0dee4875bb09b9774efb7c", func := "handsel/handsellaw02.OtsTurned", spec := "otsTurned", unfollowed := true, recurses := true, apart := false, narrowed := true }
def OtsTurnedUptoSaid : Prop := otsTurnedUptoRow.holds Try.pinned (OpenSpec.upto otsTurnedSpec)

/-- 'handsellaw02.OtsPieces', WHERE WHAT IT READS IS OF BULK AT MOST 1048576: true; the input reads as it did. -/
def otsPiecesUptoRow : OpenClaim := { program := "ytobgkmecdllbiaa", sum := "165342bae7c2ff8554592c6c6608f481f9fb9502ac0dee4875bb09b9774efb7c", func := "handsel/handsellaw02.OtsPieces", spec := "otsPieces", unfollowed := true, recurses := true, apart := false, narrowed := true }
def OtsPiecesUptoSaid : Prop := otsPiecesUptoRow.holds Try.pinned (OpenSpec.upto otsPiecesSpec)

/-- 'handsellaw02.OtsNone', WHERE WHAT IT READS IS OF BULK AT MOST 1048576: true; the input reads as it did. -/
def otsNoneUptoRow : OpenClaim := { program := "ytobgkmecdllbiaa", sum := "165342bae7c2ff8554592c6c6608f481f9fb9502ac0dee4875bb09b9774efb7c", func := "handsel/handsellaw02.OtsNone", spec := "otsNone", unfollowed := true, recurses := true, apart := false, narrowed := true }
def OtsNoneUptoSaid : Prop := otsNoneUptoRow.holds Try.pinned (OpenSpec.upto otsNoneSpec)

end Rows
end Go.Proofs.Ytobgkmecdllbiaa
