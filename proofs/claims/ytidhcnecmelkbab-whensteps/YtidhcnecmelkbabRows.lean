/-
  No cell of these rows narrows 'for every input' (looked for: loops, veiled, ifaces, maps, wideKeys, modest, calm, conditions, laid).
  DERIVED. THE GIVEN ROWS OF THIS SEAT. 6 by the template 'for every input the law returns true; each argument reads behind the call as it read before'; 0 by the template 'total and deterministic' (their statements: YtidhcnecmelkbabTotals.lean).
  GIVEN WITH THE SEED: the statements are not yours to turn. If you find one false, say at which input.
  Laid BY PROGRAM, IN A SANDBOX (cutbox-rows.mjs): the forced cells as the released guide's own fill.sh prints them over the translation e8977ac5a8d8e855… (all of the seat's roots in one cut). By AI agents, Wed Nov 11 2026. No macro, syntax, notation, axiom, sorry.
-/
import Derived.Test.YtidhcnecmelkbabChecked
import GoSem.Claim
import GoSem.ClaimJoined
import GoSem.ClaimMapViews
import Derived.JoinedTies
import Derived.KernelRfl
namespace Go.Proofs.Ytidhcnecmelkbab
/- THE CELL 'sum', in the pinned program and in every row, IS THE sha256 OF THE DUMP (.gsa) THAT YtidhcnecmelkbabProg.lean LOADS. Nothing in Lean hashes anything: it is a label: what it is worth is what the hold of that sum in a sandbox is worth. -/
noncomputable def Try.pinned : Pinned := { name := "ytidhcnecmelkbab", sum := "e8977ac5a8d8e85554584dbbd41464ebf61a0276a9c3a1ce3492e37a75505dd7", checked := Try.checked }
namespace Rows
def none {H : Type} : Left H := { results := [], args := [] }

/-- 'handsellaw05.GraphRing': WHATEVER THE INPUT: true; the input reads as it did. -/
def graphRingSpec : ChangeSpec := { name := "graphRing", fn := fun _ => fun
  | [d1, d2, d3] => { results := [.lit (.bool true)], args := [d1, d2, d3] }
  | _ => none }
def graphRingRow : OpenClaim := { program := "ytidhcnecmelkbab", sum := "e8977ac5a8d8e85554584dbbd41464ebf61a0276a9c3a1ce3492e37a75505dd7", func := "handsel/handsellaw05.GraphRing", spec := "graphRing", unfollowed := true, recurses := true, apart := false }
def GraphRingSaid : Prop := graphRingRow.holds Try.pinned (OpenSpec.ofChange graphRingSpec)

/-- ITS FALSE NEIGHBOUR: 'it returns false'. Refute it at one input. -/
def graphRingWrong : ChangeSpec := { name := "graphRing", fn := fun _ => fun
  | [d1, d2, d3] => { results := [.lit (.bool false)], args := [d1, d2, d3] }
  | _ => none }
def GraphRingWrongFalsely : Prop := graphRingRow.holds Try.pinned (OpenSpec.ofChange graphRingWrong)

/-- 'handsellaw05.GraphFull': WHATEVER THE INPUT: true; the input reads as it did. -/
def graphFullSpec : ChangeSpec := { name := "graphFull", fn := fun _ => fun
  | [d1, d2] => { results := [.lit (.bool true)], args := [d1, d2] }
  | _ => none }
def graphFullRow : OpenClaim := { program := "ytidhcnecmelkbab", sum := "e8977ac5a8d8e85554584dbbd41464ebf61a0276a9c3a1ce3492e37a75505dd7", func := "handsel/handsellaw05.GraphFull", spec := "graphFull", unfollowed := true, recurses := true, apart := false }
def GraphFullSaid : Prop := graphFullRow.holds Try.pinned (OpenSpec.ofChange graphFullSpec)

/-- ITS FALSE NEIGHBOUR: 'it returns false'. Refute it at one input. -/
def graphFullWrong : ChangeSpec := { name := "graphFull", fn := fun _ => fun
  | [d1, d2] => { results := [.lit (.bool false)], args := [d1, d2] }
  | _ => none }
def GraphFullWrongFalsely : Prop := graphFullRow.holds Try.pinned (OpenSpec.ofChange graphFullWrong)

/-- 'handsellaw05.GraphApart': WHATEVER THE INPUT: true; the input reads as it did. -/
def graphApartSpec : ChangeSpec := { name := "graphApart", fn := fun _ => fun
  | [d] => { results := [.lit (.bool true)], args := [d] }
  | _ => none }
def graphApartRow : OpenClaim := { program := "ytidhcnecmelkbab", sum := "e8977ac5a8d8e85554584dbbd41464ebf61a0276a9c3a1ce3492e37a75505dd7", func := "handsel/handsellaw05.GraphApart", spec := "graphApart", unfollowed := true, recurses := true, apart := false }
def GraphApartSaid : Prop := graphApartRow.holds Try.pinned (OpenSpec.ofChange graphApartSpec)

/-- ITS FALSE NEIGHBOUR: 'it returns false'. Refute it at one input. -/
def graphApartWrong : ChangeSpec := { name := "graphApart", fn := fun _ => fun
  | [d] => { results := [.lit (.bool false)], args := [d] }
  | _ => none }
def GraphApartWrongFalsely : Prop := graphApartRow.holds Try.pinned (OpenSpec.ofChange graphApartWrong)

/-- 'handsellaw06.WhenAll': WHATEVER THE INPUT: true; the input reads as it did. -/
def whenAllSpec : ChangeSpec := { name := "whenAll", fn := fun _ => fun
  | [d1, d2] => { results := [.lit (.bool true)], args := [d1, d2] }
  | _ => none }
def whenAllRow : OpenClaim := { program := "ytidhcnecmelkbab", sum := "e8977ac5a8d8e85554584dbbd41464ebf61a0276a9c3a1ce3492e37a75505dd7", func := "handsel/handsellaw06.WhenAll", spec := "whenAll", unfollowed := true, recurses := true, apart := false }
def WhenAllSaid : Prop := whenAllRow.holds Try.pinned (OpenSpec.ofChange whenAllSpec)

/-- ITS FALSE NEIGHBOUR: 'it returns false'. Refute it at one input. -/
def whenAllWrong : ChangeSpec := { name := "whenAll", fn := fun _ => fun
  | [d1, d2] => { results := [.lit (.bool false)], args := [d1, d2] }
  | _ => none }
def WhenAllWrongFalsely : Prop := whenAllRow.holds Try.pinned (OpenSpec.ofChange whenAllWrong)

/-- 'handsellaw06.WhenSteps': WHATEVER THE INPUT: true; the input reads as it did. -/
def whenStepsSpec : ChangeSpec := { name := "whenSteps", fn := fun _ => fun
  | [d1, d2, d3] => { results := [.lit (.bool true)], args := [d1, d2, d3] }
  | _ => none }
def whenStepsRow : OpenClaim := { program := "ytidhcnecmelkbab", sum := "e8977ac5a8d8e85554584dbbd41464ebf61a0276a9c3a1ce3492e37a75505dd7", func := "handsel/handsellaw06.WhenSteps", spec := "whenSteps", unfollowed := true, recurses := true, apart := false }
def WhenStepsSaid : Prop := whenStepsRow.holds Try.pinned (OpenSpec.ofChange whenStepsSpec)

/-- ITS FALSE NEIGHBOUR: 'it returns false'. Refute it at one input. -/
def whenStepsWrong : ChangeSpec := { name := "whenSteps", fn := fun _ => fun
  | [d1, d2, d3] => { results := [.lit (.bool false)], args := [d1, d2, d3] }
  | _ => none }
def WhenStepsWrongFalsely : Prop := whenStepsRow.holds Try.pinned (OpenSpec.ofChange whenStepsWrong)

/-- 'handsellaw06.WhenNone': WHATEVER THE INPUT: true; the input reads as it did. -/
def whenNoneSpec : ChangeSpec := { name := "whenNone", fn := fun _ => fun
  | [d1, d2, d3] => { results := [.lit (.bool true)], args := [d1, d2, d3] }
  | _ => none }
def whenNoneRow : OpenClaim := { program := "ytidhcnecmelkbab", sum := "e8977ac5a8d8e85554584dbbd41464ebf61a0276a9c3a1ce3492e37a75505dd7", func := "handsel/handsellaw06.WhenNone", spec := "whenNone", unfollowed := true, recurses := true, apart := false }
def WhenNoneSaid : Prop := whenNoneRow.holds Try.pinned (OpenSpec.ofChange whenNoneSpec)

/-- ITS FALSE NEIGHBOUR: 'it returns false'. Refute it at one input. -/
def whenNoneWrong : ChangeSpec := { name := "whenNone", fn := fun _ => fun
  | [d1, d2, d3] => { results := [.lit (.bool false)], args := [d1, d2, d3] }
  | _ => none }
def WhenNoneWrongFalsely : Prop := whenNoneRow.holds Try.pinned (OpenSpec.ofChange whenNoneWrong)

/- THE SECOND FORM. 'bulk': how many values and letters a reading holds, each counted each time it is reached (what is shared counts as often as it is met; a slice's spare places count too). A statement '..UptoSaid' is the law's where the arguments, and the package variables that the reading takes, are together of bulk at most 1048576: NARROWER than '..Said'. Prove '..Said' where nothing that the law and all that it calls make is longer than what came in: it says more and counts as full. Else prove '..UptoSaid'. A law counts once. -/
mutual
def uptoBulk {H : Type} : DataW H → Nat
  | .lit (.string bytes) => bytes.length + 1
  | .lit _ => 1
  | .nil => 1
  | .ptr d => uptoBulk d + 1
  | .slice elems spare => uptoBulkAll elems + uptoBulkAll spare + 1
  | .agg parts => uptoBulkAll parts + 1
  | .iface _ d => uptoBulk d + 1
  | .map entries => uptoBulkEntries entries + 1
  | .held _ => 1
def uptoBulkAll {H : Type} : List (DataW H) → Nat
  | [] => 0
  | d :: r => uptoBulk d + uptoBulkAll r
def uptoBulkEntries {H : Type} : List (Lit × DataW H) → Nat
  | [] => 0
  | x :: r => uptoBulkEntry x + uptoBulkEntries r
def uptoBulkEntry {H : Type} : Lit × DataW H → Nat
  | (.string bytes, d) => bytes.length + uptoBulk d + 1
  | (_, d) => uptoBulk d + 1
 end
def uptoSmall : (H : Type) → List (DataW H) → Bool := fun _ ds => decide (uptoBulkAll ds ≤ 1048576)
def OpenSpec.upto (s : _root_.Go.ChangeSpec) : _root_.Go.OpenSpec := { _root_.Go.OpenSpec.ofChange s with cond := some uptoSmall }

/-- 'handsellaw05.GraphRing', WHERE WHAT IT READS IS OF BULK AT MOST 1048576: true; the input reads as it did. -/
def graphRingUptoRow : OpenClaim := { program := "ytidhcnecmelkbab", sum := "e8977ac5a8d8e85554584dbbd41464ebf61a0276a9c3a1ce3492e37a75505dd7", func := "handsel/handsellaw05.GraphRing", spec := "graphRing", unfollowed := true, recurses := true, apart := false, narrowed := true }
def GraphRingUptoSaid : Prop := graphRingUptoRow.holds Try.pinned (OpenSpec.upto graphRingSpec)

/-- 'handsellaw05.GraphFull', WHERE WHAT IT READS IS OF BULK AT MOST 1048576: true; the input reads as it did. -/
def graphFullUptoRow : OpenClaim := { program := "ytidhcnecmelkbab", sum := "e8977ac5a8d8e85554584dbbd41464ebf61a0276a9c3a1ce3492e37a75505dd7", func := "handsel/handsellaw05.GraphFull", spec := "graphFull", unfollowed := true, recurses := true, apart := false, narrowed := true }
def GraphFullUptoSaid : Prop := graphFullUptoRow.holds Try.pinned (OpenSpec.upto graphFullSpec)

/-- 'handsellaw05.GraphApart', WHERE WHAT IT READS IS OF BULK AT MOST 1048576: true; the input reads as it did. -/
def graphApartUptoRow : OpenClaim := { program := "ytidhcnecmelkbab", sum := "e8977ac5a8d8e85554584dbbd41464ebf61a0276a9c3a1ce3492e37a75505dd7", func := "handsel/handsellaw05.GraphApart", spec := "graphApart", unfollowed := true, recurses := true, apart := false, narrowed := true }
def GraphApartUptoSaid : Prop := graphApartUptoRow.holds Try.pinned (OpenSpec.upto graphApartSpec)

/-- 'handsellaw06.WhenAll', WHERE WHAT IT READS IS OF BULK AT MOST 1048576: true; the input reads as it did. -/
def whenAllUptoRow : OpenClaim := { program := "ytidhcnecmelkbab", sum := "e8977ac5a8d8e85554584dbbd41464ebf61a0276a9c3a1ce3492e37a75505dd7", func := "handsel/handsellaw06.WhenAll", spec := "whenAll", unfollowed := true, recurses := true, apart := false, narrowed := true }
def WhenAllUptoSaid : Prop := whenAllUptoRow.holds Try.pinned (OpenSpec.upto whenAllSpec)

/-- 'handsellaw06.WhenSteps', WHERE WHAT IT READS IS OF BULK AT MOST 1048576: true; the input reads as it did. -/
def whenStepsUptoRow : OpenClaim := { program := "ytidhcnecmelkbab", sum := "e8977ac5a8d8e85554584dbbd41464ebf61a0276a9c3a1ce3492e37a75505dd7", func := "handsel/handsellaw06.WhenSteps", spec := "whenSteps", unfollowed := true, recurses := true, apart := false, narrowed := true }
def WhenStepsUptoSaid : Prop := whenStepsUptoRow.holds Try.pinned (OpenSpec.upto whenStepsSpec)

/-- 'handsellaw06.WhenNone', WHERE WHAT IT READS IS OF BULK AT MOST 1048576: true; the input reads as it did. -/
def whenNoneUptoRow : OpenClaim := { program := "ytidhcnecmelkbab", sum := "e8977ac5a8d8e85554584dbbd41464ebf61a0276a9c3a1ce3492e37a75505dd7", func := "handsel/handsellaw06.WhenNone", spec := "whenNone", unfollowed := true, recurses := true, apart := false, narrowed := true }
def WhenNoneUptoSaid : Prop := whenNoneUptoRow.holds Try.pinned (OpenSpec.upto whenNoneSpec)

end Rows
end Go.Proofs.Ytidhcnecmelkbab
