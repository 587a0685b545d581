/-
  No cell of these rows narrows 'for every input' (looked for: loops, veiled, ifaces, maps, wideKeys, modest, calm, conditions, laid).
  DERIVED. THE GIVEN ROWS OF THIS SEAT. 5 by the template 'for every input the law returns true; each argument reads behind the call as it read before'; 0 by the template 'total and deterministic' (their statements: YtpngohaheobkgaaTotals.lean).
  GIVEN WITH THE SEED: the statements are not yours to turn. If you find one false, say at which input.
  Laid BY PROGRAM, IN A SANDBOX (cutbox-rows.mjs): the forced cells as the released guide's own fill.sh prints them over the translation a219ea690a0d3620… (all of the seat's roots in one cut). By AI agents, Wed Nov 11 2026. No macro, syntax, notation, axiom, sorry.
-/
import Derived.Test.YtpngohaheobkgaaChecked
import GoSem.Claim
import GoSem.ClaimJoined
import GoSem.ClaimMapViews
import Derived.JoinedTies
import Derived.KernelRfl
namespace Go.Proofs.Ytpngohaheobkgaa
/- THE CELL 'sum', in the pinned program and in every row, IS THE sha256 OF THE DUMP (.gsa) THAT YtpngohaheobkgaaProg.lean LOADS. Nothing in Lean hashes anything: it is a label: what it is worth is what the hold of that sum in a sandbox is worth. -/
noncomputable def Try.pinned : Pinned := { name := "ytpngohaheobkgaa", sum := "a219ea690a0d3620960a641a2dbc2c7ed5381758dc81b7d1e8172a60dfd29e1f", checked := Try.checked }
namespace Rows
def none {H : Type} : Left H := { results := [], args := [] }

/-- 'handsellaw06.WhenAll': WHATEVER THE INPUT: true; the input reads as it did. -/
def whenAllSpec : ChangeSpec := { name := "whenAll", fn := fun _ => fun
  | [d1, d2] => { results := [.lit (.bool true)], args := [d1, d2] }
  | _ => none }
def whenAllRow : OpenClaim := { program := "ytpngohaheobkgaa", sum := "a219ea690a0d3620960a641a2dbc2c7ed5381758dc81b7d1e8172a60dfd29e1f", func := "handsel/handsellaw06.WhenAll", spec := "whenAll", unfollowed := true, recurses := true, apart := false }
def WhenAllSaid : Prop := whenAllRow.holds Try.pinned (OpenSpec.ofChange whenAllSpec)

/-- ITS FALSE NEIGHBOUR: 'it returns false'. Refute it at one input. -/
def whenAllWrong : ChangeSpec := { name := "whenAll", fn := fun _ => fun
  | [d1, d2] => { results := [.lit (.bool false)], args := [d1, d2] }
  | _ => none }
def WhenAllWrongFalsely : Prop := whenAllRow.holds Try.pinned (OpenSpec.ofChange whenAllWrong)

/-- 'handsellaw04.SpecSame': WHATEVER THE INPUT: true; the input reads as it did. -/
def specSameSpec : ChangeSpec := { name := "specSame", fn := fun _ => fun
  | [d1, d2] => { results := [.lit (.bool true)], args := [d1, d2] }
  | _ => none }
def specSameRow : OpenClaim := { program := "ytpngohaheobkgaa", sum := "a219ea690a0d3620960a641a2dbc2c7ed5381758dc81b7d1e8172a60dfd29e1f", func := "handsel/handsellaw04.SpecSame", spec := "specSame", inPlace := ["internal/abi.NoEscape"], unfollowed := true, recurses := true, apart := false }
def SpecSameSaid : Prop := specSameRow.holds Try.pinned (OpenSpec.ofChange specSameSpec)

/-- ITS FALSE NEIGHBOUR: 'it returns false'. Refute it at one input. -/
def specSameWrong : ChangeSpec := { name := "specSame", fn := fun _ => fun
  | [d1, d2] => { results := [.lit (.bool false)], args := [d1, d2] }
  | _ => none }
def SpecSameWrongFalsely : Prop := specSameRow.holds Try.pinned (OpenSpec.ofChange specSameWrong)

/-- 'handsellaw04.SpecWrong': WHATEVER THE INPUT: true; the input reads as it did. -/
def specWrongSpec : ChangeSpec := { name := "specWrong", fn := fun _ => fun
  | [d1, d2, d3] => { results := [.lit (.bool true)], args := [d1, d2, d3] }
  | _ => none }
def specWrongRow : OpenClaim := { program := "ytpngohaheobkgaa", sum := "a219ea690a0d3620960a641a2dbc2c7ed5381758dc81b7d1e8172a60dfd29e1f", func := "handsel/handsellaw04.SpecWrong", spec := "specWrong", inPlace := ["internal/abi.NoEscape"], unfollowed := true, recurses := true, apart := false }
def SpecWrongSaid : Prop := specWrongRow.holds Try.pinned (OpenSpec.ofChange specWrongSpec)

/-- ITS FALSE NEIGHBOUR: 'it returns false'. Refute it at one input. -/
def specWrongWrong : ChangeSpec := { name := "specWrong", fn := fun _ => fun
  | [d1, d2, d3] => { results := [.lit (.bool false)], args := [d1, d2, d3] }
  | _ => none }
def SpecWrongWrongFalsely : Prop := specWrongRow.holds Try.pinned (OpenSpec.ofChange specWrongWrong)

/-- 'handsellaw04.SpecBack': WHATEVER THE INPUT: true; the input reads as it did. -/
def specBackSpec : ChangeSpec := { name := "specBack", fn := fun _ => fun
  | [d1, d2, d3] => { results := [.lit (.bool true)], args := [d1, d2, d3] }
  | _ => none }
def specBackRow : OpenClaim := { program := "ytpngohaheobkgaa", sum := "a219ea690a0d3620960a641a2dbc2c7ed5381758dc81b7d1e8172a60dfd29e1f", func := "handsel/handsellaw04.SpecBack", spec := "specBack", inPlace := ["internal/abi.NoEscape"], unfollowed := true, recurses := true, apart := false }
def SpecBackSaid : Prop := specBackRow.holds Try.pinned (OpenSpec.ofChange specBackSpec)

/-- ITS FALSE NEIGHBOUR: 'it returns false'. Refute it at one input. -/
def specBackWrong : ChangeSpec := { name := "specBack", fn := fun _ => fun
  | [d1, d2, d3] => { results := [.lit (.bool false)], args := [d1, d2, d3] }
  | _ => none }
def SpecBackWrongFalsely : Prop := specBackRow.holds Try.pinned (OpenSpec.ofChange specBackWrong)

/-- 'handsellaw04.SpecSizes': WHATEVER THE INPUT: true; the input reads as it did. -/
def specSizesSpec : ChangeSpec := { name := "specSizes", fn := fun _ => fun
  | [d1, d2, d3] => { results := [.lit (.bool true)], args := [d1, d2, d3] }
  | _ => none }
def specSizesRow : OpenClaim := { program := "ytpngohaheobkgaa", sum := "a219ea690a0d3620960a641a2dbc2c7ed5381758dc81b7d1e8172a60dfd29e1f", func := "handsel/handsellaw04.SpecSizes", spec := "specSizes", inPlace := ["internal/abi.NoEscape"], unfollowed := true, recurses := true, apart := false }
def SpecSizesSaid : Prop := specSizesRow.holds Try.pinned (OpenSpec.ofChange specSizesSpec)

/-- ITS FALSE NEIGHBOUR: 'it returns false'. Refute it at one input. -/
def specSizesWrong : ChangeSpec := { name := "specSizes", fn := fun _ => fun
  | [d1, d2, d3] => { results := [.lit (.bool false)], args := [d1, d2, d3] }
  | _ => none }
def SpecSizesWrongFalsely : Prop := specSizesRow.holds Try.pinned (OpenSpec.ofChange specSizesWrong)

/- THE SECOND FORM. 'bulk': how many values and letters a reading holds, each counted each time it is reached (what is shared counts as often as it is met; a slice's spare places count too). A statement '..UptoSaid' is the law's where the arguments, and the package variables that the reading takes, are together of bulk at most 1048576: NARROWER than '..Said'. Prove '..Said' where nothing that the law and all that it calls make is longer than what came in: it says more and counts as full. Else prove '..UptoSaid'. A law counts once. -/
mutual
def uptoBulk {H : Type} : DataW H → Nat
  | .lit (.string bytes) => bytes.length + 1
  | .lit _ => 1
  | .nil => 1
  | .ptr d => uptoBulk d + 1
  | .slice elems spare => uptoBulkAll elems + uptoBulkAll spare + 1
  | .agg parts => uptoBulkAll parts + 1
  | .iface _ d => uptoBulk d + 1
  | .map entries => uptoBulkEntries entries + 1
  | .held _ => 1
def uptoBulkAll {H : Type} : List (DataW H) → Nat
  | [] => 0
  | d :: r => uptoBulk d + uptoBulkAll r
def uptoBulkEntries {H : Type} : List (Lit × DataW H) → Nat
  | [] => 0
  | x :: r => uptoBulkEntry x + uptoBulkEntries r
def uptoBulkEntry {H : Type} : Lit × DataW H → Nat
  | (.string bytes, d) => bytes.length + uptoBulk d + 1
  | (_, d) => uptoBulk d + 1
 end
def uptoSmall : (H : Type) → List (DataW H) → Bool := fun _ ds => decide (uptoBulkAll ds ≤ 1048576)
def OpenSpec.upto (s : _root_.Go.ChangeSpec) : _root_.Go.OpenSpec := { _root_.Go.OpenSpec.ofChange s with cond := some uptoSmall }

/-- 'handsellaw06.WhenAll', WHERE WHAT IT READS IS OF BULK AT MOST 1048576: true; the input reads as it did. -/
def whenAllUptoRow : OpenClaim := { program := "ytpngohaheobkgaa", sum := "a219ea690a0d3620960a641a2dbc2c7ed5381758dc81b7d1e8172a60dfd29e1f", func := "handsel/handsellaw06.WhenAll", spec := "whenAll", unfollowed := true, recurses := true, apart := false, narrowed := true }
def WhenAllUptoSaid : Prop := whenAllUptoRow.holds Try.pinned (OpenSpec.upto whenAllSpec)

/-- 'handsellaw04.SpecSame', WHERE WHAT IT READS IS OF BULK AT MOST 1048576: true; the input reads as it did. -/
def specSameUptoRow : OpenClaim := { program := "ytpngohaheobkgaa", sum := "a219ea690a0d3620960a641a2dbc2c7ed5381758dc81b7d1e8172a60dfd29e1f", func := "handsel/handsellaw04.SpecSame", spec := "specSame", inPlace := ["internal/abi.NoEscape"], unfollowed := true, recurses := true, apart := false, narrowed := true }
def SpecSameUptoSaid : Prop := specSameUptoRow.holds Try.pinned (OpenSpec.upto specSameSpec)

/-- 'handsellaw04.SpecWrong', WHERE WHAT IT READS IS OF BULK AT MOST 1048576: true; the input reads as it did. -/
def specWrongUptoRow : OpenClaim := { program := "ytpngohaheobkgaa", sum := "a219ea690a0d3620960a641a2dbc2c7ed5381758dc81b7d1e8172a60dfd29e1f", func := "handsel/handsellaw04.SpecWrong", spec := "specWrong", inPlace := ["internal/abi.NoEscape"], unfollowed := true, recurses := true, apart := false, narrowed := true }
def SpecWrongUptoSaid : Prop := specWrongUptoRow.holds Try.pinned (OpenSpec.upto specWrongSpec)

/-- 'handsellaw04.SpecBack', WHERE WHAT IT READS IS OF BULK AT MOST 1048576: true; the input reads as it did. -/
def specBackUptoRow : OpenClaim := { program := "ytpngohaheobkgaa", sum := "a219ea690a0d3620960a641a2dbc2c7ed5381758dc81b7d1e8172a60dfd29e1f", func := "handsel/handsellaw04.SpecBack", spec := "specBack", inPlace := ["internal/abi.NoEscape"], unfollowed := true, recurses := true, apart := false, narrowed := true }
def SpecBackUptoSaid : Prop := specBackUptoRow.holds Try.pinned (OpenSpec.upto specBackSpec)

/-- 'handsellaw04.SpecSizes', WHERE WHAT IT READS IS OF BULK AT MOST 1048576: true; the input reads as it did. -/
def specSizesUptoRow : OpenClaim := { program := "ytpngohaheobkgaa", sum := "a219ea690a0d3620960a641a2dbc2c7ed5381758dc81b7d1e8172a60dfd29e1f", func := "handsel/handsellaw04.SpecSizes", spec := "specSizes", inPlace := ["internal/abi.NoEscape"], unfollowed := true, recurses := true, apart := false, narrowed := true }
def SpecSizesUptoSaid : Prop := specSizesUptoRow.holds Try.pinned (OpenSpec.upto specSizesSpec)

end Rows
end Go.Proofs.Ytpngohaheobkgaa
