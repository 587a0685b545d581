/-
  No cell of these rows narrows 'for every input' (looked for: loops, veiled, ifaces, maps, wideKeys, modest, calm, conditions, laid).
  DERIVED. THE GIVEN ROWS OF THIS SEAT. 6 by the template 'for every input the law returns true; each argument reads behind the call as it read before'; 0 by the template 'total and deterministic' (their statements: YtnnnhdacknecoaaTotals.lean).
  GIVEN WITH THE SEED: the statements are not yours to turn. If you find one false, say at which input.
  Laid BY PROGRAM, IN A SANDBOX (cutbox-rows.mjs): the forced cells as the released guide's own fill.sh prints them over the translation 80fe1bc6b7d772e0… (all of the seat's roots in one cut). By AI agents, Wed Nov 11 2026. No macro, syntax, notation, axiom, sorry.
-/
import Derived.Test.YtnnnhdacknecoaaChecked
import GoSem.Claim
import GoSem.ClaimJoined
import GoSem.ClaimMapViews
import Derived.JoinedTies
import Derived.KernelRfl
namespace Go.Proofs.Ytnnnhdacknecoaa
/- THE CELL 'sum', in the pinned program and in every row, IS THE sha256 OF THE DUMP (.gsa) THAT YtnnnhdacknecoaaProg.lean LOADS. Nothing in Lean hashes anything: it is a label: what it is worth is what the hold of that sum in a sandbox is worth. -/
noncomputable def Try.pinned : Pinned := { name := "ytnnnhdacknecoaa", sum := "80fe1bc6b7d772e0ec13af3ed28be9028fa6a7e3161e57d8fe4e5fd5443b3f3b", checked := Try.checked }
namespace Rows
def none {H : Type} : Left H := { results := [], args := [] }

/-- 'handsellaw01.ShaAll': WHATEVER THE INPUT: true; the input reads as it did. -/
def shaAllSpec : ChangeSpec := { name := "shaAll", fn := fun _ => fun
  | [d] => { results := [.lit (.bool true)], args := [d] }
  | _ => none }
def shaAllRow : OpenClaim := { program := "ytnnnhdacknecoaa", sum := "80fe1bc6b7d772e0ec13af3ed28be9028fa6a7e3161e57d8fe4e5fd5443b3f3b", func := "handsel/handsellaw01.ShaAll", spec := "shaAll", apart := false }
def ShaAllSaid : Prop := shaAllRow.holds Try.pinned (OpenSpec.ofChange shaAllSpec)

/-- ITS FALSE NEIGHBOUR: 'it returns false'. Refute it at one input. -/
def shaAllWrong : ChangeSpec := { name := "shaAll", fn := fun _ => fun
  | [d] => { results := [.lit (.bool false)], args := [d] }
  | _ => none }
def ShaAllWrongFalsely : Prop := shaAllRow.holds Try.pinned (OpenSpec.ofChange shaAllWrong)

/-- 'handsellaw01.ShaKnown': WHATEVER THE INPUT: true; the input reads as it did. -/
def shaKnownSpec : ChangeSpec := { name := "shaKnown", fn := fun _ => fun
  | [d] => { results := [.lit (.bool true)], args := [d] }
  | _ => none }
def shaKnownRow : OpenClaim := { program := "ytnnnhdacknecoaa", sum := "80fe1bc6b7d772e0ec13af3ed28be9028fa6a7e3161e57d8fe4e5fd5443b3f3b", func := "handsel/handsellaw01.ShaKnown", spec := "shaKnown", apart := false }
def ShaKnownSaid : Prop := shaKnownRow.holds Try.pinned (OpenSpec.ofChange shaKnownSpec)

/-- ITS FALSE NEIGHBOUR: 'it returns false'. Refute it at one input. -/
def shaKnownWrong : ChangeSpec := { name := "shaKnown", fn := fun _ => fun
  | [d] => { results := [.lit (.bool false)], args := [d] }
  | _ => none }
def ShaKnownWrongFalsely : Prop := shaKnownRow.holds Try.pinned (OpenSpec.ofChange shaKnownWrong)

/-- 'handsellaw01.ShaLengths': WHATEVER THE INPUT: true; the input reads as it did. -/
def shaLengthsSpec : ChangeSpec := { name := "shaLengths", fn := fun _ => fun
  | [d1, d2] => { results := [.lit (.bool true)], args := [d1, d2] }
  | _ => none }
def shaLengthsRow : OpenClaim := { program := "ytnnnhdacknecoaa", sum := "80fe1bc6b7d772e0ec13af3ed28be9028fa6a7e3161e57d8fe4e5fd5443b3f3b", func := "handsel/handsellaw01.ShaLengths", spec := "shaLengths", apart := false }
def ShaLengthsSaid : Prop := shaLengthsRow.holds Try.pinned (OpenSpec.ofChange shaLengthsSpec)

/-- ITS FALSE NEIGHBOUR: 'it returns false'. Refute it at one input. -/
def shaLengthsWrong : ChangeSpec := { name := "shaLengths", fn := fun _ => fun
  | [d1, d2] => { results := [.lit (.bool false)], args := [d1, d2] }
  | _ => none }
def ShaLengthsWrongFalsely : Prop := shaLengthsRow.holds Try.pinned (OpenSpec.ofChange shaLengthsWrong)

/-- 'handsellaw01.ShaTexts': WHATEVER THE INPUT: true; the input reads as it did. -/
def shaTextsSpec : ChangeSpec := { name := "shaTexts", fn := fun _ => fun
  | [d] => { results := [.lit (.bool true)], args := [d] }
  | _ => none }
def shaTextsRow : OpenClaim := { program := "ytnnnhdacknecoaa", sum := "80fe1bc6b7d772e0ec13af3ed28be9028fa6a7e3161e57d8fe4e5fd5443b3f3b", func := "handsel/handsellaw01.ShaTexts", spec := "shaTexts", apart := false }
def ShaTextsSaid : Prop := shaTextsRow.holds Try.pinned (OpenSpec.ofChange shaTextsSpec)

/-- ITS FALSE NEIGHBOUR: 'it returns false'. Refute it at one input. -/
def shaTextsWrong : ChangeSpec := { name := "shaTexts", fn := fun _ => fun
  | [d] => { results := [.lit (.bool false)], args := [d] }
  | _ => none }
def ShaTextsWrongFalsely : Prop := shaTextsRow.holds Try.pinned (OpenSpec.ofChange shaTextsWrong)

/-- 'handsellaw02.OtsAll': WHATEVER THE INPUT: true; the input reads as it did. -/
def otsAllSpec : ChangeSpec := { name := "otsAll", fn := fun _ => fun
  | [d1, d2, d3, d4, d5, d6, d7] => { results := [.lit (.bool true)], args := [d1, d2, d3, d4, d5, d6, d7] }
  | _ => none }
def otsAllRow : OpenClaim := { program := "ytnnnhdacknecoaa", sum := "80fe1bc6b7d772e0ec13af3ed28be9028fa6a7e3161e57d8fe4e5fd5443b3f3b", func := "handsel/handsellaw02.OtsAll", spec := "otsAll", unfollowed := true, recurses := true, apart := false }
def OtsAllSaid : Prop := otsAllRow.holds Try.pinned (OpenSpec.ofChange otsAllSpec)

/-- ITS FALSE NEIGHBOUR: 'it returns false'. Refute it at one input. -/
def otsAllWrong : ChangeSpec := { name := "otsAll", fn := fun _ => fun
  | [d1, d2, d3, d4, d5, d6, d7] => { results := [.lit (.bool false)], args := [d1, d2, d3, d4, d5, d6, d7] }
  | _ => none }
def OtsAllWrongFalsely : Prop := otsAllRow.holds Try.pinned (OpenSpec.ofChange otsAllWrong)

/-- 'handsellaw02.OtsVerifies': WHATEVER THE INPUT: true; the input reads as it did. -/
def otsVerifiesSpec : ChangeSpec := { name := "otsVerifies", fn := fun _ => fun
  | [d1, d2, d3] => { results := [.lit (.bool true)], args := [d1, d2, d3] }
  | _ => none }
def otsVerifiesRow : OpenClaim := { program := "ytnnnhdacknecoaa", sum := "80fe1bc6b7d772e0ec13af3ed28be9028fa6a7e3161e57d8fe4e5fd5443b3f3b", func := "handsel/handsellaw02.OtsVerifies", spec := "otsVerifies", unfollowed := true, recurses := true, apart := false }
def OtsVerifiesSaid : Prop := otsVerifiesRow.holds Try.pinned (OpenSpec.ofChange otsVerifiesSpec)

/-- ITS FALSE NEIGHBOUR: 'it returns false'. Refute it at one input. -/
def otsVerifiesWrong : ChangeSpec := { name := "otsVerifies", fn := fun _ => fun
  | [d1, d2, d3] => { results := [.lit (.bool false)], args := [d1, d2, d3] }
  | _ => none }
def OtsVerifiesWrongFalsely : Prop := otsVerifiesRow.holds Try.pinned (OpenSpec.ofChange otsVerifiesWrong)

/- THE SECOND FORM. 'bulk': how many values and letters a reading holds, each counted each time it is reached (what is shared counts as often as it is met; a slice's spare places count too). A statement '..UptoSaid' is the law's where the arguments, and the package variables that the reading takes, are together of bulk at most 1048576: NARROWER than '..Said'. Prove '..Said' where nothing that the law and all that it calls make is longer than what came in: it says more and counts as full. Else prove '..UptoSaid'. A law counts once. -/
mutual
def uptoBulk {H : Type} : DataW H → Nat
  | .lit (.string bytes) => bytes.length + 1
  | .lit _ => 1
  | .nil => 1
  | .ptr d => uptoBulk d + 1
  | .slice elems spare => uptoBulkAll elems + uptoBulkAll spare + 1
  | .agg parts => uptoBulkAll parts + 1
  | .iface _ d => uptoBulk d + 1
  | .map entries => uptoBulkEntries entries + 1
  | .held _ => 1
def uptoBulkAll {H : Type} : List (DataW H) → Nat
  | [] => 0
  | d :: r => uptoBulk d + uptoBulkAll r
def uptoBulkEntries {H : Type} : List (Lit × DataW H) → Nat
  | [] => 0
  | x :: r => uptoBulkEntry x + uptoBulkEntries r
def uptoBulkEntry {H : Type} : Lit × DataW H → Nat
  | (.string bytes, d) => bytes.length + uptoBulk d + 1
  | (_, d) => uptoBulk d + 1
 end
def uptoSmall : (H : Type) → List (DataW H) → Bool := fun _ ds => decide (uptoBulkAll ds ≤ 1048576)
def OpenSpec.upto (s : _root_.Go.ChangeSpec) : _root_.Go.OpenSpec := { _root_.Go.OpenSpec.ofChange s with cond := some uptoSmall }

/-- 'handsellaw01.ShaAll', WHERE WHAT IT READS IS OF BULK AT MOST 1048576: true; the input reads as it did. -/
def shaAllUptoRow : OpenClaim := { program := "ytnnnhdacknecoaa", sum := "80fe1bc6b7d772e0ec13af3ed28be9028fa6a7e3161e57d8fe4e5fd5443b3f3b", func := "handsel/handsellaw01.ShaAll", spec := "shaAll", apart := false, narrowed := true }
def ShaAllUptoSaid : Prop := shaAllUptoRow.holds Try.pinned (OpenSpec.upto shaAllSpec)

/-- 'handsellaw01.ShaKnown', WHERE WHAT IT READS IS OF BULK AT MOST 1048576: true; the input reads as it did. -/
def shaKnownUptoRow : OpenClaim := { program := "ytnnnhdacknecoaa", sum := "80fe1bc6b7d772e0ec13af3ed28be9028fa6a7e3161e57d8fe4e5fd5443b3f3b", func := "handsel/handsellaw01.ShaKnown", spec := "shaKnown", apart := false, narrowed := true }
def ShaKnownUptoSaid : Prop := shaKnownUptoRow.holds Try.pinned (OpenSpec.upto shaKnownSpec)

/-- 'handsellaw01.ShaLengths', WHERE WHAT IT READS IS OF BULK AT MOST 1048576: true; the input reads as it did. -/
def shaLengthsUptoRow : OpenClaim := { program := "ytnnnhdacknecoaa", sum := "80fe1bc6b7d772e0ec13af3ed28be9028fa6a7e3161e57d8fe4e5fd5443b3f3b", func := "handsel/handsellaw01.ShaLengths", spec := "shaLengths", apart := false, narrowed := true }
def ShaLengthsUptoSaid : Prop := shaLengthsUptoRow.holds Try.pinned (OpenSpec.upto shaLengthsSpec)

/-- 'handsellaw01.ShaTexts', WHERE WHAT IT READS IS OF BULK AT MOST 1048576: true; the input reads as it did. -/
def shaTextsUptoRow : OpenClaim := { program := "ytnnnhdacknecoaa", sum := "80fe1bc6b7d772e0ec13af3ed28be9028fa6a7e3161e57d8fe4e5fd5443b3f3b", func := "handsel/handsellaw01.ShaTexts", spec := "shaTexts", apart := false, narrowed := true }
def ShaTextsUptoSaid : Prop := shaTextsUptoRow.holds Try.pinned (OpenSpec.upto shaTextsSpec)

/-- 'handsellaw02.OtsAll', WHERE WHAT IT READS IS OF BULK AT MOST 1048576: true; the input reads as it did. -/
def otsAllUptoRow : OpenClaim := { program := "ytnnnhdacknecoaa", sum := "80fe1bc6b7d772e0ec13af3ed28be9028fa6a7e3161e57d8fe4e5fd5443b3f3b", func := "handsel/handsellaw02.OtsAll", spec := "otsAll", unfollowed := true, recurses := true, apart := false, narrowed := true }
def OtsAllUptoSaid : Prop := otsAllUptoRow.holds Try.pinned (OpenSpec.upto otsAllSpec)

/-- 'handsellaw02.OtsVerifies', WHERE WHAT IT READS IS OF BULK AT MOST 1048576: true; the input reads as it did. -/
def otsVerifiesUptoRow : OpenClaim := { program := "ytnnnhdacknecoaa", sum := "80fe1bc6b7d772e0ec13af3ed28be9028fa6a7e3161e57d8fe4e5fd5443b3f3b", func := "handsel/handsellaw02.OtsVerifies", spec := "otsVerifies", unfollowed := true, recurses := true, apart := false, narrowed := true }
def OtsVerifiesUptoSaid : Prop := otsVerifiesUptoRow.holds Try.pinned (OpenSpec.upto otsVerifiesSpec)

end Rows
end Go.Proofs.Ytnnnhdacknecoaa
