/-
  Package hashkey: Check.
-/
import Derived.Test.YthoimecljfcjmaaHkCkA
import Derived.Test.YthoimecljfcjmaaHkCkB
namespace Go.Proofs.Ythoimecljfcjmaa
open Go.RowKit

set_option maxRecDepth 10000 in
set_option maxHeartbeats 4000000 in
theorem hkcheck_any {w : World} {v : Value} {s : SpecM} (hv : SpecW w v s) (arc : Int) {pa sa : Option Addr} {pc sc : Nat} {K : HkM} (L : HkL w pa sa pc sc K) (hp100 : K.path.length ≤ 100) (hz : ∀ j, j < K.sigs.length → (K.sigs.getD j ByteArray.empty).size ≤ 1000) (hsec : K.secret.size ≤ 1000000) :
    Calls Try.prog 8 #[v, .int .i64 arc, .agg (hcells pa sa pc sc K)] w fun e w' => e = .returned (.bool (told (hkOpens s arc K))) ∧ Below w.heap.size w w' := by
  by_cases hx : (validM s = true) ∧ (0 ≤ arc ∧ arc < (s.arcs.length : Int)) ∧ (0 ≤ K.lock ∧ K.lock < (s.locks.length : Int)) ∧ (K.secret.size ≤ 64) ∧ ((⟨(digest K.secret.data.toList).toArray⟩ : ByteArray) = s.locks.getD K.lock.toNat ByteArray.empty)
  · exact hkcheck_high hv arc L hp100 hz hsec hx.1 hx.2.1 hx.2.2.1 hx.2.2.2.1 hx.2.2.2.2
  · exact hkcheck_low hv arc L hp100 hz hsec hx

end Go.Proofs.Ythoimecljfcjmaa
