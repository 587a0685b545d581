/-
  The document's table: the call that makes it.
-/
import Derived.Test.YtpngohaheobkgaaZ02
namespace Go.Proofs.Ytpngohaheobkgaa
open Go.RowKit

set_option maxRecDepth 10000 in
set_option maxHeartbeats 400000 in
theorem table_any (w : World) :
    Calls Try.prog 109 #[] w fun e w' => e = .returned (.agg (cw KK).toArray) ∧ Below w.heap.size w w' := by
  go_enter Try.func109, Try.ntmps109
  go_wp2_with (first
    | (refine wpList_new (P := Try.prog) (by rfl) 117 (by rfl) (zeros 64) 64 Try.info117 ?_; intro w1 hr1 hs1 hb1)
    | (refine wpList_table (by rfl) 117 _ (by rfl) KK (by kernel_rfl) ?_)
    | (refine wpList_put (P := Try.prog) (by rfl) 117 (.tmp 0) (.tmp 1) (by rfl) w.heap.size KK (zeros 64) (by rfl) (by rfl) 117 hr1 (by rw [KK_length]; exact Try.size117) (by rw [KK_length, zeros_length]) ?_; intro w2 hr2 hs2 hb2))
  exact bodyPost_ret (v := .agg (cw KK).toArray) (results_cell_row (fn := Try.f109) Try.results109 _ _ w.heap.size 117 _ (0, 0) _ (by rfl) hr2 Try.underlying117 rfl (by rw [cw_size, KK_length]; exact Try.size117)) rfl
    ⟨rfl, hb1.trans (hb2.below (Nat.le_refl _) (by omega))⟩

end Go.Proofs.Ytpngohaheobkgaa
