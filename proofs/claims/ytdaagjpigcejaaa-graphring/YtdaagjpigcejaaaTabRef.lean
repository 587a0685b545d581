/-
  The document's table: the call that makes it.
-/
import Derived.Test.YtdaagjpigcejaaaZ15
namespace Go.Proofs.Ytdaagjpigcejaaa
open Go.RowKit

set_option maxRecDepth 10000 in
set_option maxHeartbeats 400000 in
theorem table_any (w : World) :
    Calls Try.prog 73 #[] w fun e w' => e = .returned (.agg (cw KK).toArray) ∧ Below w.heap.size w w' := by
  go_enter Try.func73, Try.ntmps73
  go_wp2_with (first
    | (refine wpList_new (P := Try.prog) (by rfl) 79 (by rfl) (zeros 64) 64 Try.info79 ?_; intro w1 hr1 hs1 hb1)
    | (refine wpList_table (by rfl) 79 _ (by rfl) KK (by kernel_rfl) ?_)
    | (refine wpList_put (P := Try.prog) (by rfl) 79 (.tmp 0) (.tmp 1) (by rfl) w.heap.size KK (zeros 64) (by rfl) (by rfl) 79 hr1 (by rw [KK_length]; exact Try.size79) (by rw [KK_length, zeros_length]) ?_; intro w2 hr2 hs2 hb2))
  exact bodyPost_ret (v := .agg (cw KK).toArray) (results_cell_row (fn := Try.f73) Try.results73 _ _ w.heap.size 79 _ (0, 0) _ (by rfl) hr2 Try.underlying79 rfl (by rw [cw_size, KK_length]; exact Try.size79)) rfl
    ⟨rfl, hb1.trans (hb2.below (Nat.le_refl _) (by omega))⟩

end Go.Proofs.Ytdaagjpigcejaaa
