/-
  The document's table: the call that makes it.
-/
import Derived.Test.YtlkoeckjgebkjaaZ02
namespace Go.Proofs.Ytlkoeckjgebkjaa
open Go.RowKit

set_option maxRecDepth 10000 in
set_option maxHeartbeats 400000 in
theorem table_any (w : World) :
    Calls Try.prog 102 #[] w fun e w' => e = .returned (.agg (cw KK).toArray) ∧ Below w.heap.size w w' := by
  go_enter Try.func102, Try.ntmps102
  go_wp2_with (first
    | (refine wpList_new (P := Try.prog) (by rfl) 112 (by rfl) (zeros 64) 64 Try.info112 ?_; intro w1 hr1 hs1 hb1)
    | (refine wpList_table (by rfl) 112 _ (by rfl) KK (by kernel_rfl) ?_)
    | (refine wpList_put (P := Try.prog) (by rfl) 112 (.tmp 0) (.tmp 1) (by rfl) w.heap.size KK (zeros 64) (by rfl) (by rfl) 112 hr1 (by rw [KK_length]; exact Try.size112) (by rw [KK_length, zeros_length]) ?_; intro w2 hr2 hs2 hb2))
  exact bodyPost_ret (v := .agg (cw KK).toArray) (results_cell_row (fn := Try.f102) Try.results102 _ _ w.heap.size 112 _ (0, 0) _ (by rfl) hr2 Try.underlying112 rfl (by rw [cw_size, KK_length]; exact Try.size112)) rfl
    ⟨rfl, hb1.trans (hb2.below (Nat.le_refl _) (by omega))⟩

end Go.Proofs.Ytlkoeckjgebkjaa
