/-
  The tables of the program: the calls that make them.
-/
import Derived.Test.YtobgkmecdllbiaaRow
namespace Go.Proofs.Ytobgkmecdllbiaa
open Go.RowKit

/-- The first words. -/
def H0 : List (BitVec 32) := [1779033703, 3144134277, 1013904242, 2773480762, 1359893119, 2600822924, 528734635, 1541459225]
/-- The rounds' constants. -/
def KK : List (BitVec 32) := [1116352408, 1899447441, 3049323471, 3921009573, 961987163, 1508970993, 2453635748, 2870763221, 3624381080, 310598401, 607225278, 1426881987, 1925078388, 2162078206, 2614888103, 3248222580, 3835390401, 4022224774, 264347078, 604807628, 770255983, 1249150122, 1555081692, 1996064986, 2554220882, 2821834349, 2952996808, 3210313671, 3336571891, 3584528711, 113926993, 338241895, 666307205, 773529912, 1294757372, 1396182291, 1695183700, 1986661051, 2177026350, 2456956037, 2730485921, 2820302411, 3259730800, 3345764771, 3516065817, 3600352804, 4094571909, 275423344, 430227734, 506948616, 659060556, 883997877, 958139571, 1322822218, 1537002063, 1747873779, 1955562222, 2024104815, 2227730452, 2361852424, 2428436474, 2756734187, 3204031479, 3329325298]

set_option maxHeartbeats 400000 in
theorem first_any (w : World) :
    Calls Try.prog 28 #[] w fun e w' => e = .returned (.agg (cw H0).toArray) ∧ Below w.heap.size w w' := by
  go_enter Try.func28, Try.ntmps28
  go_wp2
  exact bodyPost_ret (v := .agg (cw H0).toArray) (by simp [results, Try.results28, go_sem]; rfl) rfl ⟨rfl, (Below.refl _ _).alloc (Nat.le_refl _) _⟩

/-- Nothing but zeros. -/
def zeros (n : Nat) : List (BitVec 32) := List.replicate n 0
theorem Try.info44 : (Try.prog.info? 44).map (fun i => (i.zero, i.size)) = some (some (.agg (cw (zeros 64)).toArray), 64) := by kernel_rfl
theorem Try.info42 : (Try.prog.info? 42).map (fun i => (i.zero, i.size)) = some (some (.agg (cw (zeros 8)).toArray), 8) := by kernel_rfl
theorem Try.size44 : (Try.prog.info? 44).map (·.size) = some 64 := (zero_of_info Try.info44).2
theorem Try.size42 : (Try.prog.info? 42).map (·.size) = some 8 := (zero_of_info Try.info42).2
theorem zeros_length (n : Nat) : (zeros n).length = n := by simp [zeros]
theorem KK_length : KK.length = 64 := by decide
theorem H0_length : H0.length = 8 := by decide

theorem wpList_table {ops : Array Oper} {rest : List Oper} {o : Oper} {a : Act} {w : World} {Q : Exit → Act → World → Prop} (hgd : o.guard = none) (t : TypeId) (parts : Array (Nat × Operand)) (ho : o.op = .build t parts)
    (l : List (BitVec 32)) (hf : Try.prog.built t (parts.map fun (i, x) => (i, a.eval x)).toList = some (cw l).toArray)
    (h : wpList Try.prog ops Q rest (a.put o.dst (.agg (cw l).toArray)) w) : wpList Try.prog ops Q (o :: rest) a w :=
  wpList_build hgd t parts ho (by rw [hf]; rfl) (by rw [hf]; exact h)

set_option maxRecDepth 10000 in
set_option maxHeartbeats 400000 in
theorem consts_any (w : World) :
    Calls Try.prog 29 #[] w fun e w' => e = .returned (.agg (cw KK).toArray) ∧ Below w.heap.size w w' := by
  go_enter Try.func29, Try.ntmps29
  go_wp2_with (first
    | (refine wpList_new (P := Try.prog) (by rfl) 44 (by rfl) (zeros 64) 64 Try.info44 ?_; intro w1 hr1 hs1 hb1)
    | (refine wpList_table (by rfl) 44 _ (by rfl) KK (by kernel_rfl) ?_)
    | (refine wpList_put (P := Try.prog) (by rfl) 44 (.tmp 0) (.tmp 1) (by rfl) w.heap.size KK (zeros 64) (by rfl) (by rfl) 44 hr1 (by rw [KK_length]; exact Try.size44) (by rw [KK_length, zeros_length]) ?_; intro w2 hr2 hs2 hb2))
  exact bodyPost_ret (v := .agg (cw KK).toArray) (results_cell_row (fn := Try.f29) Try.results29 _ _ w.heap.size 44 _ (0, 0) _ (by rfl) hr2 Try.underlying44 rfl (by rw [cw_size, KK_length]; exact Try.size44)) rfl
    ⟨rfl, hb1.trans (hb2.below (Nat.le_refl _) (by omega))⟩

end Go.Proofs.Ytobgkmecdllbiaa
