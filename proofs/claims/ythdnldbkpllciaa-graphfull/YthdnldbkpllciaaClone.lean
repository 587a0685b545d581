/-
  strings.Clone: the same bytes.
-/
import Derived.Test.YthdnldbkpllciaaZ05
import Derived.Lib.UnsafeStr
import Derived.Lib.BufferWrite
import Derived.Laws.MakeOwn
namespace Go.Proofs.Ythdnldbkpllciaa
open Go.RowKit

theorem bare (s : ByteArray) (h : s.size = 0) : s = ⟨#[]⟩ := ByteArray.ext (Array.eq_empty_of_size_eq_zero h)

set_option maxHeartbeats 400000 in
theorem clone0_any (s : ByteArray) (hs : s.size ≤ 1099511627776) (w : World) :
    Calls Try.prog 105 #[.string s] w fun e w' => e = .returned (.string s) ∧ Below w.heap.size w w' := by
  by_cases h0 : s.size = 0
  · rw [bare s h0]
    go_enter Try.func105, Try.ntmps105
    go_wp2
    go_ret
    exact ⟨rfl, Below.refl _ _⟩
  obtain ⟨i0, hi, hz0, hz1, hz2⟩ := info_parts Try.info5
  have hsz : (Try.prog.info? 5).map (·.size) = some 1 := by rw [hi]; simp [hz1]
  have hco : Try.prog.cellsOf 5 = 1 := by simp [Program.cellsOf, hi, hz1]
  have hne : s.data.toList ≠ [] := fun e => h0 (by rw [← len_list, e]; rfl)
  obtain ⟨M, hM, hMs⟩ : ∃ M : Array Value, M = madeCells (Value.int .u8 0).cells (((s.size : Nat) : Int).toNat * i0.size) ∧ M.size = s.size := ⟨_, rfl, by rw [size_madeCells, hz1]; simp⟩
  have hmk : (Instr.makeSlice 82 (.int .i64 (s.size : Int)) (.int .i64 (s.size : Int))).run Try.prog w = .ok (.slice (some ⟨w.heap.size, 0, none⟩) s.size s.size) (w.alloc (.cells M 5)) := by
    have h := run_make (P := Try.prog) w 82 5 i0 (.int .u8 0) Try.underlying82 hi hz0 .i64 .i64 (s.size : Int) (s.size : Int) (by omega) (by omega) (by rw [hz2]; omega) (by omega)
    rw [← hM] at h
    simpa using h
  clear hM
  have hg := heap_alloc_new w (.cells M 5)
  have hb1 : Below w.heap.size w (w.alloc (.cells M 5)) := (Below.refl _ w).alloc (Nat.le_refl _) _
  generalize w.alloc (.cells M 5) = w1 at hmk hg hb1
  have hcp := Lib.run_copy_row_string (P := Try.prog) w1 82 9 3 5 w.heap.size 0 s.size s.size s M 5 Try.underlying82 hsz hg (Nat.le_refl _) (by omega)
  obtain ⟨Y, hY, hYl⟩ : ∃ Y : Array Value, (M.toList.take 0 ++ Lib.byteCells s.data.toList ++ M.toList.drop (0 + s.size)).toArray = Y ∧ Y.toList = cb s.data.toList := by
    refine ⟨_, rfl, ?_⟩
    rw [List.toList_toArray, List.take_zero, List.nil_append, List.drop_of_length_le (by rw [Array.length_toList]; omega), List.append_nil]; rfl
  rw [hY] at hcp
  clear hY
  have hYs : Y.size = s.size := by rw [← Array.length_toList, hYl, cb_length, len_list]
  have hgY := setRow_heap w1 w.heap.size M Y 5 (0, 0) hg
  have hb2 : Below w.heap.size w1 (w1.setRow w.heap.size Y) := ⟨rfl, rfl, rfl, by simp, fun k hk => setRow_other _ _ _ _ (by omega)⟩
  generalize w1.setRow w.heap.size Y = w2 at hcp hgY hb2
  have hus := Lib.run_unsafeString_row (P := Try.prog) w2 112 3 9 5 Try.underlying112 hco w.heap.size Y.size (by unfold World.shape?; rw [hgY]) s.data.toList hne (by rw [len_list]; omega) (by rw [len_list]; omega)
    (fun j x hx => by
      rw [show (⟨w.heap.size, 0, none⟩ : Addr).add j = ⟨w.heap.size, j, none⟩ by unfold Addr.add; split <;> simp_all, cell_of_row w2 _ j Y 5 (0, 0) hgY, ← Array.getElem?_toList, hYl]
      simp [cb, hx])
  rw [len_list] at hus
  have hpos : (0 : Int) < (s.size : Int) := by omega
  have h0' : ((s.size : Int) == 0) = false := by rw [beq_eq_false_iff_ne]; omega
  go_enter Try.func105, Try.ntmps105
  go_wp2
  go_ret
  exact ⟨rfl, Lib.below_freeze (hb1.trans hb2) (p := ⟨w.heap.size, 0, none⟩) (Nat.le_refl _) _⟩

set_option maxHeartbeats 400000 in
theorem clone_any (s : ByteArray) (hs : s.size ≤ 1099511627776) (w : World) :
    Calls Try.prog 95 #[.string s] w fun e w' => e = .returned (.string s) ∧ Below w.heap.size w w' := by
  have HC := clone0_any s hs w
  go_enter Try.func95, Try.ntmps95
  go_wp2_with (go_at_call 105; refine HC.mono ?_; rintro e w1 ⟨rfl, hb1⟩)
  go_ret
  exact ⟨rfl, hb1⟩

end Go.Proofs.Ythdnldbkpllciaa
