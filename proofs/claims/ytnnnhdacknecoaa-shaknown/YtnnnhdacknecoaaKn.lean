/-
  The walk of ShaKnown.
-/
import Derived.Test.YtnnnhdacknecoaaMillion
import Derived.Test.YtnnnhdacknecoaaAwake
import Derived.Laws.OwnMore
import Derived.OpenShut
namespace Go.Proofs.Ytnnnhdacknecoaa
open Go.RowKit

theorem known_text0 : hexOf (digest [97, 98, 99, 100, 98, 99, 100, 101, 99, 100, 101, 102, 100, 101, 102, 103, 101, 102, 103, 104, 102, 103, 104, 105, 103, 104, 105, 106, 104, 105, 106, 107, 105, 106, 107, 108, 106, 107, 108, 109, 107, 108, 109, 110, 108, 109, 110, 111, 109, 110, 111, 112, 110, 111, 112, 113]) = [50, 52, 56, 100, 54, 97, 54, 49, 100, 50, 48, 54, 51, 56, 98, 56, 101, 53, 99, 48, 50, 54, 57, 51, 48, 99, 51, 101, 54, 48, 51, 57, 97, 51, 51, 99, 101, 52, 53, 57, 54, 52, 102, 102, 50, 49, 54, 55, 102, 54, 101, 99, 101, 100, 100, 52, 49, 57, 100, 98, 48, 54, 99, 49] := by decide +kernel
theorem known_text1 : hexOf (digest [97, 98, 99, 100, 101, 102, 103, 104, 98, 99, 100, 101, 102, 103, 104, 105, 99, 100, 101, 102, 103, 104, 105, 106, 100, 101, 102, 103, 104, 105, 106, 107, 101, 102, 103, 104, 105, 106, 107, 108, 102, 103, 104, 105, 106, 107, 108, 109, 103, 104, 105, 106, 107, 108, 109, 110, 104, 105, 106, 107, 108, 109, 110, 111, 105, 106, 107, 108, 109, 110, 111, 112, 106, 107, 108, 109, 110, 111, 112, 113, 107, 108, 109, 110, 111, 112, 113, 114, 108, 109, 110, 111, 112, 113, 114, 115, 109, 110, 111, 112, 113, 114, 115, 116, 110, 111, 112, 113, 114, 115, 116, 117]) = [99, 102, 53, 98, 49, 54, 97, 55, 55, 56, 97, 102, 56, 51, 56, 48, 48, 51, 54, 99, 101, 53, 57, 101, 55, 98, 48, 52, 57, 50, 51, 55, 48, 98, 50, 52, 57, 98, 49, 49, 101, 56, 102, 48, 55, 97, 53, 49, 97, 102, 97, 99, 52, 53, 48, 51, 55, 97, 102, 101, 101, 57, 100, 49] := by decide +kernel
theorem known_text2 : hexOf (digest [84, 104, 101, 32, 113, 117, 105, 99, 107, 32, 98, 114, 111, 119, 110, 32, 102, 111, 120, 32, 106, 117, 109, 112, 115, 32, 111, 118, 101, 114, 32, 116, 104, 101, 32, 108, 97, 122, 121, 32, 100, 111, 103]) = [100, 55, 97, 56, 102, 98, 98, 51, 48, 55, 100, 55, 56, 48, 57, 52, 54, 57, 99, 97, 57, 97, 98, 99, 98, 48, 48, 56, 50, 101, 52, 102, 56, 100, 53, 54, 53, 49, 101, 52, 54, 100, 51, 99, 100, 98, 55, 54, 50, 100, 48, 50, 100, 48, 98, 102, 51, 55, 99, 57, 101, 53, 57, 50] := by decide +kernel
theorem known_text3 : hexOf (digest [97]) = [99, 97, 57, 55, 56, 49, 49, 50, 99, 97, 49, 98, 98, 100, 99, 97, 102, 97, 99, 50, 51, 49, 98, 51, 57, 97, 50, 51, 100, 99, 52, 100, 97, 55, 56, 54, 101, 102, 102, 56, 49, 52, 55, 99, 52, 101, 55, 50, 98, 57, 56, 48, 55, 55, 56, 53, 97, 102, 101, 101, 52, 56, 98, 98] := by decide +kernel
/-- A text's digest, in digits. -/
theorem letters_known (l h : List UInt8) (hl : l.length ≤ 10000000) (hk : hexOf (digest l) = h) : ∃ d x : ByteArray, (∀ w, Calls Try.prog 10 #[.string ⟨l.toArray⟩] w fun e w' => e = .returned (.string d) ∧ Below w.heap.size w w')
    ∧ (∀ w, Calls Try.prog 13 #[.string d] w fun e w' => e = .returned (.string x) ∧ Below w.heap.size w w') ∧ (x.toList == ByteArray.toList ⟨h.toArray⟩) = true := by
  have hz : (⟨l.toArray⟩ : ByteArray).size = l.length := by show l.toArray.size = _; rw [List.size_toArray]
  have hd : (⟨(digest l).toArray⟩ : ByteArray).size = 32 := by show (digest l).toArray.size = _; rw [List.size_toArray, digest_length]
  refine ⟨⟨(digest l).toArray⟩, ⟨h.toArray⟩, fun w => ?_, fun w => ?_, by rw [beq_self_eq_true]⟩
  · exact sum_any ⟨l.toArray⟩ (by rw [hz]; omega) w
  · refine (hex_any ⟨(digest l).toArray⟩ (by rw [hd]; omega) w).mono fun e w' ⟨he, hb⟩ => ⟨?_, hb⟩
    rw [he]
    exact ret_str (congrArg (fun l : List UInt8 => (⟨l.toArray⟩ : ByteArray)) hk)

theorem tmod_bound5 (v : Int) : -5 < v.tmod 5 ∧ v.tmod 5 < 5 := by
  have h := Int.natAbs_tmod v 5
  have h2 : v.natAbs % (5 : Int).natAbs < (5 : Int).natAbs := Nat.mod_lt _ (by decide)
  omega
set_option maxHeartbeats 400000 in
theorem place5_any (v : Int) (w : World) :
    Calls Try.prog 15 #[.int .i64 v, .int .i64 5] w fun e w' => ∃ k : Int, 0 ≤ k ∧ k < 5 ∧ e = .returned (.int .i64 k) ∧ w' = w := by
  obtain ⟨b0, b1⟩ := tmod_bound5 v
  by_cases hneg : v.tmod 5 < 0
  · go_enter Try.func15, Try.ntmps15
    go_wp2
    go_ret
    exact ⟨v.tmod 5 + 5, by omega, by omega, ret_int (by omega), rfl⟩
  · go_enter Try.func15, Try.ntmps15
    go_wp2
    go_ret
    exact ⟨v.tmod 5, by omega, by omega, ret_int (by omega), rfl⟩

theorem run_pick0 (s0 s1 s2 s3 : ByteArray) (w : World) : (Instr.index 27 (.agg #[.string s0, .string s1, .string s2, .string s3]) (.int .i64 0)).run Try.prog w = .ok (.string s0) w := by
  simp [Instr.index, run_underlying Try.underlying27, asIntOf, part, isAgg, run_underlying Try.underlying9, go_sem]
theorem run_pick1 (s0 s1 s2 s3 : ByteArray) (w : World) : (Instr.index 27 (.agg #[.string s0, .string s1, .string s2, .string s3]) (.int .i64 1)).run Try.prog w = .ok (.string s1) w := by
  simp [Instr.index, run_underlying Try.underlying27, asIntOf, part, isAgg, run_underlying Try.underlying9, go_sem]
theorem run_pick2 (s0 s1 s2 s3 : ByteArray) (w : World) : (Instr.index 27 (.agg #[.string s0, .string s1, .string s2, .string s3]) (.int .i64 2)).run Try.prog w = .ok (.string s2) w := by
  simp [Instr.index, run_underlying Try.underlying27, asIntOf, part, isAgg, run_underlying Try.underlying9, go_sem]
theorem run_pick3 (s0 s1 s2 s3 : ByteArray) (w : World) : (Instr.index 27 (.agg #[.string s0, .string s1, .string s2, .string s3]) (.int .i64 3)).run Try.prog w = .ok (.string s3) w := by
  simp [Instr.index, run_underlying Try.underlying27, asIntOf, part, isAgg, run_underlying Try.underlying9, go_sem]

/-- A guard: the goal is a list of operations. -/
theorem wpList_at' {P : Program} {ops : Array Oper} {l : List Oper} {a : Act} {w : World} {Q : Exit → Act → World → Prop} (h : wpList P ops Q l a w) : wpList P ops Q l a w := h

/-- What ShaKnown writes, the first i of N. -/
def sames (N i : Nat) : List UInt8 := List.replicate i 97 ++ List.replicate (N - i) 0
theorem sames_length (N i : Nat) (h : i ≤ N) : (sames N i).length = N := by unfold sames; rw [List.length_append, List.length_replicate, List.length_replicate]; omega
theorem sames_cons (N i : Nat) (h : i < N) : sames N i = List.replicate i 97 ++ (0 :: List.replicate (N - (i + 1)) 0) := by
  unfold sames; rw [show N - i = (N - (i + 1)) + 1 by omega, List.replicate_succ]
theorem sames_set (N i : Nat) (h : i < N) : (sames N i).set i 97 = sames N (i + 1) := by
  rw [sames_cons N i h]
  have e : (List.replicate i (97 : UInt8)).length = i := List.length_replicate
  rw [List.set_append_right _ _ (by omega), e, Nat.sub_self, List.set_cons_zero]
  unfold sames
  rw [List.replicate_succ', List.append_assoc]; rfl
theorem sames_get (N i : Nat) (h : i < N) : (cb (sames N i))[i]? = some (.int .u8 0) := by
  rw [sames_cons N i h, cb, List.map_append, List.getElem?_append_right (by rw [List.length_map, List.length_replicate]; omega), List.length_map, List.length_replicate, Nat.sub_self]
  rfl
theorem sames_made (N : Nat) : (madeCells (Value.int .u8 0).cells (N * 1)).toList = cb (sames N 0) := by
  rw [Nat.mul_one]
  apply List.ext_getElem?
  intro j
  by_cases hj : j < N
  · simp [madeCells, Value.cells, sames, cb, hj, Nat.mod_one]
  · simp [madeCells, Value.cells, sames, cb, hj]
theorem sames_full (N : Nat) : sames N N = List.replicate N 97 := by unfold sames; rw [Nat.sub_self, List.replicate_zero, List.append_nil]
theorem cb_set' (l : List UInt8) (j : Nat) (x : UInt8) (n : Int) (hn : n = (x.toNat : Int)) : (cb l).set j (.int .u8 n) = cb (l.set j x) := by
  subst hn; simp [cb, List.map_set]

/-- A slice of k bytes over a block of its own. -/
def FullK (w : World) (B g k : Nat) (l : List UInt8) : Prop := w.ownsRow B 5 1 (.slice (some ⟨g, 0, none⟩) k k) k (cb l)

set_option maxRecDepth 10000 in
set_option maxHeartbeats 1000000 in
theorem known_any (n : Int) (_wn : (Lit.int .i64 n).wf = true) (w : World) :
    Calls Try.prog 4 #[.int .i64 n] w fun e w' => e = .returned (.bool true) ∧ Below w.heap.size w w' := by
  go_enter Try.func4, Try.ntmps4
  go_wp2_with fail
  refine (place5_any n _).mono ?_
  rintro e w1 ⟨k, hk0, hk1, rfl, hw⟩
  replace hw := hw.symm
  subst hw
  have hk : k = 0 ∨ k = 1 ∨ k = 2 ∨ k = 3 ∨ k = 4 := by omega
  clear hk0 hk1
  rcases hk with rfl | rfl | rfl | rfl | rfl
  · obtain ⟨d, x, sa, xa, qa⟩ := letters_known _ _ (by decide) known_text0
    have hp := run_pick0
    go_wp2_with fail
    refine (sa _).mono ?_
    rintro e w1 ⟨rfl, hb1⟩
    go_wp2_with fail
    refine (xa _).mono ?_
    rintro e w2 ⟨rfl, hb2⟩
    go_wp2_with ((with_reducible refine wpList_at' ?_); refine wpList_same (by rfl) (.tmp 38) (.tmp 39) (by rfl) x _ (by rfl) (by rfl) true qa ?_)
    refine (awake_any _).mono ?_
    rintro e w3 ⟨rfl, hb3⟩
    go_wp2
    go_ret
    have z1 := hb1.size
    have z2 := hb2.size
    exact ⟨rfl, (hb1.trans (hb2.mono z1)).trans (hb3.mono (by omega))⟩
  · obtain ⟨d, x, sa, xa, qa⟩ := letters_known _ _ (by decide) known_text1
    have hp := run_pick1
    go_wp2_with fail
    refine (sa _).mono ?_
    rintro e w1 ⟨rfl, hb1⟩
    go_wp2_with fail
    refine (xa _).mono ?_
    rintro e w2 ⟨rfl, hb2⟩
    go_wp2_with ((with_reducible refine wpList_at' ?_); refine wpList_same (by rfl) (.tmp 38) (.tmp 39) (by rfl) x _ (by rfl) (by rfl) true qa ?_)
    refine (awake_any _).mono ?_
    rintro e w3 ⟨rfl, hb3⟩
    go_wp2
    go_ret
    have z1 := hb1.size
    have z2 := hb2.size
    exact ⟨rfl, (hb1.trans (hb2.mono z1)).trans (hb3.mono (by omega))⟩
  · obtain ⟨d, x, sa, xa, qa⟩ := letters_known _ _ (by decide) known_text2
    have hp := run_pick2
    go_wp2_with fail
    refine (sa _).mono ?_
    rintro e w1 ⟨rfl, hb1⟩
    go_wp2_with fail
    refine (xa _).mono ?_
    rintro e w2 ⟨rfl, hb2⟩
    go_wp2_with ((with_reducible refine wpList_at' ?_); refine wpList_same (by rfl) (.tmp 38) (.tmp 39) (by rfl) x _ (by rfl) (by rfl) true qa ?_)
    refine (awake_any _).mono ?_
    rintro e w3 ⟨rfl, hb3⟩
    go_wp2
    go_ret
    have z1 := hb1.size
    have z2 := hb2.size
    exact ⟨rfl, (hb1.trans (hb2.mono z1)).trans (hb3.mono (by omega))⟩
  · obtain ⟨d, x, sa, xa, qa⟩ := letters_known _ _ (by decide) known_text3
    have hp := run_pick3
    go_wp2_with fail
    refine (sa _).mono ?_
    rintro e w1 ⟨rfl, hb1⟩
    go_wp2_with fail
    refine (xa _).mono ?_
    rintro e w2 ⟨rfl, hb2⟩
    go_wp2_with ((with_reducible refine wpList_at' ?_); refine wpList_same (by rfl) (.tmp 38) (.tmp 39) (by rfl) x _ (by rfl) (by rfl) true qa ?_)
    refine (awake_any _).mono ?_
    rintro e w3 ⟨rfl, hb3⟩
    go_wp2
    go_ret
    have z1 := hb1.size
    have z2 := hb2.size
    exact ⟨rfl, (hb1.trans (hb2.mono z1)).trans (hb3.mono (by omega))⟩
  · obtain ⟨N, hN⟩ : ∃ N : Nat, N = 1000000 := ⟨_, rfl⟩
    have HN : Hid (N = 1000000) := hN
    have hN1 : N ≤ 1000000 := by omega
    obtain ⟨d, x, sa, xa, qa⟩ := letters_known (List.replicate N 97) _ (by rw [List.length_replicate]; omega) (known_million N hN)
    clear hN
    obtain ⟨t, ht⟩ : ∃ t : ByteArray, t = ⟨(List.replicate N 97).toArray⟩ := ⟨_, rfl⟩
    rw [← ht] at sa
    have HT : Hid (t = ⟨(List.replicate N 97).toArray⟩) := ht
    clear ht
    obtain ⟨i0, hi, hz0, hz1, hz2⟩ := info_parts Try.info5
    go_wp2_with (at_make; refine wpList_make_full _ (by rfl) _ _ 26 (by rfl) w.heap.size 5 i0 (.int .u8 0) 1 Try.underlying26 hi hz0 hz1 .i64 .i64 1000000 1000000 N (by rfl) (by rfl) (by have := HN.out; omega) (by have := HN.out; omega) (by rw [hz2]; omega) (by unfold maxLen; omega) (Nat.le_refl _) ?_; intro w2 hown2 hgrow2)
    have hz := sames_made N
    have F0 : FullK w2 w.heap.size w.heap.size N (sames N 0) := by unfold FullK; rw [← hz]; exact hown2
    have B0 : Below w.heap.size w w2 := (Below.refl _ _).grown hgrow2 (Nat.le_refl _) (fun j hj => by cases hj)
    clear hz hown2 hgrow2 hi hz0 hz1 hz2
    go_loopw [5] (fun i wr => ∃ j : Nat, j ≤ N ∧ i = .int .i64 j ∧ FullK wr w.heap.size w.heap.size N (sames N j) ∧ Below w.heap.size w wr) (fun i _ => N - (intOf i).toNat)
    case atStart => exact ⟨0, by omega, rfl, F0, B0⟩
    case round =>
      clear F0 B0
      obtain ⟨j, hj, rfl, F, hb⟩ := hrel
      by_cases hlt : j < N
      · have cj := World.ownsRow.cellAt F j (by omega)
        have fj := World.ownsRow.frozenAt F j
        rw [sames_get N j hlt] at cj
        have j0 : (0 : Int) ≤ (j : Int) := by omega
        have j1 : (j : Int) < (N : Int) := by omega
        go_wp2
        go_roundw
        case rel =>
          have R := World.ownsRow.stored F j (Value.int IntKind.u8 97)
          rw [cb_set' _ _ 97 97 rfl, sames_set N j hlt] at R
          exact ⟨j + 1, by omega, by go_num, R.1, hb.setCell (Nat.le_refl _) _⟩
        case measure => simp [intOf]; omega
      · have hjk : j = N := by omega
        rw [hjk, sames_full] at F
        clear hjk
        have hown : Own wr w.heap.size (.slice (some ⟨w.heap.size, 0, none⟩) N N) (List.replicate N 97) := by unfold Own; rw [List.length_replicate]; exact F
        go_wp2_with ((with_reducible refine wpList_at' ?_); refine wpList_said (by rfl) (.tmp 22) (by rfl) w.heap.size _ _ (by rfl) hown ?_; rw [← HT.out])
        refine (sa _).mono ?_
        rintro e w3 ⟨rfl, hb3⟩
        go_wp2_with fail
        refine (xa _).mono ?_
        rintro e w4 ⟨rfl, hb4⟩
        go_wp2_with ((with_reducible refine wpList_at' ?_); refine wpList_same (by rfl) (.tmp 25) _ (by rfl) x _ (by rfl) (by rfl) true qa ?_)
        refine (awake_any _).mono ?_
        rintro e w5 ⟨rfl, hb5⟩
        go_wp2
        go_ret
        have z1 := hb.size
        have z3 := hb3.size
        have z4 := hb4.size
        exact ⟨rfl, ((hb.trans (hb3.mono z1)).trans (hb4.mono (by omega))).trans (hb5.mono (by omega))⟩

end Go.Proofs.Ytnnnhdacknecoaa
