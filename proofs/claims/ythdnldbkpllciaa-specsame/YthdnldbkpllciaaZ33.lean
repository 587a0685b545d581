/-
  The statements' Spec: a swap by a number, with locks and keys: it may be.
-/
import Derived.Test.YthdnldbkpllciaaBare
import Derived.Test.YthdnldbkpllciaaKeyed
import Derived.Test.YthdnldbkpllciaaZ29
import Derived.Test.YthdnldbkpllciaaZ05
namespace Go.Proofs.Ythdnldbkpllciaa
open Go.RowKit

theorem bitsL_none (m i : Nat) (h : bitsL m i = []) : m % 2 ^ i = 0 := by
  induction i with
  | zero => simp [Nat.mod_one]
  | succ i ih =>
    rw [bitsL] at h
    split at h
    · simp at h
    · rename_i h1
      rw [Nat.mod_pow_succ, ih h, show m / 2 ^ i % 2 = 0 by omega]; simp
theorem bitsL_nodup (m i : Nat) : (bitsL m i).Pairwise (fun x y => x ≠ y) := by
  induction i with
  | zero => simp [bitsL]
  | succ i ih =>
    rw [bitsL]
    split
    · rw [List.pairwise_append]
      refine ⟨ih, by simp, fun x hx y hy => ?_⟩
      simp at hy; subst hy
      have := bitsL_lt m i x hx
      omega
    · exact ih
/-- Leaders that may be. -/
def leadOk (n : Nat) (L : List Int) : Prop := 1 ≤ L.length ∧ L.length ≤ 3 ∧ ∀ i, i < L.length → 0 ≤ L.getD i 0 ∧ L.getD i 0 < (n : Int) ∧ ∀ k, k < i → L.getD k 0 ≠ L.getD i 0
theorem pick_ok (n : Nat) (s : SpecM) (f m : Nat) (hm : 1 ≤ m) (l : List Int) (h : pickL n s f m = some l) : leadOk n l := by
  induction f generalizing m with
  | zero => simp [pickL] at h
  | succ f ih =>
    rw [pickL] at h
    split at h
    · rename_i hlt
      split at h
      · rename_i hc
        injection h with h
        subst h
        refine ⟨?_, hc.1, fun i hi => ?_⟩
        · cases e : (bitsL m n).length with
          | zero =>
            have := bitsL_none m n (List.eq_nil_of_length_eq_zero e)
            rw [Nat.mod_eq_of_lt hlt] at this; omega
          | succ x => omega
        · have h1 := bitsL_lt m n _ (getD_mem (bitsL m n) i 0 hi)
          refine ⟨h1.1, h1.2, fun k hk => ?_⟩
          have h9 := List.pairwise_iff_getElem.1 (bitsL_nodup m n) k i (by omega) hi hk
          simpa [List.getD_eq_getElem?_getD, List.getElem?_eq_getElem hi, List.getElem?_eq_getElem (show k < (bitsL m n).length by omega)] using h9
      · exact ih (m + 1) (by omega) h
    · simp at h
theorem bare_ok (k : Nat) : ∃ (n : Nat) (A : List ArcM) (L : List Int) (st de : Int), bareM k = ⟨swapId, accs n, A, L, [], st, de⟩ ∧ 2 ≤ n ∧ n ≤ 5 ∧ arcsFine n A ∧ A.length ≤ 8 ∧ leadOk n L ∧ 5 ≤ st ∧ st ≤ 14 ∧ 6 ≤ de ∧ de ≤ 14 := by
  unfold bareM
  obtain ⟨n, hn⟩ : ∃ n, 2 + k % 4 = n := ⟨_, rfl⟩
  rw [hn]
  have b1 : 5 ≤ (bareS n k).start := by show (5 : Int) ≤ 5 + (k : Int) / 81920 % 10; omega
  have b2 : (bareS n k).start ≤ 14 := by show 5 + (k : Int) / 81920 % 10 ≤ (14 : Int); omega
  have b3 : 6 ≤ (bareS n k).delta := by show (6 : Int) ≤ 6 + (k : Int) / 819200 % 9; omega
  have b4 : (bareS n k).delta ≤ 14 := by show 6 + (k : Int) / 819200 % 9 ≤ (14 : Int); omega
  cases e : pickL n (bareS n k) 40 1 with
  | some l => exact ⟨n, _, l, _, _, rfl, by omega, by omega, arcsP_fine n _ _ (by omega) (by omega), (arcsP_len n _ _ (by omega)).2, pick_ok n _ 40 1 (by omega) l e, b1, b2, b3, b4⟩
  | none => exact ⟨n, _, [0], _, _, rfl, by omega, by omega, arcsP_fine n _ _ (by omega) (by omega), (arcsP_len n _ _ (by omega)).2, ⟨by simp, by simp, fun i hi => by
      have hi0 : i = 0 := by simp at hi; exact hi
      subst hi0
      exact ⟨by simp, by simp; omega, fun k hk => absurd hk (by omega)⟩⟩, b1, b2, b3, b4⟩
/-- A swap by a number. -/
def NumSpec (S : SpecM) : Prop := ∃ (n : Nat) (A : List ArcM) (L : List Int) (st de : Int), S = ⟨swapId, withKeys (accs n) L.length, A, L, locksL L.length, st, de⟩ ∧ 2 ≤ n ∧ n ≤ 5 ∧ arcsFine n A ∧ A.length ≤ 8 ∧ leadOk n L ∧ 5 ≤ st ∧ st ≤ 14 ∧ 6 ≤ de ∧ de ≤ 14
theorem NumSpec.ok {S : SpecM} (h : NumSpec S) : specOk S := by
  obtain ⟨n, A, L, st, de, rfl, h2, h5, hA, _, hL, s0, s1, d0, d1⟩ := h
  exact keyed_ok swapId n L.length A L st de (by unfold nameOk; decide) h2 (by omega) hA rfl hL.1 hL.2.1 hL.2.2 (by omega) (by omega) (by omega) (by omega)

set_option maxRecDepth 10000 in
set_option maxHeartbeats 2000000 in
theorem spec_from (v : Int) : ∃ (k n : Nat) (A : List ArcM) (L : List Int) (st de : Int), bareM k = ⟨swapId, accs n, A, L, [], st, de⟩ ∧ NumSpec ⟨swapId, withKeys (accs n) L.length, A, L, locksL L.length, st, de⟩ ∧ ∀ w, Calls Try.prog 6 #[.int .i64 v] w fun e w' => ∃ u, e = .returned u ∧ OwnSpec w' w.heap.size u ⟨swapId, withKeys (accs n) L.length, A, L, locksL L.length, st, de⟩ ∧ Below w.heap.size w w' := by
  obtain ⟨k, hk, HB⟩ := bare_any v
  obtain ⟨n, A, L, st, de, hM, h2, h5, hA, hA8, hL, s0, s1, d0, d1⟩ := bare_ok k
  rw [hM] at HB
  refine ⟨k, n, A, L, st, de, hM, ⟨n, A, L, st, de, rfl, h2, h5, hA, hA8, hL, s0, s1, d0, d1⟩, fun w => ?_⟩
  obtain ⟨g, hg⟩ : ∃ g, w.heap.size = g := ⟨_, rfl⟩
  have hL3 := hL.2.1
  clear hM hk hA hA8 hL
  have hz0 : (w.alloc (Obj.cells #[Value.string ⟨#[]⟩, Value.slice none 0 0, Value.slice none 0 0, Value.slice none 0 0, Value.slice none 0 0, Value.int IntKind.i64 0, Value.int IntKind.i64 0] 27)).heap.size = g + 1 := by simp [hg]
  have hZ0 : SAt (w.alloc (Obj.cells #[Value.string ⟨#[]⟩, Value.slice none 0 0, Value.slice none 0 0, Value.slice none 0 0, Value.slice none 0 0, Value.int IntKind.i64 0, Value.int IntKind.i64 0] 27)) g ⟨#[]⟩ (.slice none 0 0) (.slice none 0 0) (.slice none 0 0) (.slice none 0 0) 0 0 := by unfold SAt; rw [← hg, heap_alloc_new]; rfl
  have hB0 : Below g w (w.alloc (Obj.cells #[Value.string ⟨#[]⟩, Value.slice none 0 0, Value.slice none 0 0, Value.slice none 0 0, Value.slice none 0 0, Value.int IntKind.i64 0, Value.int IntKind.i64 0] 27)) := (Below.refl _ _).alloc (by omega) _
  replace HB := hide HB
  go_enter Try.func6, Try.ntmps6
  go_wp2_with fail
  refine (HB.out _).mono ?_
  rintro e w1 ⟨u, rfl, hO1, hb1⟩
  rw [hz0] at hO1
  obtain ⟨v1, v2, v3, rfl, hr1, hA1, hI1⟩ := hO1
  have hr1' : w1.ownsRow (g + 1) 32 2 v1 (accs n).length (pcells (accs n) (List.replicate (accs n).length (.slice none 0 0))) := hr1
  obtain ⟨a3, c3, rfl⟩ := row_slice hI1
  have hI1' : OwnI w1 (g + 1) (.slice a3 L.length c3) L := hI1
  have hA1' : OwnA w1 (g + 1) v2 A := hA1
  have hZ1 := hZ0.below hb1
  have hB1 := hB0.trans (hb1.mono (by omega))
  have hs1 := hb1.size
  rw [hz0] at hs1
  have hlt1 := World.ownsRow.lt hr1'
  have HK := keyed_any swapId v1 v2 a3 L.length c3 (.slice none 0 0) st de (g + 1) (accs n) w1 (own_one hA1') hL3 (by rw [accs_len]; omega) hs1 hr1'
  clear hr1 hI1 hA1 hb1 hB0 hZ0 hz0 HB
  obtain ⟨va, vc, rfl⟩ := row_slice hr1'
  obtain ⟨vb, vd, rfl⟩ := row_slice hA1'
  replace HK := hide HK
  go_wp2_with (first
    | (go_at_call 19; refine HK.out.mono ?_; rintro e w4 ⟨v4, rfl, hP4, hL4, hg4⟩; obtain ⟨va4, vc4, rfl⟩ := row_slice hL4; have hneg : some g ≠ Value.ownBlock (.slice va (accs n).length vc) := (fun e => by have := (hlt1 g e.symm).1; omega); have hZ4 := hZ1.grown hg4 hneg)
    | ((with_reducible refine wpList_at ?_); refine wpList_storeS (by rfl) (.tmp 2) (.tmp 5) (by rfl) g _ _ _ _ _ _ _ _ _ _ _ _ _ _ (by rfl) (by rfl) hZ4 rfl rfl rfl rfl ?_; intro w9 hS9 hz9 hb9))
  refine bodyPost_ret (v := .agg _) (results_one (fn := Try.f6) Try.results6 _ _ g 27 _ (0, 0) _ (by rfl) hS9 Try.underlying27 sizeSpecK) rfl ?_
  have hA4 := hA1'.grown hr1' hg4 (by decide)
  have hI4 : OwnI w4 (g + 1) (.slice a3 L.length c3) L := World.ownsRow.kept hI1' hg4 (rows_apart hI1' hr1' (by decide))
  have hA9 : OwnA w9 (g + 1) _ _ := World.ownsRow.kept hA4 hb9.grown (row_apart hA4 hZ4 (by decide))
  have hI9 : OwnI w9 (g + 1) _ _ := World.ownsRow.kept hI4 hb9.grown (row_apart hI4 hZ4 (by decide))
  have hP9 := hP4.but hb9 hZ4 (by decide) (by decide)
  have hL9 := hL4.but hb9 hZ4 (by decide)
  rw [hg]
  refine ⟨_, rfl, ⟨_, _, _, _, rfl, ?_, base_row hA9 (by omega), base_row hI9 (by omega), hL9.base (by omega)⟩, ?_⟩
  · obtain ⟨ks, hks, ho, hkk⟩ := hP9
    exact ⟨ks, hks, base_row ho (by omega), fun j hj => (hkk j hj).base (by omega)⟩
  · have h4 : Below g w w4 := hB1.grown hg4 (by omega) (fun k hk => by have := (hlt1 k hk).1; omega)
    exact ⟨hb9.os.trans h4.os, hb9.tape.trans h4.tape, hb9.output.trans h4.output, Nat.le_trans h4.size hb9.size, fun b hb => (hb9.block b (by have := h4.size; omega) (by omega)).trans (h4.block b (by omega))⟩

theorem spec_num (v : Int) : ∃ S, NumSpec S ∧ ∀ w, Calls Try.prog 6 #[.int .i64 v] w fun e w' => ∃ u, e = .returned u ∧ OwnSpec w' w.heap.size u S ∧ Below w.heap.size w w' := by
  obtain ⟨k, n, A, L, st, de, _, h1, h2⟩ := spec_from v
  exact ⟨_, h1, h2⟩

end Go.Proofs.Ythdnldbkpllciaa

/-
  A swap in a variable, read in a region that draws its order; a call there whose value is not known ahead.
-/
namespace Go.Proofs.Ythdnldbkpllciaa
open Go.RowKit

theorem yields_loadV {ops : Array Oper} {o : Oper} {a : Act} {S : World → Prop} (hw : Region.wanted o (yielded ops a.tmps) = true) (x : Operand) (ho : o.op = .load 27 x) (g : Nat) (cs : Array Value) (hx : a.eval x = .pointer (some ⟨g, 0, none⟩)) (h7 : Seven cs) (hS : ∀ W, S W → SvAt W g cs) : YieldsIf Try.prog ops S o (.agg cs) a :=
  .inl ⟨hw, fun W hW => by
    unfold execOp
    simp only [ho, hx, Instr.loadAt, Instr.sureAddr, Sem.run_bind, Sem.run_pure, Result.andThen_ok, run_loadVar_row W g 27 27 cs (0, 0) (.struct _) (hS W hW) Try.underlying27 rfl (by rw [h7.1]; exact sizeSpecK)]⟩
end Go.Proofs.Ythdnldbkpllciaa
