/-
  What every text needs: the world but for one block, bytes of a text, ends of a walk.
-/
import Derived.Test.YthoimecljfcjmaaRows
import Derived.WalkKit
import Derived.WalkSpells
import Derived.WalkLawsBesides
import Derived.Below
import Derived.Deep.WholeRow
import Derived.Laws.Tables
import Derived.OwnWalk
import Derived.Deep.Draws
namespace Go.Proofs.Ythoimecljfcjmaa
open Go.RowKit

theorem ret_int {k : IntKind} {a b : Int} (h : a = b) : Ending.returned (.int k a) = .returned (.int k b) := by rw [h]
theorem hide {p : Prop} (h : p) : Hid p := h
theorem wf_i64 {v : Int} (h : (Lit.int .i64 v).wf = true) : -9223372036854775808 ≤ v ∧ v ≤ 9223372036854775807 := by
  have e : IntKind.i64.min = -9223372036854775808 := rfl
  simpa [Lit.wf, e] using h
/-- Whether it is so. -/
def told (p : Prop) (h : Decidable p := Classical.propDecidable p) : Bool := @decide p h
theorem told_iff (p : Prop) : told p = true ↔ p := by unfold told; exact @decide_eq_true_iff p (Classical.propDecidable p)
theorem told_yes {p : Prop} (h : p) : told p = true := (told_iff p).2 h
theorem told_no {p : Prop} (h : ¬ p) : told p = false := by
  cases e : told p
  · rfl
  · exact absurd ((told_iff p).1 e) h
theorem ret_bool {a b : Bool} (h : a = b) : Ending.returned (.bool a) = .returned (.bool b) := by rw [h]
theorem nat_ne {a b : Nat} (h : a ≠ b) : ((a : Int) != (b : Int)) = true := by rw [bne_iff_ne]; omega
theorem nat_same {a b : Nat} (h : a = b) : ((a : Int) != (b : Int)) = false := by rw [bne_eq_false_iff_eq]; omega
theorem wpList_at {P : Program} {ops : Array Oper} {l : List Oper} {a : Act} {w : World} {Q : Exit → Act → World → Prop} (h : wpList P ops Q l a w) : wpList P ops Q l a w := h
theorem wpList_same {ops : Array Oper} {rest : List Oper} {o : Oper} {a : Act} {w : World} {Q : Exit → Act → World → Prop} (hw : Region.wanted o (yielded ops a.tmps) = true) (x y : Operand) (ho : o.op = .binOp .eql 9 x y 9)
    (s t : ByteArray) (hx : a.eval x = .string s) (hy : a.eval y = .string t) (b : Bool) (hb : (s.toList == t.toList) = b)
    (h : wpList Try.prog ops Q rest (a.put o.dst (.bool b)) w) : wpList Try.prog ops Q (o :: rest) a w :=
  wpList_step fun K hK => by
    rw [if_pos hw]
    subst hb
    unfold Oper.wp execOp
    simp only [ho, hx, hy, eqGuard, binOp_string_eql, Sem.run_bind, Sem.run_pure]
    exact hK _ _ h
theorem below_then {w a b : World} (h : Below w.heap.size w a) (k : Below a.heap.size a b) : Below w.heap.size w b := h.trans (k.mono h.size)
theorem cell_on {w w' : World} {p : Addr} {v : Value} (hb : Below w.heap.size w w') (h : w.cell? p = some v) : w'.cell? p = some v := by
  rw [hb.cell (block_lt_of_cell h)]; exact h
theorem same_list (a b : ByteArray) : (a.toList == b.toList) = (a.data.toList == b.data.toList) := by
  rw [ByteArray.toList_eq, ByteArray.toList_eq]
theorem below_drewN {B : Nat} {a w : World} (h : Below B a w) (n : Nat) : Below B a (w.drewN n) := ⟨h.os, h.tape, h.output, h.size, h.block⟩
theorem byte_get (s : ByteArray) (j : Nat) (h : j < s.size) : s[j] = s.data.toList.getD j 0 := by
  have h' : j < s.data.size := h
  simp [List.getD_eq_getElem?_getD, Array.getElem?_eq_getElem h']; rfl
theorem byte_mod (n : Nat) : (((UInt8.ofNat n).toNat : Nat) : Int) = (n : Int) % 256 := by
  rw [UInt8.toNat_ofNat']; rfl
theorem len_list (s : ByteArray) : s.data.toList.length = s.size := by simp
theorem mk_size (l : List UInt8) : (⟨l.toArray⟩ : ByteArray).size = l.length := by show l.toArray.size = _; rw [List.size_toArray]
theorem add_list (a b : ByteArray) : (a ++ b).data.toList = a.data.toList ++ b.data.toList := by simp
theorem extract_list (s : ByteArray) (a b : Nat) : (s.extract a b).data.toList = (s.data.toList.drop a).take (b - a) := by
  rw [ByteArray.data_extract, Array.toList_extract]

/-- Nothing is written, nothing is made. -/
structure Still (w w' : World) : Prop where
  os : w'.os = w.os
  tape : w'.tape = w.tape
  output : w'.output = w.output
  heap : w'.heap = w.heap
theorem Still.refl (w : World) : Still w w := ⟨rfl, rfl, rfl, rfl⟩
theorem Still.trans {a b c : World} (h : Still a b) (k : Still b c) : Still a c := ⟨k.os.trans h.os, k.tape.trans h.tape, k.output.trans h.output, k.heap.trans h.heap⟩
theorem Still.drewN {w w' : World} (h : Still w w') (n : Nat) : Still w (w'.drewN n) := ⟨h.os, h.tape, h.output, h.heap⟩
theorem Still.drew {w w' : World} (h : Still w w') : Still w w'.drew := ⟨h.os, h.tape, h.output, h.heap⟩
theorem Still.below {B : Nat} {a w w' : World} (h : Still w w') (k : Below B a w) : Below B a w' := ⟨h.os.trans k.os, h.tape.trans k.tape, h.output.trans k.output, by rw [h.heap]; exact k.size, fun i hi => by rw [h.heap]; exact k.block i hi⟩
theorem Still.on {w w' : World} (h : Still w w') : Below w.heap.size w w' := h.below (Below.refl _ _)
theorem Still.cell {w w' : World} {p : Addr} {v : Value} (h : Still w w') (k : w.cell? p = some v) : w'.cell? p = some v := cell_on h.on k

/-- Nothing but draws. -/
def Drew (w w' : World) : Prop := ∃ n, w' = w.drewN n
theorem Drew.refl (w : World) : Drew w w := ⟨0, rfl⟩
theorem Drew.still {w w' : World} (h : Drew w w') : Still w w' := by obtain ⟨n, rfl⟩ := h; exact (Still.refl w).drewN n
theorem Drew.drewN {w w' : World} (h : Drew w w') (n : Nat) : Drew w (w'.drewN n) := by
  obtain ⟨m, rfl⟩ := h; exact ⟨m + n, World.drewN_drewN ..⟩
theorem Drew.cell {w w' : World} {p : Addr} {v : Value} (h : Drew w w') (k : w.cell? p = some v) : w'.cell? p = some v := h.still.cell k
theorem Drew.below {B : Nat} {a w w' : World} (h : Drew w w') (k : Below B a w) : Below B a w' := h.still.below k
theorem Drew.on {w w' : World} (h : Drew w w') : Below w.heap.size w w' := h.still.on

/-- All that was there is as it was, but for the block g. -/
structure But (g : Nat) (w w' : World) : Prop where
  os : w'.os = w.os
  tape : w'.tape = w.tape
  output : w'.output = w.output
  size : w.heap.size ≤ w'.heap.size
  block : ∀ k, k < w.heap.size → k ≠ g → w'.heap[k]? = w.heap[k]?

theorem But.refl (g : Nat) (w : World) : But g w w := ⟨rfl, rfl, rfl, Nat.le_refl _, fun _ _ _ => rfl⟩
theorem But.trans {g : Nat} {a b c : World} (h : But g a b) (k : But g b c) : But g a c :=
  ⟨k.os.trans h.os, k.tape.trans h.tape, k.output.trans h.output, Nat.le_trans h.size k.size,
    fun i hi hg => (k.block i (Nat.lt_of_lt_of_le hi h.size) hg).trans (h.block i hi hg)⟩
theorem But.of_below {g : Nat} {w w' : World} (h : Below w.heap.size w w') : But g w w' := ⟨h.os, h.tape, h.output, h.size, fun k hk _ => h.block k hk⟩
theorem But.below {g B : Nat} {w w' : World} (h : But g w w') (hg : B ≤ g) (hB : B ≤ w.heap.size) : Below B w w' :=
  ⟨h.os, h.tape, h.output, h.size, fun k hk => h.block k (by omega) (by omega)⟩
/-- What writes to g alone and to blocks of its own. -/
theorem But.of_own {g B : Nat} {a b c : World} (h : But g a b) (hB : a.heap.size ≤ B) (k : Below B b c) : But g a c :=
  ⟨k.os.trans h.os, k.tape.trans h.tape, k.output.trans h.output, Nat.le_trans h.size k.size,
    fun i hi hg => (k.block i (by omega)).trans (h.block i hi hg)⟩
theorem But.setCell (w : World) (g i : Nat) (v : Value) : But g w (w.setCell ⟨g, i, none⟩ v) :=
  ⟨rfl, rfl, rfl, by simp [World.setCell], fun k _ hg => heap_setCell_other w ⟨g, i, none⟩ k v hg⟩
theorem But.cell {g : Nat} {w w' : World} {p : Addr} {v : Value} (hb : But g w w') (hg : p.block ≠ g) (h : w.cell? p = some v) : w'.cell? p = some v := by
  rw [World.cell?_of_block (w := w) (hb.block p.block (block_lt_of_cell h) hg)]; exact h
theorem But.drew {g : Nat} {w w' : World} (h : But g w w') : But g w w'.drew := ⟨h.os, h.tape, h.output, h.size, h.block⟩
theorem But.drewN {g : Nat} {w w' : World} (h : But g w w') (n : Nat) : But g w (w'.drewN n) := ⟨h.os, h.tape, h.output, h.size, h.block⟩


end Go.Proofs.Ythoimecljfcjmaa

/-
  The statements' own small texts: digits, seeds, secrets, accounts of small numbers.
-/
namespace Go.Proofs.Ythoimecljfcjmaa
open Go.RowKit

def ten : ByteArray := ⟨#[48, 49, 50, 51, 52, 53, 54, 55, 56, 57]⟩
set_option maxHeartbeats 400000 in
theorem digits_small (n : Nat) (hn : n < 10) (w : World) : Calls Try.prog 34 #[.int .i64 (n : Int)] w fun e w' => e = .returned (.string (ten.extract n (n + 1))) ∧ w' = w := by
  have h0 : ¬ (n : Int) ≤ -10 := by omega
  have h1 : ¬ (n : Int) < 0 := by omega
  have h2 : (n : Int) < 10 := by omega
  have h3 : (n : Int) + 1 ≤ 10 := by omega
  have hs : ByteArray.size ⟨#[48, 49, 50, 51, 52, 53, 54, 55, 56, 57]⟩ = 10 := rfl
  go_enter Try.func34, Try.ntmps34
  go_wp2
  go_ret
  exact ⟨rfl, rfl⟩

theorem digits_ex (n : Nat) (hn : n < 10) : ∃ d : ByteArray, d.data.toList = [UInt8.ofNat (48 + n)] ∧ d.size = 1 ∧ ∀ w, Calls Try.prog 34 #[.int .i64 (n : Int)] w fun e w' => e = .returned (.string d) ∧ w' = w := by
  refine ⟨ten.extract n (n + 1), ?_, ?_, digits_small n hn⟩
  · have : n = 0 ∨ n = 1 ∨ n = 2 ∨ n = 3 ∨ n = 4 ∨ n = 5 ∨ n = 6 ∨ n = 7 ∨ n = 8 ∨ n = 9 := by omega
    rcases this with rfl | rfl | rfl | rfl | rfl | rfl | rfl | rfl | rfl | rfl <;> rfl
  · have : n = 0 ∨ n = 1 ∨ n = 2 ∨ n = 3 ∨ n = 4 ∨ n = 5 ∨ n = 6 ∨ n = 7 ∨ n = 8 ∨ n = 9 := by omega
    rcases this with rfl | rfl | rfl | rfl | rfl | rfl | rfl | rfl | rfl | rfl <;> rfl

theorem account_ex (n : Nat) (hn : n < 10) : ∃ d : ByteArray, d.data.toList = [112, 97, 114, 116, 121, UInt8.ofNat (48 + n)] ∧ d.size = 6 ∧ ∀ w, Calls Try.prog 30 #[.int .i64 (n : Int)] w fun e w' => e = .returned (.string d) ∧ w' = w := by
  obtain ⟨d, hd, hs, HD⟩ := digits_ex n hn
  refine ⟨⟨#[112, 97, 114, 116, 121]⟩ ++ d, by rw [add_list, hd]; rfl, by rw [ByteArray.size_append, hs]; rfl, fun w => ?_⟩
  have hs' : (ByteArray.size ⟨#[112, 97, 114, 116, 121]⟩ : Int) = 5 := rfl
  have hd' : (d.size : Int) = 1 := by omega
  clear hd
  go_enter Try.func30, Try.ntmps30
  go_wp2_with (go_at_call 34; refine (HD _).mono ?_; rintro e w0 ⟨rfl, hw0⟩; subst w0)
  go_ret
  exact ⟨rfl, rfl⟩
theorem seed_ex (n : Nat) (hn : n < 10) : ∃ d : ByteArray, d.data.toList = [115, 101, 101, 100, UInt8.ofNat (48 + n)] ∧ d.size = 5 ∧ ∀ w, Calls Try.prog 15 #[.int .i64 (n : Int)] w fun e w' => e = .returned (.string d) ∧ w' = w := by
  obtain ⟨d, hd, hs, HD⟩ := digits_ex n hn
  refine ⟨⟨#[115, 101, 101, 100]⟩ ++ d, by rw [add_list, hd]; rfl, by rw [ByteArray.size_append, hs]; rfl, fun w => ?_⟩
  have hs' : (ByteArray.size ⟨#[115, 101, 101, 100]⟩ : Int) = 4 := rfl
  have hd' : (d.size : Int) = 1 := by omega
  clear hd
  go_enter Try.func15, Try.ntmps15
  go_wp2_with (go_at_call 34; refine (HD _).mono ?_; rintro e w0 ⟨rfl, hw0⟩; subst w0)
  go_ret
  exact ⟨rfl, rfl⟩
theorem secret_ex (n : Nat) (hn : n < 10) : ∃ d : ByteArray, d.data.toList = [115, 101, 99, 114, 101, 116, UInt8.ofNat (48 + n)] ∧ d.size = 7 ∧ ∀ w, Calls Try.prog 14 #[.int .i64 (n : Int)] w fun e w' => e = .returned (.string d) ∧ w' = w := by
  obtain ⟨d, hd, hs, HD⟩ := digits_ex n hn
  refine ⟨⟨#[115, 101, 99, 114, 101, 116]⟩ ++ d, by rw [add_list, hd]; rfl, by rw [ByteArray.size_append, hs]; rfl, fun w => ?_⟩
  have hs' : (ByteArray.size ⟨#[115, 101, 99, 114, 101, 116]⟩ : Int) = 6 := rfl
  have hd' : (d.size : Int) = 1 := by omega
  clear hd
  go_enter Try.func14, Try.ntmps14
  go_wp2_with (go_at_call 34; refine (HD _).mono ?_; rintro e w0 ⟨rfl, hw0⟩; subst w0)
  go_ret
  exact ⟨rfl, rfl⟩

end Go.Proofs.Ythoimecljfcjmaa

/-
  The statements' Place: any number as one from 0 to n - 1.
-/
namespace Go.Proofs.Ythoimecljfcjmaa
open Go.RowKit

theorem tmod_bound (v n : Int) (h0 : 1 ≤ n) : -n < v.tmod n ∧ v.tmod n < n := by
  have h := Int.natAbs_tmod v n
  have h2 : v.natAbs % n.natAbs < n.natAbs := Nat.mod_lt _ (by omega)
  omega

set_option maxHeartbeats 400000 in
theorem place_any (v n : Int) (h0 : 1 ≤ n) (h1 : n ≤ 4398046511104) (w : World) :
    Calls Try.prog 5 #[.int .i64 v, .int .i64 n] w fun e w' => ∃ k : Nat, (k : Int) < n ∧ e = .returned (.int .i64 (k : Int)) ∧ w' = w := by
  have hb := tmod_bound v n h0
  obtain ⟨b0, b1⟩ := hb
  by_cases hneg : v.tmod n < 0
  · go_enter Try.func5, Try.ntmps5
    go_wp2
    go_ret
    exact ⟨(v.tmod n + n).toNat, by omega, ret_int (by omega), rfl⟩
  · go_enter Try.func5, Try.ntmps5
    go_wp2
    go_ret
    exact ⟨(v.tmod n).toNat, by omega, ret_int (by omega), rfl⟩

/-- The same with the answer as a letter. -/
theorem place_ex (v n : Int) (h0 : 1 ≤ n) (h1 : n ≤ 4398046511104) : ∃ k : Nat, (k : Int) < n ∧ ∀ w, Calls Try.prog 5 #[.int .i64 v, .int .i64 n] w fun e w' => e = .returned (.int .i64 (k : Int)) ∧ w' = w := by
  obtain ⟨b0, b1⟩ := tmod_bound v n h0
  by_cases hneg : v.tmod n < 0
  · refine ⟨(v.tmod n + n).toNat, by omega, fun w => ?_⟩
    go_enter Try.func5, Try.ntmps5
    go_wp2
    go_ret
    exact ⟨ret_int (by omega), rfl⟩
  · refine ⟨(v.tmod n).toNat, by omega, fun w => ?_⟩
    go_enter Try.func5, Try.ntmps5
    go_wp2
    go_ret
    exact ⟨ret_int (by omega), rfl⟩

end Go.Proofs.Ythoimecljfcjmaa
