/-
  Package codec's Num and Text.
-/
import Derived.Test.YthoimecljfcjmaaZ06
import Derived.Test.YthoimecljfcjmaaZ04
namespace Go.Proofs.Ythoimecljfcjmaa
open Go.RowKit


theorem num_row (v x : Int) (k : Nat) (hk : k < 8) (hx : x = 56 - 8 * (k : Int)) : #[Value.int IntKind.u8 (IntKind.u64.wrap v / 2 ^ x.toNat % 256)] = (cb [UInt8.ofNat (word v / 2 ^ (56 - 8 * k))]).toArray := by
  have e : x.toNat = 56 - 8 * k := by omega
  have e2 : IntKind.u64.wrap v = ((word v : Nat) : Int) := by rw [word_cast, IntKind.wrap_u64]
  simp only [cb, List.map_cons, List.map_nil, byte_mod, e, e2]
  rw [Int.natCast_ediv, Int.natCast_pow]; rfl

end Go.Proofs.Ythoimecljfcjmaa

/-
  Package sha's wordBytes.
-/
namespace Go.Proofs.Ythoimecljfcjmaa
open Go.RowKit

/-- A word's four bytes, the highest first. -/
def four (x : BitVec 32) : List UInt8 := [UInt8.ofNat (x.toNat / 16777216), UInt8.ofNat (x.toNat / 65536), UInt8.ofNat (x.toNat / 256), UInt8.ofNat x.toNat]
def fours (l : List (BitVec 32)) : List UInt8 := l.flatMap four
theorem fours_length (l : List (BitVec 32)) : (fours l).length = 4 * l.length := by
  induction l with
  | nil => rfl
  | cons x l ih => simp [fours, four] at *; omega

theorem run_word (l : List (BitVec 32)) (k : Nat) (x : BitVec 32) (hk : k < 8) (hx : l[k]? = some x) (w : World) :
    (Instr.index 61 (.agg (cw l).toArray) (.int .i64 (k : Int))).run Try.prog w = .ok (.int .u32 (x.toNat : Int)) w := by
  have h1 : (0 : Int) ≤ (k : Int) ∧ (k : Int) < 8 := by omega
  have h2 : (cw l)[k]? = some (Value.int .u32 (x.toNat : Int)) := by simp [cw, hx]
  simp [Instr.index, run_underlying Try.underlying61, asIntOf, h1, h2, part, isAgg, run_underlying Try.underlying60, go_sem]
  omega

theorem fours_snoc (l : List (BitVec 32)) (k : Nat) (x : BitVec 32) (hx : l[k]? = some x) : fours (l.take (k + 1)) = fours (l.take k) ++ four x := by
  rw [List.take_add_one, hx]; simp [fours]
theorem four_row (x : BitVec 32) : #[Value.int IntKind.u8 ((x.toNat : Int) / 16777216), Value.int IntKind.u8 ((x.toNat : Int) / 65536 % 256), Value.int IntKind.u8 ((x.toNat : Int) / 256 % 256), Value.int IntKind.u8 ((x.toNat : Int) % 256)] = (cb (four x)).toArray := by
  have h := x.isLt
  have e1 : (((UInt8.ofNat (x.toNat / 16777216)).toNat : Nat) : Int) = (x.toNat : Int) / 16777216 := by rw [byte_mod]; omega
  have e2 : (((UInt8.ofNat (x.toNat / 65536)).toNat : Nat) : Int) = (x.toNat : Int) / 65536 % 256 := by rw [byte_mod]; omega
  have e3 : (((UInt8.ofNat (x.toNat / 256)).toNat : Nat) : Int) = (x.toNat : Int) / 256 % 256 := by rw [byte_mod]; omega
  have e4 : (((UInt8.ofNat x.toNat).toNat : Nat) : Int) = (x.toNat : Int) % 256 := by rw [byte_mod]
  simp only [cb, four, List.map_cons, List.map_nil, e1, e2, e3, e4]

set_option maxRecDepth 10000 in
set_option maxHeartbeats 1000000 in
theorem words_any (H : St) (w : World) :
    Calls Try.prog 46 #[.agg (cw H.list).toArray] w fun e w' => e = .returned (.string ⟨(fours H.list).toArray⟩) ∧ Below w.heap.size w w' := by
  go_enter Try.func46, Try.ntmps46
  go_wp2_with (first
    | (refine wpList_boxed (P := Try.prog) (by rfl) 61 (.tmp 0) (by rfl) H.list (by rfl) ?_; intro w1 hr1 hs1 hb1)
    | (at_make; refine wpList_buf (by rfl) _ _ (by rfl) w.heap.size _ 32 (by rfl) (by rfl) (by rfl) (by omega) hb1.size ?_; intro v2 w2 hown2 hb2; have hr2 := hr1.below hb2)
    | (refine wpList_get (P := Try.prog) (by rfl) 61 (.tmp 1) (by rfl) w.heap.size _ (by rfl) 61 _ _ hr2 Try.underlying61 Try.size61 ?_))
  have hB : Below w.heap.size w w2 := hb1.trans (hb2.mono hb1.size)
  clear hr1 hs1 hb1 hb2 hr2
  go_loopw [3, 8] (fun v i wr => ∃ k : Nat, k ≤ 8 ∧ i = .int .i64 k ∧ Own wr w.heap.size v (fours (H.list.take k)) ∧ Below w.heap.size w wr) (fun _ i _ => 8 - (intOf i).toNat)
  case atStart => exact ⟨0, by omega, rfl, hown2, hB⟩
  case round =>
    clear hown2 hB
    obtain ⟨k, hk, rfl, hown, hb⟩ := hrel
    by_cases hlt : k < 8
    · obtain ⟨x, hx⟩ : ∃ x, H.list[k]? = some x := ⟨_, list_get H k hlt⟩
      have hrun := run_word H.list k x hlt hx
      have HX : Hid (H.list[k]? = some x) := hx
      clear hx
      obtain ⟨L, hL⟩ : ∃ L, L = fours (H.list.take k) := ⟨_, rfl⟩
      have hl2 : L.length + 4 ≤ 1099511627776 := by rw [hL, fours_length]; simp; omega
      rw [← hL] at hown
      have HL : Hid (L = fours (H.list.take k)) := hL
      clear hL
      go_wp2_with (at_builtin; refine wpList_lit wr _ (by rfl) (.tmp 11) (.tmp 23) (by rfl) w.heap.size _ L (by rfl) hown (four x) 4 rfl (by rfl) ?_ hl2 hb.size ?_; rotate_right; intro v4 w4 hown4 hb4)
      · go_roundw
        case rel =>
          rw [HL.out, ← fours_snoc _ _ _ HX.out] at hown4
          exact ⟨k + 1, by omega, by go_num, hown4, hb.trans hb4⟩
        case measure => simp [intOf]; omega
      · exact four_row x
    · have hk8 : k = 8 := by omega
      rw [hk8, List.take_of_length_le (by rw [St.list_length]; omega)] at hown
      clear hk8
      go_wp2_with (refine wpList_said (by rfl) (.tmp 26) (by rfl) w.heap.size _ _ (by rfl) hown ?_)
      go_ret
      exact ⟨rfl, hb⟩

end Go.Proofs.Ythoimecljfcjmaa

/-
  Package codec's Reader: a block of two cells, the text that is left and whether it is bad.
-/
namespace Go.Proofs.Ythoimecljfcjmaa
open Go.RowKit


variable {t : TypeId} {w w' : World} {b : Nat} {s : ByteArray} {bad : Bool}

end Go.Proofs.Ythoimecljfcjmaa
