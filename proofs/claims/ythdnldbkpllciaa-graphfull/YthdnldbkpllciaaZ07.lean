/-
  Package sha's wordBytes.
-/
import Derived.Test.YthdnldbkpllciaaZ02
import Derived.Test.YthdnldbkpllciaaZ05
namespace Go.Proofs.Ythdnldbkpllciaa
open Go.RowKit


/-- A word's four bytes, the highest first. -/
def four (x : BitVec 32) : List UInt8 := [UInt8.ofNat (x.toNat / 16777216), UInt8.ofNat (x.toNat / 65536), UInt8.ofNat (x.toNat / 256), UInt8.ofNat x.toNat]
def fours (l : List (BitVec 32)) : List UInt8 := l.flatMap four
theorem fours_length (l : List (BitVec 32)) : (fours l).length = 4 * l.length := by
  induction l with
  | nil => rfl
  | cons x l ih => simp [fours, four] at *; omega

theorem run_word (l : List (BitVec 32)) (k : Nat) (x : BitVec 32) (hk : k < 8) (hx : l[k]? = some x) (w : World) :
    (Instr.index 85 (.agg (cw l).toArray) (.int .i64 (k : Int))).run Try.prog w = .ok (.int .u32 (x.toNat : Int)) w := by
  have h1 : (0 : Int) ≤ (k : Int) ∧ (k : Int) < 8 := by omega
  have h2 : (cw l)[k]? = some (Value.int .u32 (x.toNat : Int)) := by simp [cw, hx]
  simp [Instr.index, run_underlying Try.underlying85, asIntOf, h1, h2, part, isAgg, run_underlying Try.underlying84, go_sem]
  omega

theorem fours_snoc (l : List (BitVec 32)) (k : Nat) (x : BitVec 32) (hx : l[k]? = some x) : fours (l.take (k + 1)) = fours (l.take k) ++ four x := by
  rw [List.take_add_one, hx]; simp [fours]
theorem four_row (x : BitVec 32) : #[Value.int IntKind.u8 ((x.toNat : Int) / 16777216), Value.int IntKind.u8 ((x.toNat : Int) / 65536 % 256), Value.int IntKind.u8 ((x.toNat : Int) / 256 % 256), Value.int IntKind.u8 ((x.toNat : Int) % 256)] = (cb (four x)).toArray := by
  have h := x.isLt
  have e1 : (((UInt8.ofNat (x.toNat / 16777216)).toNat : Nat) : Int) = (x.toNat : Int) / 16777216 := by rw [byte_mod]; omega
  have e2 : (((UInt8.ofNat (x.toNat / 65536)).toNat : Nat) : Int) = (x.toNat : Int) / 65536 % 256 := by rw [byte_mod]; omega
  have e3 : (((UInt8.ofNat (x.toNat / 256)).toNat : Nat) : Int) = (x.toNat : Int) / 256 % 256 := by rw [byte_mod]; omega
  have e4 : (((UInt8.ofNat x.toNat).toNat : Nat) : Int) = (x.toNat : Int) % 256 := by rw [byte_mod]
  simp only [cb, four, List.map_cons, List.map_nil, e1, e2, e3, e4]

end Go.Proofs.Ythdnldbkpllciaa

/-
  Package codec's Num and Text.
-/
namespace Go.Proofs.Ythdnldbkpllciaa
open Go.RowKit

theorem num_row (v x : Int) (k : Nat) (hk : k < 8) (hx : x = 56 - 8 * (k : Int)) : #[Value.int IntKind.u8 (IntKind.u64.wrap v / 2 ^ x.toNat % 256)] = (cb [UInt8.ofNat (word v / 2 ^ (56 - 8 * k))]).toArray := by
  have e : x.toNat = 56 - 8 * k := by omega
  have e2 : IntKind.u64.wrap v = ((word v : Nat) : Int) := by rw [word_cast, IntKind.wrap_u64]
  simp only [cb, List.map_cons, List.map_nil, byte_mod, e, e2]
  rw [Int.natCast_ediv, Int.natCast_pow]; rfl

set_option maxRecDepth 10000 in
set_option maxHeartbeats 1000000 in
theorem num_any (v : Int) (w : World) :
    Calls Try.prog 61 #[.int .i64 v] w fun e w' => e = .returned (.string ⟨(num8 v).toArray⟩) ∧ Below w.heap.size w w' := by
  go_enter Try.func61, Try.ntmps61
  go_wp2_with (at_make; refine wpList_buf (by rfl) _ _ (by rfl) w.heap.size _ 8 (by rfl) (by rfl) (by omega) (by omega) (Nat.le_refl _) ?_; intro v2 w2 hown2 hb2)
  go_loopw [3, 4] (fun v2 i wr => ∃ (k : Nat) (x : Int), k ≤ 8 ∧ x = 56 - 8 * (k : Int) ∧ i = .int .i64 x ∧ Own wr w.heap.size v2 (be (word v) k) ∧ Below w.heap.size w wr) (fun _ i _ => ((intOf i) + 8).toNat)
  case atStart => exact ⟨0, 56, by omega, by omega, rfl, hown2, hb2⟩
  case round =>
    clear hown2 hb2
    obtain ⟨k, x, hk, hx, rfl, hown, hb⟩ := hrel
    by_cases hlt : k < 8
    · have x0 : 0 ≤ x := by omega
      have x1 : x ≤ 56 := by omega
      have HX : Hid (x = 56 - 8 * (k : Int)) := hx
      clear hx
      have hl2 : (be (word v) k).length + 1 ≤ 1099511627776 := by rw [be_length]; omega
      generalize hL : be (word v) k = L at hown hl2
      have HL : Hid (be (word v) k = L) := hL
      clear hL
      go_wp2_with (at_builtin; refine wpList_lit wr _ (by rfl) (.tmp 10) (.tmp 16) (by rfl) w.heap.size _ L (by rfl) hown [UInt8.ofNat (word v / 2 ^ (56 - 8 * k))] 1 rfl (by rfl) ?_ hl2 hb.size ?_; rotate_right; intro v4 w4 hown4 hb4)
      · go_roundw
        case rel =>
          have hx := HX.out
          rw [← HL.out] at hown4
          exact ⟨k + 1, x - 8, by omega, by omega, by go_num, hown4, hb.trans hb4⟩
        case measure => simp [intOf]; omega
      · exact num_row v x k hlt HX.out
    · have hk8 : k = 8 := by omega
      subst hk8
      have x2 : ¬ 0 ≤ x := by omega
      clear hx
      go_wp2_with (refine wpList_said (by rfl) (.tmp 18) (by rfl) w.heap.size _ _ (by rfl) hown ?_)
      go_ret
      exact ⟨rfl, hb⟩


set_option maxHeartbeats 400000 in
theorem text_any (s : ByteArray) (hs : s.size ≤ 1099511627776) (w : World) :
    Calls Try.prog 55 #[.string s] w fun e w' => e = .returned (.string ⟨(text8 s.data.toList).toArray⟩) ∧ Below w.heap.size w w' := by
  have HN := num_any (s.size : Int) w
  obtain ⟨d, hd⟩ : ∃ d : ByteArray, d = ⟨(num8 (s.size : Int)).toArray⟩ := ⟨_, rfl⟩
  have hd1 : d.size = 8 := by rw [hd, mk_size, num8_length]
  have HD : Hid (d ++ s = ⟨(text8 s.data.toList).toArray⟩) := by
    show _ = _
    rw [hd, text8, len_list]
    apply ByteArray.ext; simp
  rw [← hd] at HN
  clear hd
  have hsz : (d.size : Int) + (s.size : Int) ≤ 1099511627784 := by omega
  go_enter Try.func55, Try.ntmps55
  go_wp2_with (go_at_call 61; refine HN.mono ?_; rintro e w1 ⟨rfl, hb1⟩)
  go_ret
  rw [HD.out]
  exact ⟨rfl, hb1⟩

end Go.Proofs.Ythdnldbkpllciaa

/-
  Package codec's Reader: a block of two cells, the text that is left and whether it is bad.
-/
namespace Go.Proofs.Ythdnldbkpllciaa
open Go.RowKit

variable {t : TypeId} {w w' : World} {b : Nat} {s : ByteArray} {bad : Bool}

set_option maxHeartbeats 400000 in
theorem new_any (s : ByteArray) (w : World) :
    Calls Try.prog 74 #[.string s] w fun e w' => e = .returned (.pointer (some ⟨w.heap.size, 0, none⟩)) ∧ Rd 114 w' w.heap.size s false ∧ w'.heap.size = w.heap.size + 1 ∧ Below w.heap.size w w' := by
  go_enter Try.func74, Try.ntmps74
  go_wp2
  go_ret
  exact ⟨rfl, Rd.new _ _ _ _, by simp, (Below.refl _ _).alloc (Nat.le_refl _) _⟩

set_option maxHeartbeats 400000 in
theorem left_any (h : Rd t w b s bad) :
    Calls Try.prog 85 #[.pointer (some ⟨b, 0, none⟩)] w fun e w' => e = .returned (.int .i64 (s.size : Int)) ∧ w' = w := by
  have h0 := h.rest
  clear h
  go_enter Try.func85, Try.ntmps85
  go_wp2
  go_ret
  trivial

set_option maxHeartbeats 400000 in
theorem bad_any (h : Rd t w b s bad) :
    Calls Try.prog 84 #[.pointer (some ⟨b, 0, none⟩)] w fun e w' => e = .returned (.bool bad) ∧ w' = w := by
  have h0 := h.isbad
  clear h
  go_enter Try.func84, Try.ntmps84
  go_wp2
  go_ret
  trivial

set_option maxHeartbeats 400000 in
theorem fail_any (h : Rd t w b s bad) :
    Calls Try.prog 94 #[.pointer (some ⟨b, 0, none⟩)] w fun e w' => e = .returned (.tuple #[]) ∧ Rd t w' b ⟨#[]⟩ true ∧ But b w w' ∧ w'.heap.size = w.heap.size := by
  have h0 := h.rest
  have h1 := h.isbad
  have f0 := h.frozen 0
  have f1 := h.frozen 1
  go_enter Try.func94, Try.ntmps94
  go_wp2
  go_end0
  exact ⟨rfl, (h.setRest _).setBad _, (But.setCell _ _ _ _).trans (But.setCell _ _ _ _), by simp [World.setCell]⟩

set_option maxHeartbeats 400000 in
theorem next_any (h : Rd t w b s bad) (h0 : 0 < s.size) :
    Calls Try.prog 98 #[.pointer (some ⟨b, 0, none⟩)] w fun e w' => e = .returned (.int .u8 (s[0].toNat : Int)) ∧ Rd t w' b (s.extract 1 s.size) bad ∧ But b w w' ∧ w'.heap.size = w.heap.size := by
  have r0 := h.rest
  have f0 := h.frozen 0
  have h1 : (0 : Int) < (s.size : Int) := by omega
  have h2 : (1 : Int) ≤ (s.size : Int) := by omega
  go_enter Try.func98, Try.ntmps98
  go_wp2
  go_ret
  exact ⟨rfl, h.setRest _, But.setCell _ _ _ _, by simp [World.setCell]⟩

end Go.Proofs.Ythdnldbkpllciaa
