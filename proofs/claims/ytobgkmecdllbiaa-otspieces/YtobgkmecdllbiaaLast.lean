/-
  Package sha's lastBlocks.
-/
import Derived.Test.YtobgkmecdllbiaaBuf
namespace Go.Proofs.Ytobgkmecdllbiaa
open Go.RowKit

def lenOf : Value → Nat
  | .slice _ n _ => n
  | _ => 0

/-- A byte of a number, so many bits up. -/
def upByte (n k : Nat) : UInt8 := UInt8.ofNat (n / 2 ^ k)
/-- The first i of eight bytes of a number, the highest first. -/
def tops (n : Nat) : Nat → List UInt8
  | 0 => []
  | i + 1 => tops n i ++ [upByte n (56 - 8 * i)]
theorem tops_length (n i : Nat) : (tops n i).length = i := by
  induction i with
  | zero => rfl
  | succ i ih => simp [tops, ih]
/-- How many zeros stand behind so many bytes. -/
def gap (r : Nat) : Nat := (119 - r % 64) % 64
/-- What is mixed in behind the whole blocks of a text of n bytes. -/
def lastB (r : List UInt8) (n : Nat) : List UInt8 := r ++ [128] ++ List.replicate (gap r.length) 0 ++ tops (8 * n) 8

theorem top_row (n k : Nat) : #[Value.int IntKind.u8 ((n : Int) * 8 / 2 ^ (56 - 8 * k) % 256)] = (cb [upByte (8 * n) (56 - 8 * k)]).toArray := by
  have e : (((upByte (8 * n) (56 - 8 * k)).toNat : Nat) : Int) = (n : Int) * 8 / 2 ^ (56 - 8 * k) % 256 := by
    unfold upByte
    rw [UInt8.toNat_ofNat', Int.natCast_emod, Int.natCast_ediv, Int.natCast_mul, Int.natCast_pow, Int.mul_comm]; rfl
  simp [cb, e]

set_option maxRecDepth 10000 in
set_option maxHeartbeats 1000000 in
theorem last_any (r : ByteArray) (n : Nat) (hr : r.size ≤ 63) (hn : n ≤ 1099511627776) (w : World) :
    Calls Try.prog 31 #[.string r, .int .i64 n] w fun e w' => e = .returned (.string ⟨(lastB r.data.toList n).toArray⟩) ∧ Below w.heap.size w w' := by
  go_enter Try.func31, Try.ntmps31
  go_wp2_with (first
    | (at_make; refine wpList_buf (by rfl) _ _ (by rfl) w.heap.size _ 128 (by rfl) (by rfl) (by rfl) (by omega) (Nat.le_refl _) ?_; intro v1 w1 hown1 hb1)
    | (at_builtin; refine wpList_text (by rfl) (.tmp 9) (.tmp 10) (by rfl) w.heap.size v1 [] (by rfl) hown1 r (by rfl) (by simp; omega) hb1.size ?_; intro v2 w2 hown2 hb2)
    | (at_builtin; refine wpList_lit w2 _ (by rfl) (.tmp 12) (.tmp 13) (by rfl) w.heap.size v2 _ (by rfl) hown2 [128] 1 rfl (by rfl) rfl (by simp; omega) (Nat.le_trans hb1.size hb2.size) ?_; intro v3 w3 hown3 hb3))
  have hB3 : Below w.heap.size w w3 := (hb1.trans hb2).trans hb3
  rw [List.nil_append] at hown3
  clear hown1 hown2 hb1 hb2 hb3
  go_loopw [5] (fun v wr => ∃ j : Nat, j ≤ gap r.size ∧ Own wr w.heap.size v (r.data.toList ++ [128] ++ List.replicate j 0) ∧ Below w.heap.size w wr) (fun v _ => 200 - lenOf v)
  case atStart => exact ⟨0, by omega, by simpa using hown3, hB3⟩
  case round =>
    clear hown3 hB3
    obtain ⟨j, hj, hown, hb⟩ := hrel
    obtain ⟨L, hL⟩ : ∃ L, L = r.data.toList ++ [128] ++ List.replicate j 0 := ⟨_, rfl⟩
    have hlen : L.length = r.size + 1 + j := by rw [hL]; simp; omega
    rw [← hL] at hown
    have HL : Hid (L = r.data.toList ++ [128] ++ List.replicate j 0) := hL
    clear hL
    obtain ⟨a0, c0, rfl⟩ := hown.slice
    have hg : (r.size ≤ 55 ∧ gap r.size = 55 - r.size) ∨ (55 < r.size ∧ gap r.size = 119 - r.size) := by unfold gap; omega
    have hg' : Hid ((r.size ≤ 55 ∧ gap r.size = 55 - r.size) ∨ (55 < r.size ∧ gap r.size = 119 - r.size)) := hg
    have hL1 : L.length ≤ 128 := by omega
    have HLen : Hid (L.length = r.size + 1 + j) := hlen
    by_cases hlt : j < gap r.size
    · have ht : ((L.length : Int) % 64 == 56) = false := by rw [hlen]; simp; omega
      clear hlen hg
      go_wp2_with (at_builtin; refine wpList_lit wr _ (by rfl) (.tmp 19) (.tmp 20) (by rfl) w.heap.size _ L (by rfl) hown [0] 1 rfl (by rfl) rfl (by omega) hb.size ?_; intro v4 w4 hown4 hb4)
      go_roundw
      case rel =>
        rw [HL.out, List.append_assoc _ (List.replicate j 0), show List.replicate j (0 : UInt8) ++ [0] = List.replicate (j + 1) 0 by rw [List.replicate_succ']] at hown4
        exact ⟨j + 1, by omega, hown4, hb.trans hb4⟩
      case measure =>
        obtain ⟨a4, c4, rfl⟩ := hown4.slice
        simp [lenOf]; omega
    · have ht : ((L.length : Int) % 64 == 56) = true := by rw [hlen]; simp; omega
      have HL' : Hid (L = r.data.toList ++ [128] ++ List.replicate (gap r.size) 0) := by rw [HL.out, show j = gap r.size by omega]; exact (rfl : _ = _)
      clear hlen hg
      go_wp2
      generalize Value.bool ((L.length : Int) % 64 != 56) = vb
      go_loopw [5, 7] (fun v i wr => ∃ k : Nat, k ≤ 8 ∧ i = .int .i64 (56 - 8 * (k : Int)) ∧ Own wr w.heap.size v (L ++ tops (8 * n) k) ∧ Below w.heap.size w wr) (fun _ i _ => (64 + intOf i).toNat)
      case atStart => exact ⟨0, by omega, rfl, by simpa [tops] using hown, hb⟩
      case round =>
        clear hown hb ht hlt hj
        obtain ⟨k, hk, rfl, hown, hb⟩ := hrel
        by_cases hlt : k < 8
        · have hl2 : (L ++ tops (8 * n) k).length + 1 ≤ 1099511627776 := by rw [List.length_append, tops_length]; omega
          obtain ⟨L2, hL2⟩ : ∃ L2, L2 = L ++ tops (8 * n) k := ⟨_, rfl⟩
          rw [← hL2] at hown hl2
          have HL2 : Hid (L2 = L ++ tops (8 * n) k) := hL2
          clear hL2
          go_wp2_with (at_builtin; refine wpList_lit wr _ (by rfl) (.tmp 29) (.tmp 34) (by rfl) w.heap.size _ L2 (by rfl) hown [upByte (8 * n) (56 - 8 * k)] 1 rfl (by rfl) ?_ hl2 hb.size ?_; rotate_right; intro v4 w4 hown4 hb4)
          · go_roundw
            case rel =>
              rw [HL2.out, List.append_assoc] at hown4
              exact ⟨k + 1, by omega, by go_num, hown4, hb.trans hb4⟩
            case measure => simp [intOf]; omega
          · exact top_row n k
        · have hk8 : k = 8 := by omega
          rw [hk8, HL'.out] at hown
          clear hk8
          go_wp2_with (refine wpList_said (by rfl) (.tmp 36) (by rfl) w.heap.size _ _ (by rfl) hown ?_)
          go_ret
          refine ⟨?_, hb⟩
          simp [lastB]

end Go.Proofs.Ytobgkmecdllbiaa
