/-
  Package codec's Num and Text.
-/
import Derived.Test.YtaoefgljonmeeaaCod
import Derived.Test.YtaoefgljonmeeaaBuf
namespace Go.Proofs.Ytaoefgljonmeeaa
open Go.RowKit

theorem num_row (v x : Int) (k : Nat) (hk : k < 8) (hx : x = 56 - 8 * (k : Int)) : #[Value.int IntKind.u8 (IntKind.u64.wrap v / 2 ^ x.toNat % 256)] = (cb [UInt8.ofNat (word v / 2 ^ (56 - 8 * k))]).toArray := by
  have e : x.toNat = 56 - 8 * k := by omega
  have e2 : IntKind.u64.wrap v = ((word v : Nat) : Int) := by rw [word_cast, IntKind.wrap_u64]
  simp only [cb, List.map_cons, List.map_nil, byte_mod, e, e2]
  rw [Int.natCast_ediv, Int.natCast_pow]; rfl

set_option maxRecDepth 10000 in
set_option maxHeartbeats 1000000 in
theorem num_any (v : Int) (w : World) :
    Calls Try.prog 18 #[.int .i64 v] w fun e w' => e = .returned (.string ⟨(num8 v).toArray⟩) ∧ Below w.heap.size w w' := by
  go_enter Try.func18, Try.ntmps18
  go_wp2_with (at_make; refine wpList_buf (by rfl) _ _ (by rfl) w.heap.size _ 8 (by rfl) (by rfl) (by omega) (by omega) (Nat.le_refl _) ?_; intro v2 w2 hown2 hb2)
  go_loopw [3, 4] (fun v2 i wr => ∃ (k : Nat) (x : Int), k ≤ 8 ∧ x = 56 - 8 * (k : Int) ∧ i = .int .i64 x ∧ Own wr w.heap.size v2 (be (word v) k) ∧ Below w.heap.size w wr) (fun _ i _ => ((intOf i) + 8).toNat)
  case atStart => exact ⟨0, 56, by omega, by omega, rfl, hown2, hb2⟩
  case round =>
    clear hown2 hb2
    obtain ⟨k, x, hk, hx, rfl, hown, hb⟩ := hrel
    by_cases hlt : k < 8
    · have x0 : 0 ≤ x := by omega
      have x1 : x ≤ 56 := by omega
      have HX : Hid (x = 56 - 8 * (k : Int)) := hx
      clear hx
      have hl2 : (be (word v) k).length + 1 ≤ 1099511627776 := by rw [be_length]; omega
      generalize hL : be (word v) k = L at hown hl2
      have HL : Hid (be (word v) k = L) := hL
      clear hL
      go_wp2_with (at_builtin; refine wpList_lit wr _ (by rfl) (.tmp 10) (.tmp 16) (by rfl) w.heap.size _ L (by rfl) hown [UInt8.ofNat (word v / 2 ^ (56 - 8 * k))] 1 rfl (by rfl) ?_ hl2 hb.size ?_; rotate_right; intro v4 w4 hown4 hb4)
      · go_roundw
        case rel =>
          have hx := HX.out
          rw [← HL.out] at hown4
          exact ⟨k + 1, x - 8, by omega, by omega, by go_num, hown4, hb.trans hb4⟩
        case measure => simp [intOf]; omega
      · exact num_row v x k hlt HX.out
    · have hk8 : k = 8 := by omega
      subst hk8
      have x2 : ¬ 0 ≤ x := by omega
      clear hx
      go_wp2_with (refine wpList_said (by rfl) (.tmp 18) (by rfl) w.heap.size _ _ (by rfl) hown ?_)
      go_ret
      exact ⟨rfl, hb⟩


set_option maxHeartbeats 400000 in
theorem text_any (s : ByteArray) (hs : s.size ≤ 1099511627776) (w : World) :
    Calls Try.prog 19 #[.string s] w fun e w' => e = .returned (.string ⟨(text8 s.data.toList).toArray⟩) ∧ Below w.heap.size w w' := by
  have HN := num_any (s.size : Int) w
  obtain ⟨d, hd⟩ : ∃ d : ByteArray, d = ⟨(num8 (s.size : Int)).toArray⟩ := ⟨_, rfl⟩
  have hd1 : d.size = 8 := by rw [hd, mk_size, num8_length]
  have HD : Hid (d ++ s = ⟨(text8 s.data.toList).toArray⟩) := by
    show _ = _
    rw [hd, text8, len_list]
    apply ByteArray.ext; simp
  rw [← hd] at HN
  clear hd
  have hsz : (d.size : Int) + (s.size : Int) ≤ 1099511627784 := by omega
  go_enter Try.func19, Try.ntmps19
  go_wp2_with (go_at_call 18; refine HN.mono ?_; rintro e w1 ⟨rfl, hb1⟩)
  go_ret
  rw [HD.out]
  exact ⟨rfl, hb1⟩

end Go.Proofs.Ytaoefgljonmeeaa
