/-
  The document's Num and Text of chapter 3, nums and texts of chapter 4.
-/
import Derived.Test.YtidhcnecmelkbaaZ03
import Derived.Test.YtidhcnecmelkbaaZ06
import Derived.Test.YtidhcnecmelkbaaZ12
import Derived.Test.YtidhcnecmelkbaaZ15
namespace Go.Proofs.Ytidhcnecmelkbaa
open Go.RowKit

theorem refnum_row (v : Int) (k : Nat) (hk : k < 8) (x : Int) (hx : x = 56 - 8 * (k : Int)) : #[Value.int IntKind.u8 (IntKind.u64.wrap v / 2 ^ x.toNat % 256)] = (cb [UInt8.ofNat (word v / 2 ^ (56 - 8 * k))]).toArray := by
  have e : x.toNat = 56 - 8 * k := by omega
  have e2 : IntKind.u64.wrap v = ((word v : Nat) : Int) := by rw [word_cast, IntKind.wrap_u64]
  simp only [cb, List.map_cons, List.map_nil, byte_mod, e, e2]
  rw [Int.natCast_ediv, Int.natCast_pow]; rfl

set_option maxRecDepth 10000 in
set_option maxHeartbeats 1000000 in
theorem ref3num_any (v : Int) (w : World) :
    Calls Try.prog 53 #[.int .i64 v] w fun e w' => e = .returned (.string ⟨(num8 v).toArray⟩) ∧ Below w.heap.size w w' := by
  go_enter Try.func53, Try.ntmps53
  go_wp2
  go_loopw [4, 5] (fun v2 i wr => ∃ k : Nat, k ≤ 8 ∧ i = .int .i64 k ∧ Own wr w.heap.size v2 (be (word v) k) ∧ Below w.heap.size w wr) (fun _ i _ => 8 - (intOf i).toNat)
  case atStart => exact ⟨0, by omega, rfl, Own.nil _ _, Below.refl _ _⟩
  case round =>
    obtain ⟨k, hk, rfl, hown, hb⟩ := hrel
    by_cases hlt : k < 8
    · have k1 : (k : Int) < 8 := by omega
      have hl2 : (be (word v) k).length + 1 ≤ 1099511627776 := by rw [be_length]; omega
      generalize hL : be (word v) k = L at hown hl2
      have HL : Hid (be (word v) k = L) := hL
      clear hL
      go_wp2_with (at_builtin; refine wpList_lit wr _ (by rfl) (.tmp 12) (.tmp 20) (by rfl) w.heap.size _ L (by rfl) hown [UInt8.ofNat (word v / 2 ^ (56 - 8 * k))] 1 rfl (by rfl) ?_ hl2 hb.size ?_; rotate_right; intro v4 w4 hown4 hb4)
      · go_roundw
        case rel =>
          rw [← HL.out] at hown4
          exact ⟨k + 1, by omega, by go_num, hown4, hb.trans hb4⟩
        case measure => simp [intOf]; omega
      · refine Eq.trans ?_ (refnum_row v k hlt (56 - 8 * (k : Int)) rfl)
        rw [show (56 - 8 * (k : Int)).toNat = 56 - 8 * k by omega]
    · have hk8 : k = 8 := by omega
      subst hk8
      go_wp2_with (refine wpList_said (by rfl) (.tmp 22) (by rfl) w.heap.size _ _ (by rfl) hown ?_)
      go_ret
      exact ⟨rfl, hb⟩

set_option maxHeartbeats 400000 in
theorem ref3text_any (s : ByteArray) (hs : s.size ≤ 1099511627776) (w : World) :
    Calls Try.prog 52 #[.string s] w fun e w' => e = .returned (.string ⟨(text8 s.data.toList).toArray⟩) ∧ Below w.heap.size w w' := by
  have HN := ref3num_any (s.size : Int) w
  obtain ⟨d, hd⟩ : ∃ d : ByteArray, d = ⟨(num8 (s.size : Int)).toArray⟩ := ⟨_, rfl⟩
  have hd1 : d.size = 8 := by rw [hd, mk_size, num8_length]
  have HD : Hid (d ++ s = ⟨(text8 s.data.toList).toArray⟩) := by
    show _ = _
    rw [hd, text8, len_list]
    apply ByteArray.ext; simp
  rw [← hd] at HN
  clear hd
  have hsz : (d.size : Int) + (s.size : Int) ≤ 1099511627784 := by omega
  go_enter Try.func52, Try.ntmps52
  go_wp2_with (go_at_call 53; refine HN.mono ?_; rintro e w1 ⟨rfl, hb1⟩)
  go_ret
  rw [HD.out]
  exact ⟨rfl, hb1⟩
theorem r3num_ex (v : Int) : ∃ y : ByteArray, y.data.toList = num8 v ∧ y.size = 8 ∧ ∀ w, Calls Try.prog 53 #[.int .i64 v] w fun e w' => e = .returned (.string y) ∧ Below w.heap.size w w' :=
  ⟨⟨(num8 v).toArray⟩, rfl, by rw [mk_size, num8_length], ref3num_any v⟩
theorem r3text_ex (t : ByteArray) (h : t.size ≤ 1099511627776) : ∃ y : ByteArray, y.data.toList = text8 t.data.toList ∧ y.size = 8 + t.size ∧ ∀ w, Calls Try.prog 52 #[.string t] w fun e w' => e = .returned (.string y) ∧ Below w.heap.size w w' :=
  ⟨⟨(text8 t.data.toList).toArray⟩, rfl, by rw [mk_size, text8_length, len_list], ref3text_any t h⟩

set_option maxRecDepth 10000 in
set_option maxHeartbeats 1000000 in
theorem refnums_any {w : World} {a : Option Addr} {c : Nat} {l : List Int} (ha : Ints w a l.length l) (hl : l.length ≤ 1000) :
    Calls Try.prog 55 #[.slice a l.length c] w fun e w' => ∃ y : ByteArray, y.data.toList = numsB l ∧ e = .returned (.string y) ∧ Below w.heap.size w w' := by
  obtain ⟨y0, hy0, hs0, HN0⟩ := r3num_ex (l.length : Int)
  have HY0 : Hid (y0.data.toList = num8 (l.length : Int)) := hy0
  clear hy0
  have HA : Hid (Ints w a l.length l) := ha
  clear ha
  go_enter Try.func55, Try.ntmps55
  go_wp2_with (go_at_call 53; refine (HN0 _).mono ?_; rintro e w1 ⟨rfl, hb1⟩)
  clear HN0
  go_loopw [3, 4] (fun sv i wr => ∃ (j : Nat) (x : ByteArray), j ≤ l.length ∧ i = .int .i64 j ∧ sv = .string x ∧ x.size = 8 + 8 * j ∧ Hid (x.data.toList = num8 (l.length : Int) ++ (l.take j).flatMap num8) ∧ Below w.heap.size w wr) (fun _ i _ => l.length - (intOf i).toNat)
  case atStart => exact ⟨0, y0, by omega, rfl, rfl, by omega, by show _ = _; rw [HY0.out]; simp, hb1⟩
  case round =>
    clear hb1
    obtain ⟨j, x, hj, rfl, rfl, hxs, HX, hb⟩ := hrel
    by_cases hlt : j < l.length
    · have j1 : (j : Int) < (l.length : Int) := by omega
      obtain ⟨b1, o1, rfl, d1⟩ := HA.out.2.2.2 j hlt
      replace d1 := cell_on hb d1
      obtain ⟨y, hy, hys, HN⟩ := r3num_ex (l.getD j 0)
      have HY : Hid (y.data.toList = num8 (l.getD j 0)) := hy
      generalize l.getD j 0 = v at d1 HN
      have hsum : (x.size : Int) + (y.size : Int) ≤ 100000 := by omega
      clear hy
      go_wp2_with (go_at_call 53; refine (HN _).mono ?_; rintro e w2 ⟨rfl, hb2⟩)
      go_roundw
      case rel =>
        refine ⟨j + 1, x ++ y, by omega, by go_num, rfl, by rw [ByteArray.size_append]; omega, ?_, below_then hb hb2⟩
        show _ = _
        rw [add_list, HX.out, HY.out, take_flat num8 l 0 j hlt, List.append_assoc]
      case measure => simp [intOf]; omega
    · have j1 : ¬ (j : Int) < (l.length : Int) := by omega
      go_wp2
      go_ret
      exact ⟨x, by rw [HX.out, List.take_of_length_le (by omega)]; rfl, rfl, hb⟩

set_option maxRecDepth 10000 in
set_option maxHeartbeats 1000000 in
theorem reftextsB_any {w : World} {a : Option Addr} {c : Nat} {l : List ByteArray} (ha : Strs w a l.length l) (hl : l.length ≤ 1000) (hm : ∀ j, j < l.length → (l.getD j ByteArray.empty).size ≤ 1000) :
    Calls Try.prog 54 #[.slice a l.length c] w fun e w' => ∃ y : ByteArray, y.data.toList = textsB l ∧ y.size ≤ 8 + 1008 * l.length ∧ e = .returned (.string y) ∧ Below w.heap.size w w' := by
  obtain ⟨y0, hy0, hs0, HN0⟩ := r3num_ex (l.length : Int)
  have HY0 : Hid (y0.data.toList = num8 (l.length : Int)) := hy0
  clear hy0
  have HA : Hid (Strs w a l.length l) := ha
  have HM : Hid (∀ j, j < l.length → (l.getD j ByteArray.empty).size ≤ 1000) := hm
  clear ha hm
  go_enter Try.func54, Try.ntmps54
  go_wp2_with (go_at_call 53; refine (HN0 _).mono ?_; rintro e w1 ⟨rfl, hb1⟩)
  clear HN0
  go_loopw [3, 4] (fun sv i wr => ∃ (j : Nat) (x : ByteArray), j ≤ l.length ∧ i = .int .i64 j ∧ sv = .string x ∧ x.size ≤ 8 + 1008 * j ∧ Hid (x.data.toList = num8 (l.length : Int) ++ (l.take j).flatMap (fun t => text8 t.data.toList)) ∧ Below w.heap.size w wr) (fun _ i _ => l.length - (intOf i).toNat)
  case atStart => exact ⟨0, y0, by omega, rfl, rfl, by omega, by show _ = _; rw [HY0.out]; simp, hb1⟩
  case round =>
    clear hb1
    obtain ⟨j, x, hj, rfl, rfl, hxs, HX, hb⟩ := hrel
    by_cases hlt : j < l.length
    · have j1 : (j : Int) < (l.length : Int) := by omega
      obtain ⟨b1, o1, rfl, d1⟩ := HA.out.2.2.2 j hlt
      replace d1 := cell_on hb d1
      have hmj := HM.out j hlt
      obtain ⟨y, hy, hys, HN⟩ := r3text_ex (l.getD j ByteArray.empty) (by omega)
      have HY : Hid (y.data.toList = text8 (l.getD j ByteArray.empty).data.toList) := hy
      generalize l.getD j ByteArray.empty = v at d1 HN hmj hys
      have hsum : (x.size : Int) + (y.size : Int) ≤ 2000000 := by omega
      clear hy
      go_wp2_with (go_at_call 52; refine (HN _).mono ?_; rintro e w2 ⟨rfl, hb2⟩)
      go_roundw
      case rel =>
        refine ⟨j + 1, x ++ y, by omega, by go_num, rfl, by rw [ByteArray.size_append]; omega, ?_, below_then hb hb2⟩
        show _ = _
        rw [add_list, HX.out, HY.out, take_flat _ l ByteArray.empty j hlt, List.append_assoc]
      case measure => simp [intOf]; omega
    · have j1 : ¬ (j : Int) < (l.length : Int) := by omega
      go_wp2
      go_ret
      exact ⟨x, by rw [HX.out, List.take_of_length_le (by omega)]; rfl, by omega, rfl, hb⟩

end Go.Proofs.Ytidhcnecmelkbaa
