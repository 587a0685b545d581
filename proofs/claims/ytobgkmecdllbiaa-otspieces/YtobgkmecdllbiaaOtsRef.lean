/-
  The document's Short, Value, bit, Public, Sign, Verify of chapter 2.
-/
import Derived.Test.YtobgkmecdllbiaaRef
import Derived.Test.YtobgkmecdllbiaaOts
import Derived.Laws.OwnMore
namespace Go.Proofs.Ytobgkmecdllbiaa
open Go.RowKit

theorem len_list (s : ByteArray) : s.data.toList.length = s.size := by simp
theorem mk_size (l : List UInt8) : (⟨l.toArray⟩ : ByteArray).size = l.length := by show l.toArray.size = _; rw [List.size_toArray]
theorem add_list (a b : ByteArray) : (a ++ b).data.toList = a.data.toList ++ b.data.toList := by simp

set_option maxHeartbeats 400000 in
theorem refshort_any (s : ByteArray) (hs : s.size ≤ 1099511627) (w : World) :
    Calls Try.prog 21 #[.string s] w fun e w' => ∃ x : ByteArray, x.data.toList = short s.data.toList ∧ e = .returned (.string x) ∧ Below w.heap.size w w' := by
  obtain ⟨d, hd⟩ : ∃ d : ByteArray, d = ⟨(digest s.data.toList).toArray⟩ := ⟨_, rfl⟩
  have hd1 : d.size = 32 := by rw [hd, mk_size, digest_length]
  have hd2 : (d.extract 0 16).data.toList = short s.data.toList := by
    rw [hd, extract_list]; unfold short; simp
  have HS := refsum_any s hs w
  rw [← hd] at HS
  have HD : Hid ((d.extract 0 16).data.toList = short s.data.toList) := hd2
  have h16 : (16 : Int) ≤ (d.size : Int) := by omega
  clear hd hd1 hd2
  go_enter Try.func21, Try.ntmps21
  go_wp2_with (go_at_call 25; refine HS.mono ?_; rintro e w1 ⟨rfl, hb1⟩)
  go_ret
  exact ⟨_, HD.out, rfl, hb1⟩

theorem three_row (k i b : Nat) (hk : k ≤ 255) (hi : i ≤ 255) (hb : b ≤ 255) : #[Value.int IntKind.u8 (k : Int), Value.int IntKind.u8 (i : Int), Value.int IntKind.u8 (b : Int)] = (cb [UInt8.ofNat k, UInt8.ofNat i, UInt8.ofNat b]).toArray := by
  have e : ∀ n : Nat, n ≤ 255 → (((UInt8.ofNat n).toNat : Nat) : Int) = (n : Int) := fun n h => by rw [UInt8.toNat_ofNat']; omega
  simp only [cb, List.map_cons, List.map_nil, e k hk, e i hi, e b hb]
theorem own_lit (w : World) (arr : Array Value) (l : List UInt8) (n : Nat) (hn : l.length = n) (hn2 : n ≤ 1000) (harr : arr = (cb l).toArray) : Own (w.alloc (.cells arr 5)) w.heap.size (.slice (some ⟨w.heap.size, 0, none⟩) n n) l := by
  subst harr hn
  unfold Own
  have := World.ownsRow_lit (base := w.heap.size) (e := 5) (size := 1) w (cb l).toArray l.length (Nat.le_refl _) (by unfold maxLen; omega) (by rw [List.size_toArray, cb_length]; omega)
  simpa using this

set_option maxHeartbeats 400000 in
theorem refvalue_any (s : ByteArray) (k i b : Nat) (hs : s.size ≤ 1000000) (hk : k ≤ 255) (hi : i < 16) (hb : b ≤ 1) (w : World) :
    Calls Try.prog 10 #[.string s, .int .i64 k, .int .i64 i, .int .i64 b] w fun e w' => ∃ x : ByteArray, x.data.toList = valueOf s.data.toList k i b ∧ e = .returned (.string x) ∧ Below w.heap.size w w' := by
  obtain ⟨t, ht⟩ : ∃ t : ByteArray, t = ⟨[UInt8.ofNat k, UInt8.ofNat i, UInt8.ofNat b].toArray⟩ := ⟨_, rfl⟩
  have hts : t.size = 3 := by rw [ht]; rfl
  have hsum : (s ++ t).size ≤ 1000003 := by rw [ByteArray.size_append, hts]; omega
  have HT : Hid (t = ⟨[UInt8.ofNat k, UInt8.ofNat i, UInt8.ofNat b].toArray⟩) := ht
  have hx := refshort_any (s ++ t) (by omega)
  have HV : Hid (short (s ++ t).data.toList = valueOf s.data.toList k i b) := by rw [add_list, ht]; exact (rfl : _ = _)
  have hsz : (s.size : Int) + (t.size : Int) ≤ 1000003 := by omega
  clear ht hsum
  go_enter Try.func10, Try.ntmps10
  go_wp2_with ((with_reducible refine wpList_at ?_); refine wpList_said (by rfl) (.tmp 38) (by rfl) w.heap.size _ [UInt8.ofNat k, UInt8.ofNat i, UInt8.ofNat b] (by rfl) (own_lit w _ _ 3 rfl (by omega) (three_row k i b hk (by omega) (by omega))) ?_; rw [← HT.out])
  go_at_call 21
  refine (hx _).mono ?_
  rintro e w1 ⟨x, hx1, rfl, hb1⟩
  go_wp2
  go_ret
  exact ⟨x, hx1.trans HV.out, rfl, ((Below.refl _ _).alloc (Nat.le_refl _) _).trans (hb1.mono (by simp))⟩

theorem low1_all : ∀ x : Fin 256, bits .and .i64 (x.val : Int) 1 = ((x.val % 2 : Nat) : Int) := by decide +kernel
theorem low1 (x : Nat) (h : x < 256) : bits .and .i64 (x : Int) 1 = ((x % 2 : Nat) : Int) := low1_all ⟨x, h⟩
set_option maxHeartbeats 400000 in
theorem refbit_any (d : ByteArray) (i : Nat) (hd : d.size = 32) (hi : i < 16) (w : World) :
    Calls Try.prog 26 #[.string d, .int .i64 i] w fun e w' => e = .returned (.int .i64 (bitOf d.data.toList i : Nat)) ∧ w' = w := by
  have hj : i / 8 < d.size := by omega
  have h0 : (0 : Int) ≤ (i : Int) / 8 := by omega
  have h1 : (i : Int) / 8 < (d.size : Int) := by omega
  have HB : Hid (d[i / 8] = d.data.toList.getD (i / 8) 0) := byte_get d (i / 8) hj
  go_enter Try.func26, Try.ntmps26
  go_wp2
  go_ret
  refine ⟨ret_int ?_, rfl⟩
  have hb := d[i / 8].toNat_lt
  have e : (d[i / 8].toNat : Int) / 2 ^ (7 - i % 8) = ((d[i / 8].toNat / 2 ^ (7 - i % 8) : Nat) : Int) := by
    rw [Int.natCast_ediv, Int.natCast_pow]; rfl
  have hl : d[i / 8].toNat / 2 ^ (7 - i % 8) < 256 := Nat.lt_of_le_of_lt (Nat.div_le_self _ _) hb
  have hq : d[i / 8].toNat / 2 ^ (7 - i % 8) % 2 = bitOf d.data.toList i := by rw [HB.out]; rfl
  rw [e, ← hq]
  generalize d[i / 8].toNat / 2 ^ (7 - i % 8) = q at hl ⊢
  rw [IntWalk.wrap64_in _ (by omega), low1 _ hl]

end Go.Proofs.Ytobgkmecdllbiaa
