/-
  Package ots: isKey, Value, the bits of a digest by a closure.
-/
import Derived.Test.YtobgkmecdllbiaaOtsRef
namespace Go.Proofs.Ytobgkmecdllbiaa
open Go.RowKit

theorem myshort_any (s : ByteArray) (hs : s.size ≤ 1099511627776) (w : World) :
    Calls Try.prog 19 #[.string s] w fun e w' => ∃ x : ByteArray, x.data.toList = short s.data.toList ∧ e = .returned (.string x) ∧ Below w.heap.size w w' :=
  (short_any s hs w).mono (by rintro e w' ⟨rfl, hb⟩; exact ⟨_, by simp [short], rfl, hb⟩)

set_option maxHeartbeats 400000 in
theorem iskey_in (k : Int) (h0 : 0 ≤ k) (h1 : k ≤ 255) (w : World) : Calls Try.prog 20 #[.int .i64 k] w fun e w' => e = .returned (.bool true) ∧ w' = w := by
  go_enter Try.func20, Try.ntmps20
  go_wp2
  go_ret
  trivial
set_option maxHeartbeats 400000 in
theorem iskey_out (k : Int) (h : k < 0 ∨ 255 < k) (w : World) : Calls Try.prog 20 #[.int .i64 k] w fun e w' => e = .returned (.bool false) ∧ w' = w := by
  rcases h with h | h
  · have h0 : ¬ 0 ≤ k := by omega
    go_enter Try.func20, Try.ntmps20
    go_wp2
    go_ret
    trivial
  · have h0 : 0 ≤ k := by omega
    have h1 : ¬ k ≤ 255 := by omega
    go_enter Try.func20, Try.ntmps20
    go_wp2
    go_ret
    trivial

set_option maxHeartbeats 400000 in
theorem value_any (s : ByteArray) (k i b : Nat) (hs : s.size ≤ 1000000) (hk : k ≤ 255) (hi : i < 16) (hb : b ≤ 1) (w : World) :
    Calls Try.prog 9 #[.string s, .int .i64 k, .int .i64 i, .int .i64 b] w fun e w' => ∃ x : ByteArray, x.data.toList = valueOf s.data.toList k i b ∧ e = .returned (.string x) ∧ Below w.heap.size w w' := by
  obtain ⟨t, ht⟩ : ∃ t : ByteArray, t = ⟨[UInt8.ofNat k, UInt8.ofNat i, UInt8.ofNat b].toArray⟩ := ⟨_, rfl⟩
  have hts : t.size = 3 := by rw [ht]; rfl
  have hsum : (s ++ t).size ≤ 1000003 := by rw [ByteArray.size_append, hts]; omega
  have HT : Hid (t = ⟨[UInt8.ofNat k, UInt8.ofNat i, UInt8.ofNat b].toArray⟩) := ht
  have hx := myshort_any (s ++ t) (by omega)
  have HV : Hid (short (s ++ t).data.toList = valueOf s.data.toList k i b) := by rw [add_list, ht]; exact (rfl : _ = _)
  have hsz : (s.size : Int) + (t.size : Int) ≤ 1000003 := by omega
  clear ht hsum
  go_enter Try.func9, Try.ntmps9
  go_wp2_with (first
    | (go_at_call 20; refine (iskey_in k (by omega) (by omega) _).mono ?_; rintro e w0 ⟨rfl, hw0⟩; subst w0)
    | ((with_reducible refine wpList_at ?_); refine wpList_said (by rfl) (.tmp 35) (by rfl) w.heap.size _ [UInt8.ofNat k, UInt8.ofNat i, UInt8.ofNat b] (by rfl) (own_lit w _ _ 3 rfl (by omega) (three_row k i b hk (by omega) (by omega))) ?_; rw [← HT.out]))
  go_at_call 19
  refine (hx _).mono ?_
  rintro e w1 ⟨x, hx1, rfl, hb1⟩
  go_wp2
  go_ret
  exact ⟨x, hx1.trans HV.out, rfl, ((Below.refl _ _).alloc (Nat.le_refl _) _).trans (hb1.mono (by simp))⟩

set_option maxHeartbeats 400000 in
theorem value_out (s : ByteArray) (k i b : Int) (h : ¬ (0 ≤ k ∧ k ≤ 255 ∧ 0 ≤ i ∧ i < 16 ∧ 0 ≤ b ∧ b ≤ 1)) (w : World) :
    Calls Try.prog 9 #[.string s, .int .i64 k, .int .i64 i, .int .i64 b] w fun e w' => e = .returned (.string ⟨#[]⟩) ∧ w' = w := by
  by_cases h1 : k < 0 ∨ 255 < k
  · clear h
    have hk := iskey_out k h1
    clear h1
    go_enter Try.func9, Try.ntmps9
    go_wp2_with (go_at_call 20; refine (hk _).mono ?_; rintro e w0 ⟨rfl, hw0⟩; subst w0)
    go_ret
    trivial
  have hk := iskey_in k (by omega) (by omega)
  by_cases h3 : i < 0
  · go_enter Try.func9, Try.ntmps9
    go_wp2_with (go_at_call 20; refine (hk _).mono ?_; rintro e w0 ⟨rfl, hw0⟩; subst w0)
    go_ret
    trivial
  by_cases h4 : 16 ≤ i
  · go_enter Try.func9, Try.ntmps9
    go_wp2_with (go_at_call 20; refine (hk _).mono ?_; rintro e w0 ⟨rfl, hw0⟩; subst w0)
    go_ret
    trivial
  by_cases h5 : b < 0
  · go_enter Try.func9, Try.ntmps9
    go_wp2_with (go_at_call 20; refine (hk _).mono ?_; rintro e w0 ⟨rfl, hw0⟩; subst w0)
    go_ret
    trivial
  have h6 : 1 < b := by omega
  clear h
  go_enter Try.func9, Try.ntmps9
  go_wp2_with (go_at_call 20; refine (hk _).mono ?_; rintro e w0 ⟨rfl, hw0⟩; subst w0)
  go_ret
  trivial

set_option maxHeartbeats 400000 in
theorem bitfn_any (d : ByteArray) (i b : Nat) (hd : d.size = 32) (hi : i < 16) (w : World) (hc : w.cell? ⟨b, 0, none⟩ = some (.string d)) :
    Calls Try.prog 33 #[.int .i64 i, .pointer (some ⟨b, 0, none⟩)] w fun e w' => e = .returned (.int .i64 (bitOf d.data.toList i : Nat)) ∧ w' = w := by
  have hj : i / 8 < d.size := by omega
  have h0 : (0 : Int) ≤ (i : Int) / 8 := by omega
  have h1 : (i : Int) / 8 < (d.size : Int) := by omega
  have HB : Hid (d[i / 8] = d.data.toList.getD (i / 8) 0) := byte_get d (i / 8) hj
  go_enter Try.func33, Try.ntmps33
  go_wp2
  go_ret
  refine ⟨ret_int ?_, rfl⟩
  have hb := d[i / 8].toNat_lt
  have e : (d[i / 8].toNat : Int) / 2 ^ (7 - i % 8) = ((d[i / 8].toNat / 2 ^ (7 - i % 8) : Nat) : Int) := by
    rw [Int.natCast_ediv, Int.natCast_pow]; rfl
  have hl : d[i / 8].toNat / 2 ^ (7 - i % 8) < 256 := Nat.lt_of_le_of_lt (Nat.div_le_self _ _) hb
  have hq : d[i / 8].toNat / 2 ^ (7 - i % 8) % 2 = bitOf d.data.toList i := by rw [HB.out]; rfl
  rw [e, ← hq]
  generalize d[i / 8].toNat / 2 ^ (7 - i % 8) = q at hl ⊢
  rw [IntWalk.wrap64_in _ (by omega), low1 _ hl]

set_option maxHeartbeats 400000 in
theorem bitsOf_any (m : ByteArray) (hm : m.size ≤ 1000000) (w : World) :
    Calls Try.prog 24 #[.string m] w fun e w' => ∃ (b : Nat) (d : ByteArray), d.data.toList = digest m.data.toList ∧ e = .returned (.func (.func 33) #[] #[.pointer (some ⟨b, 0, none⟩)]) ∧ w'.cell? ⟨b, 0, none⟩ = some (.string d) ∧ b < w'.heap.size ∧ Below w.heap.size w w' := by
  obtain ⟨d, hd⟩ : ∃ d : ByteArray, d = ⟨(digest m.data.toList).toArray⟩ := ⟨_, rfl⟩
  have hd2 : d.data.toList = digest m.data.toList := by rw [hd]
  have HS := sum_any m (by omega) w
  rw [← hd] at HS
  have HD : Hid (d.data.toList = digest m.data.toList) := hd2
  clear hd hd2
  go_enter Try.func24, Try.ntmps24
  go_wp2_with (go_at_call 18; refine HS.mono ?_; rintro e w1 ⟨rfl, hb1⟩)
  go_ret
  exact ⟨w1.heap.size, d, HD.out, rfl, by rw [World.cell?_alloc_new]; rfl, by simp, hb1.alloc hb1.size _⟩

end Go.Proofs.Ytobgkmecdllbiaa
