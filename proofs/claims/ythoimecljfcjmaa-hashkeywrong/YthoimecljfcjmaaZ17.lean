/-
  The document's Short, Value, bit, Public, Sign, Verify of chapter 2.
-/
import Derived.Test.YthoimecljfcjmaaRef
import Derived.Test.YthoimecljfcjmaaZ15
import Derived.Laws.OwnMore
namespace Go.Proofs.Ythoimecljfcjmaa
open Go.RowKit


set_option maxHeartbeats 400000 in
theorem refshort_any (s : ByteArray) (hs : s.size ≤ 1099511627) (w : World) :
    Calls Try.prog 53 #[.string s] w fun e w' => ∃ x : ByteArray, x.data.toList = short s.data.toList ∧ e = .returned (.string x) ∧ Below w.heap.size w w' := by
  obtain ⟨d, hd⟩ : ∃ d : ByteArray, d = ⟨(digest s.data.toList).toArray⟩ := ⟨_, rfl⟩
  have hd1 : d.size = 32 := by rw [hd, mk_size, digest_length]
  have hd2 : (d.extract 0 16).data.toList = short s.data.toList := by
    rw [hd, extract_list]; unfold short; simp
  have HS := refsum_any s hs w
  rw [← hd] at HS
  have HD : Hid ((d.extract 0 16).data.toList = short s.data.toList) := hd2
  have h16 : (16 : Int) ≤ (d.size : Int) := by omega
  clear hd hd1 hd2
  go_enter Try.func53, Try.ntmps53
  go_wp2_with (go_at_call 25; refine HS.mono ?_; rintro e w1 ⟨rfl, hb1⟩)
  go_ret
  exact ⟨_, HD.out, rfl, hb1⟩

theorem three_row (k i b : Nat) (hk : k ≤ 255) (hi : i ≤ 255) (hb : b ≤ 255) : #[Value.int IntKind.u8 (k : Int), Value.int IntKind.u8 (i : Int), Value.int IntKind.u8 (b : Int)] = (cb [UInt8.ofNat k, UInt8.ofNat i, UInt8.ofNat b]).toArray := by
  have e : ∀ n : Nat, n ≤ 255 → (((UInt8.ofNat n).toNat : Nat) : Int) = (n : Int) := fun n h => by rw [UInt8.toNat_ofNat']; omega
  simp only [cb, List.map_cons, List.map_nil, e k hk, e i hi, e b hb]
theorem own_lit (w : World) (arr : Array Value) (l : List UInt8) (n : Nat) (hn : l.length = n) (hn2 : n ≤ 1000) (harr : arr = (cb l).toArray) : Own (w.alloc (.cells arr 5)) w.heap.size (.slice (some ⟨w.heap.size, 0, none⟩) n n) l := by
  subst harr hn
  unfold Own
  have := World.ownsRow_lit (base := w.heap.size) (e := 5) (size := 1) w (cb l).toArray l.length (Nat.le_refl _) (by unfold maxLen; omega) (by rw [List.size_toArray, cb_length]; omega)
  simpa using this

set_option maxHeartbeats 400000 in
theorem refvalue_any (s : ByteArray) (k i b : Nat) (hs : s.size ≤ 1000000) (hk : k ≤ 255) (hi : i < 16) (hb : b ≤ 1) (w : World) :
    Calls Try.prog 55 #[.string s, .int .i64 k, .int .i64 i, .int .i64 b] w fun e w' => ∃ x : ByteArray, x.data.toList = valueOf s.data.toList k i b ∧ e = .returned (.string x) ∧ Below w.heap.size w w' := by
  obtain ⟨t, ht⟩ : ∃ t : ByteArray, t = ⟨[UInt8.ofNat k, UInt8.ofNat i, UInt8.ofNat b].toArray⟩ := ⟨_, rfl⟩
  have hts : t.size = 3 := by rw [ht]; rfl
  have hsum : (s ++ t).size ≤ 1000003 := by rw [ByteArray.size_append, hts]; omega
  have HT : Hid (t = ⟨[UInt8.ofNat k, UInt8.ofNat i, UInt8.ofNat b].toArray⟩) := ht
  have hx := refshort_any (s ++ t) (by omega)
  have HV : Hid (short (s ++ t).data.toList = valueOf s.data.toList k i b) := by rw [add_list, ht]; exact (rfl : _ = _)
  have hsz : (s.size : Int) + (t.size : Int) ≤ 1000003 := by omega
  clear ht hsum
  go_enter Try.func55, Try.ntmps55
  go_wp2_with ((with_reducible refine wpList_at ?_); refine wpList_said (by rfl) (.tmp 38) (by rfl) w.heap.size _ [UInt8.ofNat k, UInt8.ofNat i, UInt8.ofNat b] (by rfl) (own_lit w _ _ 3 rfl (by omega) (three_row k i b hk (by omega) (by omega))) ?_; rw [← HT.out])
  go_at_call 53
  refine (hx _).mono ?_
  rintro e w1 ⟨x, hx1, rfl, hb1⟩
  go_wp2
  go_ret
  exact ⟨x, hx1.trans HV.out, rfl, ((Below.refl _ _).alloc (Nat.le_refl _) _).trans (hb1.mono (by simp))⟩

theorem low1_all : ∀ x : Fin 256, bits .and .i64 (x.val : Int) 1 = ((x.val % 2 : Nat) : Int) := by decide +kernel
theorem low1 (x : Nat) (h : x < 256) : bits .and .i64 (x : Int) 1 = ((x % 2 : Nat) : Int) := low1_all ⟨x, h⟩
set_option maxHeartbeats 400000 in
theorem refbit_any (d : ByteArray) (i : Nat) (hd : d.size = 32) (hi : i < 16) (w : World) :
    Calls Try.prog 54 #[.string d, .int .i64 i] w fun e w' => e = .returned (.int .i64 (bitOf d.data.toList i : Nat)) ∧ w' = w := by
  have hj : i / 8 < d.size := by omega
  have h0 : (0 : Int) ≤ (i : Int) / 8 := by omega
  have h1 : (i : Int) / 8 < (d.size : Int) := by omega
  have HB : Hid (d[i / 8] = d.data.toList.getD (i / 8) 0) := byte_get d (i / 8) hj
  go_enter Try.func54, Try.ntmps54
  go_wp2
  go_ret
  refine ⟨ret_int ?_, rfl⟩
  have hb := d[i / 8].toNat_lt
  have e : (d[i / 8].toNat : Int) / 2 ^ (7 - i % 8) = ((d[i / 8].toNat / 2 ^ (7 - i % 8) : Nat) : Int) := by
    rw [Int.natCast_ediv, Int.natCast_pow]; rfl
  have hl : d[i / 8].toNat / 2 ^ (7 - i % 8) < 256 := Nat.lt_of_le_of_lt (Nat.div_le_self _ _) hb
  have hq : d[i / 8].toNat / 2 ^ (7 - i % 8) % 2 = bitOf d.data.toList i := by rw [HB.out]; rfl
  rw [e, ← hq]
  generalize d[i / 8].toNat / 2 ^ (7 - i % 8) = q at hl ⊢
  rw [IntWalk.wrap64_in _ (by omega), low1 _ hl]

end Go.Proofs.Ythoimecljfcjmaa

/-
  Package ots: isKey, Value, the bits of a digest by a closure.
-/
namespace Go.Proofs.Ythoimecljfcjmaa
open Go.RowKit

theorem myshort_any (s : ByteArray) (hs : s.size ≤ 1099511627776) (w : World) :
    Calls Try.prog 74 #[.string s] w fun e w' => ∃ x : ByteArray, x.data.toList = short s.data.toList ∧ e = .returned (.string x) ∧ Below w.heap.size w w' :=
  (short_any s hs w).mono (by rintro e w' ⟨rfl, hb⟩; exact ⟨_, by simp [short], rfl, hb⟩)

set_option maxHeartbeats 400000 in
theorem iskey_in (k : Int) (h0 : 0 ≤ k) (h1 : k ≤ 255) (w : World) : Calls Try.prog 89 #[.int .i64 k] w fun e w' => e = .returned (.bool true) ∧ w' = w := by
  go_enter Try.func89, Try.ntmps89
  go_wp2
  go_ret
  trivial
set_option maxHeartbeats 400000 in
theorem iskey_out (k : Int) (h : k < 0 ∨ 255 < k) (w : World) : Calls Try.prog 89 #[.int .i64 k] w fun e w' => e = .returned (.bool false) ∧ w' = w := by
  rcases h with h | h
  · have h0 : ¬ 0 ≤ k := by omega
    go_enter Try.func89, Try.ntmps89
    go_wp2
    go_ret
    trivial
  · have h0 : 0 ≤ k := by omega
    have h1 : ¬ k ≤ 255 := by omega
    go_enter Try.func89, Try.ntmps89
    go_wp2
    go_ret
    trivial

set_option maxHeartbeats 400000 in
theorem value_any (s : ByteArray) (k i b : Nat) (hs : s.size ≤ 1000000) (hk : k ≤ 255) (hi : i < 16) (hb : b ≤ 1) (w : World) :
    Calls Try.prog 90 #[.string s, .int .i64 k, .int .i64 i, .int .i64 b] w fun e w' => ∃ x : ByteArray, x.data.toList = valueOf s.data.toList k i b ∧ e = .returned (.string x) ∧ Below w.heap.size w w' := by
  obtain ⟨t, ht⟩ : ∃ t : ByteArray, t = ⟨[UInt8.ofNat k, UInt8.ofNat i, UInt8.ofNat b].toArray⟩ := ⟨_, rfl⟩
  have hts : t.size = 3 := by rw [ht]; rfl
  have hsum : (s ++ t).size ≤ 1000003 := by rw [ByteArray.size_append, hts]; omega
  have HT : Hid (t = ⟨[UInt8.ofNat k, UInt8.ofNat i, UInt8.ofNat b].toArray⟩) := ht
  have hx := myshort_any (s ++ t) (by omega)
  have HV : Hid (short (s ++ t).data.toList = valueOf s.data.toList k i b) := by rw [add_list, ht]; exact (rfl : _ = _)
  have hsz : (s.size : Int) + (t.size : Int) ≤ 1000003 := by omega
  clear ht hsum
  go_enter Try.func90, Try.ntmps90
  go_wp2_with (first
    | (go_at_call 89; refine (iskey_in k (by omega) (by omega) _).mono ?_; rintro e w0 ⟨rfl, hw0⟩; subst w0)
    | ((with_reducible refine wpList_at ?_); refine wpList_said (by rfl) (.tmp 35) (by rfl) w.heap.size _ [UInt8.ofNat k, UInt8.ofNat i, UInt8.ofNat b] (by rfl) (own_lit w _ _ 3 rfl (by omega) (three_row k i b hk (by omega) (by omega))) ?_; rw [← HT.out]))
  go_at_call 74
  refine (hx _).mono ?_
  rintro e w1 ⟨x, hx1, rfl, hb1⟩
  go_wp2
  go_ret
  exact ⟨x, hx1.trans HV.out, rfl, ((Below.refl _ _).alloc (Nat.le_refl _) _).trans (hb1.mono (by simp))⟩

set_option maxHeartbeats 400000 in
theorem value_out (s : ByteArray) (k i b : Int) (h : ¬ (0 ≤ k ∧ k ≤ 255 ∧ 0 ≤ i ∧ i < 16 ∧ 0 ≤ b ∧ b ≤ 1)) (w : World) :
    Calls Try.prog 90 #[.string s, .int .i64 k, .int .i64 i, .int .i64 b] w fun e w' => e = .returned (.string ⟨#[]⟩) ∧ w' = w := by
  by_cases h1 : k < 0 ∨ 255 < k
  · clear h
    have hk := iskey_out k h1
    clear h1
    go_enter Try.func90, Try.ntmps90
    go_wp2_with (go_at_call 89; refine (hk _).mono ?_; rintro e w0 ⟨rfl, hw0⟩; subst w0)
    go_ret
    trivial
  have hk := iskey_in k (by omega) (by omega)
  by_cases h3 : i < 0
  · go_enter Try.func90, Try.ntmps90
    go_wp2_with (go_at_call 89; refine (hk _).mono ?_; rintro e w0 ⟨rfl, hw0⟩; subst w0)
    go_ret
    trivial
  by_cases h4 : 16 ≤ i
  · go_enter Try.func90, Try.ntmps90
    go_wp2_with (go_at_call 89; refine (hk _).mono ?_; rintro e w0 ⟨rfl, hw0⟩; subst w0)
    go_ret
    trivial
  by_cases h5 : b < 0
  · go_enter Try.func90, Try.ntmps90
    go_wp2_with (go_at_call 89; refine (hk _).mono ?_; rintro e w0 ⟨rfl, hw0⟩; subst w0)
    go_ret
    trivial
  have h6 : 1 < b := by omega
  clear h
  go_enter Try.func90, Try.ntmps90
  go_wp2_with (go_at_call 89; refine (hk _).mono ?_; rintro e w0 ⟨rfl, hw0⟩; subst w0)
  go_ret
  trivial

set_option maxHeartbeats 400000 in
theorem bitfn_any (d : ByteArray) (i b : Nat) (hd : d.size = 32) (hi : i < 16) (w : World) (hc : w.cell? ⟨b, 0, none⟩ = some (.string d)) :
    Calls Try.prog 100 #[.int .i64 i, .pointer (some ⟨b, 0, none⟩)] w fun e w' => e = .returned (.int .i64 (bitOf d.data.toList i : Nat)) ∧ w' = w := by
  have hj : i / 8 < d.size := by omega
  have h0 : (0 : Int) ≤ (i : Int) / 8 := by omega
  have h1 : (i : Int) / 8 < (d.size : Int) := by omega
  have HB : Hid (d[i / 8] = d.data.toList.getD (i / 8) 0) := byte_get d (i / 8) hj
  go_enter Try.func100, Try.ntmps100
  go_wp2
  go_ret
  refine ⟨ret_int ?_, rfl⟩
  have hb := d[i / 8].toNat_lt
  have e : (d[i / 8].toNat : Int) / 2 ^ (7 - i % 8) = ((d[i / 8].toNat / 2 ^ (7 - i % 8) : Nat) : Int) := by
    rw [Int.natCast_ediv, Int.natCast_pow]; rfl
  have hl : d[i / 8].toNat / 2 ^ (7 - i % 8) < 256 := Nat.lt_of_le_of_lt (Nat.div_le_self _ _) hb
  have hq : d[i / 8].toNat / 2 ^ (7 - i % 8) % 2 = bitOf d.data.toList i := by rw [HB.out]; rfl
  rw [e, ← hq]
  generalize d[i / 8].toNat / 2 ^ (7 - i % 8) = q at hl ⊢
  rw [IntWalk.wrap64_in _ (by omega), low1 _ hl]

set_option maxHeartbeats 400000 in
theorem bitsOf_any (m : ByteArray) (hm : m.size ≤ 1000000) (w : World) :
    Calls Try.prog 71 #[.string m] w fun e w' => ∃ (b : Nat) (d : ByteArray), d.data.toList = digest m.data.toList ∧ e = .returned (.func (.func 100) #[] #[.pointer (some ⟨b, 0, none⟩)]) ∧ w'.cell? ⟨b, 0, none⟩ = some (.string d) ∧ b < w'.heap.size ∧ Below w.heap.size w w' := by
  obtain ⟨d, hd⟩ : ∃ d : ByteArray, d = ⟨(digest m.data.toList).toArray⟩ := ⟨_, rfl⟩
  have hd2 : d.data.toList = digest m.data.toList := by rw [hd]
  have HS := sum_any m (by omega) w
  rw [← hd] at HS
  have HD : Hid (d.data.toList = digest m.data.toList) := hd2
  clear hd hd2
  go_enter Try.func71, Try.ntmps71
  go_wp2_with (go_at_call 21; refine HS.mono ?_; rintro e w1 ⟨rfl, hb1⟩)
  go_ret
  exact ⟨w1.heap.size, d, HD.out, rfl, by rw [World.cell?_alloc_new]; rfl, by simp, hb1.alloc hb1.size _⟩

end Go.Proofs.Ythoimecljfcjmaa

/-
  The document's Public and Sign.
-/
namespace Go.Proofs.Ythoimecljfcjmaa
open Go.RowKit

attribute [local go_sem ↓] Go.wp_at_zero Go.wp_at_succ

theorem size_of (x : ByteArray) (l : List UInt8) (n : Nat) (h : x.data.toList = l) (hn : l.length = n) : x.size = n := by rw [← len_list, h, hn]
theorem parts_length (seed : List UInt8) (key n : Nat) : (parts seed key n).length = 32 * n := by
  induction n with
  | zero => rfl
  | succ n ih => rw [parts, List.length_append, List.length_append, ih, short_length, short_length]; omega

set_option maxRecDepth 10000 in
set_option maxHeartbeats 1000000 in
theorem refpublic_any (s : ByteArray) (k : Nat) (hs : s.size ≤ 1000000) (hk : k ≤ 255) (w : World) :
    Calls Try.prog 28 #[.string s, .int .i64 k] w fun e w' => ∃ x : ByteArray, x.data.toList = publicOf s.data.toList k ∧ e = .returned (.string x) ∧ Below w.heap.size w w' := by
  have hkk : (k : Int) ≤ 255 := by omega
  have hk0 : (0 : Int) ≤ (k : Int) := by omega
  go_enter Try.func28, Try.ntmps28
  go_wp2
  go_loopw [5, 6] (fun v i wr => ∃ (n : Nat) (x : ByteArray), n ≤ 16 ∧ i = .int .i64 n ∧ v = .string x ∧ x.data.toList = parts s.data.toList k n ∧ Below w.heap.size w wr) (fun _ i _ => 16 - (intOf i).toNat)
  case atStart => exact ⟨0, ⟨#[]⟩, by omega, rfl, rfl, rfl, Below.refl _ _⟩
  case round =>
    obtain ⟨n, x, hn, rfl, rfl, hx, hb⟩ := hrel
    have hxs := size_of x _ _ hx (parts_length _ _ _)
    by_cases hlt : n < 16
    · have n1 : (n : Int) < 16 := by omega
      have HX : Hid (x.data.toList = parts s.data.toList k n) := hx
      clear hx
      go_wp2_with (go_at_call 55; refine (refvalue_any s k n 0 hs hk hlt (by omega) _).mono ?_; rintro e w1 ⟨v0, hv0, rfl, hb1⟩)
      go_at_call 53
      refine (refshort_any v0 (by rw [size_of v0 _ _ hv0 (valueOf_length _ _ _ _)]; omega) _).mono ?_
      rintro e w2 ⟨h0, hh0, rfl, hb2⟩
      have z0 := size_of h0 _ _ hh0 (short_length _)
      have y0 : (x.size : Int) + (h0.size : Int) ≤ 1000003 := by omega
      have y1 : (x ++ h0).size = 32 * n + 16 := by rw [ByteArray.size_append]; omega
      rw [hv0] at hh0
      have HH0 : Hid (h0.data.toList = short (valueOf s.data.toList k n 0)) := hh0
      clear hh0 hv0
      go_wp2_with (go_at_call 55; refine (refvalue_any s k n 1 hs hk hlt (by omega) _).mono ?_; rintro e w3 ⟨v1, hv1, rfl, hb3⟩)
      go_at_call 53
      refine (refshort_any v1 (by rw [size_of v1 _ _ hv1 (valueOf_length _ _ _ _)]; omega) _).mono ?_
      rintro e w4 ⟨h1, hh1, rfl, hb4⟩
      have z1 := size_of h1 _ _ hh1 (short_length _)
      have y2 : ((x ++ h0).size : Int) + (h1.size : Int) ≤ 1000003 := by omega
      rw [hv1] at hh1
      have HH1 : Hid (h1.data.toList = short (valueOf s.data.toList k n 1)) := hh1
      clear hh1 hv1
      go_wp2
      go_roundw
      case rel =>
        refine ⟨n + 1, x ++ h0 ++ h1, by omega, by go_num, rfl, ?_, below_then (below_then (below_then (below_then hb hb1) hb2) hb3) hb4⟩
        rw [add_list, add_list, HX.out, HH0.out, HH1.out]; rfl
      case measure => simp [intOf]; omega
    · have hn8 : n = 16 := by omega
      subst hn8
      have HX : Hid (x.data.toList = parts s.data.toList k 16) := hx
      clear hx
      go_wp2_with (go_at_call 53; refine (refshort_any x (by omega) _).mono ?_; rintro e w1 ⟨v0, hv0, rfl, hb1⟩)
      go_ret
      exact ⟨v0, by rw [hv0, HX.out]; rfl, rfl, hb.trans (hb1.mono hb.size)⟩

end Go.Proofs.Ythoimecljfcjmaa
