/-
  Package sha's Sum and Short.
-/
import Derived.Test.YthoimecljfcjmaaZ13
import Derived.Test.YthoimecljfcjmaaZ04
import Derived.Test.YthoimecljfcjmaaZ08
namespace Go.Proofs.Ythoimecljfcjmaa
open Go.RowKit

theorem ret_str {a b : ByteArray} (h : a = b) : Ending.returned (.string a) = .returned (.string b) := by rw [h]

/-- A text with what is mixed in behind it. -/
def pad (l : List UInt8) : List UInt8 := l ++ [128] ++ List.replicate (gap l.length) 0 ++ tops (8 * l.length) 8
/-- The chapter's digest. -/
def digest (l : List UInt8) : List UInt8 := fours (comps first (pad l) ((pad l).length / 64)).list

theorem comps_left (H : St) (a b : List UInt8) (q : Nat) (h : 64 * q ≤ a.length) : comps H (a ++ b) q = comps H a q := by
  induction q with
  | zero => rfl
  | succ q ih =>
    have e : blk (a ++ b) q = blk a q := by
      unfold blk
      rw [List.drop_append_of_le_length (by omega), List.take_append_of_le_length (by simp; omega)]
    simp only [comps]
    rw [ih (by omega), e]
theorem comps_append (H : St) (a b : List UInt8) (q r : Nat) (h : a.length = 64 * q) : comps (comps H a q) b r = comps H (a ++ b) (q + r) := by
  induction r with
  | zero => rw [Nat.add_zero, comps_left H a b q (by omega)]; rfl
  | succ r ih =>
    have e : blk (a ++ b) (q + r) = blk b r := by
      unfold blk
      rw [show 64 * (q + r) = a.length + 64 * r by omega, List.drop_append, List.drop_eq_nil_of_le (by omega), List.nil_append, Nat.add_sub_cancel_left]
    rw [← Nat.add_assoc]
    simp only [comps]
    rw [ih, e]
theorem gap_mod (n q : Nat) : gap (n - 64 * q) = gap n ∨ n < 64 * q := by
  unfold gap; omega
theorem pad_split (l : List UInt8) (q : Nat) (h : 64 * q ≤ l.length) : l.take (64 * q) ++ lastB (l.drop (64 * q)) l.length = pad l := by
  unfold lastB pad
  rw [List.length_drop]
  have := gap_mod l.length q
  rw [this.resolve_right (by omega)]
  simp only [← List.append_assoc, List.take_append_drop]
theorem lastB_length (r : List UInt8) (n : Nat) : (lastB r n).length = r.length + 9 + gap r.length := by
  simp [lastB, tops_length]; omega
theorem pad_length (l : List UInt8) : (pad l).length = l.length + 9 + gap l.length := by
  simp [pad, tops_length]; omega
theorem gap_div (n : Nat) : (n + 9 + gap n) % 64 = 0 := by unfold gap; omega

theorem digest_split (l : List UInt8) (q r : Nat) (h : 64 * q ≤ l.length) (hr : (lastB (l.drop (64 * q)) l.length).length = 64 * r) :
    fours (comps (comps first (l.take (64 * q)) q) (lastB (l.drop (64 * q)) l.length) r).list = digest l := by
  rw [comps_append _ _ _ _ _ (by simp; omega), pad_split l q h]
  unfold digest
  rw [← pad_split l q h, List.length_append, hr, List.length_take, show (min (64 * q) l.length + 64 * r) / 64 = q + r by omega]
theorem digest_length (l : List UInt8) : (digest l).length = 32 := by unfold digest; rw [fours_length]; rfl

set_option maxRecDepth 10000 in
set_option maxHeartbeats 1000000 in
theorem sum_any (s : ByteArray) (hs : s.size ≤ 1099511627776) (w : World) :
    Calls Try.prog 21 #[.string s] w fun e w' => e = .returned (.string ⟨(digest s.data.toList).toArray⟩) ∧ Below w.heap.size w w' := by
  obtain ⟨q, hq1, hq2⟩ : ∃ q, 64 * q ≤ s.size ∧ s.size < 64 * q + 64 := ⟨s.size / 64, by omega, by omega⟩
  have eq : (s.size : Int) - (s.size : Int) % 64 = 64 * (q : Int) := by omega
  go_enter Try.func21, Try.ntmps21
  go_wp2_with (first
    | (go_at_call 42; refine (first_any _).mono ?_; rintro e w1 ⟨rfl, hb1⟩)
    | (go_at_call 43; refine (consts_any _).mono ?_; rintro e w2 ⟨rfl, hb2⟩)
    | (refine wpList_new (P := Try.prog) (by rfl) 61 (by rfl) (zeros 8) 8 Try.info61 ?_; intro w3 hr3 hs3 hb3)
    | (refine wpList_new (P := Try.prog) (by rfl) 63 (by rfl) (zeros 64) 64 Try.info63 ?_; intro w4 hr4 hs4 hb4)
    | (refine wpList_put (P := Try.prog) (by rfl) 61 (.tmp 3) (.tmp 6) (by rfl) w2.heap.size H0 (zeros 8) (by rfl) (by rfl) 61 (hr3.below hb4) (by rw [H0_length]; exact Try.size61) rfl ?_; intro w5 hr5 hs5 hb5)
    | (refine wpList_put (P := Try.prog) (by rfl) 63 (.tmp 4) (.tmp 7) (by rfl) w3.heap.size KK (zeros 64) (by rfl) (by rfl) 63 (hr4.but hb5 (by omega)) (by rw [KK_length]; exact Try.size63) (by rw [KK_length, zeros_length]) ?_; intro w6 hr6 hs6 hb6))
  have hW : Row w6 w2.heap.size 61 first.list := hr5.but hb6 (by omega)
  have hC : Row w6 (w2.heap.size + 1) 63 KK := by rw [← hs3]; exact hr6
  have hB : Below w.heap.size w w6 := by
    have z1 := hb1.size
    have z2 := hb2.size
    exact ((((hb1.trans (hb2.mono z1)).trans (hb3.mono (by omega))).trans (hb4.mono (by omega))).trans (hb5.below (by omega) (by omega))).trans (hb6.below (by omega) (by omega))
  have hg : w.heap.size ≤ w2.heap.size := by have z1 := hb1.size; have z2 := hb2.size; omega
  obtain ⟨g, hgg⟩ : ∃ g, g = w2.heap.size := ⟨_, rfl⟩
  rw [← hgg] at hW hC hg ⊢
  clear hr3 hs3 hb3 hr4 hs4 hb4 hr5 hs5 hb5 hr6 hs6 hb6 hb1 hb2 hgg
  have he : (s.extract 0 (64 * q)).size = 64 * q := by rw [extract_size _ _ _ (by omega) (by omega)]; omega
  refine (blocks_any g (g + 1) q first (s.extract 0 (64 * q)) he (by omega) w6 hW hC (by omega)).mono ?_
  rintro e w7 ⟨rfl, hr7, hb7⟩
  have hC7 := hC.but hb7 (by omega)
  have hB7 := hB.trans (hb7.below hg hB.size)
  obtain ⟨t, ht⟩ : ∃ t, t = s.extract (64 * q) s.size := ⟨_, rfl⟩
  have ht1 : t.size ≤ 63 := by rw [ht, extract_size _ _ _ (by omega) (by omega)]; omega
  have ht2 : t.data.toList = s.data.toList.drop (64 * q) := by
    rw [ht, extract_list, List.take_of_length_le (by simp)]
  obtain ⟨r, hr⟩ : ∃ r, (lastB t.data.toList s.size).length = 64 * r := by
    rw [lastB_length]
    have := gap_div t.data.toList.length
    exact ⟨(t.data.toList.length + 9 + gap t.data.toList.length) / 64, by omega⟩
  have hr' : r ≤ 1099511627776 := by
    rw [lastB_length] at hr
    have h1 : t.data.toList.length = t.size := by simp
    have h2 : gap t.data.toList.length < 64 := by unfold gap; omega
    omega
  have HD : Hid (fours (comps (comps first (s.extract 0 (64 * q)).data.toList q) (lastB t.data.toList s.size) r).list = digest s.data.toList) := by
    rw [ht2] at hr ⊢
    rw [extract_list, List.drop_zero, Nat.sub_zero]
    exact digest_split s.data.toList q r hq1 hr
  have HT : Hid (t = s.extract (64 * q) s.size) := ht
  have HR : Hid ((lastB t.data.toList s.size).length = 64 * r) := hr
  clear ht ht2 hr he
  go_wp2_with fail
  rw [← HT.out]
  refine (last_any t s.size ht1 hs w7).mono ?_
  rintro e w8 ⟨rfl, hb8⟩
  have hr8 := hr7.below hb8
  have hC8 := hC7.below hb8
  have hB8 := hB7.trans (hb8.mono hB7.size)
  obtain ⟨u, hu⟩ : ∃ u : ByteArray, u = ⟨(lastB t.data.toList s.size).toArray⟩ := ⟨_, rfl⟩
  have hu1 : u.size = 64 * r := by rw [hu, ← HR.out]; show (lastB t.data.toList s.size).toArray.size = _; rw [List.size_toArray]
  have hu2 : u.data.toList = lastB t.data.toList s.size := by rw [hu]
  rw [← hu2] at HD
  rw [← hu]
  have HU1 : Hid (u.size = 64 * r) := hu1
  clear hu hu1 hu2 hr7 hC7 hb7 hb8 hB hC hW
  go_wp2_with (first
    | (go_at_call 44; refine (blocks_any g (g + 1) r _ u HU1.out hr' w8 hr8 hC8 (by omega)).mono ?_; rintro e w9 ⟨rfl, hr9, hb9⟩)
    | (refine wpList_get (P := Try.prog) (by rfl) 61 (.tmp 3) (by rfl) g _ (by rfl) 61 _ _ hr9 Try.underlying61 Try.size61 ?_)
    | (go_at_call 46; refine (words_any _ _).mono ?_; rintro e w10 ⟨rfl, hb10⟩))
  go_ret
  have hB9 := hB8.trans (hb9.below hg hB8.size)
  exact ⟨ret_str (by rw [← HD.out, extract_list, List.drop_zero, Nat.sub_zero]), hB9.trans (hb10.mono hB9.size)⟩

set_option maxHeartbeats 400000 in
theorem short_any (s : ByteArray) (hs : s.size ≤ 1099511627776) (w : World) :
    Calls Try.prog 74 #[.string s] w fun e w' => e = .returned (.string ⟨((digest s.data.toList).take 16).toArray⟩) ∧ Below w.heap.size w w' := by
  obtain ⟨d, hd⟩ : ∃ d : ByteArray, d = ⟨(digest s.data.toList).toArray⟩ := ⟨_, rfl⟩
  have hd1 : d.size = 32 := by rw [hd]; simp [ByteArray.size, digest_length]
  have hd2 : d.extract 0 16 = ⟨((digest s.data.toList).take 16).toArray⟩ := by
    apply ByteArray.ext; rw [hd, ByteArray.data_extract]; simp
  have HS := sum_any s hs w
  rw [← hd] at HS
  have HD : Hid (d.extract 0 16 = ⟨((digest s.data.toList).take 16).toArray⟩) := hd2
  have h16 : (16 : Int) ≤ (d.size : Int) := by omega
  clear hd hd1 hd2
  go_enter Try.func74, Try.ntmps74
  go_wp2_with (go_at_call 21; refine HS.mono ?_; rintro e w1 ⟨rfl, hb1⟩)
  go_ret
  exact ⟨ret_str HD.out, hb1⟩

end Go.Proofs.Ythoimecljfcjmaa

/-
  What chapter 2 says of one-time signatures, as plain functions over lists of bytes; what is signed is verified.
-/
namespace Go.Proofs.Ythoimecljfcjmaa

/-- The first half of a digest. -/
def short (l : List UInt8) : List UInt8 := (digest l).take 16
theorem short_length (l : List UInt8) : (short l).length = 16 := by unfold short; rw [List.length_take, digest_length]; rfl
/-- A value of a key: its place, its bit. -/
def valueOf (seed : List UInt8) (key i b : Nat) : List UInt8 := short (seed ++ [UInt8.ofNat key, UInt8.ofNat i, UInt8.ofNat b])
theorem valueOf_length (seed : List UInt8) (key i b : Nat) : (valueOf seed key i b).length = 16 := short_length _
/-- The i-th bit of a digest, of the first byte the highest first. -/
def bitOf (d : List UInt8) (i : Nat) : Nat := (d.getD (i / 8) 0).toNat / 2 ^ (7 - i % 8) % 2
theorem bitOf_lt (d : List UInt8) (i : Nat) : bitOf d i < 2 := Nat.mod_lt _ (by omega)
/-- The public key's parts, n of them. -/
def parts (seed : List UInt8) (key : Nat) : Nat → List UInt8
  | 0 => []
  | i + 1 => parts seed key i ++ short (valueOf seed key i 0) ++ short (valueOf seed key i 1)
def publicOf (seed : List UInt8) (key : Nat) : List UInt8 := short (parts seed key 16)
/-- What is shown of the first n bits of a digest. -/
def shown (seed : List UInt8) (key : Nat) (d : List UInt8) : Nat → List UInt8
  | 0 => []
  | i + 1 => shown seed key d i ++ valueOf seed key i (bitOf d i) ++ short (valueOf seed key i (1 - bitOf d i))
def signOf (seed : List UInt8) (key : Nat) (msg : List UInt8) : List UInt8 := shown seed key (digest msg) 16
theorem shown_length (seed : List UInt8) (key : Nat) (d : List UInt8) (n : Nat) : (shown seed key d n).length = 32 * n := by
  induction n with
  | zero => rfl
  | succ n ih => rw [shown, List.length_append, List.length_append, ih, valueOf_length, short_length]; omega
theorem signOf_length (seed : List UInt8) (key : Nat) (msg : List UInt8) : (signOf seed key msg).length = 512 := shown_length _ _ _ _
/-- The two halves of a signature's i-th part. -/
def fore (sig : List UInt8) (i : Nat) : List UInt8 := (sig.drop (32 * i)).take 16
def hind (sig : List UInt8) (i : Nat) : List UInt8 := (sig.drop (32 * i + 16)).take 16
/-- What a signature comes to, n parts of it. -/
def back (d sig : List UInt8) : Nat → List UInt8
  | 0 => []
  | i + 1 => back d sig i ++ (if bitOf d i = 0 then short (fore sig i) ++ hind sig i else hind sig i ++ short (fore sig i))
def verifyOf (pub msg sig : List UInt8) : Bool := decide (sig.length = 512) && (short (back (digest msg) sig 16) == pub)

theorem shown_part (seed : List UInt8) (key : Nat) (d : List UInt8) (n i : Nat) (h : i < n) :
    fore (shown seed key d n) i = valueOf seed key i (bitOf d i) ∧ hind (shown seed key d n) i = short (valueOf seed key i (1 - bitOf d i)) := by
  induction n with
  | zero => omega
  | succ n ih =>
    have hl := shown_length seed key d n
    by_cases hi : i < n
    · obtain ⟨h1, h2⟩ := ih hi
      unfold fore hind at *
      rw [shown, List.append_assoc, List.drop_append_of_le_length (by omega), List.drop_append_of_le_length (by omega)]
      rw [List.take_append_of_le_length (by rw [List.length_drop]; omega), List.take_append_of_le_length (by rw [List.length_drop]; omega)]
      exact ⟨h1, h2⟩
    · obtain rfl : i = n := by omega
      have v := valueOf_length seed key i (bitOf d i)
      unfold fore hind
      constructor
      · rw [shown, List.append_assoc, ← hl, List.drop_left, List.take_append_of_le_length (by omega), List.take_of_length_le (by omega)]
      · rw [shown, show 32 * i + 16 = (shown seed key d i ++ valueOf seed key i (bitOf d i)).length by rw [List.length_append]; omega, List.drop_left, List.take_of_length_le (by rw [short_length]; omega)]
theorem back_shown (seed : List UInt8) (key : Nat) (d : List UInt8) (n : Nat) (m : Nat) (h : n ≤ m) : back d (shown seed key d m) n = parts seed key n := by
  induction n with
  | zero => rfl
  | succ n ih =>
    obtain ⟨h1, h2⟩ := shown_part seed key d m n (by omega)
    rw [back, parts, ih (by omega), h1, h2]
    have hb := bitOf_lt d n
    by_cases h0 : bitOf d n = 0
    · rw [if_pos h0, h0, List.append_assoc]
    · have e : bitOf d n = 1 := by omega
      rw [if_neg h0, e, List.append_assoc]
/-- What is signed is verified. -/
theorem verify_sign (seed : List UInt8) (key : Nat) (msg : List UInt8) : verifyOf (publicOf seed key) msg (signOf seed key msg) = true := by
  unfold verifyOf
  rw [signOf_length]
  unfold signOf publicOf
  rw [back_shown seed key _ 16 16 (Nat.le_refl _), beq_self_eq_true]; rfl
theorem verify_long (pub msg sig : List UInt8) (h : sig.length ≠ 512) : verifyOf pub msg sig = false := by
  unfold verifyOf; rw [decide_eq_false h]; rfl
theorem verify_pub (pub msg sig : List UInt8) (h : pub.length ≠ 16) : verifyOf pub msg sig = false := by
  unfold verifyOf
  have : (short (back (digest msg) sig 16) == pub) = false := by
    rw [beq_eq_false_iff_ne]; intro e; exact h (by rw [← e, short_length])
  rw [this, Bool.and_false]

end Go.Proofs.Ythoimecljfcjmaa
