/-
  Package ots: publicOf, Public, Sign.
-/
import Derived.Test.YthoimecljfcjmaaZ17
import Derived.Shelf.Abstract
namespace Go.Proofs.Ythoimecljfcjmaa
open Go.RowKit

attribute [local go_sem ↓] Go.wp_at_zero Go.wp_at_succ

/-- Digests of pairs, one behind the other. -/
def joined (D : Nat → Nat → List UInt8) : Nat → List UInt8
  | 0 => []
  | i + 1 => joined D i ++ D i 0 ++ D i 1
theorem joined_length (D : Nat → Nat → List UInt8) (h : ∀ i b, i < 16 → b ≤ 1 → (D i b).length = 16) (n : Nat) (hn : n ≤ 16) : (joined D n).length = 32 * n := by
  induction n with
  | zero => rfl
  | succ n ih => rw [joined, List.length_append, List.length_append, ih (by omega), h n 0 (by omega) (by omega), h n 1 (by omega) (by omega)]; omega

set_option maxRecDepth 10000 in
set_option maxHeartbeats 1000000 in
theorem publicfn_any (g : Nat) (p q : Value) (D : Nat → Nat → List UInt8) (hD : ∀ i b, i < 16 → b ≤ 1 → (D i b).length = 16) (w : World)
    (eg : ∀ args w, (callFunc g args).run Try.prog w = .ok (.enter g args) w)
    (hf : ∀ (i b : Nat) (W : World), i < 16 → b ≤ 1 → Below w.heap.size w W → Calls Try.prog g #[.int .i64 i, .int .i64 b, p, q] W fun e w' => ∃ x : ByteArray, x.data.toList = D i b ∧ e = .returned (.string x) ∧ Below W.heap.size W w') :
    Calls Try.prog 72 #[.func (.func g) #[] #[p, q]] w fun e w' => ∃ x : ByteArray, x.data.toList = short (joined D 16) ∧ e = .returned (.string x) ∧ Below w.heap.size w w' := by
  go_enter Try.func72, Try.ntmps72
  go_wp2_with (at_make; refine wpList_buf (by rfl) _ _ (by rfl) w.heap.size _ 512 (by rfl) (by rfl) (by rfl) (by omega) (Nat.le_refl _) ?_; intro v1 w1 hown1 hb1)
  go_loopw [3, 6] (fun v i wr => ∃ n : Nat, n ≤ 16 ∧ i = .int .i64 n ∧ Own wr w.heap.size v (joined D n) ∧ Below w.heap.size w wr) (fun _ i _ => 16 - (intOf i).toNat)
  case atStart => exact ⟨0, by omega, rfl, hown1, hb1⟩
  case round =>
    clear hown1 hb1
    obtain ⟨n, hn, rfl, hown, hb⟩ := hrel
    have hjl := joined_length D hD n hn
    by_cases hlt : n < 16
    · have n1 : (n : Int) < 16 := by omega
      have HF0 := hf n 0 wr hlt (by omega) hb
      have HF1 := fun W => hf n 1 W hlt (by omega)
      have e0 := hD n 0 hlt (by omega)
      have e1 := hD n 1 hlt (by omega)
      have HJ : Hid (joined D (n + 1) = joined D n ++ D n 0 ++ D n 1) := (rfl : joined D (n + 1) = joined D n ++ D n 0 ++ D n 1)
      clear hf hD
      generalize joined D n = L at HJ hown hjl
      go_wp2_with fail
      refine HF0.mono ?_
      rintro e w1 ⟨x0, hx0, rfl, hb1⟩
      have z0 := size_of x0 _ _ hx0 e0
      have hB1 := below_then hb hb1
      rw [← hx0] at HJ
      go_wp2_with (at_builtin; refine wpList_text (by rfl) (.tmp 9) (.tmp 12) (by rfl) w.heap.size _ L (by rfl) (hown.below hb1) x0 (by rfl) (by omega) hB1.size ?_; intro v2 w2 hown2 hb2)
      have hB2 := hB1.trans hb2
      refine (HF1 w2 hB2).mono ?_
      rintro e w3 ⟨x1, hx1, rfl, hb3⟩
      have z1 := size_of x1 _ _ hx1 e1
      have hB3 := below_then hB2 hb3
      have hl2 : (L ++ x0.data.toList).length = 32 * n + 16 := by rw [List.length_append, len_list]; omega
      rw [← hx1] at HJ
      go_wp2_with (at_builtin; refine wpList_text (by rfl) (.tmp 14) (.tmp 17) (by rfl) w.heap.size _ _ (by rfl) (hown2.below hb3) x1 (by rfl) (by omega) hB3.size ?_; intro v4 w4 hown4 hb4)
      rw [← HJ.out] at hown4
      go_roundw
      case rel => exact ⟨n + 1, by omega, by go_num, hown4, hB3.trans hb4⟩
      case measure => simp [intOf]; omega
    · have hn8 : n = 16 := by omega
      subst hn8
      clear hf hD
      obtain ⟨t, ht⟩ : ∃ t : ByteArray, t = ⟨(joined D 16).toArray⟩ := ⟨_, rfl⟩
      have hts : t.size = 512 := by rw [ht, mk_size, hjl]
      have htl : t.data.toList = joined D 16 := by rw [ht]
      have HT : Hid (t = ⟨(joined D 16).toArray⟩) := ht
      have HL : Hid (t.data.toList = joined D 16) := htl
      clear ht htl hjl
      go_wp2_with (first
        | ((with_reducible refine wpList_at ?_); refine wpList_said (by rfl) (.tmp 20) (by rfl) w.heap.size _ _ (by rfl) hown ?_; rw [← HT.out])
        | (go_at_call 74; refine (myshort_any t (by omega) _).mono ?_; rintro e w1 ⟨x, hx, rfl, hb1⟩))
      go_ret
      exact ⟨x, by rw [hx, HL.out], rfl, below_then hb hb1⟩

theorem joined_parts (seed : List UInt8) (key n : Nat) : joined (fun i b => short (valueOf seed key i b)) n = parts seed key n := by
  induction n with
  | zero => rfl
  | succ n ih => rw [joined, parts, ih]

set_option maxHeartbeats 400000 in
theorem sign_out (s m : ByteArray) (k : Int) (h : k < 0 ∨ 255 < k) (w : World) :
    Calls Try.prog 63 #[.string s, .int .i64 k, .string m] w fun e w' => e = .returned (.string ⟨#[]⟩) ∧ w' = w := by
  have hk := iskey_out k h
  clear h
  go_enter Try.func63, Try.ntmps63
  go_wp2_with (go_at_call 89; refine (hk _).mono ?_; rintro e w0 ⟨rfl, hw0⟩; subst w0)
  go_ret
  trivial

set_option maxRecDepth 10000 in
set_option maxHeartbeats 1000000 in
theorem sign_any (s m : ByteArray) (k : Nat) (hs : s.size ≤ 1000000) (hm : m.size ≤ 1000000) (hk : k ≤ 255) (w : World) :
    Calls Try.prog 63 #[.string s, .int .i64 k, .string m] w fun e w' => ∃ x : ByteArray, x.data.toList = signOf s.data.toList k m.data.toList ∧ e = .returned (.string x) ∧ Below w.heap.size w w' := by
  go_enter Try.func63, Try.ntmps63
  go_wp2_with (first
    | (go_at_call 89; refine (iskey_in k (by omega) (by omega) _).mono ?_; rintro e w0 ⟨rfl, hw0⟩; subst w0)
    | (go_at_call 71; refine (bitsOf_any m hm _).mono ?_; rintro e w0 ⟨E, d, hd, rfl, hc0, hE0, hb0⟩; have hd1 : d.size = 32 := size_of d _ _ hd (digest_length _); have HD : Hid (d.data.toList = digest m.data.toList) := hd; clear hd)
    | (at_make; refine wpList_buf (by rfl) _ _ (by rfl) w0.heap.size _ 512 (by rfl) (by rfl) (by rfl) (by omega) (Nat.le_refl _) ?_; intro v1 w1 hown1 hb1))
  have hc1 : w1.cell? ⟨E, 0, none⟩ = some (.string d) := by rw [hb1.cell hE0]; exact hc0
  clear hc0
  go_loopw [8, 17] (fun v i wr => ∃ n : Nat, n ≤ 16 ∧ i = .int .i64 n ∧ Own wr w0.heap.size v (shown s.data.toList k d.data.toList n) ∧ Below w0.heap.size w0 wr ∧ wr.cell? ⟨E, 0, none⟩ = some (.string d)) (fun _ i _ => 16 - (intOf i).toNat)
  case atStart => exact ⟨0, by omega, rfl, hown1, hb1, hc1⟩
  case round =>
    clear hown1 hb1 hc1
    obtain ⟨n, hn, rfl, hown, hb, hc⟩ := hrel
    have hjl := shown_length s.data.toList k d.data.toList n
    by_cases hlt : n < 16
    · have n1 : (n : Int) < 16 := by omega
      obtain ⟨b, hbd⟩ : ∃ b, b = bitOf d.data.toList n := ⟨_, rfl⟩
      have hb2 : b < 2 := hbd ▸ bitOf_lt _ _
      have HBt := bitfn_any d n E hd1 hlt wr hc
      rw [← hbd] at HBt
      have HJ : Hid (shown s.data.toList k d.data.toList n ++ valueOf s.data.toList k n b ++ short (valueOf s.data.toList k n (1 - b)) = shown s.data.toList k d.data.toList (n + 1)) := by
        rw [hbd]; exact (rfl : _ = _)
      clear hbd
      have HC : Hid ((1 : Int) - (b : Int) = ((1 - b : Nat) : Int)) := (by omega : (1 : Int) - (b : Int) = ((1 - b : Nat) : Int))
      have b1 : (b : Int) ≤ 1 := by omega
      have b0 : (0 : Int) ≤ (b : Int) := by omega
      generalize shown s.data.toList k d.data.toList n = L at HJ hown hjl
      go_wp2_with (go_at_call 100; refine HBt.mono ?_; rintro e w1 ⟨rfl, hw1⟩; subst w1)
      refine (value_any s k n b hs hk hlt (by omega) _).mono ?_
      rintro e w2 ⟨x0, hx0, rfl, hb2⟩
      have z0 := size_of x0 _ _ hx0 (valueOf_length _ _ _ _)
      have hB2 := below_then hb hb2
      rw [← hx0] at HJ
      clear hx0
      go_wp2_with (at_builtin; refine wpList_text (by rfl) (.tmp 23) (.tmp 28) (by rfl) w0.heap.size _ L (by rfl) (hown.below hb2) x0 (by rfl) (by omega) hB2.size ?_; intro v3 w3 hown3 hb3)
      have hB3 := hB2.trans hb3
      rw [HC.out]
      refine (value_any s k n (1 - b) hs hk hlt (by omega) _).mono ?_
      rintro e w4 ⟨x1, hx1, rfl, hb4⟩
      have z1 := size_of x1 _ _ hx1 (valueOf_length _ _ _ _)
      have hB4 := below_then hB3 hb4
      rw [← hx1] at HJ
      clear hx1
      go_wp2_with fail
      refine (myshort_any x1 (by omega) _).mono ?_
      rintro e w5 ⟨x2, hx2, rfl, hb5⟩
      have z2 := size_of x2 _ _ hx2 (short_length _)
      have hB5 := below_then hB4 hb5
      have hl2 : (L ++ x0.data.toList).length = 32 * n + 16 := by rw [List.length_append, len_list]; omega
      rw [← hx2] at HJ
      clear hx2
      go_wp2_with (at_builtin; refine wpList_text (by rfl) (.tmp 30) (.tmp 37) (by rfl) w0.heap.size _ _ (by rfl) ((hown3.below hb4).below hb5) x2 (by rfl) (by omega) hB5.size ?_; intro v6 w6 hown6 hb6)
      rw [HJ.out] at hown6
      have hB6 := hB5.trans hb6
      go_roundw
      case rel => exact ⟨n + 1, by omega, by go_num, hown6, hB6, by rw [hB6.cell hE0, ← hb.cell hE0]; exact hc⟩
      case measure => simp [intOf]; omega
    · have hn8 : n = 16 := by omega
      subst hn8
      rw [HD.out] at hown
      clear hjl
      go_wp2_with ((with_reducible refine wpList_at ?_); refine wpList_said (by rfl) (.tmp 40) (by rfl) w0.heap.size _ _ (by rfl) hown ?_)
      go_ret
      exact ⟨_, by simp [signOf], rfl, below_then hb0 hb⟩


end Go.Proofs.Ythoimecljfcjmaa
