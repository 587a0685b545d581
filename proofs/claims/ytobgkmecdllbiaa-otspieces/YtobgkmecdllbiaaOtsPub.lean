/-
  The document's Public and Sign.
-/
import Derived.Test.YtobgkmecdllbiaaOtsRef
namespace Go.Proofs.Ytobgkmecdllbiaa
open Go.RowKit
attribute [local go_sem ↓] Go.wp_at_zero Go.wp_at_succ

theorem size_of (x : ByteArray) (l : List UInt8) (n : Nat) (h : x.data.toList = l) (hn : l.length = n) : x.size = n := by rw [← len_list, h, hn]
theorem below_then {w a b : World} (h : Below w.heap.size w a) (k : Below a.heap.size a b) : Below w.heap.size w b := h.trans (k.mono h.size)
theorem parts_length (seed : List UInt8) (key n : Nat) : (parts seed key n).length = 32 * n := by
  induction n with
  | zero => rfl
  | succ n ih => rw [parts, List.length_append, List.length_append, ih, short_length, short_length]; omega

set_option maxRecDepth 10000 in
set_option maxHeartbeats 1000000 in
theorem refpublic_any (s : ByteArray) (k : Nat) (hs : s.size ≤ 1000000) (hk : k ≤ 255) (w : World) :
    Calls Try.prog 12 #[.string s, .int .i64 k] w fun e w' => ∃ x : ByteArray, x.data.toList = publicOf s.data.toList k ∧ e = .returned (.string x) ∧ Below w.heap.size w w' := by
  have hkk : (k : Int) ≤ 255 := by omega
  have hk0 : (0 : Int) ≤ (k : Int) := by omega
  go_enter Try.func12, Try.ntmps12
  go_wp2
  go_loopw [5, 6] (fun v i wr => ∃ (n : Nat) (x : ByteArray), n ≤ 16 ∧ i = .int .i64 n ∧ v = .string x ∧ x.data.toList = parts s.data.toList k n ∧ Below w.heap.size w wr) (fun _ i _ => 16 - (intOf i).toNat)
  case atStart => exact ⟨0, ⟨#[]⟩, by omega, rfl, rfl, rfl, Below.refl _ _⟩
  case round =>
    obtain ⟨n, x, hn, rfl, rfl, hx, hb⟩ := hrel
    have hxs := size_of x _ _ hx (parts_length _ _ _)
    by_cases hlt : n < 16
    · have n1 : (n : Int) < 16 := by omega
      have HX : Hid (x.data.toList = parts s.data.toList k n) := hx
      clear hx
      go_wp2_with (go_at_call 10; refine (refvalue_any s k n 0 hs hk hlt (by omega) _).mono ?_; rintro e w1 ⟨v0, hv0, rfl, hb1⟩)
      go_at_call 21
      refine (refshort_any v0 (by rw [size_of v0 _ _ hv0 (valueOf_length _ _ _ _)]; omega) _).mono ?_
      rintro e w2 ⟨h0, hh0, rfl, hb2⟩
      have z0 := size_of h0 _ _ hh0 (short_length _)
      have y0 : (x.size : Int) + (h0.size : Int) ≤ 1000003 := by omega
      have y1 : (x ++ h0).size = 32 * n + 16 := by rw [ByteArray.size_append]; omega
      rw [hv0] at hh0
      have HH0 : Hid (h0.data.toList = short (valueOf s.data.toList k n 0)) := hh0
      clear hh0 hv0
      go_wp2_with (go_at_call 10; refine (refvalue_any s k n 1 hs hk hlt (by omega) _).mono ?_; rintro e w3 ⟨v1, hv1, rfl, hb3⟩)
      go_at_call 21
      refine (refshort_any v1 (by rw [size_of v1 _ _ hv1 (valueOf_length _ _ _ _)]; omega) _).mono ?_
      rintro e w4 ⟨h1, hh1, rfl, hb4⟩
      have z1 := size_of h1 _ _ hh1 (short_length _)
      have y2 : ((x ++ h0).size : Int) + (h1.size : Int) ≤ 1000003 := by omega
      rw [hv1] at hh1
      have HH1 : Hid (h1.data.toList = short (valueOf s.data.toList k n 1)) := hh1
      clear hh1 hv1
      go_wp2
      go_roundw
      case rel =>
        refine ⟨n + 1, x ++ h0 ++ h1, by omega, by go_num, rfl, ?_, below_then (below_then (below_then (below_then hb hb1) hb2) hb3) hb4⟩
        rw [add_list, add_list, HX.out, HH0.out, HH1.out]; rfl
      case measure => simp [intOf]; omega
    · have hn8 : n = 16 := by omega
      subst hn8
      have HX : Hid (x.data.toList = parts s.data.toList k 16) := hx
      clear hx
      go_wp2_with (go_at_call 21; refine (refshort_any x (by omega) _).mono ?_; rintro e w1 ⟨v0, hv0, rfl, hb1⟩)
      go_ret
      exact ⟨v0, by rw [hv0, HX.out]; rfl, rfl, hb.trans (hb1.mono hb.size)⟩

set_option maxRecDepth 10000 in
set_option maxHeartbeats 1000000 in
theorem refsign_any (s m : ByteArray) (k : Nat) (hs : s.size ≤ 1000000) (hm : m.size ≤ 1000000) (hk : k ≤ 255) (w : World) :
    Calls Try.prog 14 #[.string s, .int .i64 k, .string m] w fun e w' => ∃ x : ByteArray, x.data.toList = signOf s.data.toList k m.data.toList ∧ e = .returned (.string x) ∧ Below w.heap.size w w' := by
  have hkk : (k : Int) ≤ 255 := by omega
  have hk0 : (0 : Int) ≤ (k : Int) := by omega
  obtain ⟨d, hd⟩ : ∃ d : ByteArray, d = ⟨(digest m.data.toList).toArray⟩ := ⟨_, rfl⟩
  have hd1 : d.size = 32 := by rw [hd, mk_size, digest_length]
  have hd2 : d.data.toList = digest m.data.toList := by rw [hd]
  have HS := refsum_any m (by omega) w
  rw [← hd] at HS
  have HD : Hid (d.data.toList = digest m.data.toList) := hd2
  clear hd hd2
  go_enter Try.func14, Try.ntmps14
  go_wp2_with (go_at_call 25; refine HS.mono ?_; rintro e w0 ⟨rfl, hb0⟩)
  go_wp2
  go_loopw [8, 9, 10] (fun v i _ wr => ∃ (n : Nat) (x : ByteArray), n ≤ 16 ∧ i = .int .i64 n ∧ v = .string x ∧ x.data.toList = shown s.data.toList k d.data.toList n ∧ Below w.heap.size w wr) (fun _ i _ _ => 16 - (intOf i).toNat)
  case atStart => exact ⟨0, ⟨#[]⟩, by omega, rfl, rfl, rfl, hb0⟩
  case round =>
    obtain ⟨n, x, hn, rfl, rfl, hx, hb⟩ := hrel
    have hxs := size_of x _ _ hx (shown_length _ _ _ _)
    by_cases hlt : n < 16
    · have n1 : (n : Int) < 16 := by omega
      have HX : Hid (x.data.toList = shown s.data.toList k d.data.toList n) := hx
      clear hx
      obtain ⟨b, hbd⟩ : ∃ b, b = bitOf d.data.toList n := ⟨_, rfl⟩
      have hb2 : b < 2 := hbd ▸ bitOf_lt _ _
      have HBt := refbit_any d n hd1 hlt wr
      rw [← hbd] at HBt
      have HBD : Hid (b = bitOf d.data.toList n) := hbd
      clear hbd
      have HC : Hid ((1 : Int) - (b : Int) = ((1 - b : Nat) : Int)) := (by omega : (1 : Int) - (b : Int) = ((1 - b : Nat) : Int))
      have b1 : (b : Int) ≤ 1 := by omega
      have b0 : (0 : Int) ≤ (b : Int) := by omega
      go_wp2_with (go_at_call 26; refine HBt.mono ?_; rintro e w1 ⟨rfl, rfl⟩)
      refine (refvalue_any s k n b hs hk hlt (by omega) _).mono ?_
      rintro e w2 ⟨v0, hv0, rfl, hc2⟩
      have z0 := size_of v0 _ _ hv0 (valueOf_length _ _ _ _)
      have y0 : (x.size : Int) + (v0.size : Int) ≤ 1000003 := by omega
      have y1 : (x ++ v0).size = 32 * n + 16 := by rw [ByteArray.size_append]; omega
      have HV0 : Hid (v0.data.toList = valueOf s.data.toList k n b) := hv0
      clear hv0
      go_wp2_with fail
      rw [HC.out]
      refine (refvalue_any s k n (1 - b) hs hk hlt (by omega) _).mono ?_
      rintro e w3 ⟨v1, hv1, rfl, hc3⟩
      go_wp2_with fail
      refine (refshort_any v1 (by rw [size_of v1 _ _ hv1 (valueOf_length _ _ _ _)]; omega) _).mono ?_
      rintro e w4 ⟨h1, hh1, rfl, hc4⟩
      have z1 := size_of h1 _ _ hh1 (short_length _)
      have y2 : ((x ++ v0).size : Int) + (h1.size : Int) ≤ 1000003 := by omega
      rw [hv1] at hh1
      have HH1 : Hid (h1.data.toList = short (valueOf s.data.toList k n (1 - b))) := hh1
      clear hh1 hv1
      go_wp2
      go_roundw
      case rel =>
        refine ⟨n + 1, x ++ v0 ++ h1, by omega, by go_num, rfl, ?_, below_then (below_then (below_then hb hc2) hc3) hc4⟩
        rw [add_list, add_list, HX.out, HV0.out, HH1.out, HBD.out]; rfl
      case measure => simp [intOf]; omega
    · have hn8 : n = 16 := by omega
      subst hn8
      rw [HD.out] at hx
      go_wp2
      go_ret
      exact ⟨x, hx, rfl, hb⟩

end Go.Proofs.Ytobgkmecdllbiaa
