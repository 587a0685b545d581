/-
  The walk of ShaTexts.
-/
import Derived.Test.YtnnnhdacknecoaaAwake
import Derived.Deep.RegionHeld3
import Derived.Deep.DrawnRows
namespace Go.Proofs.Ytnnnhdacknecoaa
open Go.RowKit
attribute [local go_sem ↓] Go.wp_at_zero Go.wp_at_succ

/-- What was read of a byte's digits, k of them. -/
def seen (b k : Nat) : Nat := if k = 0 then 0 else if k = 1 then b / 16 else b
def nib (b k : Nat) : Nat := if k = 0 then b / 16 else b % 16
theorem digit_low (x : Nat) (h : x < 10) : ((digit x).toNat : Int) = 48 + (x : Int) := by
  have : x = 0 ∨ x = 1 ∨ x = 2 ∨ x = 3 ∨ x = 4 ∨ x = 5 ∨ x = 6 ∨ x = 7 ∨ x = 8 ∨ x = 9 := by omega
  rcases this with rfl | rfl | rfl | rfl | rfl | rfl | rfl | rfl | rfl | rfl <;> rfl
theorem digit_high (x : Nat) (h : 10 ≤ x) (h2 : x < 16) : ((digit x).toNat : Int) = 87 + (x : Int) := by
  have : x = 10 ∨ x = 11 ∨ x = 12 ∨ x = 13 ∨ x = 14 ∨ x = 15 := by omega
  rcases this with rfl | rfl | rfl | rfl | rfl | rfl <;> rfl
theorem hexOf_get (l : List UInt8) (i k : Nat) (hi : i < l.length) (hk : k < 2) : (hexOf l).getD (2 * i + k) 0 = digit (nib (l.getD i 0).toNat k) := by
  induction l generalizing i with
  | nil => simp at hi
  | cons b l ih =>
    cases i with
    | zero =>
      have : k = 0 ∨ k = 1 := by omega
      rcases this with rfl | rfl <;> rfl
    | succ i =>
      have := ih i (by simpa using hi)
      rw [show 2 * (i + 1) + k = (2 * i + k) + 2 by omega]
      simpa [hexOf, two] using this
theorem hex_at (s h : ByteArray) (hh : h.data.toList = hexOf s.data.toList) (i k : Nat) (hi : i < s.size) (hk : k < 2) (hb : 2 * i + k < h.size) :
    h[2 * i + k] = digit (nib s[i].toNat k) := by
  rw [byte_get h _ hb, hh, hexOf_get _ _ _ (by simpa using hi) hk, byte_get s i hi]

theorem letters_text (s : ByteArray) (hs : s.size ≤ 1000) : ∃ h d sh : ByteArray, (∀ w, Calls Try.prog 13 #[.string s] w fun e w' => e = .returned (.string h) ∧ Below w.heap.size w w')
    ∧ (∀ w, Calls Try.prog 10 #[.string s] w fun e w' => e = .returned (.string d) ∧ Below w.heap.size w w')
    ∧ (∀ w, Calls Try.prog 12 #[.string s] w fun e w' => e = .returned (.string sh) ∧ Below w.heap.size w w')
    ∧ h.size = 2 * s.size ∧ d.size = 32 ∧ d.extract 0 16 = sh ∧ h.data.toList = hexOf s.data.toList := by
  refine ⟨⟨(hexOf s.data.toList).toArray⟩, ⟨(digest s.data.toList).toArray⟩, ⟨((digest s.data.toList).take 16).toArray⟩, hex_any s (by omega), sum_any s (by omega), short_any s (by omega), ?_, ?_, ?_, rfl⟩
  · show (hexOf s.data.toList).toArray.size = _
    rw [List.size_toArray, hexOf_length]; simp
  · show (digest s.data.toList).toArray.size = _
    rw [List.size_toArray, digest_length]
  · apply ByteArray.ext; rw [ByteArray.data_extract]; simp

set_option maxRecDepth 10000 in
set_option maxHeartbeats 1000000 in
theorem texts_any (s : ByteArray) (hs : s.size ≤ maxLen) (w : World) : Calls Try.prog 6 #[.string s] w fun e w' => e = .returned (.bool true) ∧ Below w.heap.size w w' := by
  unfold maxLen at hs
  by_cases hbig : 1000 < s.size
  · have hbig' : (1000 : Int) < (s.size : Int) := by omega
    go_enter Try.func6, Try.ntmps6
    go_wp2_with (go_at_call 9; refine (awake_any _).mono ?_; rintro e w1 ⟨rfl, hb1⟩)
    go_ret
    exact ⟨rfl, hb1⟩
  · obtain ⟨h, d, sh, HX, HS, HH, zh, zd, ed, hex⟩ := letters_text s (by omega)
    have hsm : ¬ (1000 : Int) < (s.size : Int) := by omega
    have HEX : Hid (h.data.toList = hexOf s.data.toList) := hex
    have ZH : Hid (h.size = 2 * s.size) := zh
    have zh' : (h.size : Int) = 2 * (s.size : Int) := by omega
    have zd' : (d.size : Int) = 32 := by omega
    have z16 : (16 : Int) ≤ (d.size : Int) := by omega
    have wz : IntKind.i64.wrap (2 * (s.size : Int)) = 2 * (s.size : Int) := IntWalk.i64_in _ (by omega)
    clear hex zh
    go_enter Try.func6, Try.ntmps6
    go_wp2_with (first | (go_at_call 13; refine (HX _).mono ?_; rintro e w1 ⟨rfl, hb1⟩) | (go_at_call 10; refine (HS _).mono ?_; rintro e w2 ⟨rfl, hb2⟩))
    go_region_held3 (fun _ => True) (trivial) (first | (go_at_call 10; refine (HS _).mono ?_; rintro e w3 ⟨rfl, hb3⟩) | (go_at_call 12; refine (HH _).mono ?_; rintro e w4 ⟨rfl, hb4⟩))
    have hB : Below w.heap.size w w4 := by
      have z1 := hb1.size
      have z2 := hb2.size
      have z3 : w2.heap.size ≤ w3.heap.size := hb3.size
      exact ((hb1.trans (hb2.mono z1)).drew.trans (hb3.mono (Nat.le_trans z1 z2))).trans (hb4.mono (by omega))
    clear hb1 hb2 hb3 hb4 zd ed zd' z16 HX HS HH
    go_wp2
    go_loop [5] (fun i => ∃ k : Nat, k ≤ s.size ∧ i = .int .i64 k) (fun i => s.size - (intOf i).toNat)
    case atStart => exact ⟨0, by omega, rfl⟩
    case round =>
      obtain ⟨i, hi, rfl⟩ := hrel
      by_cases hlt : i < s.size
      · have i0 : (0 : Int) ≤ (i : Int) := by omega
        have i1 : (i : Int) < (s.size : Int) := by omega
        have hn := s[i].toNat_lt
        go_wp2
        go_loop [6, 7] (fun v k => ∃ n : Nat, n ≤ 2 ∧ k = .int .i64 n ∧ v = .int .i64 (seen s[i].toNat n)) (fun _ k => 2 - (intOf k).toNat)
        case atStart => exact ⟨0, by omega, rfl, rfl⟩
        case round =>
          obtain ⟨n, hn2, rfl, rfl⟩ := hrel
          by_cases hl2 : n < 2
          · have hb : 2 * i + n < h.size := by rw [ZH.out]; omega
            have hc := hex_at s h HEX.out i n hlt hl2 hb
            have b0 : (0 : Int) ≤ 2 * (i : Int) + (n : Int) := by omega
            have b1 : 2 * (i : Int) + (n : Int) < 2 * (s.size : Int) := by omega
            have hx : nib s[i].toNat n < 16 := by unfold nib; split <;> omega
            have hv : seen s[i].toNat n ≤ 15 := by unfold seen; split <;> (try split) <;> omega
            have hs' : Hid (16 * seen s[i].toNat n + nib s[i].toNat n = seen s[i].toNat (n + 1)) := by
              have : n = 0 ∨ n = 1 := by omega
              rcases this with rfl | rfl
              · exact (show _ = _ by simp [seen, nib])
              · exact (show _ = _ by simp [seen, nib]; omega)
            by_cases hd : nib s[i].toNat n < 10
            · have hv2 : (h[2 * i + n].toNat : Int) = 48 + (nib s[i].toNat n : Int) := by rw [hc, digit_low _ hd]
              clear hc
              go_wp2
              go_round
              case rel => exact ⟨n + 1, by omega, by go_num, by rw [← hs'.out]; go_num⟩
              case measure => simp [intOf]; omega
            · have hv2 : (h[2 * i + n].toNat : Int) = 87 + (nib s[i].toNat n : Int) := by rw [hc, digit_high _ (by omega) hx]
              clear hc
              go_wp2
              go_round
              case rel => exact ⟨n + 1, by omega, by go_num, by rw [← hs'.out]; go_num⟩
              case measure => simp [intOf]; omega
          · have hse : seen s[i].toNat n = s[i].toNat := by unfold seen; rw [if_neg (by omega), if_neg (by omega)]
            rw [hse]
            clear hse
            go_wp2
            go_round
            case rel => exact ⟨i + 1, by omega, by go_num⟩
            case measure => simp [intOf]; omega
      · go_wp2_with (go_at_call 9; refine (awake_any _).mono ?_; rintro e w5 ⟨rfl, hb5⟩)
        go_ret
        exact ⟨rfl, hB.trans (hb5.mono hB.size)⟩

end Go.Proofs.Ytnnnhdacknecoaa
