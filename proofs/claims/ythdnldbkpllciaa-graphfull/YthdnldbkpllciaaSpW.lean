/-
  The program's writeList at numbers and texts.
-/
import Derived.Test.YthdnldbkpllciaaBld
import Derived.Test.YthdnldbkpllciaaZ13
import Derived.Test.YthdnldbkpllciaaZ07
import Derived.Deep.RegionHeld3
import Derived.Deep.CutBlock
import Derived.Deep.CutRange
import Derived.Handy
namespace Go.Proofs.Ythdnldbkpllciaa
open Go.RowKit

theorem cnum_ex (v : Int) : ∃ y : ByteArray, y.data.toList = num8 v ∧ y.size = 8 ∧ ∀ w, Calls Try.prog 61 #[.int .i64 v] w fun e w' => e = .returned (.string y) ∧ Below w.heap.size w w' :=
  ⟨⟨(num8 v).toArray⟩, rfl, by rw [mk_size, num8_length], num_any v⟩
theorem ctext_ex (t : ByteArray) (h : t.size ≤ 1099511627776) : ∃ y : ByteArray, y.data.toList = text8 t.data.toList ∧ y.size = 8 + t.size ∧ ∀ w, Calls Try.prog 55 #[.string t] w fun e w' => e = .returned (.string y) ∧ Below w.heap.size w w' :=
  ⟨⟨(text8 t.data.toList).toArray⟩, rfl, by rw [mk_size, text8_length, len_list], text_any t h⟩
def txt8 (t : ByteArray) : List UInt8 := text8 t.data.toList

set_option maxRecDepth 10000 in
set_option maxHeartbeats 2000000 in
theorem wlist_int {w : World} {a : Option Addr} {c : Nat} {l : List Int} (h : Ints w a l.length l) (hl : l.length ≤ 1000) (hm : ∀ j, j < l.length → l.getD j 0 ≤ l.getD j 0) :
    Calls Try.prog 60 #[.slice a l.length c, .func (.func 61) #[] #[]] w fun e w' => e = .returned (.string ⟨(num8 (l.length : Int) ++ l.flatMap num8).toArray⟩) ∧ Below w.heap.size w w' := by
  have HL := hide h
  have HM := hide hm
  clear h hm
  obtain ⟨y0, hy0, hz0, HN⟩ := cnum_ex (l.length : Int)
  have HY0 := hide hy0
  replace HN := hide HN
  clear hy0
  have hb1 := (Below.refl w.heap.size w).alloc (Nat.le_refl _) (Obj.cells #[.pointer none, .slice none 0 0] 90)
  have hl1 := bld_fresh w
  have hs1 : (w.alloc (Obj.cells #[.pointer none, .slice none 0 0] 90)).heap.size = w.heap.size + 1 := by simp
  replace hb1 := hide hb1
  replace hl1 := hide hl1
  go_enter Try.func60, Try.ntmps60
  go_upto_region 2 with fail
  generalize w.alloc (Obj.cells #[.pointer none, .slice none 0 0] 90) = w1 at hb1 hl1 hs1 ⊢
  obtain ⟨b, hb⟩ : ∃ b, w.heap.size = b := ⟨_, rfl⟩
  rw [hb] at hl1 hb1 hs1 ⊢
  go_wp2_with fail
  refine (HN.out w1).mono ?_
  rintro e w2 ⟨rfl, hb2⟩
  have hl2 := hide (hl1.out.below hb2)
  have hB2 := hide (hb1.out.trans (hb2.mono (by omega)))
  have hs2 := hb2.size
  clear HN hl1 hb1 hb2
  go_wp2_with fail
  refine (bwrite_any y0 hl2.out (by rw [hz0]; simp) (by omega)).mono ?_
  rintro e w3 ⟨rfl, hl3, hb3⟩
  rw [List.nil_append, HY0.out] at hl3
  have hB3 := hide (hB2.out.trans hb3)
  replace hl3 := hide hl3
  clear hl2 hB2 hb3 HY0
  go_wp2
  go_loopw [14] (fun i wr => ∃ j : Nat, j ≤ l.length ∧ i = .int .i64 j ∧ Hid (Bld wr b b (num8 (l.length : Int) ++ (l.take j).flatMap num8)) ∧ Hid (Below b w wr)) (fun i _ => l.length - (intOf i).toNat)
  case atStart => exact ⟨0, by omega, rfl, by show Bld _ _ _ _; simpa using hl3.out, hB3⟩
  case round =>
    clear hl3 hB3
    obtain ⟨j, hj, rfl, hl4, hB⟩ := hrel
    have hln : (num8 (l.length : Int) ++ (l.take j).flatMap num8).length ≤ 8 + 10000 * l.length := by
      rw [List.length_append, num8_length]
      have h1 := flat_le num8 (l.take j) 10000 (fun x hx => by
        obtain ⟨i, hi, e⟩ := List.getElem_of_mem hx
        rw [List.length_take] at hi
        have h2 := HM.out i (by omega)
        rw [List.getElem_take] at e
        rw [List.getD_eq_getElem?_getD, List.getElem?_eq_getElem (by omega), Option.getD_some, e] at h2
        rw [num8_length]; omega)
      rw [List.length_take] at h1
      have : 10000 * min j l.length ≤ 10000 * l.length := Nat.mul_le_mul_left _ (by omega)
      omega
    have HLN := hide hln
    clear hln
    have hw0 : b ≤ wr.heap.size := Nat.le_of_lt hl4.out.lt
    have hBw := hide (show Below w.heap.size w wr by rw [hb]; exact hB.out)
    by_cases hlt : j < l.length
    · have j1 : (j : Int) < (l.length : Int) := by omega
      obtain ⟨ba, oa, rfl, d⟩ := HL.out.at hBw.out j hlt
      obtain ⟨P, hP⟩ : ∃ P, l.getD j 0 = P := ⟨_, rfl⟩
      have hm9 := HM.out j hlt
      rw [hP] at d hm9
      have HP := hide hP
      clear hP
      obtain ⟨y, hy, hz, HG⟩ := cnum_ex P
      have HY : Hid (y.data.toList = num8 P) := hy
      replace HG := hide HG
      have hm9' := hide hm9
      clear hy hm9
      go_wp2_with fail
      refine (HG.out wr).mono ?_
      rintro e w5 ⟨rfl, hb5⟩
      have hl5 := hide (hl4.out.below hb5)
      have hB5 := hide (hB.out.trans (hb5.mono hw0))
      have hs5 : b ≤ w5.heap.size := Nat.le_trans hw0 hb5.size
      clear HG hl4 hB hb5 hBw
      go_wp2_with fail
      refine (bwrite_any y hl5.out (by have := HLN.out;  omega) hs5).mono ?_
      rintro e w6 ⟨rfl, hl6, hb6⟩
      rw [List.append_assoc, HY.out, ← HP.out, ← take_flat num8 l 0 j hlt] at hl6
      have hB6 := hide (hB5.out.trans hb6)
      replace hl6 := hide hl6
      clear hl5 hB5 hb6
      go_wp2
      go_roundw
      case rel => exact ⟨j + 1, by omega, by go_num, hl6, hB6⟩
      case measure => simp [intOf]; omega
    · have j1 : ¬ (j : Int) < (l.length : Int) := by omega
      have he : (l.take j) = l := List.take_of_length_le (by omega)
      rw [he] at hl4 HLN
      go_wp2_with fail
      refine (bstring_any hl4.out (fun e => by have := congrArg List.length e; rw [List.length_append, num8_length] at this; simp at this) (by have := HLN.out; omega)).mono ?_
      rintro e w6 ⟨rfl, hb6⟩
      have hB6 := hide (hB.out.trans hb6)
      clear hl4 hB hb6
      go_wp2
      go_ret
      exact ⟨rfl, by rw [hb]; exact hB6.out⟩

set_option maxRecDepth 10000 in
set_option maxHeartbeats 2000000 in
theorem wlist_str {w : World} {a : Option Addr} {c : Nat} {l : List ByteArray} (h : Strs w a l.length l) (hl : l.length ≤ 1000) (hm : ∀ j, j < l.length → (l.getD j ByteArray.empty).size ≤ 1000) :
    Calls Try.prog 62 #[.slice a l.length c, .func (.func 55) #[] #[]] w fun e w' => e = .returned (.string ⟨(num8 (l.length : Int) ++ l.flatMap txt8).toArray⟩) ∧ Below w.heap.size w w' := by
  have HL := hide h
  have HM := hide hm
  clear h hm
  obtain ⟨y0, hy0, hz0, HN⟩ := cnum_ex (l.length : Int)
  have HY0 := hide hy0
  replace HN := hide HN
  clear hy0
  have hb1 := (Below.refl w.heap.size w).alloc (Nat.le_refl _) (Obj.cells #[.pointer none, .slice none 0 0] 90)
  have hl1 := bld_fresh w
  have hs1 : (w.alloc (Obj.cells #[.pointer none, .slice none 0 0] 90)).heap.size = w.heap.size + 1 := by simp
  replace hb1 := hide hb1
  replace hl1 := hide hl1
  go_enter Try.func62, Try.ntmps62
  go_upto_region 2 with fail
  generalize w.alloc (Obj.cells #[.pointer none, .slice none 0 0] 90) = w1 at hb1 hl1 hs1 ⊢
  obtain ⟨b, hb⟩ : ∃ b, w.heap.size = b := ⟨_, rfl⟩
  rw [hb] at hl1 hb1 hs1 ⊢
  go_wp2_with fail
  refine (HN.out w1).mono ?_
  rintro e w2 ⟨rfl, hb2⟩
  have hl2 := hide (hl1.out.below hb2)
  have hB2 := hide (hb1.out.trans (hb2.mono (by omega)))
  have hs2 := hb2.size
  clear HN hl1 hb1 hb2
  go_wp2_with fail
  refine (bwrite_any y0 hl2.out (by rw [hz0]; simp) (by omega)).mono ?_
  rintro e w3 ⟨rfl, hl3, hb3⟩
  rw [List.nil_append, HY0.out] at hl3
  have hB3 := hide (hB2.out.trans hb3)
  replace hl3 := hide hl3
  clear hl2 hB2 hb3 HY0
  go_wp2
  go_loopw [14] (fun i wr => ∃ j : Nat, j ≤ l.length ∧ i = .int .i64 j ∧ Hid (Bld wr b b (num8 (l.length : Int) ++ (l.take j).flatMap txt8)) ∧ Hid (Below b w wr)) (fun i _ => l.length - (intOf i).toNat)
  case atStart => exact ⟨0, by omega, rfl, by show Bld _ _ _ _; simpa using hl3.out, hB3⟩
  case round =>
    clear hl3 hB3
    obtain ⟨j, hj, rfl, hl4, hB⟩ := hrel
    have hln : (num8 (l.length : Int) ++ (l.take j).flatMap txt8).length ≤ 8 + 10000 * l.length := by
      rw [List.length_append, num8_length]
      have h1 := flat_le txt8 (l.take j) 10000 (fun x hx => by
        obtain ⟨i, hi, e⟩ := List.getElem_of_mem hx
        rw [List.length_take] at hi
        have h2 := HM.out i (by omega)
        rw [List.getElem_take] at e
        rw [List.getD_eq_getElem?_getD, List.getElem?_eq_getElem (by omega), Option.getD_some, e] at h2
        unfold txt8; rw [text8_length, len_list]; omega)
      rw [List.length_take] at h1
      have : 10000 * min j l.length ≤ 10000 * l.length := Nat.mul_le_mul_left _ (by omega)
      omega
    have HLN := hide hln
    clear hln
    have hw0 : b ≤ wr.heap.size := Nat.le_of_lt hl4.out.lt
    have hBw := hide (show Below w.heap.size w wr by rw [hb]; exact hB.out)
    by_cases hlt : j < l.length
    · have j1 : (j : Int) < (l.length : Int) := by omega
      obtain ⟨ba, oa, rfl, d⟩ := HL.out.at hBw.out j hlt
      obtain ⟨P, hP⟩ : ∃ P, l.getD j ByteArray.empty = P := ⟨_, rfl⟩
      have hm9 := HM.out j hlt
      rw [hP] at d hm9
      have HP := hide hP
      clear hP
      obtain ⟨y, hy, hz, HG⟩ := ctext_ex P (by omega)
      have HY : Hid (y.data.toList = txt8 P) := hy
      replace HG := hide HG
      have hm9' := hide hm9
      clear hy hm9
      go_wp2_with fail
      refine (HG.out wr).mono ?_
      rintro e w5 ⟨rfl, hb5⟩
      have hl5 := hide (hl4.out.below hb5)
      have hB5 := hide (hB.out.trans (hb5.mono hw0))
      have hs5 : b ≤ w5.heap.size := Nat.le_trans hw0 hb5.size
      clear HG hl4 hB hb5 hBw
      go_wp2_with fail
      refine (bwrite_any y hl5.out (by have := HLN.out; have := hm9'.out; omega) hs5).mono ?_
      rintro e w6 ⟨rfl, hl6, hb6⟩
      rw [List.append_assoc, HY.out, ← HP.out, ← take_flat txt8 l ByteArray.empty j hlt] at hl6
      have hB6 := hide (hB5.out.trans hb6)
      replace hl6 := hide hl6
      clear hl5 hB5 hb6
      go_wp2
      go_roundw
      case rel => exact ⟨j + 1, by omega, by go_num, hl6, hB6⟩
      case measure => simp [intOf]; omega
    · have j1 : ¬ (j : Int) < (l.length : Int) := by omega
      have he : (l.take j) = l := List.take_of_length_le (by omega)
      rw [he] at hl4 HLN
      go_wp2_with fail
      refine (bstring_any hl4.out (fun e => by have := congrArg List.length e; rw [List.length_append, num8_length] at this; simp at this) (by have := HLN.out; omega)).mono ?_
      rintro e w6 ⟨rfl, hb6⟩
      have hB6 := hide (hB.out.trans hb6)
      clear hl4 hB hb6
      go_wp2
      go_ret
      exact ⟨rfl, by rw [hb]; exact hB6.out⟩

end Go.Proofs.Ythdnldbkpllciaa
