/-
  The document's Same of chapter 4: numbers, texts.
-/
import Derived.Test.YtiepkablapjpmaaSp
import Derived.BigQuiet
import Derived.Deep.QuietTactic
namespace Go.Proofs.Ytiepkablapjpmaa
open Go.RowKit

theorem all_getD {α : Type} (d : α) {l k : List α} (hl : l.length = k.length) (h : ∀ j, j < l.length → l.getD j d = k.getD j d) : l = k := by
  apply List.ext_getElem hl
  intro j h1 h2
  have := h j h1
  rw [List.getD_eq_getElem?_getD, List.getD_eq_getElem?_getD, List.getElem?_eq_getElem h1, List.getElem?_eq_getElem h2] at this
  exact this
theorem neq_list (a b : ByteArray) : (a.toList != b.toList) = !(a.data.toList == b.data.toList) := by
  rw [bne, same_list]
theorem text_same {a b : ByteArray} (h : a = b) : (a.toList == b.toList) = true := by rw [h]; exact beq_self_eq_true _
theorem text_other {a b : ByteArray} (h : a ≠ b) : (a.toList == b.toList) = false := by
  rw [same_list, beq_eq_false_iff_ne]
  exact fun e => h (ByteArray.ext (Array.toList_inj.1 e))
theorem text_nsame {a b : ByteArray} (h : a = b) : (a.toList != b.toList) = false := by rw [bne, text_same h]; rfl
theorem text_nother {a b : ByteArray} (h : a ≠ b) : (a.toList != b.toList) = true := by rw [bne, text_other h]; rfl

set_option maxRecDepth 10000 in
set_option maxHeartbeats 1000000 in
theorem refints_any {w : World} {a b : Option Addr} {c d : Nat} {l k : List Int} (ha : Ints w a l.length l) (hb : Ints w b k.length k) :
    Calls Try.prog 69 #[.slice a l.length c, .slice b k.length d] w fun e w' => e = .returned (.bool (told (l = k))) ∧ Drew w w' := by
  obtain ⟨r, hr⟩ : ∃ r, told (l = k) = r := ⟨_, rfl⟩
  have HR : Hid (told (l = k) = r) := hr
  rw [hr]
  clear hr
  have hl1 := ha.2.1
  have hl2 := hb.2.1
  unfold maxLen at hl1 hl2
  by_cases hne : l.length ≠ k.length
  · have n1 := nat_ne hne
    go_enter Try.func69, Try.ntmps69
    go_wp2
    go_ret
    exact ⟨ret_bool (by rw [← HR.out, told_no (fun h => hne (by rw [h]))]), Drew.refl _⟩
  have hn : l.length = k.length := by omega
  have HN : Hid (l.length = k.length) := hn
  have n1 := nat_same hn
  generalize hln : l.length = n at *
  generalize hkn : k.length = m at *
  have HLN : Hid (l.length = n) := hln
  have HKN : Hid (k.length = m) := hkn
  have HA : Hid (Ints w a n l) := ha
  have HB : Hid (Ints w b m k) := hb
  clear hne hn hln hkn ha hb
  go_enter Try.func69, Try.ntmps69
  go_wp2
  go_loopw [5] (fun i wr => ∃ j : Nat, j ≤ n ∧ i = .int .i64 j ∧ Hid (∀ i, i < j → l.getD i 0 = k.getD i 0) ∧ Drew w wr) (fun i _ => n - (intOf i).toNat)
  case atStart => exact ⟨0, by omega, rfl, fun j hj => absurd hj (by omega), Drew.refl _⟩
  case round =>
    obtain ⟨j, hj, rfl, HO, hst⟩ := hrel
    by_cases hlt : j < n
    · have j1 : (j : Int) < (n : Int) := by omega
      have j2 : (j : Int) < (m : Int) := by have := HN.out; omega
      obtain ⟨b1, o1, rfl, d1⟩ := HA.out.2.2.2 j hlt
      obtain ⟨b2, o2, rfl, d2⟩ := HB.out.2.2.2 j (by omega)
      replace d1 := hst.cell d1
      replace d2 := hst.cell d2
      obtain ⟨x, hx⟩ : ∃ x, l.getD j 0 = x := ⟨_, rfl⟩
      obtain ⟨y, hy⟩ : ∃ y, k.getD j 0 = y := ⟨_, rfl⟩
      rw [hx] at d1
      rw [hy] at d2
      have HX : Hid (l.getD j 0 = x) := hx
      have HY : Hid (k.getD j 0 = y) := hy
      clear hx hy
      by_cases hxy : x = y
      · have t : (x != y) = false := by rw [bne_eq_false_iff_eq]; exact hxy
        have HXY : Hid (x = y) := hxy
        clear hxy
        go_wp2
        go_quiet (fail)
        replace hst := hst.drewN nq
        generalize wr.drewN nq = w3 at hst ⊢
        go_wp2
        go_roundw
        case rel =>
          refine ⟨j + 1, by omega, by go_num, ?_, hst⟩
          intro i hi
          by_cases hij : i = j
          · subst hij; rw [HX.out, HY.out, HXY.out]
          · exact HO.out i (by omega)
        case measure => simp [intOf]; omega
      · have t : (x != y) = true := by rw [bne_iff_ne]; exact hxy
        go_wp2
        go_quiet (fail)
        go_wp2
        go_ret
        exact ⟨ret_bool (by rw [← HR.out, told_no (fun h => hxy (by rw [← HX.out, ← HY.out, h]))]), hst.drewN _⟩
    · have j1 : ¬ (j : Int) < (n : Int) := by omega
      go_wp2
      go_ret
      exact ⟨ret_bool (by rw [← HR.out, told_yes (all_getD 0 (by rw [HLN.out, HKN.out]; exact HN.out) (fun i hi => HO.out i (by rw [HLN.out] at hi; omega)))]), hst⟩

set_option maxRecDepth 10000 in
set_option maxHeartbeats 1000000 in
theorem reftexts_any {w : World} {a b : Option Addr} {c d : Nat} {l k : List ByteArray} (ha : Strs w a l.length l) (hb : Strs w b k.length k) :
    Calls Try.prog 37 #[.slice a l.length c, .slice b k.length d] w fun e w' => e = .returned (.bool (told (l = k))) ∧ Drew w w' := by
  obtain ⟨r, hr⟩ : ∃ r, told (l = k) = r := ⟨_, rfl⟩
  have HR : Hid (told (l = k) = r) := hr
  rw [hr]
  clear hr
  have hl1 := ha.2.1
  have hl2 := hb.2.1
  unfold maxLen at hl1 hl2
  by_cases hne : l.length ≠ k.length
  · have n1 := nat_ne hne
    go_enter Try.func37, Try.ntmps37
    go_wp2
    go_ret
    exact ⟨ret_bool (by rw [← HR.out, told_no (fun h => hne (by rw [h]))]), Drew.refl _⟩
  have hn : l.length = k.length := by omega
  have HN : Hid (l.length = k.length) := hn
  have n1 := nat_same hn
  generalize hln : l.length = n at *
  generalize hkn : k.length = m at *
  have HLN : Hid (l.length = n) := hln
  have HKN : Hid (k.length = m) := hkn
  have HA : Hid (Strs w a n l) := ha
  have HB : Hid (Strs w b m k) := hb
  clear hne hn hln hkn ha hb
  go_enter Try.func37, Try.ntmps37
  go_wp2
  go_loopw [5] (fun i wr => ∃ j : Nat, j ≤ n ∧ i = .int .i64 j ∧ Hid (∀ i, i < j → l.getD i ByteArray.empty = k.getD i ByteArray.empty) ∧ Drew w wr) (fun i _ => n - (intOf i).toNat)
  case atStart => exact ⟨0, by omega, rfl, fun j hj => absurd hj (by omega), Drew.refl _⟩
  case round =>
    obtain ⟨j, hj, rfl, HO, hst⟩ := hrel
    by_cases hlt : j < n
    · have j1 : (j : Int) < (n : Int) := by omega
      have j2 : (j : Int) < (m : Int) := by have := HN.out; omega
      obtain ⟨b1, o1, rfl, d1⟩ := HA.out.2.2.2 j hlt
      obtain ⟨b2, o2, rfl, d2⟩ := HB.out.2.2.2 j (by omega)
      replace d1 := hst.cell d1
      replace d2 := hst.cell d2
      obtain ⟨x, hx⟩ : ∃ x, l.getD j ByteArray.empty = x := ⟨_, rfl⟩
      obtain ⟨y, hy⟩ : ∃ y, k.getD j ByteArray.empty = y := ⟨_, rfl⟩
      rw [hx] at d1
      rw [hy] at d2
      have HX : Hid (l.getD j ByteArray.empty = x) := hx
      have HY : Hid (k.getD j ByteArray.empty = y) := hy
      clear hx hy
      by_cases hxy : x = y
      · have t : (x.toList == y.toList) = true := text_same hxy
        have HXY : Hid (x = y) := hxy
        clear hxy
        go_wp2
        go_quiet (fail)
        replace hst := hst.drewN nq
        generalize wr.drewN nq = w3 at hst ⊢
        go_wp2
        go_roundw
        case rel =>
          refine ⟨j + 1, by omega, by go_num, ?_, hst⟩
          intro i hi
          by_cases hij : i = j
          · subst hij; rw [HX.out, HY.out, HXY.out]
          · exact HO.out i (by omega)
        case measure => simp [intOf]; omega
      · have t : (x.toList == y.toList) = false := text_other hxy
        go_wp2
        go_quiet (fail)
        go_wp2
        go_ret
        exact ⟨ret_bool (by rw [← HR.out, told_no (fun h => hxy (by rw [← HX.out, ← HY.out, h]))]), hst.drewN _⟩
    · have j1 : ¬ (j : Int) < (n : Int) := by omega
      go_wp2
      go_ret
      exact ⟨ret_bool (by rw [← HR.out, told_yes (all_getD ByteArray.empty (by rw [HLN.out, HKN.out]; exact HN.out) (fun i hi => HO.out i (by rw [HLN.out] at hi; omega)))]), hst⟩

end Go.Proofs.Ytiepkablapjpmaa
