/-
  Package codec's Reader: Num, Count, Text.
-/
import Derived.Test.YthdnldbkpllciaaZ07
import Derived.Test.YthdnldbkpllciaaClone
import Derived.Shelf.Abstract
namespace Go.Proofs.Ythdnldbkpllciaa
open Go.RowKit

set_option maxRecDepth 10000 in
set_option maxHeartbeats 1000000 in
theorem number_any {t : TypeId} {w : World} {b : Nat} {s : ByteArray} {bad : Bool} (h : Rd t w b s bad) (hs : 8 ≤ s.size) :
    Calls Try.prog 97 #[.func (.func 98) #[.pointer (some ⟨b, 0, none⟩)] #[]] w fun e w' => e = .returned (.int .i64 (sgn (val (s.data.toList.take 8)))) ∧ (∃ s' : ByteArray, s'.data.toList = s.data.toList.drop 8 ∧ Rd t w' b s' bad) ∧ But b w w' ∧ w'.heap.size = w.heap.size := by
  go_enter Try.func97, Try.ntmps97
  go_wp2
  go_loopw [3, 4] (fun v i wr => ∃ (k n : Nat) (s' : ByteArray), k ≤ 8 ∧ i = .int .i64 k ∧ n = val (s.data.toList.take k) ∧ v = .int .u64 n ∧ s'.data.toList = s.data.toList.drop k ∧ Rd t wr b s' bad ∧ But b w wr ∧ wr.heap.size = w.heap.size) (fun _ i _ => 8 - (intOf i).toNat)
  case atStart => exact ⟨0, 0, s, by omega, rfl, rfl, rfl, rfl, h, But.refl _ _, rfl⟩
  case round =>
    clear h
    obtain ⟨k, n, s', hk, rfl, hn, rfl, hs', hr, hb, hz⟩ := hrel
    by_cases hlt : k < 8
    · have hl : k < s.data.toList.length := by rw [len_list]; omega
      have hsz : s'.size = s.size - k := by rw [← len_list, hs', List.length_drop, len_list]
      have h0 : 0 < s'.size := by omega
      have hn2 : n < 72057594037927936 := by rw [hn]; exact val_take_lt _ _ hlt
      have hx : s'[0].toNat < 256 := s'[0].toNat_lt
      have e0 : s'[0] = s.data.toList[k] := by rw [byte_get s' 0 h0, hs']; rw [List.getD_eq_getElem?_getD, List.getElem?_drop, Nat.add_zero, List.getElem?_eq_getElem hl]; rfl
      have HV : Hid (n * 256 + s'[0].toNat = val (s.data.toList.take (k + 1))) := by
        show _ = _
        rw [val_take _ _ hl, hn, e0]
      have HR : Hid ((s'.extract 1 s'.size).data.toList = s.data.toList.drop (k + 1)) := by
        show _ = _
        rw [ext_rest, hs', List.drop_drop]
      have HN := next_any hr h0
      have HO := or_byte n s'[0].toNat hn2 hx
      clear hn hs' e0 hsz
      go_wp2_with (go_at_call 98; refine HN.mono ?_; rintro e w1 ⟨rfl, hr1, hb1, hz1⟩)
      go_roundw
      case rel => exact ⟨k + 1, n * 256 + s'[0].toNat, _, by omega, by go_num, HV.out, rfl, HR.out, hr1, hb.trans hb1, by omega⟩
      case measure => simp [intOf]; omega
    · have hk8 : k = 8 := by omega
      subst hk8
      go_wp2
      go_ret
      exact ⟨ret_int (wrap64_sgn _), ⟨s', hs', hr⟩, hb, hz⟩

set_option maxHeartbeats 400000 in
theorem rnum_any {t : TypeId} {w : World} {b : Nat} {r : (List UInt8 × Bool)} (h : At t w b r) :
    Calls Try.prog 81 #[.pointer (some ⟨b, 0, none⟩)] w fun e w' => e = .returned (.int .i64 (numV r.1)) ∧ At t w' b (numS r) ∧ But b w w' ∧ w'.heap.size = w.heap.size := by
  obtain ⟨l, bad⟩ := r
  obtain ⟨s, hs, hr⟩ := h
  subst hs
  by_cases hlt : s.size < 8
  · have r0 := hr.rest
    have HF := fail_any hr
    have HV : Hid (numV s.data.toList = 0) := by show _ = _; unfold numV; rw [if_pos (by rw [len_list]; exact hlt)]
    have HS : Hid (numS (s.data.toList, bad) = ([], true)) := by show _ = _; unfold numS; rw [if_pos (by rw [len_list]; exact hlt)]
    clear hr
    go_enter Try.func81, Try.ntmps81
    go_wp2_with (go_at_call 94; refine HF.mono ?_; rintro e w1 ⟨rfl, hr1, hb1, hz1⟩)
    go_ret
    exact ⟨by rw [HV.out]; rfl, by rw [HS.out]; exact ⟨_, rfl, hr1⟩, hb1, hz1⟩
  · have r0 := hr.rest
    have HF := number_any hr (by omega)
    have HV : Hid (numV s.data.toList = sgn (val (s.data.toList.take 8))) := by show _ = _; unfold numV; rw [if_neg (by rw [len_list]; exact hlt)]
    have HS : Hid (numS (s.data.toList, bad) = (s.data.toList.drop 8, bad)) := by show _ = _; unfold numS; rw [if_neg (by rw [len_list]; exact hlt)]
    clear hr
    generalize sgn (val (s.data.toList.take 8)) = x at HF HV
    go_enter Try.func81, Try.ntmps81
    go_wp2_with (go_at_call 97; refine HF.mono ?_; rintro e w1 ⟨rfl, ⟨s', hs1, hr1⟩, hb1, hz1⟩)
    go_ret
    exact ⟨by rw [HV.out]; rfl, by rw [HS.out]; exact ⟨s', hs1, hr1⟩, hb1, hz1⟩

set_option maxHeartbeats 400000 in
theorem rcount_any {t : TypeId} {w : World} {b : Nat} {r : (List UInt8 × Bool)} (m : Int) (h : At t w b r) :
    Calls Try.prog 93 #[.pointer (some ⟨b, 0, none⟩), .int .i64 m] w fun e w' => e = .returned (.int .i64 (cntV r.1 m)) ∧ At t w' b (cntS r m) ∧ But b w w' ∧ w'.heap.size = w.heap.size := by
  have HN := rnum_any h
  clear h
  have HV : Hid (cntV r.1 m = if numV r.1 < 0 ∨ m < numV r.1 then 0 else numV r.1) := (rfl : _ = _)
  have HS : Hid (cntS r m = if numV r.1 < 0 ∨ m < numV r.1 then ([], true) else numS r) := (rfl : _ = _)
  generalize numV r.1 = x at HN HV HS
  generalize numS r = r1 at HN HS
  generalize cntV r.1 m = y at HV ⊢
  generalize cntS r m = r2 at HS ⊢
  by_cases hlt : x < 0 ∨ m < x
  · have hV : y = 0 := by rw [HV.out, if_pos hlt]
    have hS : r2 = ([], true) := by rw [HS.out, if_pos hlt]
    subst hV hS
    clear HV HS
    have hx : x < 0 ∨ (0 ≤ x ∧ m < x) := by omega
    clear hlt
    rcases hx with h1 | ⟨h0, h1⟩
    all_goals
      go_enter Try.func93, Try.ntmps93
      go_wp2_with fail
      refine HN.mono ?_
      rintro e w1 ⟨rfl, ⟨s, hs1, hr1⟩, hb1, hz1⟩
      have HF := fail_any hr1
      go_wp2_with (go_at_call 94; refine HF.mono ?_; rintro e w2 ⟨rfl, hr2, hb2, hz2⟩)
      go_ret
      exact ⟨rfl, ⟨_, rfl, hr2⟩, hb1.trans hb2, by omega⟩
  · have hV : y = x := by rw [HV.out, if_neg hlt]
    have hS : r2 = r1 := by rw [HS.out, if_neg hlt]
    subst hV hS
    clear HV HS
    have h0 : 0 ≤ y := by omega
    have h1 : y ≤ m := by omega
    clear hlt
    go_enter Try.func93, Try.ntmps93
    go_wp2_with fail
    refine HN.mono ?_
    rintro e w1 ⟨rfl, hr1, hb1, hz1⟩
    go_wp2
    go_ret
    exact ⟨rfl, hr1, hb1, hz1⟩

set_option maxHeartbeats 400000 in
theorem rtext_any {t : TypeId} {w : World} {b : Nat} {r : (List UInt8 × Bool)} (m : Int) (h : At t w b r) (hl : r.1.length ≤ 1099511627776) :
    Calls Try.prog 75 #[.pointer (some ⟨b, 0, none⟩), .int .i64 m] w fun e w' => e = .returned (.string ⟨(txtV r m).toArray⟩) ∧ At t w' b (txtS r m) ∧ But b w w' := by
  have HN := rcount_any m h
  clear h
  have hx0 := (cntV_range r.1 m).1
  have hc : (cntS r m).1.length ≤ r.1.length := cnt_le r m
  have HV : Hid (txtV r m = if ((cntS r m).1.length : Int) < cntV r.1 m then [] else (cntS r m).1.take (cntV r.1 m).toNat) := (rfl : _ = _)
  have HS : Hid (txtS r m = if ((cntS r m).1.length : Int) < cntV r.1 m then ([], true) else ((cntS r m).1.drop (cntV r.1 m).toNat, (cntS r m).2)) := (rfl : _ = _)
  obtain ⟨k, hk⟩ := Int.eq_ofNat_of_zero_le hx0
  rw [hk] at HN HV HS
  generalize cntS r m = r1 at HN HS HV hc
  generalize txtV r m = y at HV ⊢
  generalize txtS r m = r2 at HS ⊢
  clear hk hx0
  by_cases hlt : (r1.1.length : Int) < (k : Int)
  · have hV : y = [] := by rw [HV.out, if_pos hlt]
    have hS : r2 = ([], true) := by rw [HS.out, if_pos hlt]
    subst hV hS
    clear HV HS
    go_enter Try.func75, Try.ntmps75
    go_wp2_with fail
    refine HN.mono ?_
    rintro e w1 ⟨rfl, ⟨s, hs1, hr1⟩, hb1, hz1⟩
    have HF := fail_any hr1
    have r0 := hr1.rest
    have h1 : (s.size : Int) < (k : Int) := by rw [← len_list, hs1]; exact hlt
    clear hr1 hlt
    go_wp2_with (go_at_call 94; refine HF.mono ?_; rintro e w2 ⟨rfl, hr2, hb2, hz2⟩)
    go_ret
    exact ⟨rfl, ⟨_, rfl, hr2⟩, hb1.trans hb2⟩
  · have hV : y = r1.1.take k := by rw [HV.out, if_neg hlt]; rfl
    have hS : r2 = (r1.1.drop k, r1.2) := by rw [HS.out, if_neg hlt]; rfl
    clear HV HS
    have HV : Hid (y = r1.1.take k) := hV
    have HS : Hid (r2 = (r1.1.drop k, r1.2)) := hS
    clear hV hS
    go_enter Try.func75, Try.ntmps75
    go_wp2_with fail
    refine HN.mono ?_
    rintro e w1 ⟨rfl, ⟨s, hs1, hr1⟩, hb1, hz1⟩
    rw [← hs1] at HV HS hlt
    have hsz : s.size ≤ 1099511627776 := by rw [← len_list, hs1]; omega
    have r0 := hr1.rest
    have h1 : (k : Int) ≤ (s.size : Int) := by rw [← len_list]; omega
    have h1' : k ≤ s.size := by omega
    have HT : Hid (s.extract 0 k = ⟨y.toArray⟩) := by show _ = _; rw [HV.out, ext_first]
    have HU : Hid ((s.extract k s.size).data.toList = r2.1) := by show _ = _; rw [HS.out, ext_rest]
    have hxs : (s.extract 0 k).size ≤ 1099511627776 := by rw [ByteArray.size_extract]; omega
    have HC := fun W => clone_any (s.extract 0 k) hxs W
    have HB : Hid (r2.2 = r1.2) := by show _ = _; rw [HS.out]
    clear hs1 hlt hc hl HV hxs
    go_wp2_with fail
    refine (HC _).mono ?_
    rintro e w2 ⟨rfl, hb2⟩
    have hr2 := hr1.below hb2
    have r2' := hr2.rest
    have f2 := hr2.frozen 0
    go_wp2
    go_ret
    refine ⟨by rw [HT.out]; rfl, ⟨_, HU.out, ?_⟩, hb1.trans ((But.of_below hb2).trans (But.setCell _ _ _ _))⟩
    rw [HB.out]
    exact hr2.setRest _

theorem aleft_any {t : TypeId} {w : World} {b : Nat} {r : (List UInt8 × Bool)} (h : At t w b r) :
    Calls Try.prog 85 #[.pointer (some ⟨b, 0, none⟩)] w fun e w' => e = .returned (.int .i64 (r.1.length : Int)) ∧ w' = w := by
  obtain ⟨s, hs, hr⟩ := h
  have := left_any hr
  rw [← len_list, hs] at this; exact this
theorem abad_any {t : TypeId} {w : World} {b : Nat} {r : (List UInt8 × Bool)} (h : At t w b r) :
    Calls Try.prog 84 #[.pointer (some ⟨b, 0, none⟩)] w fun e w' => e = .returned (.bool r.2) ∧ w' = w := by
  obtain ⟨s, hs, hr⟩ := h
  exact bad_any hr
theorem anew_any (s : ByteArray) (l : List UInt8) (hs : s.data.toList = l) (w : World) :
    Calls Try.prog 74 #[.string s] w fun e w' => ∃ b : Nat, e = .returned (.pointer (some ⟨b, 0, none⟩)) ∧ At 114 w' b (l, false) ∧ w.heap.size ≤ b ∧ Below w.heap.size w w' :=
  (new_any s w).mono (by rintro e w' ⟨rfl, hr, _, hb⟩; exact ⟨_, rfl, ⟨s, hs, hr⟩, Nat.le_refl _, hb⟩)

/-- Where a number, a text stands in front. -/
theorem rnum_at {t : TypeId} {w : World} {b : Nat} {l : List UInt8} (v : Int) (h0 : -9223372036854775808 ≤ v ∧ v ≤ 9223372036854775807) (h : At t w b (num8 v ++ l, false)) :
    Calls Try.prog 81 #[.pointer (some ⟨b, 0, none⟩)] w fun e w' => e = .returned (.int .i64 v) ∧ At t w' b (l, false) ∧ But b w w' :=
  (rnum_any h).mono (by
    rintro e w' ⟨rfl, hr, hb, _⟩
    rw [numS_of] at hr
    exact ⟨ret_int (numV_of v h0.1 h0.2 l), hr, hb⟩)
theorem rtext_at {t : TypeId} {w : World} {b : Nat} {l : List UInt8} (x : ByteArray) (m : Int) (hx : (x.size : Int) ≤ m) (hm : m ≤ 1000000) (hl : l.length ≤ 1000000) (h : At t w b (text8 x.data.toList ++ l, false)) :
    Calls Try.prog 75 #[.pointer (some ⟨b, 0, none⟩), .int .i64 m] w fun e w' => e = .returned (.string x) ∧ At t w' b (l, false) ∧ But b w w' :=
  (rtext_any m h (by show (text8 x.data.toList ++ l).length ≤ _; rw [List.length_append, text8_length, len_list]; omega)).mono (by
    rintro e w' ⟨rfl, hr, hb⟩
    rw [txtS_of _ _ _ _ (by rw [len_list]; exact hx) (by omega)] at hr
    rw [txtV_of _ _ _ _ (by rw [len_list]; exact hx) (by omega)]
    exact ⟨rfl, hr, hb⟩)

end Go.Proofs.Ythdnldbkpllciaa
