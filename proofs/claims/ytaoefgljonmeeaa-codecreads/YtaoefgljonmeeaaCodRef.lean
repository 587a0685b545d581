/-
  The document's reader of chapter 3 (handselref03.R): Num, Count, Text, as package codec's.
-/
import Derived.Test.YtaoefgljonmeeaaCodRead
namespace Go.Proofs.Ytaoefgljonmeeaa
open Go.RowKit

set_option maxHeartbeats 400000 in
theorem reffail_any {t : TypeId} {w : World} {b : Nat} {s : ByteArray} {bad : Bool} (h : Rd t w b s bad) :
    Calls Try.prog 23 #[.pointer (some ⟨b, 0, none⟩)] w fun e w' => e = .returned (.tuple #[]) ∧ Rd t w' b ⟨#[]⟩ true ∧ But b w w' ∧ w'.heap.size = w.heap.size := by
  have h0 := h.rest
  have h1 := h.isbad
  have f0 := h.frozen 0
  have f1 := h.frozen 1
  go_enter Try.func23, Try.ntmps23
  go_wp2
  go_end0
  exact ⟨rfl, (h.setRest _).setBad _, (But.setCell _ _ _ _).trans (But.setCell _ _ _ _), by simp [World.setCell]⟩

set_option maxRecDepth 10000 in
set_option maxHeartbeats 1000000 in
theorem refnum_any {t : TypeId} {w : World} {b : Nat} {r : (List UInt8 × Bool)} (hf : Fine r) (h : At t w b r) :
    Calls Try.prog 11 #[.pointer (some ⟨b, 0, none⟩)] w fun e w' => e = .returned (.int .i64 (numV r.1)) ∧ At t w' b (numS r) ∧ But b w w' ∧ w'.heap.size = w.heap.size := by
  obtain ⟨l, bad⟩ := r
  obtain ⟨s, hs, hr⟩ := h
  subst hs
  by_cases hlt : s.size < 8
  · have r0 := hr.rest
    have r1 := hr.isbad
    have HF := reffail_any hr
    have HV : Hid (numV s.data.toList = 0) := by show _ = _; unfold numV; rw [if_pos (by rw [len_list]; exact hlt)]
    have HS : Hid (numS (s.data.toList, bad) = ([], true)) := by show _ = _; unfold numS; rw [if_pos (by rw [len_list]; exact hlt)]
    clear hr hf
    cases bad
    all_goals
      go_enter Try.func11, Try.ntmps11
      go_wp2_with (go_at_call 23; refine HF.mono ?_; rintro e w1 ⟨rfl, hr1, hb1, hz1⟩)
      go_ret
      exact ⟨by rw [HV.out]; rfl, by rw [HS.out]; exact ⟨_, rfl, hr1⟩, hb1, hz1⟩
  · have hbad : bad = false := by
      cases bad
      · rfl
      · have : s.data.toList = [] := hf rfl; exact absurd (by rw [← len_list, this]; decide) hlt
    subst hbad
    have r0 := hr.rest
    have r1 := hr.isbad
    have f0 := hr.frozen 0
    have HV : Hid (numV s.data.toList = sgn (val (s.data.toList.take 8))) := by show _ = _; unfold numV; rw [if_neg (by rw [len_list]; exact hlt)]
    have HS : Hid (numS (s.data.toList, false) = (s.data.toList.drop 8, false)) := by show _ = _; unfold numS; rw [if_neg (by rw [len_list]; exact hlt)]
    clear hf
    have h8 : (8 : Int) ≤ (s.size : Int) := by omega
    go_enter Try.func11, Try.ntmps11
    go_wp2
    go_loopw [3, 4] (fun v i wr => ∃ (k n : Nat), k ≤ 8 ∧ i = .int .i64 k ∧ n = val (s.data.toList.take k) ∧ v = .int .u64 n ∧ wr = w) (fun _ i _ => 8 - (intOf i).toNat)
    case atStart => exact ⟨0, 0, by omega, rfl, rfl, rfl, rfl⟩
    case round =>
      obtain ⟨k, n, hk, rfl, hn, rfl, hw⟩ := hrel
      subst hw
      by_cases hk8 : k < 8
      · have hl : k < s.data.toList.length := by rw [len_list]; omega
        have hks : k < s.size := by omega
        have k1 : (k : Int) < (s.size : Int) := by omega
        have hn2 : n < 72057594037927936 := by rw [hn]; exact val_take_lt _ _ hk8
        have hx : s[k].toNat < 256 := s[k].toNat_lt
        have HV2 : Hid (n * 256 + s[k].toNat = val (s.data.toList.take (k + 1))) := by
          show _ = _
          rw [val_take _ _ hl, hn, byte_get s k hks, List.getD_eq_getElem?_getD, List.getElem?_eq_getElem hl]; rfl
        have HO := or_byte n s[k].toNat hn2 hx
        clear hn
        go_wp2
        go_roundw
        case rel => exact ⟨k + 1, n * 256 + s[k].toNat, by omega, by go_num, HV2.out, by rfl, by trivial⟩
        case measure => simp [intOf]; omega
      · have hk9 : k = 8 := by omega
        subst hk9
        have HN : Hid (n = val (s.data.toList.take 8)) := hn
        clear hn
        go_wp2
        go_ret
        refine ⟨ret_int ?_, ?_, But.setCell _ _ _ _, by simp [World.setCell]⟩
        · rw [HV.out, ← HN.out]; exact wrap64_sgn _
        · rw [HS.out]; exact ⟨_, ext_rest s 8, hr.setRest _⟩

theorem num_bad (r : (List UInt8 × Bool)) (hf : Fine r) (h : (numS r).2 = true) : numV r.1 = 0 ∧ numS r = ([], true) := by
  unfold numS numV at *
  by_cases hlt : r.1.length < 8
  · rw [if_pos hlt, if_pos hlt]; exact ⟨rfl, rfl⟩
  · rw [if_neg hlt] at h
    rw [hf h] at hlt; exact absurd (by decide) hlt
theorem cnt_bad (r : (List UInt8 × Bool)) (m : Int) (hf : Fine r) (h : (cntS r m).2 = true) : cntV r.1 m = 0 ∧ cntS r m = ([], true) := by
  unfold cntS cntV at *
  split
  · exact ⟨rfl, rfl⟩
  · rename_i h1
    rw [if_neg h1] at h
    exact num_bad r hf h

set_option maxHeartbeats 400000 in
theorem refcount_any {t : TypeId} {w : World} {b : Nat} {r : (List UInt8 × Bool)} (m : Int) (hf : Fine r) (h : At t w b r) :
    Calls Try.prog 13 #[.pointer (some ⟨b, 0, none⟩), .int .i64 m] w fun e w' => e = .returned (.int .i64 (cntV r.1 m)) ∧ At t w' b (cntS r m) ∧ But b w w' ∧ w'.heap.size = w.heap.size := by
  have HN := refnum_any hf h
  clear h
  have hbad := num_bad r hf
  have HV : Hid (cntV r.1 m = if numV r.1 < 0 ∨ m < numV r.1 then 0 else numV r.1) := (rfl : _ = _)
  have HS : Hid (cntS r m = if numV r.1 < 0 ∨ m < numV r.1 then ([], true) else numS r) := (rfl : _ = _)
  generalize numV r.1 = x at HN HV HS hbad
  generalize numS r = r1 at HN HS hbad
  generalize cntV r.1 m = y at HV ⊢
  generalize cntS r m = r2 at HS ⊢
  clear hf
  obtain ⟨l1, b1⟩ := r1
  by_cases hlt : b1 = true ∨ x < 0 ∨ m < x
  · have hVS : y = 0 ∧ r2 = ([], true) := by
      rcases hlt with h1 | h1
      · obtain ⟨h2, h3⟩ := hbad h1
        rw [HV.out, HS.out, h2, h3]
        split <;> exact ⟨rfl, rfl⟩
      · rw [HV.out, HS.out, if_pos h1, if_pos h1]; exact ⟨rfl, rfl⟩
    obtain ⟨hV, hS⟩ := hVS
    subst hV hS
    clear HV HS hbad
    have hx : b1 = true ∨ (b1 = false ∧ x < 0) ∨ (b1 = false ∧ 0 ≤ x ∧ m < x) := by
      cases b1
      · right
        have : x < 0 ∨ m < x := by simpa using hlt
        by_cases h1 : x < 0
        · exact .inl ⟨rfl, h1⟩
        · exact .inr ⟨rfl, by omega, by omega⟩
      · exact .inl rfl
    clear hlt
    rcases hx with rfl | ⟨rfl, h1⟩ | ⟨rfl, h0, h1⟩
    all_goals
      go_enter Try.func13, Try.ntmps13
      go_wp2_with fail
      refine HN.mono ?_
      rintro e w1 ⟨rfl, ⟨s, hs1, hr1⟩, hb1, hz1⟩
      have HF := reffail_any hr1
      have r0 := hr1.isbad
      go_wp2_with (go_at_call 23; refine HF.mono ?_; rintro e w2 ⟨rfl, hr2, hb2, hz2⟩)
      go_ret
      exact ⟨rfl, ⟨_, rfl, hr2⟩, hb1.trans hb2, by omega⟩
  · have hb1 : b1 = false := by cases b1 <;> simp_all
    have h2 : ¬ (x < 0 ∨ m < x) := fun h => hlt (.inr h)
    have hV : y = x := by rw [HV.out, if_neg h2]
    have hS : r2 = (l1, b1) := by rw [HS.out, if_neg h2]
    subst hV hS hb1
    clear HV HS hbad hlt
    have h0 : 0 ≤ y := by omega
    have h1 : y ≤ m := by omega
    clear h2
    go_enter Try.func13, Try.ntmps13
    go_wp2_with fail
    refine HN.mono ?_
    rintro e w1 ⟨rfl, ⟨s, hs1, hr1⟩, hb1, hz1⟩
    have r0 := hr1.isbad
    go_wp2
    go_ret
    exact ⟨rfl, ⟨s, hs1, hr1⟩, hb1, hz1⟩

set_option maxHeartbeats 400000 in
theorem reftext_any {t : TypeId} {w : World} {b : Nat} {r : (List UInt8 × Bool)} (m : Int) (hf : Fine r) (h : At t w b r) :
    Calls Try.prog 15 #[.pointer (some ⟨b, 0, none⟩), .int .i64 m] w fun e w' => e = .returned (.string ⟨(txtV r m).toArray⟩) ∧ At t w' b (txtS r m) ∧ But b w w' := by
  have HN := refcount_any m hf h
  clear h
  have hbad := cnt_bad r m hf
  have hx0 := (cntV_range r.1 m).1
  have HV : Hid (txtV r m = if ((cntS r m).1.length : Int) < cntV r.1 m then [] else (cntS r m).1.take (cntV r.1 m).toNat) := (rfl : _ = _)
  have HS : Hid (txtS r m = if ((cntS r m).1.length : Int) < cntV r.1 m then ([], true) else ((cntS r m).1.drop (cntV r.1 m).toNat, (cntS r m).2)) := (rfl : _ = _)
  obtain ⟨k, hk⟩ := Int.eq_ofNat_of_zero_le hx0
  rw [hk] at HN HV HS hbad
  generalize cntS r m = r1 at HN HS HV hbad
  generalize txtV r m = y at HV ⊢
  generalize txtS r m = r2 at HS ⊢
  clear hk hx0 hf
  obtain ⟨l1, b1⟩ := r1
  by_cases hlt : b1 = true ∨ (l1.length : Int) < (k : Int)
  · have hVS : y = [] ∧ r2 = ([], true) := by
      rcases hlt with h1 | h1
      · obtain ⟨h2, h3⟩ := hbad h1
        have h4 : k = 0 := by omega
        have h5 : l1 = [] := congrArg Prod.fst h3
        rw [HV.out, HS.out, h4, h5, h1]
        constructor <;> rfl
      · rw [HV.out, HS.out, if_pos h1, if_pos h1]; exact ⟨rfl, rfl⟩
    obtain ⟨hV, hS⟩ := hVS
    subst hV hS
    clear HV HS hbad
    have hx : b1 = true ∨ (b1 = false ∧ (l1.length : Int) < (k : Int)) := by
      cases b1
      · exact .inr ⟨rfl, by simpa using hlt⟩
      · exact .inl rfl
    clear hlt
    rcases hx with rfl | ⟨rfl, h1⟩
    · go_enter Try.func15, Try.ntmps15
      go_wp2_with fail
      refine HN.mono ?_
      rintro e w1 ⟨rfl, ⟨s, hs1, hr1⟩, hb1, hz1⟩
      have HF := reffail_any hr1
      have r0 := hr1.isbad
      go_wp2_with (go_at_call 23; refine HF.mono ?_; rintro e w2 ⟨rfl, hr2, hb2, hz2⟩)
      go_ret
      exact ⟨rfl, ⟨_, rfl, hr2⟩, hb1.trans hb2⟩
    · go_enter Try.func15, Try.ntmps15
      go_wp2_with fail
      refine HN.mono ?_
      rintro e w1 ⟨rfl, ⟨s, hs1, hr1⟩, hb1, hz1⟩
      have HF := reffail_any hr1
      have r0 := hr1.isbad
      have r1 := hr1.rest
      have h2 : (s.size : Int) < (k : Int) := by rw [← len_list, hs1]; exact h1
      go_wp2_with (go_at_call 23; refine HF.mono ?_; rintro e w2 ⟨rfl, hr2, hb2, hz2⟩)
      go_ret
      exact ⟨rfl, ⟨_, rfl, hr2⟩, hb1.trans hb2⟩
  · have hb1 : b1 = false := by cases b1 <;> simp_all
    have h2 : ¬ ((l1.length : Int) < (k : Int)) := fun h => hlt (.inr h)
    have HV' : Hid (y = l1.take k) := by show _ = _; rw [HV.out, if_neg h2]; rfl
    have HS' : Hid (r2 = (l1.drop k, b1)) := by show _ = _; rw [HS.out, if_neg h2]; rfl
    subst hb1
    clear HV HS hbad hlt
    go_enter Try.func15, Try.ntmps15
    go_wp2_with fail
    refine HN.mono ?_
    rintro e w1 ⟨rfl, ⟨s, hs1, hr1⟩, hb1, hz1⟩
    have hs2 : s.data.toList = l1 := hs1
    rw [← hs2] at HV' HS' h2
    have r0 := hr1.rest
    have r1 := hr1.isbad
    have f0 := hr1.frozen 0
    have h1 : (k : Int) ≤ (s.size : Int) := by rw [← len_list]; omega
    have HT : Hid (s.extract 0 k = ⟨y.toArray⟩) := by show _ = _; rw [HV'.out, ext_first]
    have HU : Hid ((s.extract k s.size).data.toList = r2.1) := by show _ = _; rw [HS'.out, ext_rest]
    have HB : Hid (r2.2 = false) := by show _ = _; rw [HS'.out]
    clear hs1 hs2 h2 HV'
    go_wp2
    go_ret
    refine ⟨by rw [HT.out]; rfl, ⟨_, HU.out, ?_⟩, hb1.trans (But.setCell _ _ _ _)⟩
    rw [HB.out]
    exact hr1.setRest _

end Go.Proofs.Ytaoefgljonmeeaa
