/-
  strings.Clone: the same bytes.
-/
import Derived.Test.YtccaaaifhiigcaaGreatZ05
import Derived.Lib.UnsafeStr
import Derived.Lib.BufferWrite
import Derived.Laws.MakeOwn
import Derived.Test.YtccaaaifhiigcaaGreatZ09
import Derived.Shelf.Abstract
import Derived.Test.YtccaaaifhiigcaaGreatSpMk
import Derived.Test.YtccaaaifhiigcaaGreatZ08
import Derived.Deep.RegionHeld3
import Derived.Deep.CutBlock
import Derived.Deep.CutRange
import Derived.Handy
namespace Go.Proofs.YtccaaaifhiigcaaGreat
open Go.RowKit

theorem bare (s : ByteArray) (h : s.size = 0) : s = ⟨#[]⟩ := ByteArray.ext (Array.eq_empty_of_size_eq_zero h)

set_option maxHeartbeats 400000 in
theorem clone0_any (s : ByteArray) (hs : s.size ≤ 1099511627776) (w : World) :
    Calls Tryz.prog 139 #[.string s] w fun e w' => e = .returned (.string s) ∧ Below w.heap.size w w' := by
  by_cases h0 : s.size = 0
  · rw [bare s h0]
    go_enter Tryz.func139, Tryz.ntmps139
    go_wp2
    go_ret
    exact ⟨rfl, Below.refl _ _⟩
  obtain ⟨i0, hi, hz0, hz1, hz2⟩ := info_parts Tryz.info5
  have hsz : (Tryz.prog.info? 5).map (·.size) = some 1 := by rw [hi]; simp [hz1]
  have hco : Tryz.prog.cellsOf 5 = 1 := by simp [Program.cellsOf, hi, hz1]
  have hne : s.data.toList ≠ [] := fun e => h0 (by rw [← len_list, e]; rfl)
  obtain ⟨M, hM, hMs⟩ : ∃ M : Array Value, M = madeCells (Value.int .u8 0).cells (((s.size : Nat) : Int).toNat * i0.size) ∧ M.size = s.size := ⟨_, rfl, by rw [size_madeCells, hz1]; simp⟩
  have hmk : (Instr.makeSlice 70 (.int .i64 (s.size : Int)) (.int .i64 (s.size : Int))).run Tryz.prog w = .ok (.slice (some ⟨w.heap.size, 0, none⟩) s.size s.size) (w.alloc (.cells M 5)) := by
    have h := run_make (P := Tryz.prog) w 70 5 i0 (.int .u8 0) Tryz.underlying70 hi hz0 .i64 .i64 (s.size : Int) (s.size : Int) (by omega) (by omega) (by rw [hz2]; omega) (by omega)
    rw [← hM] at h
    simpa using h
  clear hM
  have hg := heap_alloc_new w (.cells M 5)
  have hb1 : Below w.heap.size w (w.alloc (.cells M 5)) := (Below.refl _ w).alloc (Nat.le_refl _) _
  generalize w.alloc (.cells M 5) = w1 at hmk hg hb1
  have hcp := Lib.run_copy_row_string (P := Tryz.prog) w1 70 9 3 5 w.heap.size 0 s.size s.size s M 5 Tryz.underlying70 hsz hg (Nat.le_refl _) (by omega)
  obtain ⟨Y, hY, hYl⟩ : ∃ Y : Array Value, (M.toList.take 0 ++ Lib.byteCells s.data.toList ++ M.toList.drop (0 + s.size)).toArray = Y ∧ Y.toList = cb s.data.toList := by
    refine ⟨_, rfl, ?_⟩
    rw [List.toList_toArray, List.take_zero, List.nil_append, List.drop_of_length_le (by rw [Array.length_toList]; omega), List.append_nil]; rfl
  rw [hY] at hcp
  clear hY
  have hYs : Y.size = s.size := by rw [← Array.length_toList, hYl, cb_length, len_list]
  have hgY := setRow_heap w1 w.heap.size M Y 5 (0, 0) hg
  have hb2 : Below w.heap.size w1 (w1.setRow w.heap.size Y) := ⟨rfl, rfl, rfl, by simp, fun k hk => setRow_other _ _ _ _ (by omega)⟩
  generalize w1.setRow w.heap.size Y = w2 at hcp hgY hb2
  have hus := Lib.run_unsafeString_row (P := Tryz.prog) w2 107 3 9 5 Tryz.underlying107 hco w.heap.size Y.size (by unfold World.shape?; rw [hgY]) s.data.toList hne (by rw [len_list]; omega) (by rw [len_list]; omega)
    (fun j x hx => by
      rw [show (⟨w.heap.size, 0, none⟩ : Addr).add j = ⟨w.heap.size, j, none⟩ by unfold Addr.add; split <;> simp_all, cell_of_row w2 _ j Y 5 (0, 0) hgY, ← Array.getElem?_toList, hYl]
      simp [cb, hx])
  rw [len_list] at hus
  have hpos : (0 : Int) < (s.size : Int) := by omega
  have h0' : ((s.size : Int) == 0) = false := by rw [beq_eq_false_iff_ne]; omega
  go_enter Tryz.func139, Tryz.ntmps139
  go_wp2
  go_ret
  exact ⟨rfl, Lib.below_freeze (hb1.trans hb2) (p := ⟨w.heap.size, 0, none⟩) (Nat.le_refl _) _⟩

set_option maxHeartbeats 400000 in
theorem clone_any (s : ByteArray) (hs : s.size ≤ 1099511627776) (w : World) :
    Calls Tryz.prog 108 #[.string s] w fun e w' => e = .returned (.string s) ∧ Below w.heap.size w w' := by
  have HC := clone0_any s hs w
  go_enter Tryz.func108, Tryz.ntmps108
  go_wp2_with (go_at_call 139; refine HC.mono ?_; rintro e w1 ⟨rfl, hb1⟩)
  go_ret
  exact ⟨rfl, hb1⟩

end Go.Proofs.YtccaaaifhiigcaaGreat

/-
  Package codec's Reader: Num, Count, Text.
-/
namespace Go.Proofs.YtccaaaifhiigcaaGreat
open Go.RowKit

set_option maxRecDepth 10000 in
set_option maxHeartbeats 1000000 in
theorem number_any {t : TypeId} {w : World} {b : Nat} {s : ByteArray} {bad : Bool} (h : Rd t w b s bad) (hs : 8 ≤ s.size) :
    Calls Tryz.prog 106 #[.func (.func 107) #[.pointer (some ⟨b, 0, none⟩)] #[]] w fun e w' => e = .returned (.int .i64 (sgn (val (s.data.toList.take 8)))) ∧ (∃ s' : ByteArray, s'.data.toList = s.data.toList.drop 8 ∧ Rd t w' b s' bad) ∧ But b w w' ∧ w'.heap.size = w.heap.size := by
  go_enter Tryz.func106, Tryz.ntmps106
  go_wp2
  go_loopw [3, 4] (fun v i wr => ∃ (k n : Nat) (s' : ByteArray), k ≤ 8 ∧ i = .int .i64 k ∧ n = val (s.data.toList.take k) ∧ v = .int .u64 n ∧ s'.data.toList = s.data.toList.drop k ∧ Rd t wr b s' bad ∧ But b w wr ∧ wr.heap.size = w.heap.size) (fun _ i _ => 8 - (intOf i).toNat)
  case atStart => exact ⟨0, 0, s, by omega, rfl, rfl, rfl, rfl, h, But.refl _ _, rfl⟩
  case round =>
    clear h
    obtain ⟨k, n, s', hk, rfl, hn, rfl, hs', hr, hb, hz⟩ := hrel
    by_cases hlt : k < 8
    · have hl : k < s.data.toList.length := by rw [len_list]; omega
      have hsz : s'.size = s.size - k := by rw [← len_list, hs', List.length_drop, len_list]
      have h0 : 0 < s'.size := by omega
      have hn2 : n < 72057594037927936 := by rw [hn]; exact val_take_lt _ _ hlt
      have hx : s'[0].toNat < 256 := s'[0].toNat_lt
      have e0 : s'[0] = s.data.toList[k] := by rw [byte_get s' 0 h0, hs']; rw [List.getD_eq_getElem?_getD, List.getElem?_drop, Nat.add_zero, List.getElem?_eq_getElem hl]; rfl
      have HV : Hid (n * 256 + s'[0].toNat = val (s.data.toList.take (k + 1))) := by
        show _ = _
        rw [val_take _ _ hl, hn, e0]
      have HR : Hid ((s'.extract 1 s'.size).data.toList = s.data.toList.drop (k + 1)) := by
        show _ = _
        rw [ext_rest, hs', List.drop_drop]
      have HN := next_any hr h0
      have HO := or_byte n s'[0].toNat hn2 hx
      clear hn hs' e0 hsz
      go_wp2_with (go_at_call 107; refine HN.mono ?_; rintro e w1 ⟨rfl, hr1, hb1, hz1⟩)
      go_roundw
      case rel => exact ⟨k + 1, n * 256 + s'[0].toNat, _, by omega, by go_num, HV.out, rfl, HR.out, hr1, hb.trans hb1, by omega⟩
      case measure => simp [intOf]; omega
    · have hk8 : k = 8 := by omega
      subst hk8
      go_wp2
      go_ret
      exact ⟨ret_int (wrap64_sgn _), ⟨s', hs', hr⟩, hb, hz⟩

set_option maxHeartbeats 400000 in
theorem rnum_any {t : TypeId} {w : World} {b : Nat} {r : (List UInt8 × Bool)} (h : At t w b r) :
    Calls Tryz.prog 64 #[.pointer (some ⟨b, 0, none⟩)] w fun e w' => e = .returned (.int .i64 (numV r.1)) ∧ At t w' b (numS r) ∧ But b w w' ∧ w'.heap.size = w.heap.size := by
  obtain ⟨l, bad⟩ := r
  obtain ⟨s, hs, hr⟩ := h
  subst hs
  by_cases hlt : s.size < 8
  · have r0 := hr.rest
    have HF := fail_any hr
    have HV : Hid (numV s.data.toList = 0) := by show _ = _; unfold numV; rw [if_pos (by rw [len_list]; exact hlt)]
    have HS : Hid (numS (s.data.toList, bad) = ([], true)) := by show _ = _; unfold numS; rw [if_pos (by rw [len_list]; exact hlt)]
    clear hr
    go_enter Tryz.func64, Tryz.ntmps64
    go_wp2_with (go_at_call 105; refine HF.mono ?_; rintro e w1 ⟨rfl, hr1, hb1, hz1⟩)
    go_ret
    exact ⟨by rw [HV.out]; rfl, by rw [HS.out]; exact ⟨_, rfl, hr1⟩, hb1, hz1⟩
  · have r0 := hr.rest
    have HF := number_any hr (by omega)
    have HV : Hid (numV s.data.toList = sgn (val (s.data.toList.take 8))) := by show _ = _; unfold numV; rw [if_neg (by rw [len_list]; exact hlt)]
    have HS : Hid (numS (s.data.toList, bad) = (s.data.toList.drop 8, bad)) := by show _ = _; unfold numS; rw [if_neg (by rw [len_list]; exact hlt)]
    clear hr
    generalize sgn (val (s.data.toList.take 8)) = x at HF HV
    go_enter Tryz.func64, Tryz.ntmps64
    go_wp2_with (go_at_call 106; refine HF.mono ?_; rintro e w1 ⟨rfl, ⟨s', hs1, hr1⟩, hb1, hz1⟩)
    go_ret
    exact ⟨by rw [HV.out]; rfl, by rw [HS.out]; exact ⟨s', hs1, hr1⟩, hb1, hz1⟩

set_option maxHeartbeats 400000 in
theorem rcount_any {t : TypeId} {w : World} {b : Nat} {r : (List UInt8 × Bool)} (m : Int) (h : At t w b r) :
    Calls Tryz.prog 66 #[.pointer (some ⟨b, 0, none⟩), .int .i64 m] w fun e w' => e = .returned (.int .i64 (cntV r.1 m)) ∧ At t w' b (cntS r m) ∧ But b w w' ∧ w'.heap.size = w.heap.size := by
  have HN := rnum_any h
  clear h
  have HV : Hid (cntV r.1 m = if numV r.1 < 0 ∨ m < numV r.1 then 0 else numV r.1) := (rfl : _ = _)
  have HS : Hid (cntS r m = if numV r.1 < 0 ∨ m < numV r.1 then ([], true) else numS r) := (rfl : _ = _)
  generalize numV r.1 = x at HN HV HS
  generalize numS r = r1 at HN HS
  generalize cntV r.1 m = y at HV ⊢
  generalize cntS r m = r2 at HS ⊢
  by_cases hlt : x < 0 ∨ m < x
  · have hV : y = 0 := by rw [HV.out, if_pos hlt]
    have hS : r2 = ([], true) := by rw [HS.out, if_pos hlt]
    subst hV hS
    clear HV HS
    have hx : x < 0 ∨ (0 ≤ x ∧ m < x) := by omega
    clear hlt
    rcases hx with h1 | ⟨h0, h1⟩
    all_goals
      go_enter Tryz.func66, Tryz.ntmps66
      go_wp2_with fail
      refine HN.mono ?_
      rintro e w1 ⟨rfl, ⟨s, hs1, hr1⟩, hb1, hz1⟩
      have HF := fail_any hr1
      go_wp2_with (go_at_call 105; refine HF.mono ?_; rintro e w2 ⟨rfl, hr2, hb2, hz2⟩)
      go_ret
      exact ⟨rfl, ⟨_, rfl, hr2⟩, hb1.trans hb2, by omega⟩
  · have hV : y = x := by rw [HV.out, if_neg hlt]
    have hS : r2 = r1 := by rw [HS.out, if_neg hlt]
    subst hV hS
    clear HV HS
    have h0 : 0 ≤ y := by omega
    have h1 : y ≤ m := by omega
    clear hlt
    go_enter Tryz.func66, Tryz.ntmps66
    go_wp2_with fail
    refine HN.mono ?_
    rintro e w1 ⟨rfl, hr1, hb1, hz1⟩
    go_wp2
    go_ret
    exact ⟨rfl, hr1, hb1, hz1⟩

set_option maxHeartbeats 400000 in
theorem rtext_any {t : TypeId} {w : World} {b : Nat} {r : (List UInt8 × Bool)} (m : Int) (h : At t w b r) (hl : r.1.length ≤ 1099511627776) :
    Calls Tryz.prog 65 #[.pointer (some ⟨b, 0, none⟩), .int .i64 m] w fun e w' => e = .returned (.string ⟨(txtV r m).toArray⟩) ∧ At t w' b (txtS r m) ∧ But b w w' := by
  have HN := rcount_any m h
  clear h
  have hx0 := (cntV_range r.1 m).1
  have hc : (cntS r m).1.length ≤ r.1.length := cnt_le r m
  have HV : Hid (txtV r m = if ((cntS r m).1.length : Int) < cntV r.1 m then [] else (cntS r m).1.take (cntV r.1 m).toNat) := (rfl : _ = _)
  have HS : Hid (txtS r m = if ((cntS r m).1.length : Int) < cntV r.1 m then ([], true) else ((cntS r m).1.drop (cntV r.1 m).toNat, (cntS r m).2)) := (rfl : _ = _)
  obtain ⟨k, hk⟩ := Int.eq_ofNat_of_zero_le hx0
  rw [hk] at HN HV HS
  generalize cntS r m = r1 at HN HS HV hc
  generalize txtV r m = y at HV ⊢
  generalize txtS r m = r2 at HS ⊢
  clear hk hx0
  by_cases hlt : (r1.1.length : Int) < (k : Int)
  · have hV : y = [] := by rw [HV.out, if_pos hlt]
    have hS : r2 = ([], true) := by rw [HS.out, if_pos hlt]
    subst hV hS
    clear HV HS
    go_enter Tryz.func65, Tryz.ntmps65
    go_wp2_with fail
    refine HN.mono ?_
    rintro e w1 ⟨rfl, ⟨s, hs1, hr1⟩, hb1, hz1⟩
    have HF := fail_any hr1
    have r0 := hr1.rest
    have h1 : (s.size : Int) < (k : Int) := by rw [← len_list, hs1]; exact hlt
    clear hr1 hlt
    go_wp2_with (go_at_call 105; refine HF.mono ?_; rintro e w2 ⟨rfl, hr2, hb2, hz2⟩)
    go_ret
    exact ⟨rfl, ⟨_, rfl, hr2⟩, hb1.trans hb2⟩
  · have hV : y = r1.1.take k := by rw [HV.out, if_neg hlt]; rfl
    have hS : r2 = (r1.1.drop k, r1.2) := by rw [HS.out, if_neg hlt]; rfl
    clear HV HS
    have HV : Hid (y = r1.1.take k) := hV
    have HS : Hid (r2 = (r1.1.drop k, r1.2)) := hS
    clear hV hS
    go_enter Tryz.func65, Tryz.ntmps65
    go_wp2_with fail
    refine HN.mono ?_
    rintro e w1 ⟨rfl, ⟨s, hs1, hr1⟩, hb1, hz1⟩
    rw [← hs1] at HV HS hlt
    have hsz : s.size ≤ 1099511627776 := by rw [← len_list, hs1]; omega
    have r0 := hr1.rest
    have h1 : (k : Int) ≤ (s.size : Int) := by rw [← len_list]; omega
    have h1' : k ≤ s.size := by omega
    have HT : Hid (s.extract 0 k = ⟨y.toArray⟩) := by show _ = _; rw [HV.out, ext_first]
    have HU : Hid ((s.extract k s.size).data.toList = r2.1) := by show _ = _; rw [HS.out, ext_rest]
    have hxs : (s.extract 0 k).size ≤ 1099511627776 := by rw [ByteArray.size_extract]; omega
    have HC := fun W => clone_any (s.extract 0 k) hxs W
    have HB : Hid (r2.2 = r1.2) := by show _ = _; rw [HS.out]
    clear hs1 hlt hc hl HV hxs
    go_wp2_with fail
    refine (HC _).mono ?_
    rintro e w2 ⟨rfl, hb2⟩
    have hr2 := hr1.below hb2
    have r2' := hr2.rest
    have f2 := hr2.frozen 0
    go_wp2
    go_ret
    refine ⟨by rw [HT.out]; rfl, ⟨_, HU.out, ?_⟩, hb1.trans ((But.of_below hb2).trans (But.setCell _ _ _ _))⟩
    rw [HB.out]
    exact hr2.setRest _

theorem aleft_any {t : TypeId} {w : World} {b : Nat} {r : (List UInt8 × Bool)} (h : At t w b r) :
    Calls Tryz.prog 68 #[.pointer (some ⟨b, 0, none⟩)] w fun e w' => e = .returned (.int .i64 (r.1.length : Int)) ∧ w' = w := by
  obtain ⟨s, hs, hr⟩ := h
  have := left_any hr
  rw [← len_list, hs] at this; exact this
theorem abad_any {t : TypeId} {w : World} {b : Nat} {r : (List UInt8 × Bool)} (h : At t w b r) :
    Calls Tryz.prog 67 #[.pointer (some ⟨b, 0, none⟩)] w fun e w' => e = .returned (.bool r.2) ∧ w' = w := by
  obtain ⟨s, hs, hr⟩ := h
  exact bad_any hr
theorem anew_any (s : ByteArray) (l : List UInt8) (hs : s.data.toList = l) (w : World) :
    Calls Tryz.prog 63 #[.string s] w fun e w' => ∃ b : Nat, e = .returned (.pointer (some ⟨b, 0, none⟩)) ∧ At 110 w' b (l, false) ∧ w.heap.size ≤ b ∧ Below w.heap.size w w' :=
  (new_any s w).mono (by rintro e w' ⟨rfl, hr, _, hb⟩; exact ⟨_, rfl, ⟨s, hs, hr⟩, Nat.le_refl _, hb⟩)

/-- Where a number, a text stands in front. -/
theorem rnum_at {t : TypeId} {w : World} {b : Nat} {l : List UInt8} (v : Int) (h0 : -9223372036854775808 ≤ v ∧ v ≤ 9223372036854775807) (h : At t w b (num8 v ++ l, false)) :
    Calls Tryz.prog 64 #[.pointer (some ⟨b, 0, none⟩)] w fun e w' => e = .returned (.int .i64 v) ∧ At t w' b (l, false) ∧ But b w w' :=
  (rnum_any h).mono (by
    rintro e w' ⟨rfl, hr, hb, _⟩
    rw [numS_of] at hr
    exact ⟨ret_int (numV_of v h0.1 h0.2 l), hr, hb⟩)
theorem rtext_at {t : TypeId} {w : World} {b : Nat} {l : List UInt8} (x : ByteArray) (m : Int) (hx : (x.size : Int) ≤ m) (hm : m ≤ 1000000) (hl : l.length ≤ 1000000) (h : At t w b (text8 x.data.toList ++ l, false)) :
    Calls Tryz.prog 65 #[.pointer (some ⟨b, 0, none⟩), .int .i64 m] w fun e w' => e = .returned (.string x) ∧ At t w' b (l, false) ∧ But b w w' :=
  (rtext_any m h (by show (text8 x.data.toList ++ l).length ≤ _; rw [List.length_append, text8_length, len_list]; omega)).mono (by
    rintro e w' ⟨rfl, hr, hb⟩
    rw [txtS_of _ _ _ _ (by rw [len_list]; exact hx) (by omega)] at hr
    rw [txtV_of _ _ _ _ (by rw [len_list]; exact hx) (by omega)]
    exact ⟨rfl, hr, hb⟩)

end Go.Proofs.YtccaaaifhiigcaaGreat

/-
  The program's readList at numbers and texts.
-/
namespace Go.Proofs.YtccaaaifhiigcaaGreat
open Go.RowKit


/-- Rows that a call has made, from block B on. -/
def IRow (w : World) (B : Nat) (v : Value) (l : List Int) : Prop := ∃ g, B ≤ g ∧ v = .slice (some ⟨g, 0, none⟩) l.length l.length ∧ Cells w g 3 (l.map (Value.int .i64))
def SRow (w : World) (B : Nat) (v : Value) (l : List ByteArray) : Prop := ∃ g, B ≤ g ∧ v = .slice (some ⟨g, 0, none⟩) l.length l.length ∧ Cells w g 9 (l.map Value.string)
theorem IRow.but {w w' : World} {B k : Nat} {v : Value} {l : List Int} (h : IRow w B v l) (b : But k w w') (hk : k < B) : IRow w' B v l := by
  obtain ⟨g, h1, h2, h3⟩ := h; exact ⟨g, h1, h2, h3.but b (by omega)⟩
theorem SRow.but {w w' : World} {B k : Nat} {v : Value} {l : List ByteArray} (h : SRow w B v l) (b : But k w w') (hk : k < B) : SRow w' B v l := by
  obtain ⟨g, h1, h2, h3⟩ := h; exact ⟨g, h1, h2, h3.but b (by omega)⟩
theorem IRow.below {w w' : World} {B : Nat} {v : Value} {l : List Int} (h : IRow w B v l) (b : Below w.heap.size w w') : IRow w' B v l := by
  obtain ⟨g, h1, h2, h3⟩ := h; exact ⟨g, h1, h2, h3.below b⟩
theorem SRow.below {w w' : World} {B : Nat} {v : Value} {l : List ByteArray} (h : SRow w B v l) (b : Below w.heap.size w w') : SRow w' B v l := by
  obtain ⟨g, h1, h2, h3⟩ := h; exact ⟨g, h1, h2, h3.below b⟩
theorem SRow.mono {w : World} {B C : Nat} {v : Value} {l : List ByteArray} (h : SRow w B v l) (hC : C ≤ B) : SRow w C v l := by
  obtain ⟨g, h1, h2, h3⟩ := h; exact ⟨g, by omega, h2, h3⟩
theorem splice_next {α : Type} (done rest : List α) (new : List α) (off m : Nat) (ho : off = done.length) (hm : m = new.length) : (done ++ rest).take off ++ new ++ (done ++ rest).drop (off + m) = done ++ new ++ rest.drop m := by
  subst ho
  rw [List.take_left', List.drop_append, List.drop_of_length_le (by omega)]
  · simp
  · rfl

theorem rnum2_any {w : World} {b : Nat} {r : List UInt8 × Bool} (h : At 110 w b r) (_hl : r.1.length ≤ 1099511627776) :
    Calls Tryz.prog 64 #[.pointer (some ⟨b, 0, none⟩)] w fun e w' => e = .returned (.int .i64 (numV r.1)) ∧ At 110 w' b (numS r) ∧ But b w w' :=
  (rnum_any h).mono (by rintro e w' ⟨h1, h2, h3, _⟩; exact ⟨h1, h2, h3⟩)

end Go.Proofs.YtccaaaifhiigcaaGreat
