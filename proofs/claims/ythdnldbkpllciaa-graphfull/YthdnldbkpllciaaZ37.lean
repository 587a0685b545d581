/-
  The program's readList at numbers and texts.
-/
import Derived.Test.YthdnldbkpllciaaSpMk
import Derived.Test.YthdnldbkpllciaaZ13
import Derived.Test.YthdnldbkpllciaaCodRead
import Derived.Deep.RegionHeld3
import Derived.Deep.CutBlock
import Derived.Deep.CutRange
import Derived.Handy
namespace Go.Proofs.Ythdnldbkpllciaa
open Go.RowKit

/-- Rows that a call has made, from block B on. -/
def IRow (w : World) (B : Nat) (v : Value) (l : List Int) : Prop := ∃ g, B ≤ g ∧ v = .slice (some ⟨g, 0, none⟩) l.length l.length ∧ Cells w g 3 (l.map (Value.int .i64))
def SRow (w : World) (B : Nat) (v : Value) (l : List ByteArray) : Prop := ∃ g, B ≤ g ∧ v = .slice (some ⟨g, 0, none⟩) l.length l.length ∧ Cells w g 9 (l.map Value.string)
theorem IRow.but {w w' : World} {B k : Nat} {v : Value} {l : List Int} (h : IRow w B v l) (b : But k w w') (hk : k < B) : IRow w' B v l := by
  obtain ⟨g, h1, h2, h3⟩ := h; exact ⟨g, h1, h2, h3.but b (by omega)⟩
theorem SRow.but {w w' : World} {B k : Nat} {v : Value} {l : List ByteArray} (h : SRow w B v l) (b : But k w w') (hk : k < B) : SRow w' B v l := by
  obtain ⟨g, h1, h2, h3⟩ := h; exact ⟨g, h1, h2, h3.but b (by omega)⟩
theorem IRow.below {w w' : World} {B : Nat} {v : Value} {l : List Int} (h : IRow w B v l) (b : Below w.heap.size w w') : IRow w' B v l := by
  obtain ⟨g, h1, h2, h3⟩ := h; exact ⟨g, h1, h2, h3.below b⟩
theorem SRow.below {w w' : World} {B : Nat} {v : Value} {l : List ByteArray} (h : SRow w B v l) (b : Below w.heap.size w w') : SRow w' B v l := by
  obtain ⟨g, h1, h2, h3⟩ := h; exact ⟨g, h1, h2, h3.below b⟩
theorem SRow.mono {w : World} {B C : Nat} {v : Value} {l : List ByteArray} (h : SRow w B v l) (hC : C ≤ B) : SRow w C v l := by
  obtain ⟨g, h1, h2, h3⟩ := h; exact ⟨g, by omega, h2, h3⟩
theorem splice_next {α : Type} (done rest : List α) (new : List α) (off m : Nat) (ho : off = done.length) (hm : m = new.length) : (done ++ rest).take off ++ new ++ (done ++ rest).drop (off + m) = done ++ new ++ rest.drop m := by
  subst ho
  rw [List.take_left', List.drop_append, List.drop_of_length_le (by omega)]
  · simp
  · rfl

set_option maxHeartbeats 400000 in
theorem rkey_any {w : World} {b : Nat} {r : List UInt8 × Bool} (h : At 114 w b r) (hl : r.1.length ≤ 1099511627776) :
    Calls Try.prog 96 #[.pointer (some ⟨b, 0, none⟩)] w fun e w' => e = .returned (.string (mk (txtV r 16))) ∧ At 114 w' b (txtS r 16) ∧ But b w w' := by
  have HT := rtext_any 16 h hl
  unfold mk
  generalize (⟨(txtV r 16).toArray⟩ : ByteArray) = y at HT ⊢
  go_enter Try.func96, Try.ntmps96
  go_wp2_with fail
  refine HT.mono ?_
  rintro e w1 ⟨rfl, h1, hb1⟩
  go_wp2
  go_ret
  exact ⟨rfl, h1, hb1⟩
set_option maxHeartbeats 400000 in
theorem rlock_any {w : World} {b : Nat} {r : List UInt8 × Bool} (h : At 114 w b r) (hl : r.1.length ≤ 1099511627776) :
    Calls Try.prog 83 #[.pointer (some ⟨b, 0, none⟩)] w fun e w' => e = .returned (.string (mk (txtV r 32))) ∧ At 114 w' b (txtS r 32) ∧ But b w w' := by
  have HT := rtext_any 32 h hl
  unfold mk
  generalize (⟨(txtV r 32).toArray⟩ : ByteArray) = y at HT ⊢
  go_enter Try.func83, Try.ntmps83
  go_wp2_with fail
  refine HT.mono ?_
  rintro e w1 ⟨rfl, h1, hb1⟩
  go_wp2
  go_ret
  exact ⟨rfl, h1, hb1⟩
theorem rnum2_any {w : World} {b : Nat} {r : List UInt8 × Bool} (h : At 114 w b r) (_hl : r.1.length ≤ 1099511627776) :
    Calls Try.prog 81 #[.pointer (some ⟨b, 0, none⟩)] w fun e w' => e = .returned (.int .i64 (numV r.1)) ∧ At 114 w' b (numS r) ∧ But b w w' :=
  (rnum_any h).mono (by rintro e w' ⟨h1, h2, h3, _⟩; exact ⟨h1, h2, h3⟩)

set_option maxRecDepth 10000 in
set_option maxHeartbeats 2000000 in
theorem rlist_int {w : World} {b : Nat} {r : List UInt8 × Bool} (m : Int) (hm0 : 0 ≤ m) (hm : m ≤ 1000) (h : At 114 w b r) (hl : r.1.length ≤ 1099511627776) :
    Calls Try.prog 80 #[.pointer (some ⟨b, 0, none⟩), .int .i64 m, .func (.func 81) #[] #[]] w fun e w' => ∃ v, e = .returned v ∧ IRow w' w.heap.size v (itemsL (fun r => numV r.1) numS (cntV r.1 m).toNat (cntS r m)) ∧ At 114 w' b (itemsS numS (cntV r.1 m).toNat (cntS r m)) ∧ But b w w' := by
  have HC := rcount_any m h
  have hbl := h.lt
  have hv0 := (cntV_range r.1 m).1
  have hvm := cntV_le r.1 m hm0
  have hl1 : (cntS r m).1.length ≤ 1099511627776 := Nat.le_trans (cnt_le r m) hl
  obtain ⟨n, hn⟩ := Int.eq_ofNat_of_zero_le hv0
  rw [hn] at HC hvm ⊢
  rw [Int.toNat_natCast]
  generalize cntS r m = r1 at HC hl1 ⊢
  clear h hv0 hn hl
  replace HC := hide HC
  go_enter Try.func80, Try.ntmps80
  go_wp2_with fail
  refine HC.out.mono ?_
  rintro e w1 ⟨rfl, hr1, hb1, hz1⟩
  have hr1' := hide hr1
  have hb1' := hide hb1
  clear HC hr1 hb1
  go_wp2_with ((with_reducible refine wpList_at ?_); refine wpList_made (st := 24) Try.underlying24 Try.info3 (by decide) (by rfl) (.tmp 11) (.tmp 11) (by rfl) n (by rfl) (by rfl) (by omega) ?_; intro w2 M hM hM2 hz2 hb2; refine Hid.out ?_)
  unfold Hid
  have hr2 := hide (hr1'.out.below hb2)
  have hb3 := hide (hb1'.out.trans (But.of_below hb2))
  have HM := hide hM2
  have HN := hide hM
  rw [hz1] at HM hz2
  obtain ⟨g, hgg⟩ : ∃ g, w.heap.size = g := ⟨_, rfl⟩
  rw [hgg] at HM hz2 hbl ⊢
  clear hr1' hb1' hb2 hM hM2 hz1
  go_wp2
  go_loopw [15] (fun i wr => ∃ (j : Nat) (rest : List Value), j ≤ n ∧ i = .int .i64 j ∧ Hid (rest.length = (n - j) * 1) ∧ Hid (Cells wr g 3 (List.map (Value.int .i64) (itemsL (fun r => numV r.1) numS j r1) ++ rest)) ∧ Hid (At 114 wr b (itemsS numS j r1)) ∧ Hid (But b w wr)) (fun i _ => n - (intOf i).toNat)
  case atStart => exact ⟨0, M, by omega, rfl, by show _ = _; rw [HN.out]; simp, HM, hr2, hb3⟩
  case round =>
    clear hr2 hb3 HM HN hz2
    obtain ⟨j, rest, hj, rfl, HR, HC, hat, hbut⟩ := hrel
    by_cases hlt : j < n
    · have j1 : (j : Int) < (n : Int) := by omega
      have HG := hide (rnum2_any hat.out (Nat.le_trans (itemsS_le numS (fun r => num_le r) j r1) hl1))
      obtain ⟨x, hx⟩ : ∃ x, (fun r => numV r.1) (itemsS numS j r1) = x := ⟨_, rfl⟩
      have HX := hide hx
      simp only [] at hx
      have HG2 := HG.out
      rw [hx] at HG2
      replace HG2 := hide HG2
      clear hx HG
      go_wp2_with fail
      refine HG2.out.mono ?_
      rintro e w3 ⟨rfl, hr3, hb4⟩
      have HC3 := hide (HC.out.but hb4 (by omega))
      have hb5 := hide (hbut.out.trans hb4)
      have hr3' := hide hr3
      have hoff : (List.map (Value.int .i64) (itemsL (fun r => numV r.1) numS j r1)).length = j := by rw [List.length_map, itemsL_length]
      have HOFF := hide hoff
      clear HG2 HC hbut hb4 hat hr3 hoff
      go_wp2_with ((with_reducible refine wpList_at ?_); refine wpList_splice (by rfl) 3 (.tmp 23) (.tmp 22) (by rfl) g j #[Value.int .i64 x] (Value.int .i64 x) (by rfl) (by rfl) (by rfl) 3 _ HC3.out (by kernel_rfl) (by rw [List.length_append, HR.out, HOFF.out]; simp; omega) (by intro u hu; simp at hu; subst hu; rfl) ?_; intro w4 hc4 hz4 hb6; refine Hid.out ?_)
      unfold Hid
      have hc5 := hide hc4
      have hr5 := hide (hr3'.out.but hb6 (by omega))
      have hb7 : Hid (But b w w4) := by
        have h5 := hb5.out
        exact ⟨hb6.os.trans h5.os, hb6.tape.trans h5.tape, hb6.output.trans h5.output, Nat.le_trans h5.size hb6.size, fun k hk hkb => (hb6.block k (Nat.lt_of_lt_of_le hk h5.size) (by omega)).trans (h5.block k hk hkb)⟩
      clear hc4 hb6 hb5 hr3' HC3
      go_wp2
      go_roundw
      case rel =>
        refine ⟨j + 1, rest.drop 1, by omega, by go_num, ?_, ?_, ?_, hb7⟩
        · show _ = _
          rw [List.length_drop, HR.out]; simp; omega
        · show Cells _ _ _ _
          have h9 := hc5.out
          rw [splice_next _ _ _ _ _ HOFF.out.symm (by rfl)] at h9
          rw [itemsL_snoc, HX.out]
          simpa using h9
        · show At _ _ _ _
          rw [itemsS_snoc]; exact hr5.out
      case measure => simp [intOf]; omega
    · have j1 : ¬ (j : Int) < (n : Int) := by omega
      have he : j = n := by omega
      go_wp2
      go_ret
      rw [he] at HC hat HR
      have hrest : rest = [] := List.eq_nil_of_length_eq_zero (by rw [HR.out]; simp)
      rw [hrest, List.append_nil] at HC
      refine ⟨.slice (some ⟨g, 0, none⟩) n n, rfl, ⟨g, by omega, by rw [itemsL_length], HC.out⟩, hat.out, hbut.out⟩

set_option maxRecDepth 10000 in
set_option maxHeartbeats 2000000 in
theorem rlist_key {w : World} {b : Nat} {r : List UInt8 × Bool} (m : Int) (hm0 : 0 ≤ m) (hm : m ≤ 1000) (h : At 114 w b r) (hl : r.1.length ≤ 1099511627776) :
    Calls Try.prog 82 #[.pointer (some ⟨b, 0, none⟩), .int .i64 m, .func (.func 96) #[] #[]] w fun e w' => ∃ v, e = .returned v ∧ SRow w' w.heap.size v (itemsL (fun r => mk (txtV r 16)) (fun r => txtS r 16) (cntV r.1 m).toNat (cntS r m)) ∧ At 114 w' b (itemsS (fun r => txtS r 16) (cntV r.1 m).toNat (cntS r m)) ∧ But b w w' := by
  have HC := rcount_any m h
  have hbl := h.lt
  have hv0 := (cntV_range r.1 m).1
  have hvm := cntV_le r.1 m hm0
  have hl1 : (cntS r m).1.length ≤ 1099511627776 := Nat.le_trans (cnt_le r m) hl
  obtain ⟨n, hn⟩ := Int.eq_ofNat_of_zero_le hv0
  rw [hn] at HC hvm ⊢
  rw [Int.toNat_natCast]
  generalize cntS r m = r1 at HC hl1 ⊢
  clear h hv0 hn hl
  replace HC := hide HC
  go_enter Try.func82, Try.ntmps82
  go_wp2_with fail
  refine HC.out.mono ?_
  rintro e w1 ⟨rfl, hr1, hb1, hz1⟩
  have hr1' := hide hr1
  have hb1' := hide hb1
  clear HC hr1 hb1
  go_wp2_with ((with_reducible refine wpList_at ?_); refine wpList_made (st := 25) Try.underlying25 Try.info9 (by decide) (by rfl) (.tmp 11) (.tmp 11) (by rfl) n (by rfl) (by rfl) (by omega) ?_; intro w2 M hM hM2 hz2 hb2; refine Hid.out ?_)
  unfold Hid
  have hr2 := hide (hr1'.out.below hb2)
  have hb3 := hide (hb1'.out.trans (But.of_below hb2))
  have HM := hide hM2
  have HN := hide hM
  rw [hz1] at HM hz2
  obtain ⟨g, hgg⟩ : ∃ g, w.heap.size = g := ⟨_, rfl⟩
  rw [hgg] at HM hz2 hbl ⊢
  clear hr1' hb1' hb2 hM hM2 hz1
  go_wp2
  go_loopw [15] (fun i wr => ∃ (j : Nat) (rest : List Value), j ≤ n ∧ i = .int .i64 j ∧ Hid (rest.length = (n - j) * 1) ∧ Hid (Cells wr g 9 (List.map Value.string (itemsL (fun r => mk (txtV r 16)) (fun r => txtS r 16) j r1) ++ rest)) ∧ Hid (At 114 wr b (itemsS (fun r => txtS r 16) j r1)) ∧ Hid (But b w wr)) (fun i _ => n - (intOf i).toNat)
  case atStart => exact ⟨0, M, by omega, rfl, by show _ = _; rw [HN.out]; simp, HM, hr2, hb3⟩
  case round =>
    clear hr2 hb3 HM HN hz2
    obtain ⟨j, rest, hj, rfl, HR, HC, hat, hbut⟩ := hrel
    by_cases hlt : j < n
    · have j1 : (j : Int) < (n : Int) := by omega
      have HG := hide (rkey_any hat.out (Nat.le_trans (itemsS_le (fun r => txtS r 16) (fun r => txt_le r 16) j r1) hl1))
      obtain ⟨x, hx⟩ : ∃ x, (fun r => mk (txtV r 16)) (itemsS (fun r => txtS r 16) j r1) = x := ⟨_, rfl⟩
      have HX := hide hx
      simp only [] at hx
      have HG2 := HG.out
      rw [hx] at HG2
      replace HG2 := hide HG2
      clear hx HG
      go_wp2_with fail
      refine HG2.out.mono ?_
      rintro e w3 ⟨rfl, hr3, hb4⟩
      have HC3 := hide (HC.out.but hb4 (by omega))
      have hb5 := hide (hbut.out.trans hb4)
      have hr3' := hide hr3
      have hoff : (List.map Value.string (itemsL (fun r => mk (txtV r 16)) (fun r => txtS r 16) j r1)).length = j := by rw [List.length_map, itemsL_length]
      have HOFF := hide hoff
      clear HG2 HC hbut hb4 hat hr3 hoff
      go_wp2_with ((with_reducible refine wpList_at ?_); refine wpList_splice (by rfl) 9 (.tmp 23) (.tmp 22) (by rfl) g j #[Value.string x] (Value.string x) (by rfl) (by rfl) (by rfl) 9 _ HC3.out (by kernel_rfl) (by rw [List.length_append, HR.out, HOFF.out]; simp; omega) (by intro u hu; simp at hu; subst hu; rfl) ?_; intro w4 hc4 hz4 hb6; refine Hid.out ?_)
      unfold Hid
      have hc5 := hide hc4
      have hr5 := hide (hr3'.out.but hb6 (by omega))
      have hb7 : Hid (But b w w4) := by
        have h5 := hb5.out
        exact ⟨hb6.os.trans h5.os, hb6.tape.trans h5.tape, hb6.output.trans h5.output, Nat.le_trans h5.size hb6.size, fun k hk hkb => (hb6.block k (Nat.lt_of_lt_of_le hk h5.size) (by omega)).trans (h5.block k hk hkb)⟩
      clear hc4 hb6 hb5 hr3' HC3
      go_wp2
      go_roundw
      case rel =>
        refine ⟨j + 1, rest.drop 1, by omega, by go_num, ?_, ?_, ?_, hb7⟩
        · show _ = _
          rw [List.length_drop, HR.out]; simp; omega
        · show Cells _ _ _ _
          have h9 := hc5.out
          rw [splice_next _ _ _ _ _ HOFF.out.symm (by rfl)] at h9
          rw [itemsL_snoc, HX.out]
          simpa using h9
        · show At _ _ _ _
          rw [itemsS_snoc]; exact hr5.out
      case measure => simp [intOf]; omega
    · have j1 : ¬ (j : Int) < (n : Int) := by omega
      have he : j = n := by omega
      go_wp2
      go_ret
      rw [he] at HC hat HR
      have hrest : rest = [] := List.eq_nil_of_length_eq_zero (by rw [HR.out]; simp)
      rw [hrest, List.append_nil] at HC
      refine ⟨.slice (some ⟨g, 0, none⟩) n n, rfl, ⟨g, by omega, by rw [itemsL_length], HC.out⟩, hat.out, hbut.out⟩

set_option maxRecDepth 10000 in
set_option maxHeartbeats 2000000 in
theorem rlist_lock {w : World} {b : Nat} {r : List UInt8 × Bool} (m : Int) (hm0 : 0 ≤ m) (hm : m ≤ 1000) (h : At 114 w b r) (hl : r.1.length ≤ 1099511627776) :
    Calls Try.prog 82 #[.pointer (some ⟨b, 0, none⟩), .int .i64 m, .func (.func 83) #[] #[]] w fun e w' => ∃ v, e = .returned v ∧ SRow w' w.heap.size v (itemsL (fun r => mk (txtV r 32)) (fun r => txtS r 32) (cntV r.1 m).toNat (cntS r m)) ∧ At 114 w' b (itemsS (fun r => txtS r 32) (cntV r.1 m).toNat (cntS r m)) ∧ But b w w' := by
  have HC := rcount_any m h
  have hbl := h.lt
  have hv0 := (cntV_range r.1 m).1
  have hvm := cntV_le r.1 m hm0
  have hl1 : (cntS r m).1.length ≤ 1099511627776 := Nat.le_trans (cnt_le r m) hl
  obtain ⟨n, hn⟩ := Int.eq_ofNat_of_zero_le hv0
  rw [hn] at HC hvm ⊢
  rw [Int.toNat_natCast]
  generalize cntS r m = r1 at HC hl1 ⊢
  clear h hv0 hn hl
  replace HC := hide HC
  go_enter Try.func82, Try.ntmps82
  go_wp2_with fail
  refine HC.out.mono ?_
  rintro e w1 ⟨rfl, hr1, hb1, hz1⟩
  have hr1' := hide hr1
  have hb1' := hide hb1
  clear HC hr1 hb1
  go_wp2_with ((with_reducible refine wpList_at ?_); refine wpList_made (st := 25) Try.underlying25 Try.info9 (by decide) (by rfl) (.tmp 11) (.tmp 11) (by rfl) n (by rfl) (by rfl) (by omega) ?_; intro w2 M hM hM2 hz2 hb2; refine Hid.out ?_)
  unfold Hid
  have hr2 := hide (hr1'.out.below hb2)
  have hb3 := hide (hb1'.out.trans (But.of_below hb2))
  have HM := hide hM2
  have HN := hide hM
  rw [hz1] at HM hz2
  obtain ⟨g, hgg⟩ : ∃ g, w.heap.size = g := ⟨_, rfl⟩
  rw [hgg] at HM hz2 hbl ⊢
  clear hr1' hb1' hb2 hM hM2 hz1
  go_wp2
  go_loopw [15] (fun i wr => ∃ (j : Nat) (rest : List Value), j ≤ n ∧ i = .int .i64 j ∧ Hid (rest.length = (n - j) * 1) ∧ Hid (Cells wr g 9 (List.map Value.string (itemsL (fun r => mk (txtV r 32)) (fun r => txtS r 32) j r1) ++ rest)) ∧ Hid (At 114 wr b (itemsS (fun r => txtS r 32) j r1)) ∧ Hid (But b w wr)) (fun i _ => n - (intOf i).toNat)
  case atStart => exact ⟨0, M, by omega, rfl, by show _ = _; rw [HN.out]; simp, HM, hr2, hb3⟩
  case round =>
    clear hr2 hb3 HM HN hz2
    obtain ⟨j, rest, hj, rfl, HR, HC, hat, hbut⟩ := hrel
    by_cases hlt : j < n
    · have j1 : (j : Int) < (n : Int) := by omega
      have HG := hide (rlock_any hat.out (Nat.le_trans (itemsS_le (fun r => txtS r 32) (fun r => txt_le r 32) j r1) hl1))
      obtain ⟨x, hx⟩ : ∃ x, (fun r => mk (txtV r 32)) (itemsS (fun r => txtS r 32) j r1) = x := ⟨_, rfl⟩
      have HX := hide hx
      simp only [] at hx
      have HG2 := HG.out
      rw [hx] at HG2
      replace HG2 := hide HG2
      clear hx HG
      go_wp2_with fail
      refine HG2.out.mono ?_
      rintro e w3 ⟨rfl, hr3, hb4⟩
      have HC3 := hide (HC.out.but hb4 (by omega))
      have hb5 := hide (hbut.out.trans hb4)
      have hr3' := hide hr3
      have hoff : (List.map Value.string (itemsL (fun r => mk (txtV r 32)) (fun r => txtS r 32) j r1)).length = j := by rw [List.length_map, itemsL_length]
      have HOFF := hide hoff
      clear HG2 HC hbut hb4 hat hr3 hoff
      go_wp2_with ((with_reducible refine wpList_at ?_); refine wpList_splice (by rfl) 9 (.tmp 23) (.tmp 22) (by rfl) g j #[Value.string x] (Value.string x) (by rfl) (by rfl) (by rfl) 9 _ HC3.out (by kernel_rfl) (by rw [List.length_append, HR.out, HOFF.out]; simp; omega) (by intro u hu; simp at hu; subst hu; rfl) ?_; intro w4 hc4 hz4 hb6; refine Hid.out ?_)
      unfold Hid
      have hc5 := hide hc4
      have hr5 := hide (hr3'.out.but hb6 (by omega))
      have hb7 : Hid (But b w w4) := by
        have h5 := hb5.out
        exact ⟨hb6.os.trans h5.os, hb6.tape.trans h5.tape, hb6.output.trans h5.output, Nat.le_trans h5.size hb6.size, fun k hk hkb => (hb6.block k (Nat.lt_of_lt_of_le hk h5.size) (by omega)).trans (h5.block k hk hkb)⟩
      clear hc4 hb6 hb5 hr3' HC3
      go_wp2
      go_roundw
      case rel =>
        refine ⟨j + 1, rest.drop 1, by omega, by go_num, ?_, ?_, ?_, hb7⟩
        · show _ = _
          rw [List.length_drop, HR.out]; simp; omega
        · show Cells _ _ _ _
          have h9 := hc5.out
          rw [splice_next _ _ _ _ _ HOFF.out.symm (by rfl)] at h9
          rw [itemsL_snoc, HX.out]
          simpa using h9
        · show At _ _ _ _
          rw [itemsS_snoc]; exact hr5.out
      case measure => simp [intOf]; omega
    · have j1 : ¬ (j : Int) < (n : Int) := by omega
      have he : j = n := by omega
      go_wp2
      go_ret
      rw [he] at HC hat HR
      have hrest : rest = [] := List.eq_nil_of_length_eq_zero (by rw [HR.out]; simp)
      rw [hrest, List.append_nil] at HC
      refine ⟨.slice (some ⟨g, 0, none⟩) n n, rfl, ⟨g, by omega, by rw [itemsL_length], HC.out⟩, hat.out, hbut.out⟩

end Go.Proofs.Ythdnldbkpllciaa

/-
  The program's readParty, readArc, and readList at them.
-/
namespace Go.Proofs.Ythdnldbkpllciaa
open Go.RowKit

def PRow2 (w : World) (B : Nat) (v : Value) (l : List PartyM) : Prop := ∃ g ks, B ≤ g ∧ v = .slice (some ⟨g, 0, none⟩) l.length l.length ∧ ks.length = l.length ∧ Cells w g 32 (pcells l ks) ∧ ∀ j, j < l.length → SRow w (g + 1) (ks.getD j undef) (l.getD j noParty).keys
def ARow (w : World) (B : Nat) (v : Value) (l : List ArcM) : Prop := ∃ g, B ≤ g ∧ v = .slice (some ⟨g, 0, none⟩) l.length l.length ∧ Cells w g 34 (l.flatMap acells)
theorem PRow2.but {w w' : World} {B k : Nat} {v : Value} {l : List PartyM} (h : PRow2 w B v l) (b : But k w w') (hk : k < B) : PRow2 w' B v l := by
  obtain ⟨g, ks, h1, h2, h3, h4, h5⟩ := h; exact ⟨g, ks, h1, h2, h3, h4.but b (by omega), fun j hj => (h5 j hj).but b (by omega)⟩
theorem PRow2.below {w w' : World} {B : Nat} {v : Value} {l : List PartyM} (h : PRow2 w B v l) (b : Below w.heap.size w w') : PRow2 w' B v l := by
  obtain ⟨g, ks, h1, h2, h3, h4, h5⟩ := h; exact ⟨g, ks, h1, h2, h3, h4.below b, fun j hj => (h5 j hj).below b⟩
theorem ARow.but {w w' : World} {B k : Nat} {v : Value} {l : List ArcM} (h : ARow w B v l) (b : But k w w') (hk : k < B) : ARow w' B v l := by
  obtain ⟨g, h1, h2, h3⟩ := h; exact ⟨g, h1, h2, h3.but b (by omega)⟩
theorem ARow.below {w w' : World} {B : Nat} {v : Value} {l : List ArcM} (h : ARow w B v l) (b : Below w.heap.size w w') : ARow w' B v l := by
  obtain ⟨g, h1, h2, h3⟩ := h; exact ⟨g, h1, h2, h3.below b⟩
theorem pcells_length (l : List PartyM) (ks : List Value) (h : ks.length = l.length) : (pcells l ks).length = l.length * 2 := by
  unfold pcells
  induction l generalizing ks with
  | nil => simp
  | cons p l ih =>
    cases ks with
    | nil => simp at h
    | cons k ks =>
      have h9 := ih ks (by simpa using h)
      rw [List.zipWith_cons_cons, List.flatten_cons, List.length_append, h9, List.length_cons]
      simp; omega
theorem acells_length (l : List ArcM) : (l.flatMap acells).length = l.length * 5 := by
  induction l with
  | nil => rfl
  | cons a l ih => rw [List.flatMap_cons, List.length_append, ih, List.length_cons]; simp [acells]; omega
/-- What is done to a block of one's own leaves all else. -/
theorem But.own {b g : Nat} {w a c : World} (h : But b w a) (k : But g a c) (hg : w.heap.size ≤ g) : But b w c :=
  ⟨k.os.trans h.os, k.tape.trans h.tape, k.output.trans h.output, Nat.le_trans h.size k.size, fun i hi hib => (k.block i (Nat.lt_of_lt_of_le hi h.size) (by omega)).trans (h.block i hi hib)⟩
theorem sizeParty : (Try.prog.info? 32).map (·.size) = some 2 := by kernel_rfl
theorem sizeArc : (Try.prog.info? 34).map (·.size) = some 5 := by kernel_rfl

set_option maxRecDepth 10000 in
set_option maxHeartbeats 1000000 in
theorem rparty_any {w : World} {b : Nat} {r : List UInt8 × Bool} (h : At 114 w b r) (hl : r.1.length ≤ 1099511627776) :
    Calls Try.prog 77 #[.pointer (some ⟨b, 0, none⟩)] w fun e w' => ∃ a n c, e = .returned (.agg #[.string (partyOf r).acc, .slice a n c]) ∧ SRow w' w.heap.size (.slice a n c) (partyOf r).keys ∧ At 114 w' b (partyS r) ∧ But b w w' := by
  have hbl := h.lt
  have hB1 := (Below.refl w.heap.size w).alloc (Nat.le_refl _) (Obj.cells #[.string ⟨#[]⟩, .slice none 0 0] 32)
  have hc1 : Cells (w.alloc (Obj.cells #[.string ⟨#[]⟩, .slice none 0 0] 32)) w.heap.size 32 [.string ⟨#[]⟩, .slice none 0 0] := heap_alloc_new _ _
  have hz1 : (w.alloc (Obj.cells #[.string ⟨#[]⟩, .slice none 0 0] 32)).heap.size = w.heap.size + 1 := by simp
  have hr1 := h.below hB1
  have hb1 : But b w _ := But.of_below hB1
  replace hr1 := hide hr1
  replace hb1 := hide hb1
  replace hc1 := hide hc1
  have hl2 : (txtS r 16).1.length ≤ 1099511627776 := Nat.le_trans (txt_le r 16) hl
  clear hB1 h
  go_enter Try.func77, Try.ntmps77
  go_upto_region 1 with fail
  generalize w.alloc (Obj.cells #[.string ⟨#[]⟩, .slice none 0 0] 32) = w1 at hr1 hb1 hc1 hz1 ⊢
  obtain ⟨g, hgg⟩ : ∃ g, w.heap.size = g := ⟨_, rfl⟩
  rw [hgg] at hc1 hz1 hbl ⊢
  have HT := rtext_any 16 hr1.out hl
  obtain ⟨y, hy⟩ : ∃ y, (⟨(txtV r 16).toArray⟩ : ByteArray) = y := ⟨_, rfl⟩
  rw [hy] at HT
  have HY : Hid ((partyOf r).acc = y) := hy
  replace HT := hide HT
  clear hy
  go_wp2_with fail
  refine HT.out.mono ?_
  rintro e w2 ⟨rfl, hr2, hb2⟩
  have hc2 := hide (hc1.out.but hb2 (by omega))
  have hb3 := hide (hb1.out.trans hb2)
  have hz2 : g + 1 ≤ w2.heap.size := by have := hb2.size; omega
  have HK := hide (rlist_key 3 (by omega) (by omega) hr2 hl2)
  clear HT hr1 hb1 hc1 hb2 hr2 hz1
  go_wp2_with fail
  refine HK.out.mono ?_
  rintro e w3 ⟨v, rfl, hv, hr3, hb4⟩
  have hc3 := hide (hc2.out.but hb4 (by omega))
  have hb5 := hide (hb3.out.trans hb4)
  have hr3' := hide hr3
  have hv' := hide hv
  obtain ⟨gk, hgk, hvk, _⟩ := hv
  obtain ⟨va, vn, vc, hvv⟩ : ∃ a n c, v = .slice a n c := ⟨_, _, _, hvk⟩
  rw [hvv] at hv' ⊢
  clear HK hc2 hb3 hb4 hr3 hvk hgk hvv
  go_wp2_with ((with_reducible refine wpList_at ?_); refine wpList_splice (by rfl) 32 (.tmp 2) (.tmp 7) (by rfl) g 0 #[.string y, .slice va vn vc] _ (by rfl) (by rfl) (by rfl) 32 _ hc3.out sizeParty (by simp) (by intro u hu; simp at hu; rcases hu with rfl | rfl <;> rfl) ?_; intro w4 hc4 hz4 hb6; refine Hid.out ?_)
  unfold Hid
  have hc4' := hide hc4
  have hr4 := hide (hr3'.out.but hb6 (by omega))
  have hv4 := hide (hv'.out.but hb6 (by omega))
  have hb7 := hide (hb5.out.own hb6 (by omega))
  clear hc4 hb6 hc3 hr3' hv' hb5
  go_wp2
  refine bodyPost_ret (v := .agg #[.string y, .slice va vn vc]) (results_cell_row (fn := Try.f77) Try.results77 _ _ g 32 _ (0, 0) _ (by rfl) hc4'.out Try.underlying32 rfl sizeParty) rfl ?_
  refine ⟨va, vn, vc, by rw [HY.out], hv4.out.mono (by omega), hr4.out, hb7.out⟩

set_option maxRecDepth 10000 in
set_option maxHeartbeats 1000000 in
theorem rarc_any {w : World} {b : Nat} {r : List UInt8 × Bool} (h : At 114 w b r) (hl : r.1.length ≤ 1099511627776) :
    Calls Try.prog 79 #[.pointer (some ⟨b, 0, none⟩)] w fun e w' => e = .returned (.agg (acells (arcOf r)).toArray) ∧ At 114 w' b (arcS r) ∧ But b w w' := by
  have hbl := h.lt
  have hB1 := (Below.refl w.heap.size w).alloc (Nat.le_refl _) (Obj.cells #[.int .i64 0, .int .i64 0, .int .i64 0, .string ⟨#[]⟩, .int .i64 0] 34)
  have hc1 : Cells (w.alloc (Obj.cells #[.int .i64 0, .int .i64 0, .int .i64 0, .string ⟨#[]⟩, .int .i64 0] 34)) w.heap.size 34 [.int .i64 0, .int .i64 0, .int .i64 0, .string ⟨#[]⟩, .int .i64 0] := heap_alloc_new _ _
  have hz1 : (w.alloc (Obj.cells #[.int .i64 0, .int .i64 0, .int .i64 0, .string ⟨#[]⟩, .int .i64 0] 34)).heap.size = w.heap.size + 1 := by simp
  have hr1 := h.below hB1
  have hb1 : But b w _ := But.of_below hB1
  replace hr1 := hide hr1
  replace hb1 := hide hb1
  replace hc1 := hide hc1
  obtain ⟨x1, hx1⟩ : ∃ x, numV r.1 = x := ⟨_, rfl⟩
  obtain ⟨r1, hq1⟩ : ∃ x, numS r = x := ⟨_, rfl⟩
  obtain ⟨x2, hx2⟩ : ∃ x, numV r1.1 = x := ⟨_, rfl⟩
  obtain ⟨r2, hq2⟩ : ∃ x, numS r1 = x := ⟨_, rfl⟩
  obtain ⟨x3, hx3⟩ : ∃ x, numV r2.1 = x := ⟨_, rfl⟩
  obtain ⟨r3, hq3⟩ : ∃ x, numS r2 = x := ⟨_, rfl⟩
  obtain ⟨x4, hx4⟩ : ∃ x, (⟨(txtV r3 16).toArray⟩ : ByteArray) = x := ⟨_, rfl⟩
  obtain ⟨r4, hq4⟩ : ∃ x, txtS r3 16 = x := ⟨_, rfl⟩
  obtain ⟨x5, hx5⟩ : ∃ x, numV r4.1 = x := ⟨_, rfl⟩
  have HE : Hid ((acells (arcOf r)).toArray = #[.int .i64 x1, .int .i64 x2, .int .i64 x3, .string x4, .int .i64 x5]) := by
    show _ = _
    subst hx5 hq4 hx4 hq3 hx3 hq2 hx2 hq1 hx1; rfl
  have HS : Hid (arcS r = numS r4) := by
    show _ = _
    subst hq4 hq3 hq2 hq1; rfl
  have hl3 : r3.1.length ≤ 1099511627776 := by
    subst hq3 hq2 hq1
    exact Nat.le_trans (num_le _) (Nat.le_trans (num_le _) (Nat.le_trans (num_le _) hl))
  have H1 := fun W (h : At 114 W b r) => rnum_any h
  rw [hx1, hq1] at H1
  have H2 := fun W (h : At 114 W b r1) => rnum_any h
  rw [hx2, hq2] at H2
  have H3 := fun W (h : At 114 W b r2) => rnum_any h
  rw [hx3, hq3] at H3
  have H4 := fun W (h : At 114 W b r3) => rtext_any 16 h hl3
  rw [hx4, hq4] at H4
  have H5 := fun W (h : At 114 W b r4) => rnum_any h
  rw [hx5] at H5
  replace H1 := hide H1
  replace H2 := hide H2
  replace H3 := hide H3
  replace H4 := hide H4
  replace H5 := hide H5
  clear hB1 h hx1 hx2 hx3 hx4 hx5 hq1 hq2 hq3 hq4 hl hl3
  rw [HE.out, HS.out]
  go_enter Try.func79, Try.ntmps79
  go_upto_region 1 with fail
  generalize w.alloc (Obj.cells #[.int .i64 0, .int .i64 0, .int .i64 0, .string ⟨#[]⟩, .int .i64 0] 34) = w1 at hr1 hb1 hc1 hz1 ⊢
  obtain ⟨g, hgg⟩ : ∃ g, w.heap.size = g := ⟨_, rfl⟩
  rw [hgg] at hc1 hz1 hbl ⊢
  clear hz1
  go_wp2_with fail
  refine (H1.out _ hr1.out).mono ?_
  rintro e w2 ⟨rfl, hrn, hbn, _⟩
  replace hc1 := hide (hc1.out.but hbn (by omega))
  replace hb1 := hide (hb1.out.trans hbn)
  replace hr1 := hide hrn
  clear hrn hbn H1
  go_wp2_with fail
  refine (H2.out _ hr1.out).mono ?_
  rintro e w3 ⟨rfl, hrn, hbn, _⟩
  replace hc1 := hide (hc1.out.but hbn (by omega))
  replace hb1 := hide (hb1.out.trans hbn)
  replace hr1 := hide hrn
  clear hrn hbn H2
  go_wp2_with fail
  refine (H3.out _ hr1.out).mono ?_
  rintro e w4 ⟨rfl, hrn, hbn, _⟩
  replace hc1 := hide (hc1.out.but hbn (by omega))
  replace hb1 := hide (hb1.out.trans hbn)
  replace hr1 := hide hrn
  clear hrn hbn H3
  go_wp2_with fail
  refine (H4.out _ hr1.out).mono ?_
  rintro e w5 ⟨rfl, hrn, hbn⟩
  replace hc1 := hide (hc1.out.but hbn (by omega))
  replace hb1 := hide (hb1.out.trans hbn)
  replace hr1 := hide hrn
  clear hrn hbn H4
  go_wp2_with fail
  refine (H5.out _ hr1.out).mono ?_
  rintro e w6 ⟨rfl, hrn, hbn, _⟩
  replace hc1 := hide (hc1.out.but hbn (by omega))
  replace hb1 := hide (hb1.out.trans hbn)
  replace hr1 := hide hrn
  clear hrn hbn H5
  go_wp2_with ((with_reducible refine wpList_at ?_); refine wpList_splice (by rfl) 34 (.tmp 2) (.tmp 13) (by rfl) g 0 #[.int .i64 x1, .int .i64 x2, .int .i64 x3, .string x4, .int .i64 x5] _ (by rfl) (by rfl) (by rfl) 34 _ hc1.out sizeArc (by simp) (by intro u hu; simp at hu; rcases hu with rfl | rfl | rfl | rfl | rfl <;> rfl) ?_; intro w9 hc9 hz9 hb9; refine Hid.out ?_)
  unfold Hid
  have hc9' := hide hc9
  have hr9 := hide (hr1.out.but hb9 (by omega))
  have hb10 := hide (hb1.out.own hb9 (by omega))
  clear hc9 hb9 hr1 hb1 hc1
  go_wp2
  refine bodyPost_ret (v := .agg #[.int .i64 x1, .int .i64 x2, .int .i64 x3, .string x4, .int .i64 x5]) (results_cell_row (fn := Try.f79) Try.results79 _ _ g 34 _ (0, 0) _ (by rfl) hc9'.out Try.underlying34 rfl sizeArc) rfl ?_
  exact ⟨rfl, hr9.out, hb10.out⟩

theorem getD_left {α : Type} (l : List α) (x : α) (d : α) (i : Nat) (h : i < l.length) : (l ++ [x]).getD i d = l.getD i d := by
  simp [List.getD_eq_getElem?_getD, List.getElem?_append, h]
theorem getD_last {α : Type} (l : List α) (x : α) (d : α) (i : Nat) (h : i = l.length) : (l ++ [x]).getD i d = x := by
  simp [List.getD_eq_getElem?_getD, h]

set_option maxRecDepth 10000 in
set_option maxHeartbeats 2000000 in
theorem rlist_arc {w : World} {b : Nat} {r : List UInt8 × Bool} (m : Int) (hm0 : 0 ≤ m) (hm : m ≤ 1000) (h : At 114 w b r) (hl : r.1.length ≤ 1099511627776) :
    Calls Try.prog 78 #[.pointer (some ⟨b, 0, none⟩), .int .i64 m, .func (.func 79) #[] #[]] w fun e w' => ∃ v, e = .returned v ∧ ARow w' w.heap.size v (itemsL arcOf arcS (cntV r.1 m).toNat (cntS r m)) ∧ At 114 w' b (itemsS arcS (cntV r.1 m).toNat (cntS r m)) ∧ But b w w' := by
  have HC := rcount_any m h
  have hbl := h.lt
  have hv0 := (cntV_range r.1 m).1
  have hvm := cntV_le r.1 m hm0
  have hl1 : (cntS r m).1.length ≤ 1099511627776 := Nat.le_trans (cnt_le r m) hl
  obtain ⟨n, hn⟩ := Int.eq_ofNat_of_zero_le hv0
  rw [hn] at HC hvm ⊢
  rw [Int.toNat_natCast]
  generalize cntS r m = r1 at HC hl1 ⊢
  clear h hv0 hn hl
  replace HC := hide HC
  go_enter Try.func78, Try.ntmps78
  go_wp2_with fail
  refine HC.out.mono ?_
  rintro e w1 ⟨rfl, hr1, hb1, hz1⟩
  have hr1' := hide hr1
  have hb1' := hide hb1
  clear HC hr1 hb1
  go_wp2_with ((with_reducible refine wpList_at ?_); refine wpList_made (st := 23) Try.underlying23 Try.info34 (by decide) (by rfl) (.tmp 11) (.tmp 11) (by rfl) n (by rfl) (by rfl) (by omega) ?_; intro w2 M hM hM2 hz2 hb2; refine Hid.out ?_)
  unfold Hid
  have hr2 := hide (hr1'.out.below hb2)
  have hb3 := hide (hb1'.out.trans (But.of_below hb2))
  have HM := hide hM2
  have HN := hide hM
  rw [hz1] at HM hz2
  obtain ⟨g, hgg⟩ : ∃ g, w.heap.size = g := ⟨_, rfl⟩
  rw [hgg] at HM hz2 hbl ⊢
  clear hr1' hb1' hb2 hM hM2 hz1
  go_wp2
  go_loopw [15] (fun i wr => ∃ (j : Nat) (rest : List Value), j ≤ n ∧ i = .int .i64 j ∧ Hid (rest.length = (n - j) * 5) ∧ Hid (Cells wr g 34 (List.flatMap acells (itemsL arcOf arcS j r1) ++ rest)) ∧ Hid (At 114 wr b (itemsS arcS j r1)) ∧ Hid (But b w wr)) (fun i _ => n - (intOf i).toNat)
  case atStart => exact ⟨0, M, by omega, rfl, by show _ = _; rw [HN.out]; simp, HM, hr2, hb3⟩
  case round =>
    clear hr2 hb3 HM HN hz2
    obtain ⟨j, rest, hj, rfl, HR, HC, hat, hbut⟩ := hrel
    by_cases hlt : j < n
    · have j1 : (j : Int) < (n : Int) := by omega
      have HG := hide (rarc_any hat.out (Nat.le_trans (itemsS_le arcS (fun r => arcS_le r) j r1) hl1))
      obtain ⟨x, hx⟩ : ∃ x, arcOf (itemsS arcS j r1) = x := ⟨_, rfl⟩
      have HX := hide hx
      have HG2 := HG.out
      rw [hx] at HG2
      replace HG2 := hide HG2
      clear hx HG
      go_wp2_with fail
      refine HG2.out.mono ?_
      rintro e w3 ⟨rfl, hr3, hb4⟩
      have HC3 := hide (HC.out.but hb4 (by omega))
      have hb5 := hide (hbut.out.trans hb4)
      have hr3' := hide hr3
      have hoff : (List.flatMap acells (itemsL arcOf arcS j r1)).length = j * 5 := by rw [acells_length, itemsL_length]
      have HOFF := hide hoff
      clear HG2 HC hbut hb4 hat hr3 hoff
      go_wp2_with ((with_reducible refine wpList_at ?_); refine wpList_splice (by rfl) 34 (.tmp 23) (.tmp 22) (by rfl) g (j * 5) (acells x).toArray (.agg (acells x).toArray) (by rfl) (by rfl) (by rfl) 34 _ HC3.out sizeArc (by rw [List.length_append, HR.out, HOFF.out]; simp [acells]; omega) (by intro u hu; simp [acells] at hu; rcases hu with rfl | rfl | rfl | rfl | rfl <;> rfl) ?_; intro w4 hc4 hz4 hb6; refine Hid.out ?_)
      unfold Hid
      have hc5 := hide hc4
      have hr5 := hide (hr3'.out.but hb6 (by omega))
      have hb7 : Hid (But b w w4) := by
        have h5 := hb5.out
        exact ⟨hb6.os.trans h5.os, hb6.tape.trans h5.tape, hb6.output.trans h5.output, Nat.le_trans h5.size hb6.size, fun k hk hkb => (hb6.block k (Nat.lt_of_lt_of_le hk h5.size) (by omega)).trans (h5.block k hk hkb)⟩
      clear hc4 hb6 hb5 hr3' HC3
      go_wp2
      go_roundw
      case rel =>
        refine ⟨j + 1, rest.drop 5, by omega, by go_num, ?_, ?_, ?_, hb7⟩
        · show _ = _
          rw [List.length_drop, HR.out]; omega
        · show Cells _ _ _ _
          have h9 := hc5.out
          rw [splice_next _ _ _ _ _ HOFF.out.symm (by rfl)] at h9
          rw [itemsL_snoc, HX.out]
          simpa [show (acells x).length = 5 from rfl] using h9
        · show At _ _ _ _
          rw [itemsS_snoc]; exact hr5.out
      case measure => simp [intOf]; omega
    · have j1 : ¬ (j : Int) < (n : Int) := by omega
      have he : j = n := by omega
      go_wp2
      go_ret
      rw [he] at HC hat HR
      have hrest : rest = [] := List.eq_nil_of_length_eq_zero (by rw [HR.out]; simp)
      rw [hrest, List.append_nil] at HC
      refine ⟨.slice (some ⟨g, 0, none⟩) n n, rfl, ⟨g, by omega, by rw [itemsL_length], HC.out⟩, hat.out, hbut.out⟩

set_option maxRecDepth 10000 in
set_option maxHeartbeats 2000000 in
theorem rlist_party {w : World} {b : Nat} {r : List UInt8 × Bool} (m : Int) (hm0 : 0 ≤ m) (hm : m ≤ 1000) (h : At 114 w b r) (hl : r.1.length ≤ 1099511627776) :
    Calls Try.prog 76 #[.pointer (some ⟨b, 0, none⟩), .int .i64 m, .func (.func 77) #[] #[]] w fun e w' => ∃ v, e = .returned v ∧ PRow2 w' w.heap.size v (itemsL partyOf partyS (cntV r.1 m).toNat (cntS r m)) ∧ At 114 w' b (itemsS partyS (cntV r.1 m).toNat (cntS r m)) ∧ But b w w' := by
  have HC := rcount_any m h
  have hbl := h.lt
  have hv0 := (cntV_range r.1 m).1
  have hvm := cntV_le r.1 m hm0
  have hl1 : (cntS r m).1.length ≤ 1099511627776 := Nat.le_trans (cnt_le r m) hl
  obtain ⟨n, hn⟩ := Int.eq_ofNat_of_zero_le hv0
  rw [hn] at HC hvm ⊢
  rw [Int.toNat_natCast]
  generalize cntS r m = r1 at HC hl1 ⊢
  clear h hv0 hn hl
  replace HC := hide HC
  go_enter Try.func76, Try.ntmps76
  go_wp2_with fail
  refine HC.out.mono ?_
  rintro e w1 ⟨rfl, hr1, hb1, hz1⟩
  have hr1' := hide hr1
  have hb1' := hide hb1
  clear HC hr1 hb1
  go_wp2_with ((with_reducible refine wpList_at ?_); refine wpList_made (st := 22) Try.underlying22 Try.info32 (by decide) (by rfl) (.tmp 11) (.tmp 11) (by rfl) n (by rfl) (by rfl) (by omega) ?_; intro w2 M hM hM2 hz2 hb2; refine Hid.out ?_)
  unfold Hid
  have hr2 := hide (hr1'.out.below hb2)
  have hb3 := hide (hb1'.out.trans (But.of_below hb2))
  have HM := hide hM2
  have HN := hide hM
  rw [hz1] at HM hz2
  obtain ⟨g, hgg⟩ : ∃ g, w.heap.size = g := ⟨_, rfl⟩
  rw [hgg] at HM hz2 hbl ⊢
  clear hr1' hb1' hb2 hM hM2 hz1
  go_wp2
  go_loopw [15] (fun i wr => ∃ (j : Nat) (rest ks : List Value), j ≤ n ∧ i = .int .i64 j ∧ Hid (rest.length = (n - j) * 2) ∧ Hid (ks.length = j ∧ Cells wr g 32 (pcells (itemsL partyOf partyS j r1) ks ++ rest) ∧ ∀ i, i < j → SRow wr (g + 1) (ks.getD i undef) ((itemsL partyOf partyS j r1).getD i noParty).keys) ∧ Hid (At 114 wr b (itemsS partyS j r1)) ∧ Hid (But b w wr)) (fun i _ => n - (intOf i).toNat)
  case atStart => exact ⟨0, M, [], by omega, rfl, by show _ = _; rw [HN.out]; simp, ⟨rfl, HM.out, fun i hi => absurd hi (by omega)⟩, hr2, hb3⟩
  case round =>
    clear hr2 hb3 HM HN hz2
    obtain ⟨j, rest, ks, hj, rfl, HR, HC, hat, hbut⟩ := hrel
    have hgw : g + 1 ≤ wr.heap.size := HC.out.2.1.lt
    by_cases hlt : j < n
    · have j1 : (j : Int) < (n : Int) := by omega
      have HG := (rparty_any hat.out (Nat.le_trans (itemsS_le partyS (fun r => partyS_le r) j r1) hl1))
      obtain ⟨x, hx⟩ : ∃ x, partyOf (itemsS partyS j r1) = x := ⟨_, rfl⟩
      have HX := hide hx
      rw [hx] at HG
      clear hx
      go_wp2_with fail
      refine HG.mono ?_
      rintro e w3 ⟨va, vn, vc, rfl, hv3, hr3, hb4⟩
      have HC3 := hide (HC.out.2.1.but hb4 (by omega))
      have HK3 : Hid (∀ i, i < j → SRow w3 (g + 1) (ks.getD i undef) ((itemsL partyOf partyS j r1).getD i noParty).keys) := fun i hi => (HC.out.2.2 i hi).but hb4 (by omega)
      have HV3 := hide (hv3.mono hgw)
      have HKL := hide HC.out.1
      have hb5 := hide (hbut.out.trans hb4)
      have hr3' := hide hr3
      have hoff : (pcells (itemsL partyOf partyS j r1) ks).length = j * 2 := by rw [pcells_length _ _ (by rw [HKL.out, itemsL_length]), itemsL_length]
      have HOFF := hide hoff
      clear HG HC hbut hb4 hat hr3 hoff hv3
      go_wp2_with ((with_reducible refine wpList_at ?_); refine wpList_splice (by rfl) 32 (.tmp 23) (.tmp 22) (by rfl) g (j * 2) #[.string x.acc, .slice va vn vc] (.agg #[.string x.acc, .slice va vn vc]) (by rfl) (by rfl) (by rfl) 32 _ HC3.out sizeParty (by rw [List.length_append, HR.out, HOFF.out]; simp; omega) (by intro u hu; simp at hu; rcases hu with rfl | rfl <;> rfl) ?_; intro w4 hc4 hz4 hb6; refine Hid.out ?_)
      unfold Hid
      have hc5 := hide hc4
      have hr5 := hide (hr3'.out.but hb6 (by omega))
      have hb7 : Hid (But b w w4) := by
        have h5 := hb5.out
        exact ⟨hb6.os.trans h5.os, hb6.tape.trans h5.tape, hb6.output.trans h5.output, Nat.le_trans h5.size hb6.size, fun k hk hkb => (hb6.block k (Nat.lt_of_lt_of_le hk h5.size) (by omega)).trans (h5.block k hk hkb)⟩
      have HK5 : Hid (∀ i, i < j → SRow w4 (g + 1) (ks.getD i undef) ((itemsL partyOf partyS j r1).getD i noParty).keys) := fun i hi => (HK3.out i hi).but hb6 (by omega)
      have HV5 := hide (HV3.out.but hb6 (by omega))
      clear hc4 hb6 hb5 hr3' HC3 HK3 HV3
      go_wp2
      go_roundw
      case rel =>
        refine ⟨j + 1, rest.drop 2, ks ++ [.slice va vn vc], by omega, by go_num, ?_, ⟨?_, ?_, ?_⟩, ?_, hb7⟩
        · show _ = _
          rw [List.length_drop, HR.out]; omega
        · rw [List.length_append, HKL.out]; rfl
        · have h9 := hc5.out
          rw [splice_next _ _ _ _ _ HOFF.out.symm (by rfl)] at h9
          rw [itemsL_snoc, HX.out, pcells_snoc _ _ _ _ (by rw [HKL.out, itemsL_length])]
          exact h9
        · intro i hi
          rw [itemsL_snoc, HX.out]
          by_cases hij : i < j
          · rw [getD_left _ _ _ _ (by rw [HKL.out]; exact hij), getD_left _ _ _ _ (by rw [itemsL_length]; exact hij)]
            exact HK5.out i hij
          · have e : i = j := by omega
            rw [getD_last _ _ _ _ (by rw [HKL.out]; exact e), getD_last _ _ _ _ (by rw [itemsL_length]; exact e)]
            exact HV5.out
        · show At _ _ _ _
          rw [itemsS_snoc]; exact hr5.out
      case measure => simp [intOf]; omega
    · have j1 : ¬ (j : Int) < (n : Int) := by omega
      have he : j = n := by omega
      go_wp2
      go_ret
      rw [he] at HC hat HR
      have hrest : rest = [] := List.eq_nil_of_length_eq_zero (by rw [HR.out]; simp)
      rw [hrest, List.append_nil] at HC
      obtain ⟨k1, k2, k3⟩ := HC.out
      refine ⟨.slice (some ⟨g, 0, none⟩) n n, rfl, ⟨g, ks, by omega, by rw [itemsL_length], by rw [k1, itemsL_length], k2, fun i hi => k3 i (by rw [itemsL_length] at hi; exact hi)⟩, hat.out, hbut.out⟩

end Go.Proofs.Ythdnldbkpllciaa
