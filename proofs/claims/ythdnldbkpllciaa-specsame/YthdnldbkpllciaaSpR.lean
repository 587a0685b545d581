/-
  The program's readList at numbers and texts.
-/
import Derived.Test.YthdnldbkpllciaaSpMk
import Derived.Test.YthdnldbkpllciaaZ14
import Derived.Test.YthdnldbkpllciaaCodRead
import Derived.Deep.RegionHeld3
import Derived.Deep.CutBlock
import Derived.Deep.CutRange
import Derived.Handy
namespace Go.Proofs.Ythdnldbkpllciaa
open Go.RowKit

/-- Rows that a call has made, from block B on. -/
def IRow (w : World) (B : Nat) (v : Value) (l : List Int) : Prop := ∃ g, B ≤ g ∧ v = .slice (some ⟨g, 0, none⟩) l.length l.length ∧ Cells w g 3 (l.map (Value.int .i64))
def SRow (w : World) (B : Nat) (v : Value) (l : List ByteArray) : Prop := ∃ g, B ≤ g ∧ v = .slice (some ⟨g, 0, none⟩) l.length l.length ∧ Cells w g 9 (l.map Value.string)
theorem IRow.but {w w' : World} {B k : Nat} {v : Value} {l : List Int} (h : IRow w B v l) (b : But k w w') (hk : k < B) : IRow w' B v l := by
  obtain ⟨g, h1, h2, h3⟩ := h; exact ⟨g, h1, h2, h3.but b (by omega)⟩
theorem SRow.but {w w' : World} {B k : Nat} {v : Value} {l : List ByteArray} (h : SRow w B v l) (b : But k w w') (hk : k < B) : SRow w' B v l := by
  obtain ⟨g, h1, h2, h3⟩ := h; exact ⟨g, h1, h2, h3.but b (by omega)⟩
theorem IRow.below {w w' : World} {B : Nat} {v : Value} {l : List Int} (h : IRow w B v l) (b : Below w.heap.size w w') : IRow w' B v l := by
  obtain ⟨g, h1, h2, h3⟩ := h; exact ⟨g, h1, h2, h3.below b⟩
theorem SRow.below {w w' : World} {B : Nat} {v : Value} {l : List ByteArray} (h : SRow w B v l) (b : Below w.heap.size w w') : SRow w' B v l := by
  obtain ⟨g, h1, h2, h3⟩ := h; exact ⟨g, h1, h2, h3.below b⟩
theorem SRow.mono {w : World} {B C : Nat} {v : Value} {l : List ByteArray} (h : SRow w B v l) (hC : C ≤ B) : SRow w C v l := by
  obtain ⟨g, h1, h2, h3⟩ := h; exact ⟨g, by omega, h2, h3⟩
theorem splice_next {α : Type} (done rest : List α) (new : List α) (off m : Nat) (ho : off = done.length) (hm : m = new.length) : (done ++ rest).take off ++ new ++ (done ++ rest).drop (off + m) = done ++ new ++ rest.drop m := by
  subst ho
  rw [List.take_left', List.drop_append, List.drop_of_length_le (by omega)]
  · simp
  · rfl

set_option maxHeartbeats 400000 in
theorem rkey_any {w : World} {b : Nat} {r : List UInt8 × Bool} (h : At 114 w b r) (hl : r.1.length ≤ 1099511627776) :
    Calls Try.prog 96 #[.pointer (some ⟨b, 0, none⟩)] w fun e w' => e = .returned (.string (mk (txtV r 16))) ∧ At 114 w' b (txtS r 16) ∧ But b w w' := by
  have HT := rtext_any 16 h hl
  unfold mk
  generalize (⟨(txtV r 16).toArray⟩ : ByteArray) = y at HT ⊢
  go_enter Try.func96, Try.ntmps96
  go_wp2_with fail
  refine HT.mono ?_
  rintro e w1 ⟨rfl, h1, hb1⟩
  go_wp2
  go_ret
  exact ⟨rfl, h1, hb1⟩
set_option maxHeartbeats 400000 in
theorem rlock_any {w : World} {b : Nat} {r : List UInt8 × Bool} (h : At 114 w b r) (hl : r.1.length ≤ 1099511627776) :
    Calls Try.prog 83 #[.pointer (some ⟨b, 0, none⟩)] w fun e w' => e = .returned (.string (mk (txtV r 32))) ∧ At 114 w' b (txtS r 32) ∧ But b w w' := by
  have HT := rtext_any 32 h hl
  unfold mk
  generalize (⟨(txtV r 32).toArray⟩ : ByteArray) = y at HT ⊢
  go_enter Try.func83, Try.ntmps83
  go_wp2_with fail
  refine HT.mono ?_
  rintro e w1 ⟨rfl, h1, hb1⟩
  go_wp2
  go_ret
  exact ⟨rfl, h1, hb1⟩
theorem rnum2_any {w : World} {b : Nat} {r : List UInt8 × Bool} (h : At 114 w b r) (_hl : r.1.length ≤ 1099511627776) :
    Calls Try.prog 81 #[.pointer (some ⟨b, 0, none⟩)] w fun e w' => e = .returned (.int .i64 (numV r.1)) ∧ At 114 w' b (numS r) ∧ But b w w' :=
  (rnum_any h).mono (by rintro e w' ⟨h1, h2, h3, _⟩; exact ⟨h1, h2, h3⟩)

set_option maxRecDepth 10000 in
set_option maxHeartbeats 2000000 in
theorem rlist_int {w : World} {b : Nat} {r : List UInt8 × Bool} (m : Int) (hm0 : 0 ≤ m) (hm : m ≤ 1000) (h : At 114 w b r) (hl : r.1.length ≤ 1099511627776) :
    Calls Try.prog 80 #[.pointer (some ⟨b, 0, none⟩), .int .i64 m, .func (.func 81) #[] #[]] w fun e w' => ∃ v, e = .returned v ∧ IRow w' w.heap.size v (itemsL (fun r => numV r.1) numS (cntV r.1 m).toNat (cntS r m)) ∧ At 114 w' b (itemsS numS (cntV r.1 m).toNat (cntS r m)) ∧ But b w w' := by
  have HC := rcount_any m h
  have hbl := h.lt
  have hv0 := (cntV_range r.1 m).1
  have hvm := cntV_le r.1 m hm0
  have hl1 : (cntS r m).1.length ≤ 1099511627776 := Nat.le_trans (cnt_le r m) hl
  obtain ⟨n, hn⟩ := Int.eq_ofNat_of_zero_le hv0
  rw [hn] at HC hvm ⊢
  rw [Int.toNat_natCast]
  generalize cntS r m = r1 at HC hl1 ⊢
  clear h hv0 hn hl
  replace HC := hide HC
  go_enter Try.func80, Try.ntmps80
  go_wp2_with fail
  refine HC.out.mono ?_
  rintro e w1 ⟨rfl, hr1, hb1, hz1⟩
  have hr1' := hide hr1
  have hb1' := hide hb1
  clear HC hr1 hb1
  go_wp2_with ((with_reducible refine wpList_at ?_); refine wpList_made (st := 24) Try.underlying24 Try.info3 (by decide) (by rfl) (.tmp 11) (.tmp 11) (by rfl) n (by rfl) (by rfl) (by omega) ?_; intro w2 M hM hM2 hz2 hb2; refine Hid.out ?_)
  unfold Hid
  have hr2 := hide (hr1'.out.below hb2)
  have hb3 := hide (hb1'.out.trans (But.of_below hb2))
  have HM := hide hM2
  have HN := hide hM
  rw [hz1] at HM hz2
  obtain ⟨g, hgg⟩ : ∃ g, w.heap.size = g := ⟨_, rfl⟩
  rw [hgg] at HM hz2 hbl ⊢
  clear hr1' hb1' hb2 hM hM2 hz1
  go_wp2
  go_loopw [15] (fun i wr => ∃ (j : Nat) (rest : List Value), j ≤ n ∧ i = .int .i64 j ∧ Hid (rest.length = (n - j) * 1) ∧ Hid (Cells wr g 3 (List.map (Value.int .i64) (itemsL (fun r => numV r.1) numS j r1) ++ rest)) ∧ Hid (At 114 wr b (itemsS numS j r1)) ∧ Hid (But b w wr)) (fun i _ => n - (intOf i).toNat)
  case atStart => exact ⟨0, M, by omega, rfl, by show _ = _; rw [HN.out]; simp, HM, hr2, hb3⟩
  case round =>
    clear hr2 hb3 HM HN hz2
    obtain ⟨j, rest, hj, rfl, HR, HC, hat, hbut⟩ := hrel
    by_cases hlt : j < n
    · have j1 : (j : Int) < (n : Int) := by omega
      have HG := hide (rnum2_any hat.out (Nat.le_trans (itemsS_le numS (fun r => num_le r) j r1) hl1))
      obtain ⟨x, hx⟩ : ∃ x, (fun r => numV r.1) (itemsS numS j r1) = x := ⟨_, rfl⟩
      have HX := hide hx
      simp only [] at hx
      have HG2 := HG.out
      rw [hx] at HG2
      replace HG2 := hide HG2
      clear hx HG
      go_wp2_with fail
      refine HG2.out.mono ?_
      rintro e w3 ⟨rfl, hr3, hb4⟩
      have HC3 := hide (HC.out.but hb4 (by omega))
      have hb5 := hide (hbut.out.trans hb4)
      have hr3' := hide hr3
      have hoff : (List.map (Value.int .i64) (itemsL (fun r => numV r.1) numS j r1)).length = j := by rw [List.length_map, itemsL_length]
      have HOFF := hide hoff
      clear HG2 HC hbut hb4 hat hr3 hoff
      go_wp2_with ((with_reducible refine wpList_at ?_); refine wpList_splice (by rfl) 3 (.tmp 23) (.tmp 22) (by rfl) g j #[Value.int .i64 x] (Value.int .i64 x) (by rfl) (by rfl) (by rfl) 3 _ HC3.out (by kernel_rfl) (by rw [List.length_append, HR.out, HOFF.out]; simp; omega) (by intro u hu; simp at hu; subst hu; rfl) ?_; intro w4 hc4 hz4 hb6; refine Hid.out ?_)
      unfold Hid
      have hc5 := hide hc4
      have hr5 := hide (hr3'.out.but hb6 (by omega))
      have hb7 : Hid (But b w w4) := by
        have h5 := hb5.out
        exact ⟨hb6.os.trans h5.os, hb6.tape.trans h5.tape, hb6.output.trans h5.output, Nat.le_trans h5.size hb6.size, fun k hk hkb => (hb6.block k (Nat.lt_of_lt_of_le hk h5.size) (by omega)).trans (h5.block k hk hkb)⟩
      clear hc4 hb6 hb5 hr3' HC3
      go_wp2
      go_roundw
      case rel =>
        refine ⟨j + 1, rest.drop 1, by omega, by go_num, ?_, ?_, ?_, hb7⟩
        · show _ = _
          rw [List.length_drop, HR.out]; simp; omega
        · show Cells _ _ _ _
          have h9 := hc5.out
          rw [splice_next _ _ _ _ _ HOFF.out.symm (by rfl)] at h9
          rw [itemsL_snoc, HX.out]
          simpa using h9
        · show At _ _ _ _
          rw [itemsS_snoc]; exact hr5.out
      case measure => simp [intOf]; omega
    · have j1 : ¬ (j : Int) < (n : Int) := by omega
      have he : j = n := by omega
      go_wp2
      go_ret
      rw [he] at HC hat HR
      have hrest : rest = [] := List.eq_nil_of_length_eq_zero (by rw [HR.out]; simp)
      rw [hrest, List.append_nil] at HC
      refine ⟨.slice (some ⟨g, 0, none⟩) n n, rfl, ⟨g, by omega, by rw [itemsL_length], HC.out⟩, hat.out, hbut.out⟩

set_option maxRecDepth 10000 in
set_option maxHeartbeats 2000000 in
theorem rlist_key {w : World} {b : Nat} {r : List UInt8 × Bool} (m : Int) (hm0 : 0 ≤ m) (hm : m ≤ 1000) (h : At 114 w b r) (hl : r.1.length ≤ 1099511627776) :
    Calls Try.prog 82 #[.pointer (some ⟨b, 0, none⟩), .int .i64 m, .func (.func 96) #[] #[]] w fun e w' => ∃ v, e = .returned v ∧ SRow w' w.heap.size v (itemsL (fun r => mk (txtV r 16)) (fun r => txtS r 16) (cntV r.1 m).toNat (cntS r m)) ∧ At 114 w' b (itemsS (fun r => txtS r 16) (cntV r.1 m).toNat (cntS r m)) ∧ But b w w' := by
  have HC := rcount_any m h
  have hbl := h.lt
  have hv0 := (cntV_range r.1 m).1
  have hvm := cntV_le r.1 m hm0
  have hl1 : (cntS r m).1.length ≤ 1099511627776 := Nat.le_trans (cnt_le r m) hl
  obtain ⟨n, hn⟩ := Int.eq_ofNat_of_zero_le hv0
  rw [hn] at HC hvm ⊢
  rw [Int.toNat_natCast]
  generalize cntS r m = r1 at HC hl1 ⊢
  clear h hv0 hn hl
  replace HC := hide HC
  go_enter Try.func82, Try.ntmps82
  go_wp2_with fail
  refine HC.out.mono ?_
  rintro e w1 ⟨rfl, hr1, hb1, hz1⟩
  have hr1' := hide hr1
  have hb1' := hide hb1
  clear HC hr1 hb1
  go_wp2_with ((with_reducible refine wpList_at ?_); refine wpList_made (st := 25) Try.underlying25 Try.info9 (by decide) (by rfl) (.tmp 11) (.tmp 11) (by rfl) n (by rfl) (by rfl) (by omega) ?_; intro w2 M hM hM2 hz2 hb2; refine Hid.out ?_)
  unfold Hid
  have hr2 := hide (hr1'.out.below hb2)
  have hb3 := hide (hb1'.out.trans (But.of_below hb2))
  have HM := hide hM2
  have HN := hide hM
  rw [hz1] at HM hz2
  obtain ⟨g, hgg⟩ : ∃ g, w.heap.size = g := ⟨_, rfl⟩
  rw [hgg] at HM hz2 hbl ⊢
  clear hr1' hb1' hb2 hM hM2 hz1
  go_wp2
  go_loopw [15] (fun i wr => ∃ (j : Nat) (rest : List Value), j ≤ n ∧ i = .int .i64 j ∧ Hid (rest.length = (n - j) * 1) ∧ Hid (Cells wr g 9 (List.map Value.string (itemsL (fun r => mk (txtV r 16)) (fun r => txtS r 16) j r1) ++ rest)) ∧ Hid (At 114 wr b (itemsS (fun r => txtS r 16) j r1)) ∧ Hid (But b w wr)) (fun i _ => n - (intOf i).toNat)
  case atStart => exact ⟨0, M, by omega, rfl, by show _ = _; rw [HN.out]; simp, HM, hr2, hb3⟩
  case round =>
    clear hr2 hb3 HM HN hz2
    obtain ⟨j, rest, hj, rfl, HR, HC, hat, hbut⟩ := hrel
    by_cases hlt : j < n
    · have j1 : (j : Int) < (n : Int) := by omega
      have HG := hide (rkey_any hat.out (Nat.le_trans (itemsS_le (fun r => txtS r 16) (fun r => txt_le r 16) j r1) hl1))
      obtain ⟨x, hx⟩ : ∃ x, (fun r => mk (txtV r 16)) (itemsS (fun r => txtS r 16) j r1) = x := ⟨_, rfl⟩
      have HX := hide hx
      simp only [] at hx
      have HG2 := HG.out
      rw [hx] at HG2
      replace HG2 := hide HG2
      clear hx HG
      go_wp2_with fail
      refine HG2.out.mono ?_
      rintro e w3 ⟨rfl, hr3, hb4⟩
      have HC3 := hide (HC.out.but hb4 (by omega))
      have hb5 := hide (hbut.out.trans hb4)
      have hr3' := hide hr3
      have hoff : (List.map Value.string (itemsL (fun r => mk (txtV r 16)) (fun r => txtS r 16) j r1)).length = j := by rw [List.length_map, itemsL_length]
      have HOFF := hide hoff
      clear HG2 HC hbut hb4 hat hr3 hoff
      go_wp2_with ((with_reducible refine wpList_at ?_); refine wpList_splice (by rfl) 9 (.tmp 23) (.tmp 22) (by rfl) g j #[Value.string x] (Value.string x) (by rfl) (by rfl) (by rfl) 9 _ HC3.out (by kernel_rfl) (by rw [List.length_append, HR.out, HOFF.out]; simp; omega) (by intro u hu; simp at hu; subst hu; rfl) ?_; intro w4 hc4 hz4 hb6; refine Hid.out ?_)
      unfold Hid
      have hc5 := hide hc4
      have hr5 := hide (hr3'.out.but hb6 (by omega))
      have hb7 : Hid (But b w w4) := by
        have h5 := hb5.out
        exact ⟨hb6.os.trans h5.os, hb6.tape.trans h5.tape, hb6.output.trans h5.output, Nat.le_trans h5.size hb6.size, fun k hk hkb => (hb6.block k (Nat.lt_of_lt_of_le hk h5.size) (by omega)).trans (h5.block k hk hkb)⟩
      clear hc4 hb6 hb5 hr3' HC3
      go_wp2
      go_roundw
      case rel =>
        refine ⟨j + 1, rest.drop 1, by omega, by go_num, ?_, ?_, ?_, hb7⟩
        · show _ = _
          rw [List.length_drop, HR.out]; simp; omega
        · show Cells _ _ _ _
          have h9 := hc5.out
          rw [splice_next _ _ _ _ _ HOFF.out.symm (by rfl)] at h9
          rw [itemsL_snoc, HX.out]
          simpa using h9
        · show At _ _ _ _
          rw [itemsS_snoc]; exact hr5.out
      case measure => simp [intOf]; omega
    · have j1 : ¬ (j : Int) < (n : Int) := by omega
      have he : j = n := by omega
      go_wp2
      go_ret
      rw [he] at HC hat HR
      have hrest : rest = [] := List.eq_nil_of_length_eq_zero (by rw [HR.out]; simp)
      rw [hrest, List.append_nil] at HC
      refine ⟨.slice (some ⟨g, 0, none⟩) n n, rfl, ⟨g, by omega, by rw [itemsL_length], HC.out⟩, hat.out, hbut.out⟩

set_option maxRecDepth 10000 in
set_option maxHeartbeats 2000000 in
theorem rlist_lock {w : World} {b : Nat} {r : List UInt8 × Bool} (m : Int) (hm0 : 0 ≤ m) (hm : m ≤ 1000) (h : At 114 w b r) (hl : r.1.length ≤ 1099511627776) :
    Calls Try.prog 82 #[.pointer (some ⟨b, 0, none⟩), .int .i64 m, .func (.func 83) #[] #[]] w fun e w' => ∃ v, e = .returned v ∧ SRow w' w.heap.size v (itemsL (fun r => mk (txtV r 32)) (fun r => txtS r 32) (cntV r.1 m).toNat (cntS r m)) ∧ At 114 w' b (itemsS (fun r => txtS r 32) (cntV r.1 m).toNat (cntS r m)) ∧ But b w w' := by
  have HC := rcount_any m h
  have hbl := h.lt
  have hv0 := (cntV_range r.1 m).1
  have hvm := cntV_le r.1 m hm0
  have hl1 : (cntS r m).1.length ≤ 1099511627776 := Nat.le_trans (cnt_le r m) hl
  obtain ⟨n, hn⟩ := Int.eq_ofNat_of_zero_le hv0
  rw [hn] at HC hvm ⊢
  rw [Int.toNat_natCast]
  generalize cntS r m = r1 at HC hl1 ⊢
  clear h hv0 hn hl
  replace HC := hide HC
  go_enter Try.func82, Try.ntmps82
  go_wp2_with fail
  refine HC.out.mono ?_
  rintro e w1 ⟨rfl, hr1, hb1, hz1⟩
  have hr1' := hide hr1
  have hb1' := hide hb1
  clear HC hr1 hb1
  go_wp2_with ((with_reducible refine wpList_at ?_); refine wpList_made (st := 25) Try.underlying25 Try.info9 (by decide) (by rfl) (.tmp 11) (.tmp 11) (by rfl) n (by rfl) (by rfl) (by omega) ?_; intro w2 M hM hM2 hz2 hb2; refine Hid.out ?_)
  unfold Hid
  have hr2 := hide (hr1'.out.below hb2)
  have hb3 := hide (hb1'.out.trans (But.of_below hb2))
  have HM := hide hM2
  have HN := hide hM
  rw [hz1] at HM hz2
  obtain ⟨g, hgg⟩ : ∃ g, w.heap.size = g := ⟨_, rfl⟩
  rw [hgg] at HM hz2 hbl ⊢
  clear hr1' hb1' hb2 hM hM2 hz1
  go_wp2
  go_loopw [15] (fun i wr => ∃ (j : Nat) (rest : List Value), j ≤ n ∧ i = .int .i64 j ∧ Hid (rest.length = (n - j) * 1) ∧ Hid (Cells wr g 9 (List.map Value.string (itemsL (fun r => mk (txtV r 32)) (fun r => txtS r 32) j r1) ++ rest)) ∧ Hid (At 114 wr b (itemsS (fun r => txtS r 32) j r1)) ∧ Hid (But b w wr)) (fun i _ => n - (intOf i).toNat)
  case atStart => exact ⟨0, M, by omega, rfl, by show _ = _; rw [HN.out]; simp, HM, hr2, hb3⟩
  case round =>
    clear hr2 hb3 HM HN hz2
    obtain ⟨j, rest, hj, rfl, HR, HC, hat, hbut⟩ := hrel
    by_cases hlt : j < n
    · have j1 : (j : Int) < (n : Int) := by omega
      have HG := hide (rlock_any hat.out (Nat.le_trans (itemsS_le (fun r => txtS r 32) (fun r => txt_le r 32) j r1) hl1))
      obtain ⟨x, hx⟩ : ∃ x, (fun r => mk (txtV r 32)) (itemsS (fun r => txtS r 32) j r1) = x := ⟨_, rfl⟩
      have HX := hide hx
      simp only [] at hx
      have HG2 := HG.out
      rw [hx] at HG2
      replace HG2 := hide HG2
      clear hx HG
      go_wp2_with fail
      refine HG2.out.mono ?_
      rintro e w3 ⟨rfl, hr3, hb4⟩
      have HC3 := hide (HC.out.but hb4 (by omega))
      have hb5 := hide (hbut.out.trans hb4)
      have hr3' := hide hr3
      have hoff : (List.map Value.string (itemsL (fun r => mk (txtV r 32)) (fun r => txtS r 32) j r1)).length = j := by rw [List.length_map, itemsL_length]
      have HOFF := hide hoff
      clear HG2 HC hbut hb4 hat hr3 hoff
      go_wp2_with ((with_reducible refine wpList_at ?_); refine wpList_splice (by rfl) 9 (.tmp 23) (.tmp 22) (by rfl) g j #[Value.string x] (Value.string x) (by rfl) (by rfl) (by rfl) 9 _ HC3.out (by kernel_rfl) (by rw [List.length_append, HR.out, HOFF.out]; simp; omega) (by intro u hu; simp at hu; subst hu; rfl) ?_; intro w4 hc4 hz4 hb6; refine Hid.out ?_)
      unfold Hid
      have hc5 := hide hc4
      have hr5 := hide (hr3'.out.but hb6 (by omega))
      have hb7 : Hid (But b w w4) := by
        have h5 := hb5.out
        exact ⟨hb6.os.trans h5.os, hb6.tape.trans h5.tape, hb6.output.trans h5.output, Nat.le_trans h5.size hb6.size, fun k hk hkb => (hb6.block k (Nat.lt_of_lt_of_le hk h5.size) (by omega)).trans (h5.block k hk hkb)⟩
      clear hc4 hb6 hb5 hr3' HC3
      go_wp2
      go_roundw
      case rel =>
        refine ⟨j + 1, rest.drop 1, by omega, by go_num, ?_, ?_, ?_, hb7⟩
        · show _ = _
          rw [List.length_drop, HR.out]; simp; omega
        · show Cells _ _ _ _
          have h9 := hc5.out
          rw [splice_next _ _ _ _ _ HOFF.out.symm (by rfl)] at h9
          rw [itemsL_snoc, HX.out]
          simpa using h9
        · show At _ _ _ _
          rw [itemsS_snoc]; exact hr5.out
      case measure => simp [intOf]; omega
    · have j1 : ¬ (j : Int) < (n : Int) := by omega
      have he : j = n := by omega
      go_wp2
      go_ret
      rw [he] at HC hat HR
      have hrest : rest = [] := List.eq_nil_of_length_eq_zero (by rw [HR.out]; simp)
      rw [hrest, List.append_nil] at HC
      refine ⟨.slice (some ⟨g, 0, none⟩) n n, rfl, ⟨g, by omega, by rw [itemsL_length], HC.out⟩, hat.out, hbut.out⟩

end Go.Proofs.Ythdnldbkpllciaa
