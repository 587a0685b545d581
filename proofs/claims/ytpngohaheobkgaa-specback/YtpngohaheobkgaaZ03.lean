/-
  What the document's turn gives, over words of 32 bits.
-/
import Derived.Test.YtpngohaheobkgaaZ02
import Derived.Test.YtpngohaheobkgaaZ00
import Derived.Laws.BitsAllLaws
namespace Go.Proofs.Ytpngohaheobkgaa
open Go.RowKit

set_option maxHeartbeats 400000 in
theorem turn_any (x : BitVec 32) (n : Nat) (h1 : 1 ≤ n) (h2 : n ≤ 31) (w : World) :
    Calls Try.prog 110 #[.int .u32 x.toNat, .int .u64 n] w fun e w' => e = .returned (.int .u32 (rotr x n).toNat) ∧ w' = w := by
  go_enter Try.func110, Try.ntmps110
  go_wp2
  go_ret
  refine ⟨ret_int ?_, rfl⟩
  rw [bv_shl', bv_shr, bv_or]; rfl

theorem turn_at (x : BitVec 32) (m : Int) (h1 : 1 ≤ m) (h2 : m ≤ 31) (w : World) :
    Calls Try.prog 110 #[.int .u32 x.toNat, .int .u64 m] w fun e w' => e = .returned (.int .u32 (rotr x m.toNat).toNat) ∧ w' = w := by
  obtain ⟨n, rfl⟩ := Int.eq_ofNat_of_zero_le (show 0 ≤ m by omega)
  exact turn_any x n (by omega) (by omega) w

end Go.Proofs.Ytpngohaheobkgaa

/-
  The document's table: the call that makes it.
-/
namespace Go.Proofs.Ytpngohaheobkgaa
open Go.RowKit

set_option maxRecDepth 10000 in
set_option maxHeartbeats 400000 in
theorem table_any (w : World) :
    Calls Try.prog 109 #[] w fun e w' => e = .returned (.agg (cw KK).toArray) ∧ Below w.heap.size w w' := by
  go_enter Try.func109, Try.ntmps109
  go_wp2_with (first
    | (refine wpList_new (P := Try.prog) (by rfl) 117 (by rfl) (zeros 64) 64 Try.info117 ?_; intro w1 hr1 hs1 hb1)
    | (refine wpList_table (by rfl) 117 _ (by rfl) KK (by kernel_rfl) ?_)
    | (refine wpList_put (P := Try.prog) (by rfl) 117 (.tmp 0) (.tmp 1) (by rfl) w.heap.size KK (zeros 64) (by rfl) (by rfl) 117 hr1 (by rw [KK_length]; exact Try.size117) (by rw [KK_length, zeros_length]) ?_; intro w2 hr2 hs2 hb2))
  exact bodyPost_ret (v := .agg (cw KK).toArray) (results_cell_row (fn := Try.f109) Try.results109 _ _ w.heap.size 117 _ (0, 0) _ (by rfl) hr2 Try.underlying117 rfl (by rw [cw_size, KK_length]; exact Try.size117)) rfl
    ⟨rfl, hb1.trans (hb2.below (Nat.le_refl _) (by omega))⟩

end Go.Proofs.Ytpngohaheobkgaa

/-
  Chapter 3 on plain data: a number's eight bytes, and what a reader of bytes answers.
-/
namespace Go.Proofs.Ytpngohaheobkgaa
open Go.RowKit

/-- The first k of a number's eight bytes, the highest first. -/
def be (u : Nat) : Nat → List UInt8
  | 0 => []
  | k + 1 => be u k ++ [UInt8.ofNat (u / 2 ^ (56 - 8 * k))]
theorem be_length (u k : Nat) : (be u k).length = k := by
  induction k with
  | zero => rfl
  | succ k ih => simp [be, ih]
/-- The 64 bits of v. -/
def word (v : Int) : Nat := (v % 18446744073709551616).toNat
theorem word_lt (v : Int) : word v < 18446744073709551616 := by unfold word; omega
theorem word_cast (v : Int) : ((word v : Nat) : Int) = v % 18446744073709551616 := by unfold word; omega
/-- Num: eight bytes. -/
def num8 (v : Int) : List UInt8 := be (word v) 8
theorem num8_length (v : Int) : (num8 v).length = 8 := be_length _ _

/-- Bytes as a number. -/
def val : List UInt8 → Nat := List.foldl (fun a b => a * 256 + b.toNat) 0
theorem val_nil : val [] = 0 := rfl
theorem val_snoc (l : List UInt8) (b : UInt8) : val (l ++ [b]) = val l * 256 + b.toNat := by simp [val]
theorem val_from (l : List UInt8) : ∀ a : Nat, List.foldl (fun a (b : UInt8) => a * 256 + b.toNat) a l < (a + 1) * 256 ^ l.length := by
  induction l with
  | nil => intro a; simp
  | cons b l ih =>
    intro a
    have h := b.toNat_lt
    have h1 := ih (a * 256 + b.toNat)
    have h2 : (a * 256 + b.toNat + 1) * 256 ^ l.length ≤ ((a + 1) * 256) * 256 ^ l.length := Nat.mul_le_mul_right _ (by omega)
    rw [List.foldl_cons, List.length_cons, Nat.pow_succ]
    calc _ < _ := h1
      _ ≤ _ := h2
      _ = _ := by rw [Nat.mul_assoc, Nat.mul_comm 256]
theorem val_lt (l : List UInt8) : val l < 256 ^ l.length := by
  have := val_from l 0; simpa [val] using this
theorem val_be (u k : Nat) (hk : k ≤ 8) (hu : u < 18446744073709551616) : val (be u k) = u / 2 ^ (64 - 8 * k) := by
  induction k with
  | zero => simp [be, val]; omega
  | succ k ih =>
    rw [be, val_snoc, ih (by omega), UInt8.toNat_ofNat']
    have e : 64 - 8 * k = (56 - 8 * k) + 8 := by omega
    have e2 : 64 - 8 * (k + 1) = 56 - 8 * k := by omega
    rw [e, e2, Nat.pow_add, ← Nat.div_div_eq_div_mul]
    generalize u / 2 ^ (56 - 8 * k) = q
    omega
/-- 64 bits as an int. -/
def sgn (n : Nat) : Int := IntKind.i64.wrap (n : Int)
theorem sgn_eq (n : Nat) : sgn n = (if n % 18446744073709551616 < 9223372036854775808 then ((n % 18446744073709551616 : Nat) : Int) else ((n % 18446744073709551616 : Nat) : Int) - 18446744073709551616) := by
  have e : (n : Int) % 18446744073709551616 = ((n % 18446744073709551616 : Nat) : Int) := by omega
  have hw : IntKind.i64.wrap (n : Int) = if 9223372036854775808 ≤ (n : Int) % 18446744073709551616 then (n : Int) % 18446744073709551616 - 18446744073709551616 else (n : Int) % 18446744073709551616 := by
    simp [IntKind.wrap, IntKind.bits, IntKind.signed]
  unfold sgn
  rw [hw, e]; split <;> split <;> omega
theorem sgn_word (v : Int) (h0 : -9223372036854775808 ≤ v) (h1 : v ≤ 9223372036854775807) : sgn (word v) = v := by
  have := word_cast v
  rw [sgn_eq]; split <;> omega
theorem sgn_range (n : Nat) : -9223372036854775808 ≤ sgn n ∧ sgn n ≤ 9223372036854775807 := by rw [sgn_eq]; split <;> omega
theorem val_num8 (v : Int) (h0 : -9223372036854775808 ≤ v) (h1 : v ≤ 9223372036854775807) : sgn (val (num8 v)) = v := by
  rw [num8, val_be _ _ (by omega) (word_lt v)]; simp [sgn_word v h0 h1]

/- What a reader is: the bytes that are left, and whether it is bad. -/
/-- Num: the number, and the reader behind it. -/
def numV (l : List UInt8) : Int := if l.length < 8 then 0 else sgn (val (l.take 8))
def numS (r : (List UInt8 × Bool)) : (List UInt8 × Bool) := if r.1.length < 8 then ([], true) else (r.1.drop 8, r.2)
theorem numV_range (l : List UInt8) : -9223372036854775808 ≤ numV l ∧ numV l ≤ 9223372036854775807 := by
  unfold numV; split
  · omega
  · exact sgn_range _
/-- Count. -/
def cntV (l : List UInt8) (m : Int) : Int := if numV l < 0 ∨ m < numV l then 0 else numV l
def cntS (r : (List UInt8 × Bool)) (m : Int) : (List UInt8 × Bool) := if numV r.1 < 0 ∨ m < numV r.1 then ([], true) else numS r
theorem cntV_range (l : List UInt8) (m : Int) : 0 ≤ cntV l m ∧ cntV l m ≤ 9223372036854775807 := by
  have := numV_range l
  unfold cntV; split <;> omega
/-- Text. -/
def txtV (r : (List UInt8 × Bool)) (m : Int) : List UInt8 := if ((cntS r m).1.length : Int) < cntV r.1 m then [] else (cntS r m).1.take (cntV r.1 m).toNat
def txtS (r : (List UInt8 × Bool)) (m : Int) : (List UInt8 × Bool) := if ((cntS r m).1.length : Int) < cntV r.1 m then ([], true) else ((cntS r m).1.drop (cntV r.1 m).toNat, (cntS r m).2)

theorem num_le (r : (List UInt8 × Bool)) : (numS r).1.length ≤ r.1.length := by unfold numS; split <;> simp
theorem cnt_le (r : (List UInt8 × Bool)) (m : Int) : (cntS r m).1.length ≤ r.1.length := by
  unfold cntS; split
  · simp
  · exact num_le r
theorem txt_le (r : (List UInt8 × Bool)) (m : Int) : (txtS r m).1.length ≤ r.1.length := by
  have := cnt_le r m
  unfold txtS; split
  · simp
  · simp; omega

/-- Once it is bad nothing is left. -/
def Fine (r : (List UInt8 × Bool)) : Prop := r.2 = true → r.1 = []
theorem fine_num (r : (List UInt8 × Bool)) (h : Fine r) : Fine (numS r) := by
  intro hb; unfold numS at *; split at hb
  · simp_all
  · rename_i h1; simp_all [Fine]
theorem fine_cnt (r : (List UInt8 × Bool)) (m : Int) (h : Fine r) : Fine (cntS r m) := by
  intro hb; unfold cntS at *; split at hb
  · simp_all
  · rename_i h1; rw [if_neg h1]; exact fine_num r h hb
theorem fine_txt (r : (List UInt8 × Bool)) (m : Int) (h : Fine r) : Fine (txtS r m) := by
  intro hb; unfold txtS at *; split at hb
  · simp_all
  · rename_i h1; rw [if_neg h1]; simp; rw [fine_cnt r m h hb]; simp

/-- What is written is read. -/
theorem numV_of (v : Int) (h0 : -9223372036854775808 ≤ v) (h1 : v ≤ 9223372036854775807) (t : List UInt8) : numV (num8 v ++ t) = v := by
  have hl := num8_length v
  unfold numV
  rw [if_neg (by rw [List.length_append]; omega), List.take_append_of_le_length (by omega), List.take_of_length_le (by omega), val_num8 v h0 h1]
theorem numS_of (v : Int) (t : List UInt8) (b : Bool) : numS (num8 v ++ t, b) = (t, b) := by
  have hl := num8_length v
  unfold numS
  rw [if_neg (by simp only [List.length_append]; omega)]
  simp only [List.drop_append_of_le_length (show 8 ≤ (num8 v).length by omega), List.drop_of_length_le (show (num8 v).length ≤ 8 by omega), List.nil_append]
theorem cntV_of (n : Nat) (m : Int) (t : List UInt8) (h : (n : Int) ≤ m) (hm : m ≤ 9223372036854775807) : cntV (num8 (n : Int) ++ t) m = n := by
  unfold cntV
  rw [numV_of _ (by omega) (by omega), if_neg (by omega)]
theorem cntS_of (n : Nat) (m : Int) (t : List UInt8) (b : Bool) (h : (n : Int) ≤ m) (hm : m ≤ 9223372036854775807) : cntS (num8 (n : Int) ++ t, b) m = (t, b) := by
  unfold cntS
  simp only
  rw [numV_of _ (by omega) (by omega), if_neg (by omega), numS_of]
/-- Text: how many bytes, and they. -/
def text8 (l : List UInt8) : List UInt8 := num8 (l.length : Int) ++ l
theorem text8_length (l : List UInt8) : (text8 l).length = 8 + l.length := by simp [text8, num8_length]
theorem txtV_of (l : List UInt8) (m : Int) (t : List UInt8) (b : Bool) (h : (l.length : Int) ≤ m) (hm : m ≤ 9223372036854775807) : txtV (text8 l ++ t, b) m = l := by
  unfold txtV text8
  simp only [List.append_assoc]
  rw [cntV_of _ _ _ h hm, cntS_of _ _ _ _ h hm]
  simp only
  rw [if_neg (by rw [List.length_append]; omega)]
  simp
theorem txtS_of (l : List UInt8) (m : Int) (t : List UInt8) (b : Bool) (h : (l.length : Int) ≤ m) (hm : m ≤ 9223372036854775807) : txtS (text8 l ++ t, b) m = (t, b) := by
  unfold txtS text8
  simp only [List.append_assoc]
  rw [cntV_of _ _ _ h hm, cntS_of _ _ _ _ h hm]
  simp only
  rw [if_neg (by rw [List.length_append]; omega)]
  simp
/-- What is more than the most, or less than nothing, is bad. -/
theorem cnt_over (v m : Int) (t : List UInt8) (b : Bool) (h0 : -9223372036854775808 ≤ v) (h1 : v ≤ 9223372036854775807) (h : v < 0 ∨ m < v) : cntV (num8 v ++ t) m = 0 ∧ cntS (num8 v ++ t, b) m = ([], true) := by
  unfold cntV cntS
  simp only
  rw [numV_of _ h0 h1, if_pos h, if_pos h]; exact ⟨rfl, rfl⟩
theorem txt_over (l : List UInt8) (m : Int) (t : List UInt8) (b : Bool) (h : m < (l.length : Int)) (hl : (l.length : Int) ≤ 9223372036854775807) : txtV (text8 l ++ t, b) m = [] ∧ txtS (text8 l ++ t, b) m = ([], true) := by
  obtain ⟨h1, h2⟩ := cnt_over (l.length : Int) m (l ++ t) b (by omega) hl (Or.inr h)
  unfold txtV txtS text8
  simp only [List.append_assoc]
  rw [h1, h2]
  constructor <;> rfl
theorem numV_nil : numV [] = 0 := rfl
theorem numS_nil (b : Bool) : numS ([], b) = ([], true) := rfl
theorem numV_one (v : Int) (h0 : -9223372036854775808 ≤ v) (h1 : v ≤ 9223372036854775807) : numV (num8 v) = v := by
  have := numV_of v h0 h1 []; rwa [List.append_nil] at this
theorem numS_one (v : Int) (b : Bool) : numS (num8 v, b) = ([], b) := by
  have := numS_of v [] b; rwa [List.append_nil] at this
end Go.Proofs.Ytpngohaheobkgaa

/-
  A reader of bytes in memory: a block of two cells, the text that is left and whether it is bad (package codec's, the document's).
-/
namespace Go.Proofs.Ytpngohaheobkgaa
open Go.RowKit

/-- The reader at block b: s is left; bad or not. -/
def Rd (t : TypeId) (w : World) (b : Nat) (s : ByteArray) (bad : Bool) : Prop := w.heap[b]? = some (.cells #[.string s, .bool bad] t (0, 0))
variable {t : TypeId} {w w' : World} {b : Nat} {s : ByteArray} {bad : Bool}
theorem Rd.lt (h : Rd t w b s bad) : b < w.heap.size := (Array.getElem?_eq_some_iff.1 h).1
theorem Rd.rest (h : Rd t w b s bad) : w.cell? ⟨b, 0, none⟩ = some (.string s) := by rw [cell_of_row w b 0 _ t (0, 0) h]; rfl
theorem Rd.isbad (h : Rd t w b s bad) : w.cell? ⟨b, 1, none⟩ = some (.bool bad) := by rw [cell_of_row w b 1 _ t (0, 0) h]; rfl
theorem Rd.frozen (h : Rd t w b s bad) (j : Nat) : w.frozen? ⟨b, j, none⟩ = false := frozen_of_row w b j _ t h
theorem Rd.below (h : Rd t w b s bad) (k : Below w.heap.size w w') : Rd t w' b s bad := by
  have hl := h.lt
  unfold Rd at *
  rw [k.block b hl]; exact h
theorem Rd.but {g : Nat} (h : Rd t w b s bad) (k : But g w w') (hg : b ≠ g) : Rd t w' b s bad := by
  have hl := h.lt
  unfold Rd at *
  rw [k.block b hl hg]; exact h
theorem Rd.drew (h : Rd t w b s bad) : Rd t w.drew b s bad := h
theorem Rd.drewN (h : Rd t w b s bad) (n : Nat) : Rd t (w.drewN n) b s bad := h
theorem Rd.setRest (h : Rd t w b s bad) (s' : ByteArray) : Rd t (w.setCell ⟨b, 0, none⟩ (.string s')) b s' bad := by
  unfold Rd at *
  rw [setCell_eq_setRow w b 0 _ t (0, 0) _ h, setRow_heap w b _ _ t (0, 0) h]; rfl
theorem Rd.setBad (h : Rd t w b s bad) (c : Bool) : Rd t (w.setCell ⟨b, 1, none⟩ (.bool c)) b s c := by
  unfold Rd at *
  rw [setCell_eq_setRow w b 1 _ t (0, 0) _ h, setRow_heap w b _ _ t (0, 0) h]; rfl
theorem Rd.new (t : TypeId) (w : World) (s : ByteArray) (bad : Bool) : Rd t (w.alloc (.cells #[.string s, .bool bad] t)) w.heap.size s bad := heap_alloc_new _ _

theorem ext_rest (s : ByteArray) (n : Nat) : (s.extract n s.size).data.toList = s.data.toList.drop n := by
  rw [extract_list, List.take_of_length_le]; simp

theorem val_take (l : List UInt8) (k : Nat) (h : k < l.length) : val (l.take (k + 1)) = val (l.take k) * 256 + l[k].toNat := by
  rw [List.take_add_one, List.getElem?_eq_getElem h]; exact val_snoc _ _
theorem val_take_lt (l : List UInt8) (k : Nat) (h : k < 8) : val (l.take k) < 72057594037927936 := by
  have h1 := val_lt (l.take k)
  have h2 : 256 ^ (l.take k).length ≤ 256 ^ 7 := Nat.pow_le_pow_right (by omega) (by rw [List.length_take]; omega)
  have h3 : (256 : Nat) ^ 7 = 72057594037927936 := by decide
  omega
theorem wrap64_sgn (n : Nat) : wrap64 (n : Int) = sgn n := by unfold sgn wrap64; rw [IntKind.wrap_i64]
theorem or_byte (n b : Nat) (hn : n < 72057594037927936) (hb : b < 256) : bits .or .u64 ((n : Int) * 256) (b : Int) = ((n * 256 + b : Nat) : Int) := by
  have e : (n : Int) * 256 = ((n * 256 : Nat) : Int) := by omega
  rw [e, u64_or_nat _ _ (by omega) (by omega), nat_join 8 (n * 256) b (by omega) (by omega)]

/-- The reader at block b, as the chapter has it. -/
def At (t : TypeId) (w : World) (b : Nat) (r : (List UInt8 × Bool)) : Prop := ∃ s : ByteArray, s.data.toList = r.1 ∧ Rd t w b s r.2
theorem At.below {t : TypeId} {w w' : World} {b : Nat} {r : (List UInt8 × Bool)} (h : At t w b r) (k : Below w.heap.size w w') : At t w' b r := by
  obtain ⟨s, h1, h2⟩ := h; exact ⟨s, h1, h2.below k⟩
theorem At.but {t : TypeId} {w w' : World} {b g : Nat} {r : (List UInt8 × Bool)} (h : At t w b r) (k : But g w w') (hg : b ≠ g) : At t w' b r := by
  obtain ⟨s, h1, h2⟩ := h; exact ⟨s, h1, h2.but k hg⟩
theorem At.lt {t : TypeId} {w : World} {b : Nat} {r : (List UInt8 × Bool)} (h : At t w b r) : b < w.heap.size := by
  obtain ⟨s, _, h2⟩ := h; exact h2.lt

theorem At.drew {t : TypeId} {w : World} {b : Nat} {r : (List UInt8 × Bool)} (h : At t w b r) : At t w.drew b r := h
theorem ext_first (s : ByteArray) (k : Nat) : s.extract 0 k = ⟨(s.data.toList.take k).toArray⟩ := by
  apply ByteArray.ext; rw [← Array.toList_inj, extract_list]; simp


end Go.Proofs.Ytpngohaheobkgaa

/-
  The document's reader of chapter 3 (handselref03.R): Num, Count, Text, as package codec's.
-/
namespace Go.Proofs.Ytpngohaheobkgaa
open Go.RowKit

set_option maxHeartbeats 400000 in
theorem reffail_any {t : TypeId} {w : World} {b : Nat} {s : ByteArray} {bad : Bool} (h : Rd t w b s bad) :
    Calls Try.prog 95 #[.pointer (some ⟨b, 0, none⟩)] w fun e w' => e = .returned (.tuple #[]) ∧ Rd t w' b ⟨#[]⟩ true ∧ But b w w' ∧ w'.heap.size = w.heap.size := by
  have h0 := h.rest
  have h1 := h.isbad
  have f0 := h.frozen 0
  have f1 := h.frozen 1
  go_enter Try.func95, Try.ntmps95
  go_wp2
  go_end0
  exact ⟨rfl, (h.setRest _).setBad _, (But.setCell _ _ _ _).trans (But.setCell _ _ _ _), by simp [World.setCell]⟩

set_option maxRecDepth 10000 in
set_option maxHeartbeats 1000000 in
theorem refnum_any {t : TypeId} {w : World} {b : Nat} {r : (List UInt8 × Bool)} (hf : Fine r) (h : At t w b r) :
    Calls Try.prog 53 #[.pointer (some ⟨b, 0, none⟩)] w fun e w' => e = .returned (.int .i64 (numV r.1)) ∧ At t w' b (numS r) ∧ But b w w' ∧ w'.heap.size = w.heap.size := by
  obtain ⟨l, bad⟩ := r
  obtain ⟨s, hs, hr⟩ := h
  subst hs
  by_cases hlt : s.size < 8
  · have r0 := hr.rest
    have r1 := hr.isbad
    have HF := reffail_any hr
    have HV : Hid (numV s.data.toList = 0) := by show _ = _; unfold numV; rw [if_pos (by rw [len_list]; exact hlt)]
    have HS : Hid (numS (s.data.toList, bad) = ([], true)) := by show _ = _; unfold numS; rw [if_pos (by rw [len_list]; exact hlt)]
    clear hr hf
    cases bad
    all_goals
      go_enter Try.func53, Try.ntmps53
      go_wp2_with (go_at_call 95; refine HF.mono ?_; rintro e w1 ⟨rfl, hr1, hb1, hz1⟩)
      go_ret
      exact ⟨by rw [HV.out]; rfl, by rw [HS.out]; exact ⟨_, rfl, hr1⟩, hb1, hz1⟩
  · have hbad : bad = false := by
      cases bad
      · rfl
      · have : s.data.toList = [] := hf rfl; exact absurd (by rw [← len_list, this]; decide) hlt
    subst hbad
    have r0 := hr.rest
    have r1 := hr.isbad
    have f0 := hr.frozen 0
    have HV : Hid (numV s.data.toList = sgn (val (s.data.toList.take 8))) := by show _ = _; unfold numV; rw [if_neg (by rw [len_list]; exact hlt)]
    have HS : Hid (numS (s.data.toList, false) = (s.data.toList.drop 8, false)) := by show _ = _; unfold numS; rw [if_neg (by rw [len_list]; exact hlt)]
    clear hf
    have h8 : (8 : Int) ≤ (s.size : Int) := by omega
    go_enter Try.func53, Try.ntmps53
    go_wp2
    go_loopw [3, 4] (fun v i wr => ∃ (k n : Nat), k ≤ 8 ∧ i = .int .i64 k ∧ n = val (s.data.toList.take k) ∧ v = .int .u64 n ∧ wr = w) (fun _ i _ => 8 - (intOf i).toNat)
    case atStart => exact ⟨0, 0, by omega, rfl, rfl, rfl, rfl⟩
    case round =>
      obtain ⟨k, n, hk, rfl, hn, rfl, hw⟩ := hrel
      subst hw
      by_cases hk8 : k < 8
      · have hl : k < s.data.toList.length := by rw [len_list]; omega
        have hks : k < s.size := by omega
        have k1 : (k : Int) < (s.size : Int) := by omega
        have hn2 : n < 72057594037927936 := by rw [hn]; exact val_take_lt _ _ hk8
        have hx : s[k].toNat < 256 := s[k].toNat_lt
        have HV2 : Hid (n * 256 + s[k].toNat = val (s.data.toList.take (k + 1))) := by
          show _ = _
          rw [val_take _ _ hl, hn, byte_get s k hks, List.getD_eq_getElem?_getD, List.getElem?_eq_getElem hl]; rfl
        have HO := or_byte n s[k].toNat hn2 hx
        clear hn
        go_wp2
        go_roundw
        case rel => exact ⟨k + 1, n * 256 + s[k].toNat, by omega, by go_num, HV2.out, by rfl, by trivial⟩
        case measure => simp [intOf]; omega
      · have hk9 : k = 8 := by omega
        subst hk9
        have HN : Hid (n = val (s.data.toList.take 8)) := hn
        clear hn
        go_wp2
        go_ret
        refine ⟨ret_int ?_, ?_, But.setCell _ _ _ _, by simp [World.setCell]⟩
        · rw [HV.out, ← HN.out]; exact wrap64_sgn _
        · rw [HS.out]; exact ⟨_, ext_rest s 8, hr.setRest _⟩

theorem num_bad (r : (List UInt8 × Bool)) (hf : Fine r) (h : (numS r).2 = true) : numV r.1 = 0 ∧ numS r = ([], true) := by
  unfold numS numV at *
  by_cases hlt : r.1.length < 8
  · rw [if_pos hlt, if_pos hlt]; exact ⟨rfl, rfl⟩
  · rw [if_neg hlt] at h
    rw [hf h] at hlt; exact absurd (by decide) hlt
theorem cnt_bad (r : (List UInt8 × Bool)) (m : Int) (hf : Fine r) (h : (cntS r m).2 = true) : cntV r.1 m = 0 ∧ cntS r m = ([], true) := by
  unfold cntS cntV at *
  split
  · exact ⟨rfl, rfl⟩
  · rename_i h1
    rw [if_neg h1] at h
    exact num_bad r hf h

set_option maxHeartbeats 400000 in
theorem refcount_any {t : TypeId} {w : World} {b : Nat} {r : (List UInt8 × Bool)} (m : Int) (hf : Fine r) (h : At t w b r) :
    Calls Try.prog 51 #[.pointer (some ⟨b, 0, none⟩), .int .i64 m] w fun e w' => e = .returned (.int .i64 (cntV r.1 m)) ∧ At t w' b (cntS r m) ∧ But b w w' ∧ w'.heap.size = w.heap.size := by
  have HN := refnum_any hf h
  clear h
  have hbad := num_bad r hf
  have HV : Hid (cntV r.1 m = if numV r.1 < 0 ∨ m < numV r.1 then 0 else numV r.1) := (rfl : _ = _)
  have HS : Hid (cntS r m = if numV r.1 < 0 ∨ m < numV r.1 then ([], true) else numS r) := (rfl : _ = _)
  generalize numV r.1 = x at HN HV HS hbad
  generalize numS r = r1 at HN HS hbad
  generalize cntV r.1 m = y at HV ⊢
  generalize cntS r m = r2 at HS ⊢
  clear hf
  obtain ⟨l1, b1⟩ := r1
  by_cases hlt : b1 = true ∨ x < 0 ∨ m < x
  · have hVS : y = 0 ∧ r2 = ([], true) := by
      rcases hlt with h1 | h1
      · obtain ⟨h2, h3⟩ := hbad h1
        rw [HV.out, HS.out, h2, h3]
        split <;> exact ⟨rfl, rfl⟩
      · rw [HV.out, HS.out, if_pos h1, if_pos h1]; exact ⟨rfl, rfl⟩
    obtain ⟨hV, hS⟩ := hVS
    subst hV hS
    clear HV HS hbad
    have hx : b1 = true ∨ (b1 = false ∧ x < 0) ∨ (b1 = false ∧ 0 ≤ x ∧ m < x) := by
      cases b1
      · right
        have : x < 0 ∨ m < x := by simpa using hlt
        by_cases h1 : x < 0
        · exact .inl ⟨rfl, h1⟩
        · exact .inr ⟨rfl, by omega, by omega⟩
      · exact .inl rfl
    clear hlt
    rcases hx with rfl | ⟨rfl, h1⟩ | ⟨rfl, h0, h1⟩
    all_goals
      go_enter Try.func51, Try.ntmps51
      go_wp2_with fail
      refine HN.mono ?_
      rintro e w1 ⟨rfl, ⟨s, hs1, hr1⟩, hb1, hz1⟩
      have HF := reffail_any hr1
      have r0 := hr1.isbad
      go_wp2_with (go_at_call 95; refine HF.mono ?_; rintro e w2 ⟨rfl, hr2, hb2, hz2⟩)
      go_ret
      exact ⟨rfl, ⟨_, rfl, hr2⟩, hb1.trans hb2, by omega⟩
  · have hb1 : b1 = false := by cases b1 <;> simp_all
    have h2 : ¬ (x < 0 ∨ m < x) := fun h => hlt (.inr h)
    have hV : y = x := by rw [HV.out, if_neg h2]
    have hS : r2 = (l1, b1) := by rw [HS.out, if_neg h2]
    subst hV hS hb1
    clear HV HS hbad hlt
    have h0 : 0 ≤ y := by omega
    have h1 : y ≤ m := by omega
    clear h2
    go_enter Try.func51, Try.ntmps51
    go_wp2_with fail
    refine HN.mono ?_
    rintro e w1 ⟨rfl, ⟨s, hs1, hr1⟩, hb1, hz1⟩
    have r0 := hr1.isbad
    go_wp2
    go_ret
    exact ⟨rfl, ⟨s, hs1, hr1⟩, hb1, hz1⟩

set_option maxHeartbeats 400000 in
theorem reftext_any {t : TypeId} {w : World} {b : Nat} {r : (List UInt8 × Bool)} (m : Int) (hf : Fine r) (h : At t w b r) :
    Calls Try.prog 50 #[.pointer (some ⟨b, 0, none⟩), .int .i64 m] w fun e w' => e = .returned (.string ⟨(txtV r m).toArray⟩) ∧ At t w' b (txtS r m) ∧ But b w w' := by
  have HN := refcount_any m hf h
  clear h
  have hbad := cnt_bad r m hf
  have hx0 := (cntV_range r.1 m).1
  have HV : Hid (txtV r m = if ((cntS r m).1.length : Int) < cntV r.1 m then [] else (cntS r m).1.take (cntV r.1 m).toNat) := (rfl : _ = _)
  have HS : Hid (txtS r m = if ((cntS r m).1.length : Int) < cntV r.1 m then ([], true) else ((cntS r m).1.drop (cntV r.1 m).toNat, (cntS r m).2)) := (rfl : _ = _)
  obtain ⟨k, hk⟩ := Int.eq_ofNat_of_zero_le hx0
  rw [hk] at HN HV HS hbad
  generalize cntS r m = r1 at HN HS HV hbad
  generalize txtV r m = y at HV ⊢
  generalize txtS r m = r2 at HS ⊢
  clear hk hx0 hf
  obtain ⟨l1, b1⟩ := r1
  by_cases hlt : b1 = true ∨ (l1.length : Int) < (k : Int)
  · have hVS : y = [] ∧ r2 = ([], true) := by
      rcases hlt with h1 | h1
      · obtain ⟨h2, h3⟩ := hbad h1
        have h4 : k = 0 := by omega
        have h5 : l1 = [] := congrArg Prod.fst h3
        rw [HV.out, HS.out, h4, h5, h1]
        constructor <;> rfl
      · rw [HV.out, HS.out, if_pos h1, if_pos h1]; exact ⟨rfl, rfl⟩
    obtain ⟨hV, hS⟩ := hVS
    subst hV hS
    clear HV HS hbad
    have hx : b1 = true ∨ (b1 = false ∧ (l1.length : Int) < (k : Int)) := by
      cases b1
      · exact .inr ⟨rfl, by simpa using hlt⟩
      · exact .inl rfl
    clear hlt
    rcases hx with rfl | ⟨rfl, h1⟩
    · go_enter Try.func50, Try.ntmps50
      go_wp2_with fail
      refine HN.mono ?_
      rintro e w1 ⟨rfl, ⟨s, hs1, hr1⟩, hb1, hz1⟩
      have HF := reffail_any hr1
      have r0 := hr1.isbad
      go_wp2_with (go_at_call 95; refine HF.mono ?_; rintro e w2 ⟨rfl, hr2, hb2, hz2⟩)
      go_ret
      exact ⟨rfl, ⟨_, rfl, hr2⟩, hb1.trans hb2⟩
    · go_enter Try.func50, Try.ntmps50
      go_wp2_with fail
      refine HN.mono ?_
      rintro e w1 ⟨rfl, ⟨s, hs1, hr1⟩, hb1, hz1⟩
      have HF := reffail_any hr1
      have r0 := hr1.isbad
      have r1 := hr1.rest
      have h2 : (s.size : Int) < (k : Int) := by rw [← len_list, hs1]; exact h1
      go_wp2_with (go_at_call 95; refine HF.mono ?_; rintro e w2 ⟨rfl, hr2, hb2, hz2⟩)
      go_ret
      exact ⟨rfl, ⟨_, rfl, hr2⟩, hb1.trans hb2⟩
  · have hb1 : b1 = false := by cases b1 <;> simp_all
    have h2 : ¬ ((l1.length : Int) < (k : Int)) := fun h => hlt (.inr h)
    have HV' : Hid (y = l1.take k) := by show _ = _; rw [HV.out, if_neg h2]; rfl
    have HS' : Hid (r2 = (l1.drop k, b1)) := by show _ = _; rw [HS.out, if_neg h2]; rfl
    subst hb1
    clear HV HS hbad hlt
    go_enter Try.func50, Try.ntmps50
    go_wp2_with fail
    refine HN.mono ?_
    rintro e w1 ⟨rfl, ⟨s, hs1, hr1⟩, hb1, hz1⟩
    have hs2 : s.data.toList = l1 := hs1
    rw [← hs2] at HV' HS' h2
    have r0 := hr1.rest
    have r1 := hr1.isbad
    have f0 := hr1.frozen 0
    have h1 : (k : Int) ≤ (s.size : Int) := by rw [← len_list]; omega
    have HT : Hid (s.extract 0 k = ⟨y.toArray⟩) := by show _ = _; rw [HV'.out, ext_first]
    have HU : Hid ((s.extract k s.size).data.toList = r2.1) := by show _ = _; rw [HS'.out, ext_rest]
    have HB : Hid (r2.2 = false) := by show _ = _; rw [HS'.out]
    clear hs1 hs2 h2 HV'
    go_wp2
    go_ret
    refine ⟨by rw [HT.out]; rfl, ⟨_, HU.out, ?_⟩, hb1.trans (But.setCell _ _ _ _)⟩
    rw [HB.out]
    exact hr1.setRest _

end Go.Proofs.Ytpngohaheobkgaa
