/-
  Slices of bytes that a call itself makes and appends to.
-/
import Derived.Test.YthoimecljfcjmaaZ00
import Derived.Lib.AppendStr
import Derived.Laws.IdiomStrings
import Derived.OwnWalk
namespace Go.Proofs.Ythoimecljfcjmaa
open Go.RowKit

theorem Try.info5 : (Try.prog.info? 5).map (fun i => (i.zero, i.size, i.bytes)) = some (some (.int .u8 0), 1, 1) := by kernel_rfl

/-- Bytes as cells. -/
def cb (l : List UInt8) : List Value := l.map fun b => Value.int .u8 (b.toNat : Int)
theorem cb_length (l : List UInt8) : (cb l).length = l.length := by simp [cb]
theorem cb_append (l k : List UInt8) : cb (l ++ k) = cb l ++ cb k := by simp [cb]
theorem cb_one (l : List UInt8) : ∀ u ∈ cb l, u.oneCell' = true := fun u hu => by
  simp [cb] at hu; obtain ⟨b, _, rfl⟩ := hu; rfl

/-- The slice v, of blocks from B on, holds the bytes l. -/
def Own (w : World) (B : Nat) (v : Value) (l : List UInt8) : Prop := w.ownsRow B 5 1 v l.length (cb l)
theorem Own.nil (w : World) (B : Nat) : Own w B (.slice none 0 0) [] := World.ownsRow_nil _ _ _ _
theorem Own.alloc {w : World} {B : Nat} {v : Value} {l : List UInt8} (h : Own w B v l) (o : Obj) : Own (w.alloc o) B v l := World.ownsRow.alloc h o
theorem Own.drew {w : World} {B : Nat} {v : Value} {l : List UInt8} (h : Own w B v l) : Own w.drew B v l := h
theorem Own.slice {w : World} {B : Nat} {v : Value} {l : List UInt8} (h : Own w B v l) : ∃ a c, v = .slice a l.length c := by
  obtain ⟨_, ⟨rfl, h0⟩ | ⟨g, cap, cur, rfl, _⟩⟩ := h
  · exact ⟨none, 0, by rw [h0]⟩
  · exact ⟨_, _, rfl⟩
theorem Own.below {w w' : World} {B : Nat} {v : Value} {l : List UInt8} (h : Own w B v l) (k : Below w.heap.size w w') : Own w' B v l := by
  obtain ⟨h1, ⟨rfl, h0⟩ | ⟨g, cap, cur, hv, hb, hg, hr⟩⟩ := h
  · exact ⟨h1, .inl ⟨rfl, h0⟩⟩
  · exact ⟨h1, .inr ⟨g, cap, cur, hv, hb, by rw [k.block g (Array.getElem?_eq_some_iff.1 hg).1]; exact hg, hr⟩⟩
theorem Own.grown {w w' : World} {B : Nat} {v : Value} {l : List UInt8} (h : Own w B v l) (k : w.grownBy w' v.ownBlock) (hB : B ≤ w.heap.size) : Below B w w' :=
  (Below.refl B w).grown k hB (fun j hj => (World.ownsRow.lt h j hj).1)

/-- make, with room for so many. -/
theorem wpList_buf {ops : Array Oper} {rest : List Oper} {o : Oper} {a : Act} {w : World} {Q : Exit → Act → World → Prop} (hgd : o.guard = none) (x c : Operand) (ho : o.op = Op.makeSlice 34 x c)
    (B : Nat) (C : Int) (n : Nat) (hx : a.eval x = .int .i64 0) (hc : a.eval c = .int .i64 C) (hC : C = (n : Int)) (hn : n ≤ 1099511627776) (hB : B ≤ w.heap.size)
    (h : ∀ v w', Own w' B v [] → Below w.heap.size w w' → wpList Try.prog ops Q rest (a.put o.dst v) w') : wpList Try.prog ops Q (o :: rest) a w := by
  obtain ⟨i0, hi, hz0, hz1, hz2⟩ := info_parts Try.info5
  refine wpList_make_own w hgd x c 34 ho B 5 i0 (.int .u8 0) 1 Try.underlying34 hi hz0 hz1 .i64 .i64 C n hx hc hC (by rw [hz2]; omega) (by unfold maxLen; omega) hB ?_
  intro w' hown hgrow
  exact h _ _ hown ((Below.refl _ _).grown hgrow (Nat.le_refl _) (fun k hk => by cases hk))

/-- append of bytes that lie in a row. -/
theorem wpList_more {ops : Array Oper} {rest : List Oper} {o : Oper} {a : Act} {w : World} {Q : Exit → Act → World → Prop} (hgd : o.guard = none) (s x : Operand)
    (ho : o.op = .call { callee := .builtin .append, args := #[s, x], argTypes := #[34, 34] })
    (B : Nat) (v : Value) (l : List UInt8) (hs : a.eval s = v) (hown : Own w B v l) (g c n : Nat) (news : List UInt8) (hx : a.eval x = .slice (some ⟨g, 0, none⟩) n c) (hn : news.length = n)
    (hnews : ∀ j u, (cb news)[j]? = some u → w.cell? ⟨g, j, none⟩ = some u) (hlen : l.length + n ≤ 1099511627776) (hB : B ≤ w.heap.size)
    (h : ∀ v' w', Own w' B v' (l ++ news) → Below B w w' → wpList Try.prog ops Q rest (a.put o.dst v') w') : wpList Try.prog ops Q (o :: rest) a w := by
  obtain ⟨i0, hi, hz0, hz1, hz2⟩ := info_parts Try.info5
  subst hn
  refine wpList_append_own w hgd s x 34 ho B 5 i0 (.int .u8 0) 1 1 Try.underlying34 hi hz0 hz1 hz2 rfl (by decide) v l.length (cb l) hs hown ⟨g, 0, none⟩ news.length c (cb news) hx (by rw [cb_length]; omega)
    (fun j u hj => by rw [show (⟨g, 0, none⟩ : Addr).add j = ⟨g, j, none⟩ by unfold Addr.add; split <;> simp_all]; exact hnews j u hj) (cb_one news) (by unfold maxLen; omega) (by omega) hB ?_
  intro v' w' hown' hgrow _
  exact h v' w' (by unfold Own; rw [List.length_append, cb_append]; exact hown') (hown.grown hgrow hB)

/-- append of bytes that are written out. -/
theorem wpList_lit {ops : Array Oper} {rest : List Oper} {o : Oper} {a : Act} (w : World) (arr : Array Value) {Q : Exit → Act → World → Prop} (hgd : o.guard = none) (s x : Operand)
    (ho : o.op = .call { callee := .builtin .append, args := #[s, x], argTypes := #[34, 34] })
    (B : Nat) (v : Value) (l : List UInt8) (hs : a.eval s = v) (hown : Own w B v l) (news : List UInt8) (n : Nat) (hn : news.length = n) (hx : a.eval x = .slice (some ⟨w.heap.size, 0, none⟩) n n)
    (harr : arr = (cb news).toArray) (hlen : l.length + n ≤ 1099511627776) (hB : B ≤ w.heap.size)
    (h : ∀ v' w', Own w' B v' (l ++ news) → Below B w w' → wpList Try.prog ops Q rest (a.put o.dst v') w') : wpList Try.prog ops Q (o :: rest) a (w.alloc (.cells arr 5)) :=
  wpList_more hgd s x ho B v l hs (hown.alloc _) w.heap.size n n news hx hn
    (fun j u hj => by rw [harr, World.cell?_alloc_new]; simpa using hj) hlen (by simp; omega)
    (fun v' w' h1 h2 => h v' w' h1 (((Below.refl B w).alloc hB _).trans h2))

/-- The same in a region that draws its order. -/
theorem step_lit {ops : Array Oper} {o : Oper} {a : Act} {K : Act → World → Prop} {Q : Exit → Act → World → Prop} {E : Prop} (w : World) (arr : Array Value) (hgd : o.guard = none) (s x : Operand)
    (ho : o.op = .call { callee := .builtin .append, args := #[s, x], argTypes := #[34, 34] })
    (B : Nat) (v : Value) (l : List UInt8) (hs : a.eval s = v) (hown : Own w B v l) (news : List UInt8) (n : Nat) (hn : news.length = n) (hx : a.eval x = .slice (some ⟨w.heap.size, 0, none⟩) n n)
    (harr : arr = (cb news).toArray) (hlen : l.length + n ≤ 1099511627776) (hB : B ≤ w.heap.size)
    (h : ∀ v' w', Own w' B v' (l ++ news) → Below B w w' → K (a.put o.dst v') w') :
    if Region.wanted o (yielded ops a.tmps) = true then Oper.wp Try.prog o a (w.alloc (.cells arr 5)).drew K Q else E := by
  obtain ⟨i0, hi, hz0, hz1, hz2⟩ := info_parts Try.info5
  have hw : Region.wanted o (yielded ops a.tmps) = true := by simp [Region.wanted, hgd]
  rw [if_pos hw]
  subst hn
  have hown' : Own (w.alloc (.cells arr 5)).drew B v l := (hown.alloc _).drew
  refine wp_append_own _ s x 34 ho B 5 i0 (.int .u8 0) 1 1 Try.underlying34 hi hz0 hz1 hz2 rfl (by decide) v l.length (cb l) hs hown' ⟨w.heap.size, 0, none⟩ news.length _ (cb news) hx (by rw [cb_length]; omega)
    (fun j u hj => ?_) (cb_one news) (by unfold maxLen; omega) (by omega) (by simp; omega) ?_
  · rw [show (⟨w.heap.size, 0, none⟩ : Addr).add j = ⟨w.heap.size, j, none⟩ by unfold Addr.add; split <;> simp_all]
    show (w.alloc (.cells arr 5)).cell? _ = _
    rw [harr, World.cell?_alloc_new]; simpa using hj
  · intro v' w' hown2 hgrow _
    refine h v' w' (by unfold Own; rw [List.length_append, cb_append]; exact hown2) ?_
    exact (((Below.refl B w).alloc hB _).drew).trans (hown'.grown hgrow (by simp; omega))

/-- append of a text's bytes. -/
theorem wpList_text {ops : Array Oper} {rest : List Oper} {o : Oper} {a : Act} {w : World} {Q : Exit → Act → World → Prop} (hgd : o.guard = none) (s x : Operand)
    (ho : o.op = .call { callee := .builtin .append, args := #[s, x], argTypes := #[34, 9] })
    (B : Nat) (v : Value) (l : List UInt8) (hs : a.eval s = v) (hown : Own w B v l) (t : ByteArray) (hx : a.eval x = .string t) (hlen : l.length + t.size ≤ 1099511627776) (hB : B ≤ w.heap.size)
    (h : ∀ v' w', Own w' B v' (l ++ t.data.toList) → Below B w w' → wpList Try.prog ops Q rest (a.put o.dst v') w') : wpList Try.prog ops Q (o :: rest) a w := by
  obtain ⟨i0, hi, hz0, hz1, hz2⟩ := info_parts Try.info5
  refine Go.Lib.wpList_append_own_string w hgd s x 34 9 ho B 5 i0 Try.underlying34 Try.underlying9 hi hz0 hz1 hz2 v l.length (cb l) hs hown t hx (by unfold maxLen; omega) (by omega) hB ?_
  intro v' w' hown' hgrow _
  refine h v' w' ?_ (hown.grown hgrow hB)
  unfold Own
  rw [List.length_append, cb_append, Array.length_toList]
  exact hown'

/-- string(b). -/
theorem run_said {w : World} {B : Nat} {v : Value} {l : List UInt8} (hown : Own w B v l) : (convert 34 9 v).run Try.prog w = .ok (.string ⟨l.toArray⟩) w := by
  obtain ⟨h1, ⟨rfl, h0⟩ | ⟨g, cap, cur, rfl, hb, hg, hr1, hr2, hr3, hr4⟩⟩ := hown
  · obtain rfl : l = [] := List.length_eq_zero_iff.1 h0
    rw [run_convert_bytes_string w 34 9 5 none 0 0 Try.underlying34 Try.underlying5 Try.underlying9]
    simp [Conv.bytesToString]
    rfl
  · refine run_convert_bytes_back w 34 9 5 ⟨g, 0, none⟩ cap l Try.underlying34 Try.underlying5 Try.underlying9 fun j hj => ?_
    rw [show (⟨g, 0, none⟩ : Addr).add j = ⟨g, j, none⟩ by unfold Addr.add; split <;> simp_all, cell_of_row w g j cur 5 (0, 0) hg]
    have e : (cb l)[j]? = some (.int .u8 (l[j].toNat : Int)) := by simp [cb, hj]
    rw [← hr4, List.getElem?_take, if_pos (by omega)] at e
    simpa using e

theorem wpList_said {ops : Array Oper} {rest : List Oper} {o : Oper} {a : Act} {w : World} {Q : Exit → Act → World → Prop} (hgd : o.guard = none) (x : Operand) (ho : o.op = .convert 34 9 x)
    (B : Nat) (v : Value) (l : List UInt8) (hx : a.eval x = v) (hown : Own w B v l)
    (h : wpList Try.prog ops Q rest (a.put o.dst (.string ⟨l.toArray⟩)) w) : wpList Try.prog ops Q (o :: rest) a w :=
  wpList_plain hgd fun _ hK => by
    unfold Oper.wp execOp
    simp only [ho, hx, Sem.run_bind, run_said hown, Result.andThen_ok]
    exact hK _ _ h

/-- make, so many zeros. -/
theorem made_zeros (k : Nat) : (madeCells (Value.int .u8 0).cells (k * 1)).toList = cb (List.replicate k 0) := by
  rw [Nat.mul_one]
  apply List.ext_getElem?
  intro j
  by_cases hj : j < k
  · simp [madeCells, Value.cells, cb, hj, Nat.mod_one]
  · simp [madeCells, Value.cells, cb, hj]
theorem wpList_zeros {ops : Array Oper} {rest : List Oper} {o : Oper} {a : Act} {w : World} {Q : Exit → Act → World → Prop} (hgd : o.guard = none) (x c : Operand) (ho : o.op = Op.makeSlice 34 x c)
    (B : Nat) (k : Nat) (hx : a.eval x = .int .i64 (k : Int)) (hc : a.eval c = .int .i64 (k : Int)) (hn : k ≤ 1099511627776) (hB : B ≤ w.heap.size)
    (h : ∀ v w', Own w' B v (List.replicate k 0) → Below w.heap.size w w' → wpList Try.prog ops Q rest (a.put o.dst v) w') : wpList Try.prog ops Q (o :: rest) a w := by
  obtain ⟨i0, hi, hz0, hz1, hz2⟩ := info_parts Try.info5
  refine wpList_make_full w hgd x c 34 ho B 5 i0 (.int .u8 0) 1 Try.underlying34 hi hz0 hz1 .i64 .i64 _ _ k hx hc rfl rfl (by rw [hz2]; omega) (by unfold maxLen; omega) hB ?_
  intro w' hown hgrow
  refine h _ _ ?_ ((Below.refl _ _).grown hgrow (Nat.le_refl _) (fun j hj => by cases hj))
  unfold Own
  rw [List.length_replicate, ← made_zeros k]; exact hown

end Go.Proofs.Ythoimecljfcjmaa

/-
  Package sha's lastBlocks.
-/
namespace Go.Proofs.Ythoimecljfcjmaa
open Go.RowKit

def lenOf : Value → Nat
  | .slice _ n _ => n
  | _ => 0

/-- A byte of a number, so many bits up. -/
def upByte (n k : Nat) : UInt8 := UInt8.ofNat (n / 2 ^ k)
/-- The first i of eight bytes of a number, the highest first. -/
def tops (n : Nat) : Nat → List UInt8
  | 0 => []
  | i + 1 => tops n i ++ [upByte n (56 - 8 * i)]
theorem tops_length (n i : Nat) : (tops n i).length = i := by
  induction i with
  | zero => rfl
  | succ i ih => simp [tops, ih]
/-- How many zeros stand behind so many bytes. -/
def gap (r : Nat) : Nat := (119 - r % 64) % 64
/-- What is mixed in behind the whole blocks of a text of n bytes. -/
def lastB (r : List UInt8) (n : Nat) : List UInt8 := r ++ [128] ++ List.replicate (gap r.length) 0 ++ tops (8 * n) 8

theorem top_row (n k : Nat) : #[Value.int IntKind.u8 ((n : Int) * 8 / 2 ^ (56 - 8 * k) % 256)] = (cb [upByte (8 * n) (56 - 8 * k)]).toArray := by
  have e : (((upByte (8 * n) (56 - 8 * k)).toNat : Nat) : Int) = (n : Int) * 8 / 2 ^ (56 - 8 * k) % 256 := by
    unfold upByte
    rw [UInt8.toNat_ofNat', Int.natCast_emod, Int.natCast_ediv, Int.natCast_mul, Int.natCast_pow, Int.mul_comm]; rfl
  simp [cb, e]

set_option maxRecDepth 10000 in
set_option maxHeartbeats 1000000 in
theorem last_any (r : ByteArray) (n : Nat) (hr : r.size ≤ 63) (hn : n ≤ 1099511627776) (w : World) :
    Calls Try.prog 45 #[.string r, .int .i64 n] w fun e w' => e = .returned (.string ⟨(lastB r.data.toList n).toArray⟩) ∧ Below w.heap.size w w' := by
  go_enter Try.func45, Try.ntmps45
  go_wp2_with (first
    | (at_make; refine wpList_buf (by rfl) _ _ (by rfl) w.heap.size _ 128 (by rfl) (by rfl) (by rfl) (by omega) (Nat.le_refl _) ?_; intro v1 w1 hown1 hb1)
    | (at_builtin; refine wpList_text (by rfl) (.tmp 9) (.tmp 10) (by rfl) w.heap.size v1 [] (by rfl) hown1 r (by rfl) (by simp; omega) hb1.size ?_; intro v2 w2 hown2 hb2)
    | (at_builtin; refine wpList_lit w2 _ (by rfl) (.tmp 12) (.tmp 13) (by rfl) w.heap.size v2 _ (by rfl) hown2 [128] 1 rfl (by rfl) rfl (by simp; omega) (Nat.le_trans hb1.size hb2.size) ?_; intro v3 w3 hown3 hb3))
  have hB3 : Below w.heap.size w w3 := (hb1.trans hb2).trans hb3
  rw [List.nil_append] at hown3
  clear hown1 hown2 hb1 hb2 hb3
  go_loopw [5] (fun v wr => ∃ j : Nat, j ≤ gap r.size ∧ Own wr w.heap.size v (r.data.toList ++ [128] ++ List.replicate j 0) ∧ Below w.heap.size w wr) (fun v _ => 200 - lenOf v)
  case atStart => exact ⟨0, by omega, by simpa using hown3, hB3⟩
  case round =>
    clear hown3 hB3
    obtain ⟨j, hj, hown, hb⟩ := hrel
    obtain ⟨L, hL⟩ : ∃ L, L = r.data.toList ++ [128] ++ List.replicate j 0 := ⟨_, rfl⟩
    have hlen : L.length = r.size + 1 + j := by rw [hL]; simp; omega
    rw [← hL] at hown
    have HL : Hid (L = r.data.toList ++ [128] ++ List.replicate j 0) := hL
    clear hL
    obtain ⟨a0, c0, rfl⟩ := hown.slice
    have hg : (r.size ≤ 55 ∧ gap r.size = 55 - r.size) ∨ (55 < r.size ∧ gap r.size = 119 - r.size) := by unfold gap; omega
    have hg' : Hid ((r.size ≤ 55 ∧ gap r.size = 55 - r.size) ∨ (55 < r.size ∧ gap r.size = 119 - r.size)) := hg
    have hL1 : L.length ≤ 128 := by omega
    have HLen : Hid (L.length = r.size + 1 + j) := hlen
    by_cases hlt : j < gap r.size
    · have ht : ((L.length : Int) % 64 == 56) = false := by rw [hlen]; simp; omega
      clear hlen hg
      go_wp2_with (at_builtin; refine wpList_lit wr _ (by rfl) (.tmp 19) (.tmp 20) (by rfl) w.heap.size _ L (by rfl) hown [0] 1 rfl (by rfl) rfl (by omega) hb.size ?_; intro v4 w4 hown4 hb4)
      go_roundw
      case rel =>
        rw [HL.out, List.append_assoc _ (List.replicate j 0), show List.replicate j (0 : UInt8) ++ [0] = List.replicate (j + 1) 0 by rw [List.replicate_succ']] at hown4
        exact ⟨j + 1, by omega, hown4, hb.trans hb4⟩
      case measure =>
        obtain ⟨a4, c4, rfl⟩ := hown4.slice
        simp [lenOf]; omega
    · have ht : ((L.length : Int) % 64 == 56) = true := by rw [hlen]; simp; omega
      have HL' : Hid (L = r.data.toList ++ [128] ++ List.replicate (gap r.size) 0) := by rw [HL.out, show j = gap r.size by omega]; exact (rfl : _ = _)
      clear hlen hg
      go_wp2
      generalize Value.bool ((L.length : Int) % 64 != 56) = vb
      go_loopw [5, 7] (fun v i wr => ∃ k : Nat, k ≤ 8 ∧ i = .int .i64 (56 - 8 * (k : Int)) ∧ Own wr w.heap.size v (L ++ tops (8 * n) k) ∧ Below w.heap.size w wr) (fun _ i _ => (64 + intOf i).toNat)
      case atStart => exact ⟨0, by omega, rfl, by simpa [tops] using hown, hb⟩
      case round =>
        clear hown hb ht hlt hj
        obtain ⟨k, hk, rfl, hown, hb⟩ := hrel
        by_cases hlt : k < 8
        · have hl2 : (L ++ tops (8 * n) k).length + 1 ≤ 1099511627776 := by rw [List.length_append, tops_length]; omega
          obtain ⟨L2, hL2⟩ : ∃ L2, L2 = L ++ tops (8 * n) k := ⟨_, rfl⟩
          rw [← hL2] at hown hl2
          have HL2 : Hid (L2 = L ++ tops (8 * n) k) := hL2
          clear hL2
          go_wp2_with (at_builtin; refine wpList_lit wr _ (by rfl) (.tmp 29) (.tmp 34) (by rfl) w.heap.size _ L2 (by rfl) hown [upByte (8 * n) (56 - 8 * k)] 1 rfl (by rfl) ?_ hl2 hb.size ?_; rotate_right; intro v4 w4 hown4 hb4)
          · go_roundw
            case rel =>
              rw [HL2.out, List.append_assoc] at hown4
              exact ⟨k + 1, by omega, by go_num, hown4, hb.trans hb4⟩
            case measure => simp [intOf]; omega
          · exact top_row n k
        · have hk8 : k = 8 := by omega
          rw [hk8, HL'.out] at hown
          clear hk8
          go_wp2_with (refine wpList_said (by rfl) (.tmp 36) (by rfl) w.heap.size _ _ (by rfl) hown ?_)
          go_ret
          refine ⟨?_, hb⟩
          simp [lastB]

end Go.Proofs.Ythoimecljfcjmaa
