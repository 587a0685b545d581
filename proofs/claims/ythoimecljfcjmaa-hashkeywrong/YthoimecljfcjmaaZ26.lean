/-
  Swaps that a call has made, as arguments; a ring is a swap that may be.
-/
import Derived.Test.YthoimecljfcjmaaZ23
import Derived.Test.YthoimecljfcjmaaZ25
namespace Go.Proofs.Ythoimecljfcjmaa
open Go.RowKit

/-- Nothing of it is too much. -/
structure SaneS (s : SpecM) : Prop where
  id : s.id.size ≤ 1000
  np : s.parties.length ≤ 1000
  pa : ∀ j, j < s.parties.length → PartySane (s.parties.getD j noParty)
  na : s.arcs.length ≤ 1000
  ar : ∀ j, j < s.arcs.length → ArcSane (s.arcs.getD j noArc)
  nl : s.leaders.length ≤ 1000
  le : ∀ j, j < s.leaders.length → In64 (s.leaders.getD j 0)
  nk : s.locks.length ≤ 1000
  lk : ∀ j, j < s.locks.length → (s.locks.getD j ByteArray.empty).size ≤ 1000
  st : In64 s.start
  de : In64 s.delta
theorem SaneS.of_ok {s : SpecM} (h : specOk s) : SaneS s := by
  obtain ⟨⟨h0, h0'⟩, ⟨l1, l2, l3, l4⟩, ⟨p1, p2, p3⟩, ⟨a1, a2, a3⟩, t1, t2, t3, t4⟩ := h
  refine ⟨by omega, by omega, fun j hj => ?_, by omega, fun j hj => ?_, by omega, fun j hj => ?_, by omega, fun j hj => ?_, ⟨by omega, by omega⟩, ⟨by omega, by omega⟩⟩
  · obtain ⟨⟨_, k1⟩, k2, k3, _⟩ := p3 j hj
    exact ⟨by omega, by omega, fun i hi => by rw [k3 i hi]; omega⟩
  · obtain ⟨⟨i1, i2, i3, i4, _, i5, i6, ⟨_, i7⟩, i8, i9⟩, _⟩ := a3 j hj
    exact ⟨⟨by omega, by omega⟩, ⟨by omega, by omega⟩, ⟨by omega, by omega⟩, ⟨by omega, by omega⟩, by omega⟩
  · obtain ⟨i1, i2, _⟩ := l4 j hj
    exact ⟨by omega, by omega⟩
  · obtain ⟨_, _, i3, _⟩ := l4 j (by omega)
    rw [i3]; omega
theorem OwnSpec.wide {w : World} {B : Nat} {v : Value} {s : SpecM} (h : OwnSpec w B v s) (hs : SaneS s) : SpecW w v s := by
  obtain ⟨v1, v2, v3, v4, rfl, h1, h2, h3, h4⟩ := h
  obtain ⟨a1, c1, rfl, k1, m1, L1⟩ := h1.parties hs.np hs.pa
  obtain ⟨a2, c2, rfl, k2, m2, L2⟩ := h2.arcs hs.na hs.ar
  obtain ⟨a3, c3, rfl, k3, m3, L3⟩ := h3.ints hs.nl hs.le
  obtain ⟨a4, c4, rfl, k4, m4, L4⟩ := h4.strs hs.nk hs.lk
  exact ⟨a1, a2, a3, a4, c1, c2, c3, c4, rfl, ⟨Nat.le_trans hs.id (by unfold maxLen; omega), L1, L2, L3, L4, hs.st, hs.de⟩, k1, m1, k2, m2, k3, m3⟩

/-- What arcs must be, of them alone. -/
def arcsFine (np : Nat) (l : List ArcM) : Prop := 1 ≤ l.length ∧ l.length ≤ 12 ∧ ∀ i, i < l.length → arcFine np (l.getD i noArc) ∧ ∀ k, k < i → ¬ ((l.getD k noArc).src = (l.getD i noArc).src ∧ (l.getD k noArc).dst = (l.getD i noArc).dst)
def arcsFineDec (np : Nat) (l : List ArcM) : Decidable (arcsFine np l) := by unfold arcsFine arcFine nameOk; infer_instance
theorem ring_arcs (n : Nat) (h2 : 2 ≤ n) (h6 : n ≤ 6) : arcsFine n (arcsP n 0 2) ∧ (arcsP n 0 2).length = n := by
  have : n = 2 ∨ n = 3 ∨ n = 4 ∨ n = 5 ∨ n = 6 := by omega
  rcases this with rfl | rfl | rfl | rfl | rfl <;> exact ⟨@of_decide_eq_true _ (arcsFineDec _ _) (by kernel_rfl), by kernel_rfl⟩
theorem accB_size (i : Nat) : (accB i).size = 6 := rfl
theorem accs_acc (n j : Nat) (h : j < n) : ((accs n).getD j noParty).acc = accB j := by
  simp [accs, List.getD_eq_getElem?_getD, List.getElem?_range h]
theorem accB_ne (i j : Nat) (hi : i < 10) (hj : j < 10) (h : i ≠ j) : accB i ≠ accB j := by
  intro e
  have h1 : (accB i).data.toList = (accB j).data.toList := by rw [e]
  simp [accB] at h1
  have h2 := congrArg UInt8.toNat h1
  rw [UInt8.toNat_ofNat', UInt8.toNat_ofNat'] at h2
  omega
theorem keysL_get (i m k : Nat) (h : k < m) : (keysL i m).getD k ByteArray.empty = keyOf i k := by
  simp [keysL, List.getD_eq_getElem?_getD, List.getElem?_range h]
theorem locksL_get (m k : Nat) (h : k < m) : (locksL m).getD k ByteArray.empty = lockOf k := by
  simp [locksL, List.getD_eq_getElem?_getD, List.getElem?_range h]
/-- A swap with these parties, keys and locks by numbers may be, if its arcs and leaders may. -/
theorem keyed_ok (id : ByteArray) (n m : Nat) (A : List ArcM) (L : List Int) (st de : Int) (hid : nameOk id) (h2 : 2 ≤ n) (h6 : n ≤ 6) (hA : arcsFine n A) (hm : L.length = m) (h1 : 1 ≤ m) (h3 : m ≤ 3) (hL : ∀ i, i < m → 0 ≤ L.getD i 0 ∧ L.getD i 0 < (n : Int) ∧ ∀ k, k < i → L.getD k 0 ≠ L.getD i 0)
    (s0 : 0 ≤ st) (s1 : st ≤ 1099511627776) (d0 : 1 ≤ de) (d1 : de ≤ 1048576) : specOk ⟨id, withKeys (accs n) m, A, L, locksL m, st, de⟩ := by
  have hl : (withKeys (accs n) m).length = n := by rw [withKeys_len, accs_len]
  refine ⟨hid, ⟨by show 1 ≤ L.length; omega, by show L.length ≤ 3; omega, by show (locksL m).length = L.length; rw [locksL_len, hm], fun i hi => ?_⟩, ⟨by show 2 ≤ (withKeys (accs n) m).length; omega, by show (withKeys (accs n) m).length ≤ 6; omega, fun i hi => ?_⟩, ?_, s0, s1, d0, d1⟩
  · have hi' : i < m := by rw [← hm]; exact hi
    obtain ⟨x1, x2, x3⟩ := hL i hi'
    refine ⟨x1, by show L.getD i 0 < ((withKeys (accs n) m).length : Int); rw [hl]; exact x2, ?_, x3⟩
    show ((locksL m).getD i ByteArray.empty).size = 32
    rw [locksL_get m i hi']; exact lockOf_size i
  · have hi' : i < n := by rw [← hl]; exact hi
    have ha : ∀ j, j < n → ((withKeys (accs n) m).getD j noParty).acc = accB j := fun j hj => by rw [withKeys_acc _ _ _ (by rw [accs_len]; exact hj), accs_acc n j hj]
    have hk : ((withKeys (accs n) m).getD i noParty).keys = keysL i m := withKeys_keys _ _ _ (by rw [accs_len]; exact hi')
    refine ⟨?_, ?_, fun k hk' => ?_, fun k hk' => ?_⟩
    · show nameOk ((withKeys (accs n) m).getD i noParty).acc
      rw [ha i hi']; unfold nameOk; rw [accB_size]; omega
    · show ((withKeys (accs n) m).getD i noParty).keys.length = L.length
      rw [hk, keysL_len, hm]
    · have hk'' : k < ((withKeys (accs n) m).getD i noParty).keys.length := hk'
      show (((withKeys (accs n) m).getD i noParty).keys.getD k ByteArray.empty).size = 16
      rw [hk, keysL_len] at hk''
      rw [hk, keysL_get _ _ _ hk'']; exact keyOf_size i k
    · show ((withKeys (accs n) m).getD k noParty).acc ≠ ((withKeys (accs n) m).getD i noParty).acc
      rw [ha i hi', ha k (by omega)]
      exact accB_ne k i (by omega) (by omega) (by omega)
  · obtain ⟨x1, x2, x3⟩ := hA
    refine ⟨x1, x2, fun i hi => ?_⟩
    obtain ⟨y1, y2⟩ := x3 i hi
    refine ⟨?_, y2⟩
    show arcFine (withKeys (accs n) m).length (A.getD i noArc)
    rw [hl]; exact y1
theorem ring_ok (n : Nat) (h2 : 2 ≤ n) (h6 : n ≤ 6) (st de : Int) (s0 : 0 ≤ st) (s1 : st ≤ 1099511627776) (d0 : 1 ≤ de) (d1 : de ≤ 1048576) : specOk (ringM n st de) :=
  keyed_ok ringId n 1 _ [0] st de (by unfold nameOk; decide) h2 h6 (ring_arcs n h2 h6).1 rfl (by omega) (by omega) (fun i hi => by
    have : i = 0 := by omega
    subst this
    exact ⟨by simp, by simp; omega, fun k hk => absurd hk (by omega)⟩) s0 s1 d0 d1

end Go.Proofs.Ythoimecljfcjmaa

/-
  Swaps as values and in variables.
-/
namespace Go.Proofs.Ythoimecljfcjmaa
open Go.RowKit

/-- Seven cells. -/
def Seven (cs : Array Value) : Prop := cs.size = 7 ∧ ∀ u ∈ cs.toList, u.oneCell' = true
/-- A variable of this value. -/
def SvAt (w : World) (g : Nat) (cs : Array Value) : Prop := w.heap[g]? = some (.cells cs 27 (0, 0))
theorem SvAt.below {w w' : World} {g : Nat} {cs : Array Value} (h : SvAt w g cs) (hb : Below w.heap.size w w') : SvAt w' g cs := by
  unfold SvAt at *
  rw [hb.block g (Array.getElem?_eq_some_iff.1 h).1]; exact h
theorem SvAt.but {w w' : World} {g k : Nat} {cs : Array Value} (h : SvAt w g cs) (hb : But k w w') (hg : g ≠ k) : SvAt w' g cs := by
  unfold SvAt at *
  rw [hb.block g (Array.getElem?_eq_some_iff.1 h).1 hg]; exact h
theorem SvAt.lt {w : World} {g : Nat} {cs : Array Value} (h : SvAt w g cs) : g < w.heap.size := (Array.getElem?_eq_some_iff.1 h).1
theorem SpecW.seven {w : World} {v : Value} {s : SpecM} (h : SpecW w v s) : ∃ cs, v = .agg cs ∧ Seven cs := by
  obtain ⟨a1, a2, a3, a4, c1, c2, c3, c4, rfl, _⟩ := h
  refine ⟨_, rfl, rfl, fun u hu => ?_⟩
  simp [cells7] at hu
  rcases hu with rfl | rfl | rfl | rfl | rfl | rfl | rfl <;> rfl
theorem seven_list {cs : Array Value} (h : Seven cs) : ∃ l : List Value, l.length = 7 ∧ cs = l.toArray := ⟨cs.toList, by simp [h.1], by simp⟩

/-- 'var x Spec = v'. -/
theorem wpList_varS {ops : Array Oper} {rest : List Oper} {o1 o2 : Oper} {a : Act} {w : World} {Q : Exit → Act → World → Prop} (hg1 : o1.guard = none) (hg2 : o2.guard = none) (ho1 : o1.op = .alloc 27) (x y : Operand) (ho2 : o2.op = .store 27 x y)
    (cs : Array Value) (hx : (a.put o1.dst (.pointer (some ⟨w.heap.size, 0, none⟩))).eval x = .pointer (some ⟨w.heap.size, 0, none⟩)) (hy : (a.put o1.dst (.pointer (some ⟨w.heap.size, 0, none⟩))).eval y = .agg cs) (h7 : Seven cs)
    (h : ∀ w1, SvAt w1 w.heap.size cs → w1.heap.size = w.heap.size + 1 → Below w.heap.size w w1 → wpList Try.prog ops Q rest ((a.put o1.dst (.pointer (some ⟨w.heap.size, 0, none⟩))).put o2.dst undef) w1) :
    wpList Try.prog ops Q (o1 :: o2 :: rest) a w :=
  wpList_plain hg1 fun _ hK => by
    have hr : (Instr.alloc 27 true (.tuple #[])).run Try.prog w = .ok (.pointer (some ⟨w.heap.size, 0, none⟩)) (w.alloc (.cells #[Value.string ⟨#[]⟩, Value.slice none 0 0, Value.slice none 0 0, Value.slice none 0 0, Value.slice none 0 0, Value.int IntKind.i64 0, Value.int IntKind.i64 0] 27)) := by
      have hz : (Try.prog.info? 27).map (fun i => (i.zero, i.size)) = some (some (.agg #[Value.string ⟨#[]⟩, Value.slice none 0 0, Value.slice none 0 0, Value.slice none 0 0, Value.slice none 0 0, Value.int IntKind.i64 0, Value.int IntKind.i64 0]), 7) := by kernel_rfl
      simp [Instr.alloc, (zero_of_info hz).1 w, go_sem, Value.cells]
    unfold Oper.wp execOp
    simp only [ho1, Sem.run_bind, hr, Result.andThen_ok]
    refine hK _ _ ?_
    refine wpList_splice hg2 27 x y ho2 w.heap.size 0 cs _ hx hy rfl 27 [.string ⟨#[]⟩, .slice none 0 0, .slice none 0 0, .slice none 0 0, .slice none 0 0, .int .i64 0, .int .i64 0] (heap_alloc_new _ _) (by rw [h7.1]; exact sizeSpecK) (by rw [h7.1]; simp) h7.2 ?_
    intro w1 hc hz hb
    refine h w1 ?_ (by rw [hz]; simp) ?_
    · unfold Cells at hc
      unfold SvAt
      rw [hc, h7.1]; simp
    · have hal : Below w.heap.size w (w.alloc (.cells #[Value.string ⟨#[]⟩, Value.slice none 0 0, Value.slice none 0 0, Value.slice none 0 0, Value.slice none 0 0, Value.int IntKind.i64 0, Value.int IntKind.i64 0] 27)) := (Below.refl _ _).alloc (Nat.le_refl _) _
      exact hal.trans (hb.below (Nat.le_refl _) hal.size)
/-- A swap is read of a variable. -/
theorem wpList_loadV {ops : Array Oper} {rest : List Oper} {o : Oper} {a : Act} {w : World} {Q : Exit → Act → World → Prop} (hw : Region.wanted o (yielded ops a.tmps) = true) (x : Operand) (ho : o.op = .load 27 x)
    (g : Nat) (cs : Array Value) (hx : a.eval x = .pointer (some ⟨g, 0, none⟩)) (hg : SvAt w g cs) (h7 : Seven cs)
    (h : wpList Try.prog ops Q rest (a.put o.dst (.agg cs)) w) : wpList Try.prog ops Q (o :: rest) a w :=
  wpList_step fun K hK => by
    rw [if_pos hw]
    unfold Oper.wp execOp
    simp only [ho, hx, Instr.loadAt, Instr.sureAddr, Sem.run_bind, Sem.run_pure, Result.andThen_ok, run_loadVar_row w g 27 27 cs (0, 0) (.struct _) hg Try.underlying27 rfl (by rw [h7.1]; exact sizeSpecK)]
    exact hK _ _ h
/-- A swap is written into a variable. -/
theorem wpList_storeV {ops : Array Oper} {rest : List Oper} {o : Oper} {a : Act} {w : World} {Q : Exit → Act → World → Prop} (hgd : o.guard = none) (x y : Operand) (ho : o.op = .store 27 x y)
    (g : Nat) (cs old : Array Value) (hx : a.eval x = .pointer (some ⟨g, 0, none⟩)) (hy : a.eval y = .agg cs) (hg : SvAt w g old) (h7 : Seven cs) (h7' : Seven old)
    (h : ∀ w1, SvAt w1 g cs → w1.heap.size = w.heap.size → But g w w1 → wpList Try.prog ops Q rest (a.put o.dst undef) w1) : wpList Try.prog ops Q (o :: rest) a w := by
  refine wpList_splice hgd 27 x y ho g 0 cs _ hx hy rfl 27 old.toList (by unfold Cells; rw [Array.toArray_toList]; exact hg) (by rw [h7.1]; exact sizeSpecK) (by rw [h7.1, Array.length_toList, h7'.1]; omega) h7.2 ?_
  intro w1 hc hz hb
  refine h w1 ?_ hz hb
  unfold Cells at hc
  unfold SvAt
  rw [hc]
  congr 2
  rw [h7.1, List.drop_of_length_le (by rw [Array.length_toList, h7'.1]; omega)]
  simp

end Go.Proofs.Ythoimecljfcjmaa
