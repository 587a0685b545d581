/-
  The program's readList at numbers and texts.
-/
import Derived.Test.YthoimecljfcjmaaSpMk
import Derived.Test.YthoimecljfcjmaaZ07
import Derived.Test.YthoimecljfcjmaaZ35
import Derived.Deep.RegionHeld3
import Derived.Deep.CutBlock
import Derived.Deep.CutRange
import Derived.Handy
import Derived.Test.YthoimecljfcjmaaZ25
import Derived.Test.YthoimecljfcjmaaZ34
import Derived.Test.YthoimecljfcjmaaSpRows
import Derived.Test.YthoimecljfcjmaaHkCat
namespace Go.Proofs.Ythoimecljfcjmaa
open Go.RowKit


/-- Rows that a call has made, from block B on. -/
def IRow (w : World) (B : Nat) (v : Value) (l : List Int) : Prop := ∃ g, B ≤ g ∧ v = .slice (some ⟨g, 0, none⟩) l.length l.length ∧ Cells w g 3 (l.map (Value.int .i64))
def SRow (w : World) (B : Nat) (v : Value) (l : List ByteArray) : Prop := ∃ g, B ≤ g ∧ v = .slice (some ⟨g, 0, none⟩) l.length l.length ∧ Cells w g 9 (l.map Value.string)
theorem IRow.but {w w' : World} {B k : Nat} {v : Value} {l : List Int} (h : IRow w B v l) (b : But k w w') (hk : k < B) : IRow w' B v l := by
  obtain ⟨g, h1, h2, h3⟩ := h; exact ⟨g, h1, h2, h3.but b (by omega)⟩
theorem SRow.but {w w' : World} {B k : Nat} {v : Value} {l : List ByteArray} (h : SRow w B v l) (b : But k w w') (hk : k < B) : SRow w' B v l := by
  obtain ⟨g, h1, h2, h3⟩ := h; exact ⟨g, h1, h2, h3.but b (by omega)⟩
theorem IRow.below {w w' : World} {B : Nat} {v : Value} {l : List Int} (h : IRow w B v l) (b : Below w.heap.size w w') : IRow w' B v l := by
  obtain ⟨g, h1, h2, h3⟩ := h; exact ⟨g, h1, h2, h3.below b⟩
theorem SRow.below {w w' : World} {B : Nat} {v : Value} {l : List ByteArray} (h : SRow w B v l) (b : Below w.heap.size w w') : SRow w' B v l := by
  obtain ⟨g, h1, h2, h3⟩ := h; exact ⟨g, h1, h2, h3.below b⟩
theorem SRow.mono {w : World} {B C : Nat} {v : Value} {l : List ByteArray} (h : SRow w B v l) (hC : C ≤ B) : SRow w C v l := by
  obtain ⟨g, h1, h2, h3⟩ := h; exact ⟨g, by omega, h2, h3⟩
theorem splice_next {α : Type} (done rest : List α) (new : List α) (off m : Nat) (ho : off = done.length) (hm : m = new.length) : (done ++ rest).take off ++ new ++ (done ++ rest).drop (off + m) = done ++ new ++ rest.drop m := by
  subst ho
  rw [List.take_left', List.drop_append, List.drop_of_length_le (by omega)]
  · simp
  · rfl

end Go.Proofs.Ythoimecljfcjmaa

/-
  The program's readParty, readArc, and readList at them.
-/
namespace Go.Proofs.Ythoimecljfcjmaa
open Go.RowKit


def PRow2 (w : World) (B : Nat) (v : Value) (l : List PartyM) : Prop := ∃ g ks, B ≤ g ∧ v = .slice (some ⟨g, 0, none⟩) l.length l.length ∧ ks.length = l.length ∧ Cells w g 52 (pcells l ks) ∧ ∀ j, j < l.length → SRow w (g + 1) (ks.getD j undef) (l.getD j noParty).keys
def ARow (w : World) (B : Nat) (v : Value) (l : List ArcM) : Prop := ∃ g, B ≤ g ∧ v = .slice (some ⟨g, 0, none⟩) l.length l.length ∧ Cells w g 42 (l.flatMap acells)
theorem PRow2.but {w w' : World} {B k : Nat} {v : Value} {l : List PartyM} (h : PRow2 w B v l) (b : But k w w') (hk : k < B) : PRow2 w' B v l := by
  obtain ⟨g, ks, h1, h2, h3, h4, h5⟩ := h; exact ⟨g, ks, h1, h2, h3, h4.but b (by omega), fun j hj => (h5 j hj).but b (by omega)⟩
theorem PRow2.below {w w' : World} {B : Nat} {v : Value} {l : List PartyM} (h : PRow2 w B v l) (b : Below w.heap.size w w') : PRow2 w' B v l := by
  obtain ⟨g, ks, h1, h2, h3, h4, h5⟩ := h; exact ⟨g, ks, h1, h2, h3, h4.below b, fun j hj => (h5 j hj).below b⟩
theorem ARow.but {w w' : World} {B k : Nat} {v : Value} {l : List ArcM} (h : ARow w B v l) (b : But k w w') (hk : k < B) : ARow w' B v l := by
  obtain ⟨g, h1, h2, h3⟩ := h; exact ⟨g, h1, h2, h3.but b (by omega)⟩
theorem ARow.below {w w' : World} {B : Nat} {v : Value} {l : List ArcM} (h : ARow w B v l) (b : Below w.heap.size w w') : ARow w' B v l := by
  obtain ⟨g, h1, h2, h3⟩ := h; exact ⟨g, h1, h2, h3.below b⟩
theorem pcells_length (l : List PartyM) (ks : List Value) (h : ks.length = l.length) : (pcells l ks).length = l.length * 2 := by
  unfold pcells
  induction l generalizing ks with
  | nil => simp
  | cons p l ih =>
    cases ks with
    | nil => simp at h
    | cons k ks =>
      have h9 := ih ks (by simpa using h)
      rw [List.zipWith_cons_cons, List.flatten_cons, List.length_append, h9, List.length_cons]
      simp; omega
theorem acells_length (l : List ArcM) : (l.flatMap acells).length = l.length * 5 := by
  induction l with
  | nil => rfl
  | cons a l ih => rw [List.flatMap_cons, List.length_append, ih, List.length_cons]; simp [acells]; omega
/-- What is done to a block of one's own leaves all else. -/
theorem But.own {b g : Nat} {w a c : World} (h : But b w a) (k : But g a c) (hg : w.heap.size ≤ g) : But b w c :=
  ⟨k.os.trans h.os, k.tape.trans h.tape, k.output.trans h.output, Nat.le_trans h.size k.size, fun i hi hib => (k.block i (Nat.lt_of_lt_of_le hi h.size) (by omega)).trans (h.block i hi hib)⟩
theorem sizeParty : (Try.prog.info? 52).map (·.size) = some 2 := by kernel_rfl
theorem sizeArc : (Try.prog.info? 42).map (·.size) = some 5 := by kernel_rfl

theorem getD_left {α : Type} (l : List α) (x : α) (d : α) (i : Nat) (h : i < l.length) : (l ++ [x]).getD i d = l.getD i d := by
  simp [List.getD_eq_getElem?_getD, List.getElem?_append, h]
theorem getD_last {α : Type} (l : List α) (x : α) (d : α) (i : Nat) (h : i = l.length) : (l ++ [x]).getD i d = x := by
  simp [List.getD_eq_getElem?_getD, h]

end Go.Proofs.Ythoimecljfcjmaa

/-
  What the program reads of bytes, on plain data, and that its rows are a swap.
-/
namespace Go.Proofs.Ythoimecljfcjmaa
open Go.RowKit

def rd1 (l : List UInt8) : List UInt8 × Bool := txtS (l, false) 16
def rdPs (r : List UInt8 × Bool) : List PartyM := itemsL partyOf partyS (cntV r.1 6).toNat (cntS r 6)
def rd2 (r : List UInt8 × Bool) : List UInt8 × Bool := itemsS partyS (cntV r.1 6).toNat (cntS r 6)
def rdAs (r : List UInt8 × Bool) : List ArcM := itemsL arcOf arcS (cntV r.1 12).toNat (cntS r 12)
def rd3 (r : List UInt8 × Bool) : List UInt8 × Bool := itemsS arcS (cntV r.1 12).toNat (cntS r 12)
def rdLs (r : List UInt8 × Bool) : List Int := itemsL (fun r => numV r.1) numS (cntV r.1 3).toNat (cntS r 3)
def rd4 (r : List UInt8 × Bool) : List UInt8 × Bool := itemsS numS (cntV r.1 3).toNat (cntS r 3)
/-- The swap that is read, and what the reader is then. -/
def rdM (l : List UInt8) : SpecM :=
  ⟨mk (txtV (l, false) 16), rdPs (rd1 l), rdAs (rd2 (rd1 l)), rdLs (rd3 (rd2 (rd1 l))), keysOf 32 (rd4 (rd3 (rd2 (rd1 l)))), numV (keysS 32 (rd4 (rd3 (rd2 (rd1 l))))).1, numV (numS (keysS 32 (rd4 (rd3 (rd2 (rd1 l)))))).1⟩
def rdE (l : List UInt8) : List UInt8 × Bool := numS (numS (keysS 32 (rd4 (rd3 (rd2 (rd1 l))))))

theorem itemsL_all {α : Type} (p : α → Prop) (f : (List UInt8 × Bool) → α) (g : (List UInt8 × Bool) → (List UInt8 × Bool)) (h : ∀ r, p (f r)) (n : Nat) (r : List UInt8 × Bool) (d : α) : ∀ j, j < (itemsL f g n r).length → p ((itemsL f g n r).getD j d) := by
  intro j hj
  have hm := getD_mem (itemsL f g n r) j d hj
  generalize (itemsL f g n r).getD j d = x at hm
  clear hj
  induction n generalizing r with
  | zero => simp [itemsL] at hm
  | succ n ih =>
    rw [itemsL, List.mem_cons] at hm
    rcases hm with rfl | hm
    · exact h r
    · exact ih (g r) hm
theorem txtV_len (r : List UInt8 × Bool) (m : Int) (hm : 0 ≤ m) : ((txtV r m).length : Int) ≤ m := by
  unfold txtV
  split
  · simpa using hm
  · rw [List.length_take]
    have h1 := (cntV_range r.1 m).1
    have h2 := cntV_le r.1 m hm
    omega
theorem mk_len (r : List UInt8 × Bool) (m : Nat) : (mk (txtV r m)).size ≤ m := by
  unfold mk; rw [mk_size]
  have := txtV_len r (m : Int) (by omega); omega
/-- A swap whose names, keys and numbers are such as memory can hold. -/
structure Sane (s : SpecM) : Prop where
  id : s.id.size ≤ 1000
  np : s.parties.length ≤ 1000
  na : s.arcs.length ≤ 1000
  nl : s.leaders.length ≤ 1000
  nk : s.locks.length ≤ 1000
  pa : ∀ j, j < s.parties.length → (s.parties.getD j noParty).acc.size ≤ 1000 ∧ (s.parties.getD j noParty).keys.length ≤ 1000 ∧ ∀ i, i < (s.parties.getD j noParty).keys.length → ((s.parties.getD j noParty).keys.getD i ByteArray.empty).size ≤ 1000
  ar : ∀ j, j < s.arcs.length → In64 (s.arcs.getD j noArc).src ∧ In64 (s.arcs.getD j noArc).dst ∧ In64 (s.arcs.getD j noArc).ledger ∧ In64 (s.arcs.getD j noArc).amount ∧ (s.arcs.getD j noArc).asset.size ≤ 1000
  le : ∀ j, j < s.leaders.length → In64 (s.leaders.getD j 0)
  lk : ∀ j, j < s.locks.length → (s.locks.getD j ByteArray.empty).size ≤ 1000
  st : In64 s.start
  de : In64 s.delta
theorem cnt_nat (l : List UInt8) (m : Int) (h : 0 ≤ m) (k : Nat) (hk : m ≤ k) : (cntV l m).toNat ≤ k := by have := cntV_le l m h; omega
theorem keys_fine (m : Nat) (hm : m ≤ 1000) (r : List UInt8 × Bool) : (keysOf (m : Int) r).length ≤ 1000 ∧ ∀ j, j < (keysOf (m : Int) r).length → ((keysOf (m : Int) r).getD j ByteArray.empty).size ≤ 1000 := by
  unfold keysOf
  refine ⟨by rw [itemsL_length]; exact cnt_nat _ 3 (by omega) 1000 (by omega), ?_⟩
  exact itemsL_all (fun t : ByteArray => t.size ≤ 1000) (fun r => mk (txtV r (m : Int))) (fun r => txtS r (m : Int)) (fun r => Nat.le_trans (mk_len r m) hm) _ _ _
theorem ps_fine (r : List UInt8 × Bool) : (rdPs r).length ≤ 1000 ∧ ∀ j, j < (rdPs r).length → ((rdPs r).getD j noParty).acc.size ≤ 1000 ∧ ((rdPs r).getD j noParty).keys.length ≤ 1000 ∧ ∀ i, i < ((rdPs r).getD j noParty).keys.length → (((rdPs r).getD j noParty).keys.getD i ByteArray.empty).size ≤ 1000 := by
  unfold rdPs
  refine ⟨by rw [itemsL_length]; exact cnt_nat _ 6 (by omega) 1000 (by omega), ?_⟩
  exact itemsL_all (fun p : PartyM => p.acc.size ≤ 1000 ∧ p.keys.length ≤ 1000 ∧ ∀ i, i < p.keys.length → (p.keys.getD i ByteArray.empty).size ≤ 1000) partyOf partyS (fun r => ⟨Nat.le_trans (mk_len r 16) (by omega), (keys_fine 16 (by omega) (txtS r 16)).1, (keys_fine 16 (by omega) (txtS r 16)).2⟩) _ _ _
theorem as_fine (r : List UInt8 × Bool) : (rdAs r).length ≤ 1000 ∧ ∀ j, j < (rdAs r).length → In64 ((rdAs r).getD j noArc).src ∧ In64 ((rdAs r).getD j noArc).dst ∧ In64 ((rdAs r).getD j noArc).ledger ∧ In64 ((rdAs r).getD j noArc).amount ∧ ((rdAs r).getD j noArc).asset.size ≤ 1000 := by
  unfold rdAs
  refine ⟨by rw [itemsL_length]; exact cnt_nat _ 12 (by omega) 1000 (by omega), ?_⟩
  exact itemsL_all (fun a : ArcM => In64 a.src ∧ In64 a.dst ∧ In64 a.ledger ∧ In64 a.amount ∧ a.asset.size ≤ 1000) arcOf arcS (fun r => ⟨numV_range _, numV_range _, numV_range _, numV_range _, Nat.le_trans (mk_len _ 16) (by omega)⟩) _ _ _
theorem ls_fine (r : List UInt8 × Bool) : (rdLs r).length ≤ 1000 ∧ ∀ j, j < (rdLs r).length → In64 ((rdLs r).getD j 0) := by
  unfold rdLs
  refine ⟨by rw [itemsL_length]; exact cnt_nat _ 3 (by omega) 1000 (by omega), ?_⟩
  exact itemsL_all (fun v : Int => In64 v) (fun r => numV r.1) numS (fun r => numV_range _) _ _ _
theorem rdM_sane (l : List UInt8) : Sane (rdM l) := by
  unfold rdM
  generalize hr1 : rd1 l = r1
  generalize hr2 : rd2 r1 = r2
  generalize hr3 : rd3 r2 = r3
  generalize hr4 : rd4 r3 = r4
  have k := keys_fine 32 (by omega) r4
  exact ⟨Nat.le_trans (mk_len (l, false) 16) (by omega), (ps_fine r1).1, (as_fine r2).1, (ls_fine r3).1, k.1, (ps_fine r1).2, (as_fine r2).2, (ls_fine r3).2, k.2, numV_range _, numV_range _⟩

theorem map_getD {α : Type} (f : α → Value) (l : List α) (d : α) (j : Nat) (h : j < l.length) : (l.map f)[j]? = some (f (l.getD j d)) := by
  rw [List.getElem?_map, List.getD_eq_getElem?_getD, List.getElem?_eq_getElem h]; rfl
theorem IRow.ints {w : World} {B : Nat} {v : Value} {l : List Int} (h : IRow w B v l) (hn : l.length ≤ 1000) (hl : ∀ j, j < l.length → In64 (l.getD j 0)) : ∃ a c, v = .slice a l.length c ∧ l.length ≤ c ∧ c ≤ maxLen ∧ Ints w a l.length l := by
  obtain ⟨g, _, rfl, hc⟩ := h
  refine ⟨_, _, rfl, Nat.le_refl _, by unfold maxLen; omega, rfl, by unfold maxLen; omega, hl, fun j hj => ⟨g, 0, rfl, ?_⟩⟩
  rw [Nat.zero_add, hc.at, map_getD _ _ _ _ hj]
theorem SRow.strs {w : World} {B : Nat} {v : Value} {l : List ByteArray} (h : SRow w B v l) (hn : l.length ≤ 1000) (hl : ∀ j, j < l.length → (l.getD j ByteArray.empty).size ≤ 1000) : ∃ a c, v = .slice a l.length c ∧ l.length ≤ c ∧ c ≤ maxLen ∧ Strs w a l.length l := by
  obtain ⟨g, _, rfl, hc⟩ := h
  refine ⟨_, _, rfl, Nat.le_refl _, by unfold maxLen; omega, rfl, by unfold maxLen; omega, fun j hj => Nat.le_trans (hl j hj) (by unfold maxLen; omega), fun j hj => ⟨g, 0, rfl, ?_⟩⟩
  rw [Nat.zero_add, hc.at, map_getD _ _ _ _ hj]
theorem PRow2.parties {w : World} {B : Nat} {v : Value} {l : List PartyM} (h : PRow2 w B v l) (hn : l.length ≤ 1000) (hp : ∀ j, j < l.length → (l.getD j noParty).acc.size ≤ 1000 ∧ (l.getD j noParty).keys.length ≤ 1000 ∧ ∀ i, i < (l.getD j noParty).keys.length → ((l.getD j noParty).keys.getD i ByteArray.empty).size ≤ 1000) :
    ∃ a c, v = .slice a l.length c ∧ l.length ≤ c ∧ c ≤ maxLen ∧ Parties w a l := by
  obtain ⟨g, ks, _, rfl, hk, hc, hs⟩ := h
  refine ⟨_, _, rfl, Nat.le_refl _, by unfold maxLen; omega, by unfold maxLen; omega, fun j hj => ⟨g, 0, rfl, ?_⟩⟩
  obtain ⟨p1, p2, p3⟩ := hp j hj
  obtain ⟨ka, kc, hv, _, _, hks⟩ := (hs j hj).strs p2 p3
  obtain ⟨c1, c2⟩ := pcells_at l ks hk j hj
  rw [hv] at c2
  exact ⟨Nat.le_trans p1 (by unfold maxLen; omega), by rw [Nat.zero_add, hc.at]; exact c1, ka, kc, by rw [Nat.zero_add, hc.at]; exact c2, hks⟩
theorem ARow.arcs {w : World} {B : Nat} {v : Value} {l : List ArcM} (h : ARow w B v l) (hn : l.length ≤ 1000) (hp : ∀ j, j < l.length → In64 (l.getD j noArc).src ∧ In64 (l.getD j noArc).dst ∧ In64 (l.getD j noArc).ledger ∧ In64 (l.getD j noArc).amount ∧ (l.getD j noArc).asset.size ≤ 1000) :
    ∃ a c, v = .slice a l.length c ∧ l.length ≤ c ∧ c ≤ maxLen ∧ Arcs w a l := by
  obtain ⟨g, _, rfl, hc⟩ := h
  refine ⟨_, _, rfl, Nat.le_refl _, by unfold maxLen; omega, by unfold maxLen; omega, fun j hj => ⟨g, 0, rfl, ?_⟩⟩
  obtain ⟨p1, p2, p3, p4, p5⟩ := hp j hj
  have c0 := acells_at l j hj 0 (by omega)
  have c1 := acells_at l j hj 1 (by omega)
  have c2 := acells_at l j hj 2 (by omega)
  have c3 := acells_at l j hj 3 (by omega)
  have c4 := acells_at l j hj 4 (by omega)
  refine ⟨p1, p2, p3, p4, Nat.le_trans p5 (by unfold maxLen; omega), ?_, ?_, ?_, ?_, ?_⟩ <;> rw [Nat.zero_add, hc.at]
  · exact c0
  · exact c1
  · exact c2
  · exact c3
  · exact c4
/-- Rows, as a swap's slices. -/
theorem rows_spec {w : World} {B1 B2 B3 B4 : Nat} {v1 v2 v3 v4 : Value} {s : SpecM} (hs : Sane s) (h1 : PRow2 w B1 v1 s.parties) (h2 : ARow w B2 v2 s.arcs) (h3 : IRow w B3 v3 s.leaders) (h4 : SRow w B4 v4 s.locks) :
    SpecW w (.agg #[.string s.id, v1, v2, v3, v4, .int .i64 s.start, .int .i64 s.delta]) s := by
  obtain ⟨a1, c1, rfl, k1, m1, L1⟩ := h1.parties hs.np hs.pa
  obtain ⟨a2, c2, rfl, k2, m2, L2⟩ := h2.arcs hs.na hs.ar
  obtain ⟨a3, c3, rfl, k3, m3, L3⟩ := h3.ints hs.nl hs.le
  obtain ⟨a4, c4, rfl, k4, m4, L4⟩ := h4.strs hs.nk hs.lk
  exact ⟨a1, a2, a3, a4, c1, c2, c3, c4, rfl, ⟨Nat.le_trans hs.id (by unfold maxLen; omega), L1, L2, L3, L4, hs.st, hs.de⟩, k1, m1, k2, m2, k3, m3⟩
theorem no_spec (w : World) : SpecW w (.agg #[.string ⟨#[]⟩, .slice none 0 0, .slice none 0 0, .slice none 0 0, .slice none 0 0, .int .i64 0, .int .i64 0]) noSpec :=
  ⟨none, none, none, none, 0, 0, 0, 0, rfl, ⟨Nat.zero_le _, ⟨Nat.zero_le _, fun j hj => absurd hj (by simp [noSpec])⟩, ⟨Nat.zero_le _, fun j hj => absurd hj (by simp [noSpec])⟩, ints_nil w, strs_nil w, by unfold In64 noSpec; decide, by unfold In64 noSpec; decide⟩, by unfold Caps noSpec; simp⟩

/-- A swap whose rows a call has made, from block B on. -/
def RowsV (w : World) (B : Nat) (v : Value) (s : SpecM) : Prop := ∃ p1 n1 k1 p2 n2 k2 p3 n3 k3 p4 n4 k4, v = .agg #[.string s.id, .slice p1 n1 k1, .slice p2 n2 k2, .slice p3 n3 k3, .slice p4 n4 k4, .int .i64 s.start, .int .i64 s.delta]
  ∧ PRow2 w B (.slice p1 n1 k1) s.parties ∧ ARow w B (.slice p2 n2 k2) s.arcs ∧ IRow w B (.slice p3 n3 k3) s.leaders ∧ SRow w B (.slice p4 n4 k4) s.locks
theorem PRow2.mono {w : World} {B C : Nat} {v : Value} {l : List PartyM} (h : PRow2 w B v l) (hC : C ≤ B) : PRow2 w C v l := by
  obtain ⟨g, ks, h1, h2⟩ := h; exact ⟨g, ks, by omega, h2⟩
theorem ARow.mono {w : World} {B C : Nat} {v : Value} {l : List ArcM} (h : ARow w B v l) (hC : C ≤ B) : ARow w C v l := by
  obtain ⟨g, h1, h2⟩ := h; exact ⟨g, by omega, h2⟩
theorem IRow.mono {w : World} {B C : Nat} {v : Value} {l : List Int} (h : IRow w B v l) (hC : C ≤ B) : IRow w C v l := by
  obtain ⟨g, h1, h2⟩ := h; exact ⟨g, by omega, h2⟩
theorem RowsV.but {w w' : World} {B k : Nat} {v : Value} {s : SpecM} (h : RowsV w B v s) (b : But k w w') (hk : k < B) : RowsV w' B v s := by
  obtain ⟨p1, n1, k1, p2, n2, k2, p3, n3, k3, p4, n4, k4, h0, h1, h2, h3, h4⟩ := h
  exact ⟨p1, n1, k1, p2, n2, k2, p3, n3, k3, p4, n4, k4, h0, h1.but b hk, h2.but b hk, h3.but b hk, h4.but b hk⟩
theorem RowsV.below {w w' : World} {B : Nat} {v : Value} {s : SpecM} (h : RowsV w B v s) (b : Below w.heap.size w w') : RowsV w' B v s := by
  obtain ⟨p1, n1, k1, p2, n2, k2, p3, n3, k3, p4, n4, k4, h0, h1, h2, h3, h4⟩ := h
  exact ⟨p1, n1, k1, p2, n2, k2, p3, n3, k3, p4, n4, k4, h0, h1.below b, h2.below b, h3.below b, h4.below b⟩
theorem RowsV.spec {w : World} {B : Nat} {v : Value} {s : SpecM} (h : RowsV w B v s) (hs : Sane s) : SpecW w v s := by
  obtain ⟨p1, n1, k1, p2, n2, k2, p3, n3, k3, p4, n4, k4, rfl, h1, h2, h3, h4⟩ := h
  exact rows_spec hs h1 h2 h3 h4

end Go.Proofs.Ythoimecljfcjmaa

/-
  Package hashkey: Extend.
-/
namespace Go.Proofs.Ythoimecljfcjmaa
open Go.RowKit

/-- When P7.1 gives a key. -/
def extOk (s : SpecM) (K : HkM) (p : Int) : Prop := specOk s ∧ (0 ≤ p ∧ p < (s.parties.length : Int)) ∧ K.path.length ≠ 0 ∧ K.sigs.length ≠ 0 ∧ (0 ≤ K.lock ∧ K.lock < (s.locks.length : Int))

set_option maxRecDepth 10000 in
set_option maxHeartbeats 4000000 in
theorem extend_any {w : World} {v : Value} {s : SpecM} (hv : SpecW w v s) {pa sa : Option Addr} {pc sc : Nat} {K : HkM} (L : HkL w pa sa pc sc K) (p : Int) (hp64 : In64 p) (seed : ByteArray) (hseed : seed.size ≤ 1000) (hsec : K.secret.size ≤ 1000) (hpl : K.path.length ≤ 100) (hsl : K.sigs.length ≤ 100) (hz : ∀ j, j < K.sigs.length → (K.sigs.getD j ByteArray.empty).size ≤ 1000) (R : HkM)
    (h1 : extOk s K p → R = signedM K p seed) (h2 : ¬ extOk s K p → R = noHk) :
    Calls Try.prog 17 #[v, .agg (hcells pa sa pc sc K), .int .i64 p, .string seed] w fun e w' => ∃ u, e = .returned u ∧ HkO w' w.heap.size u R ∧ Below w.heap.size w w' := by
  obtain ⟨cs, rfl, h7⟩ := hv.seven
  obtain ⟨g, hg⟩ : ∃ g, w.heap.size = g := ⟨_, rfl⟩
  rw [hg]
  have HC : Hid (∀ W, Below g w W → Calls Try.prog 32 #[.agg cs] W fun e w' => e = .returned (.bool (told (specOk s))) ∧ Below W.heap.size W w') := fun W hW => check_spec (hv.below (by rw [hg]; exact hW))
  have HB : Hid (∀ (x n : Int), ∀ W, Calls Try.prog 20 #[.int .i64 x, .int .i64 n] W fun e w' => e = .returned (.bool (told (0 ≤ x ∧ x < n))) ∧ w' = W) := fun x n W => hbelow_any x n W
  have HS : Hid (0 ≤ K.lock ∧ K.lock ≤ 255 → ∀ W, Below g w W → Calls Try.prog 33 #[.agg (hcells pa sa pc sc K), .int .i64 p, .string seed] W fun e w' => ∃ u, e = .returned u ∧ HkO w' W.heap.size u (signedM K p seed) ∧ Below W.heap.size W w') := fun hlk W hW => signed_any (L.below (by rw [hg]; exact hW)) p hp64 seed hseed hlk hsec hpl hsl hz
  have hpm : K.path.length ≤ maxLen := by unfold maxLen; omega
  have hsm : K.sigs.length ≤ maxLen := by unfold maxLen; omega
  obtain ⟨a1, a2, a3, a4, k1, k2, k3, k4, hcs, LI, hcap⟩ := hv
  injection hcs with hcs
  have HX : Hid (∀ W, SvAt W g cs → W.cell? ⟨g, 1, none⟩ = some (.slice a1 s.parties.length k1) ∧ W.cell? ⟨g, 4, none⟩ = some (.slice a4 s.locks.length k4)) := fun W hW => by
    have h9 : W.heap[g]? = some (.cells (cells7 a1 a2 a3 a4 k1 k2 k3 k4 s) 27 (0, 0)) := by rw [← hcs]; exact hW
    exact ⟨(cells7_at h9).2.1, (cells7_at h9).2.2.2.2.1⟩
  have hm4 := LI.locks.2.1
  have hm1 := LI.parties.1
  unfold maxLen at hm4 hm1 hpm hsm
  clear hcs LI hcap L hsec hz hseed hpl hsl
  replace h1 := hide h1
  replace h2 := hide h2
  have hz0 : ∀ w1 : World, HvAt (w1.alloc (.cells #[.int .i64 0, .string ⟨#[]⟩, .slice none 0 0, .slice none 0 0] 31)) w1.heap.size #[.int .i64 0, .string ⟨#[]⟩, .slice none 0 0, .slice none 0 0] := fun w1 => heap_alloc_new _ _
  replace hz0 := hide hz0
  go_enter Try.func17, Try.ntmps17
  go_upto_region 1 with (first
    | ((with_reducible refine wpList_at ?_); refine wpList_boxv (by rfl) 27 (.tmp 0) (by rfl) _ (by rfl) ?_; rw [hg]; intro w1 hu1 hz1 hb1; have hx1 : SvAt w1 g cs := hu1; clear hu1)
    | ((with_reducible refine wpList_at ?_); refine wpList_boxv (by rfl) 31 (.tmp 1) (by rfl) _ (by rfl) ?_; rw [hz1]; intro w2 hu2 hz2 hb2; have hy2 : HvAt w2 (g + 1) (hcells pa sa pc sc K) := hu2; clear hu2))
  have hx2 := hx1.below (by rw [hz1]; exact hb2)
  have hB2 : Below g w w2 := hb1.trans (hb2.mono (by omega))
  have hs2 : w2.heap.size = g + 2 := by omega
  have hR3 := hz0.out w2
  have hal : Below w2.heap.size w2 (w2.alloc (.cells #[.int .i64 0, .string ⟨#[]⟩, .slice none 0 0, .slice none 0 0] 31)) := (Below.refl _ _).alloc (Nat.le_refl _) _
  have hx3 := hx2.below hal
  have hy3 := hy2.below hal (by omega)
  have hB3 : Below g w (w2.alloc (.cells #[.int .i64 0, .string ⟨#[]⟩, .slice none 0 0, .slice none 0 0] 31)) := hB2.trans (hal.mono (by omega))
  have hs3 : g + 3 ≤ (w2.alloc (.cells #[.int .i64 0, .string ⟨#[]⟩, .slice none 0 0, .slice none 0 0] 31)).heap.size := by simp [hs2]
  rw [hs2] at hR3
  clear hal hx1 hb1 hx2 hy2 hB2 hb2 hz1 hz2
  try rw [hs2]
  generalize w2.alloc (.cells #[.int .i64 0, .string ⟨#[]⟩, .slice none 0 0, .slice none 0 0] 31) = w3 at hR3 hx3 hy3 hB3 hs3 ⊢
  go_wp2_with ((with_reducible refine wpList_at ?_); refine wpList_loadV (by rfl) (.tmp 4) (by rfl) _ cs (by rfl) hx3 h7 ?_)
  refine (HC.out _ hB3).mono ?_
  rintro e w4 ⟨rfl, hb4⟩
  have hx4 := hx3.below hb4
  have hy4 := hy3.below hb4 (by omega)
  have hR4 := hR3.below hb4 (by omega)
  have hB4 : Below g w w4 := hB3.trans (hb4.mono (by omega))
  have hs4 : g + 3 ≤ w4.heap.size := by have := hb4.size; omega
  obtain ⟨q1, q4⟩ := HX.out _ hx4
  obtain ⟨y0, y1, y2, y3⟩ := hcells_at hy4
  obtain ⟨np, hnp⟩ : ∃ n, s.parties.length = n := ⟨_, rfl⟩
  obtain ⟨nk, hnk⟩ : ∃ n, s.locks.length = n := ⟨_, rfl⟩
  obtain ⟨nl, hnl⟩ : ∃ n, K.path.length = n := ⟨_, rfl⟩
  obtain ⟨ns, hns⟩ : ∃ n, K.sigs.length = n := ⟨_, rfl⟩
  rw [hnp] at q1 hm1
  rw [hnk] at q4 hm4
  rw [hnl] at y2 hpm
  rw [hns] at y3 hsm
  replace hnp := hide hnp
  replace hnk := hide hnk
  replace hnl := hide hnl
  replace hns := hide hns
  clear hx3 hy3 hR3 hB3 hb4 hs3 hs2 HC
  by_cases c0 : specOk s
  · rw [told_yes c0]
    have hk3 : nk ≤ 3 := by have := c0.2.1.2.1; have h9 := c0.2.1.2.2.1; rw [hnk.out] at h9; omega
    replace c0 := hide c0
    go_wp2_with fail
    refine (HB.out _ _ _).mono ?_
    rintro e w0 ⟨rfl, hw0⟩
    subst w0
    by_cases c1 : 0 ≤ p ∧ p < (np : Int)
    · rw [told_yes c1]
      replace c1 := hide c1
      by_cases c2 : nl = 0
      · have t2 : ((nl : Int) == 0) = true := by rw [c2]; rfl
        have c2' := hide c2
        clear c2
        have hR : Hid (R = noHk) := h2.out (fun h => h.2.2.1 (by rw [hnl.out]; exact c2'.out))
        go_wp2_with ((with_reducible refine wpList_at ?_); refine wpList_storeH (by rfl) (.tmp 8) (.tmp 41) (by rfl) (g + 2) #[.int .i64 0, .string ⟨#[]⟩, .slice none 0 0, .slice none 0 0] _ (by rfl) (by rfl) hR4 rfl rfl (by intro u hu; simp at hu; rcases hu with rfl | rfl | rfl <;> rfl) ?_; intro w5 hv5 hbt5)
        refine bodyPost_ret (v := .agg _) (results_one (fn := Try.f17) Try.results17 _ _ (g + 2) 31 _ (0, 0) _ (by rfl) hv5 Try.underlying31 sizeHk) rfl ?_
        exact ⟨_, rfl, by rw [hR.out]; exact hko_none _ _, hB4.trans (hbt5.below (by omega) (by omega))⟩
      · have t2 : ((nl : Int) == 0) = false := by rw [beq_eq_false_iff_ne]; omega
        have c2' := hide c2
        clear c2
        by_cases c3 : ns = 0
        · have t3 : ((ns : Int) == 0) = true := by rw [c3]; rfl
          have c3' := hide c3
          clear c3
          have hR : Hid (R = noHk) := h2.out (fun h => h.2.2.2.1 (by rw [hns.out]; exact c3'.out))
          go_wp2_with ((with_reducible refine wpList_at ?_); refine wpList_storeH (by rfl) (.tmp 8) (.tmp 41) (by rfl) (g + 2) #[.int .i64 0, .string ⟨#[]⟩, .slice none 0 0, .slice none 0 0] _ (by rfl) (by rfl) hR4 rfl rfl (by intro u hu; simp at hu; rcases hu with rfl | rfl | rfl <;> rfl) ?_; intro w5 hv5 hbt5)
          refine bodyPost_ret (v := .agg _) (results_one (fn := Try.f17) Try.results17 _ _ (g + 2) 31 _ (0, 0) _ (by rfl) hv5 Try.underlying31 sizeHk) rfl ?_
          exact ⟨_, rfl, by rw [hR.out]; exact hko_none _ _, hB4.trans (hbt5.below (by omega) (by omega))⟩
        · have t3 : ((ns : Int) == 0) = false := by rw [beq_eq_false_iff_ne]; omega
          have c3' := hide c3
          clear c3
          go_wp2_with fail
          refine (HB.out _ _ _).mono ?_
          rintro e w0 ⟨rfl, hw0⟩
          subst w0
          by_cases c4 : 0 ≤ K.lock ∧ K.lock < (nk : Int)
          · rw [told_yes c4]
            have hR : Hid (R = signedM K p seed) := h1.out ⟨c0.out, by rw [hnp.out]; exact c1.out, by rw [hnl.out]; exact c2'.out, by rw [hns.out]; exact c3'.out, by rw [hnk.out]; exact c4⟩
            have HS4 := hide (HS.out ⟨c4.1, by omega⟩ w4 hB4)
            replace c4 := hide c4
            go_wp2_with ((with_reducible refine wpList_at ?_); refine wpList_loadK (by rfl) (.tmp 5) (by rfl) _ _ (by rfl) hy4 rfl ?_)
            refine HS4.out.mono ?_
            rintro e w5 ⟨u, rfl, hV5, hb5⟩
            obtain ⟨c5, rfl, h4, h41⟩ := hV5.four
            have hR5 := hR4.below hb5 (by omega)
            have hB5 : Below g w w5 := hB4.trans (hb5.mono (by omega))
            have hs5 := hb5.size
            go_wp2_with ((with_reducible refine wpList_at ?_); refine wpList_storeH (by rfl) (.tmp 8) (.tmp 45) (by rfl) (g + 2) c5 _ (by rfl) (by rfl) hR5 h4 rfl h41 ?_; intro w6 hv6 hbt6)
            refine bodyPost_ret (v := .agg _) (results_one (fn := Try.f17) Try.results17 _ _ (g + 2) 31 _ (0, 0) _ (by rfl) hv6 Try.underlying31 (by rw [h4]; exact sizeHk)) rfl ?_
            rw [hR.out]
            exact ⟨_, rfl, (hV5.but hbt6 hR5).base (by omega), hB5.trans (hbt6.below (by omega) (by omega))⟩
          · rw [told_no c4]
            have c4' := hide c4
            clear c4
            have hR : Hid (R = noHk) := h2.out (fun h => c4'.out (by rw [← hnk.out]; exact h.2.2.2.2))
            go_wp2_with ((with_reducible refine wpList_at ?_); refine wpList_storeH (by rfl) (.tmp 8) (.tmp 41) (by rfl) (g + 2) #[.int .i64 0, .string ⟨#[]⟩, .slice none 0 0, .slice none 0 0] _ (by rfl) (by rfl) hR4 rfl rfl (by intro u hu; simp at hu; rcases hu with rfl | rfl | rfl <;> rfl) ?_; intro w5 hv5 hbt5)
            refine bodyPost_ret (v := .agg _) (results_one (fn := Try.f17) Try.results17 _ _ (g + 2) 31 _ (0, 0) _ (by rfl) hv5 Try.underlying31 sizeHk) rfl ?_
            exact ⟨_, rfl, by rw [hR.out]; exact hko_none _ _, hB4.trans (hbt5.below (by omega) (by omega))⟩
    · rw [told_no c1]
      have c1' := hide c1
      clear c1
      have hR : Hid (R = noHk) := h2.out (fun h => c1'.out (by rw [← hnp.out]; exact h.2.1))
      go_wp2_with ((with_reducible refine wpList_at ?_); refine wpList_storeH (by rfl) (.tmp 8) (.tmp 41) (by rfl) (g + 2) #[.int .i64 0, .string ⟨#[]⟩, .slice none 0 0, .slice none 0 0] _ (by rfl) (by rfl) hR4 rfl rfl (by intro u hu; simp at hu; rcases hu with rfl | rfl | rfl <;> rfl) ?_; intro w5 hv5 hbt5)
      refine bodyPost_ret (v := .agg _) (results_one (fn := Try.f17) Try.results17 _ _ (g + 2) 31 _ (0, 0) _ (by rfl) hv5 Try.underlying31 sizeHk) rfl ?_
      exact ⟨_, rfl, by rw [hR.out]; exact hko_none _ _, hB4.trans (hbt5.below (by omega) (by omega))⟩
  · rw [told_no c0]
    have c0' := hide c0
    clear c0
    have hR : Hid (R = noHk) := h2.out (fun h => c0'.out h.1)
    go_wp2_with ((with_reducible refine wpList_at ?_); refine wpList_storeH (by rfl) (.tmp 8) (.tmp 41) (by rfl) (g + 2) #[.int .i64 0, .string ⟨#[]⟩, .slice none 0 0, .slice none 0 0] _ (by rfl) (by rfl) hR4 rfl rfl (by intro u hu; simp at hu; rcases hu with rfl | rfl | rfl <;> rfl) ?_; intro w5 hv5 hbt5)
    refine bodyPost_ret (v := .agg _) (results_one (fn := Try.f17) Try.results17 _ _ (g + 2) 31 _ (0, 0) _ (by rfl) hv5 Try.underlying31 sizeHk) rfl ?_
    exact ⟨_, rfl, by rw [hR.out]; exact hko_none _ _, hB4.trans (hbt5.below (by omega) (by omega))⟩

end Go.Proofs.Ythoimecljfcjmaa

/-
  append of a row that lies in memory, in a region that draws its order.
-/
namespace Go.Proofs.Ythoimecljfcjmaa
open Go.RowKit

theorem step_appR {st e : TypeId} {size bytes : Nat} {z : Value} (ht : Try.prog.underlying st = some (.slice e)) (hinfo : (Try.prog.info? e).map (fun i => (i.zero, i.size, i.bytes)) = some (some z, size, bytes)) (hzs : z.cells.size = size) (hsz : 0 < size) (hby : bytes ≤ 100)
    {ops : Array Oper} {o : Oper} {a : Act} {K : Act → World → Prop} {Q : Exit → Act → World → Prop} {E : Prop} (w : World) (hgd : o.guard = none) (s x : Operand)
    (ho : o.op = .call { callee := .builtin .append, args := #[s, x], argTypes := #[st, st] })
    (B : Nat) (v : Value) (n : Nat) (xs : List Value) (hs : a.eval s = v) (hown : w.ownsRow B e size v n xs) (ad : Addr) (m c : Nat) (news : List Value) (hx : a.eval x = .slice (some ad) m c)
    (hl : news.length = m * size) (hnews : ∀ j u, news[j]? = some u → w.cell? (ad.add j) = some u) (h1 : ∀ u ∈ news, u.oneCell' = true) (hn : n + m ≤ 1000000) (hB : B ≤ w.heap.size)
    (h : ∀ v' w', w'.ownsRow B e size v' (n + m) (xs ++ news) → w.grownBy w' v.ownBlock → K (a.put o.dst v') w') :
    if Region.wanted o (yielded ops a.tmps) = true then Oper.wp Try.prog o a w K Q else E := by
  obtain ⟨i0, hi, hz0, hz1, hz2⟩ := info_parts hinfo
  have hw : Region.wanted o (yielded ops a.tmps) = true := by simp [Region.wanted, hgd]
  rw [if_pos hw]
  exact wp_append_own _ s x st ho B e i0 z size bytes ht hi hz0 hz1 hz2 hzs hsz v n xs hs hown ad m c news hx hl hnews h1 (by unfold maxLen; omega) (by have : (n + m) * bytes ≤ (n + m) * 100 := Nat.mul_le_mul_left _ hby; omega) hB
    (fun v' w' h2 h3 _ => h v' w' h2 h3)
/-- A row's cells, whatever the addresses. -/
theorem Strs.news {w : World} {ad : Addr} {l : List ByteArray} (h : Strs w (some ad) l.length l) : (∀ j u, (l.map Value.string)[j]? = some u → w.cell? (ad.add j) = some u) ∧ (l.map Value.string).length = l.length * 1 ∧ ∀ u ∈ l.map Value.string, u.oneCell' = true := by
  refine ⟨fun j u hu => ?_, by rw [List.length_map, Nat.mul_one], fun u hu => ?_⟩
  · have hj : j < l.length := by have := (List.getElem?_eq_some_iff.1 hu).1; rw [List.length_map] at this; exact this
    obtain ⟨b, o, h', _⟩ := h.2.2.2 j hj
    injection h' with h'
    subst h'
    exact Strs.cellsC h j u hu
  · obtain ⟨x, _, rfl⟩ := List.mem_map.1 hu
    rfl
theorem Ints.news {w : World} {ad : Addr} {l : List Int} (h : Ints w (some ad) l.length l) : (∀ j u, (l.map (Value.int .i64))[j]? = some u → w.cell? (ad.add j) = some u) ∧ (l.map (Value.int .i64)).length = l.length * 1 ∧ ∀ u ∈ l.map (Value.int .i64), u.oneCell' = true := by
  refine ⟨fun j u hu => ?_, by rw [List.length_map, Nat.mul_one], fun u hu => ?_⟩
  · have hj : j < l.length := by have := (List.getElem?_eq_some_iff.1 hu).1; rw [List.length_map] at this; exact this
    obtain ⟨b, o, h', _⟩ := h.2.2.2 j hj
    injection h' with h'
    subst h'
    exact Ints.cellsC h j u hu
  · obtain ⟨x, _, rfl⟩ := List.mem_map.1 hu
    rfl
/-- A store into a row of cells. -/
theorem step_splice {ops : Array Oper} {o : Oper} {a : Act} {w : World} {K : Act → World → Prop} {Q : Exit → Act → World → Prop} {E : Prop} (hgd : o.guard = none) (ty : TypeId) (x y : Operand) (ho : o.op = .store ty x y)
    (g off : Nat) (vs : Array Value) (v : Value) (hx : a.eval x = .pointer (some ⟨g, off, none⟩)) (hy : a.eval y = v) (hv : v.cells = vs)
    (t : TypeId) (old : List Value) (hg : Cells w g t old) (hi : (Try.prog.info? ty).map (·.size) = some vs.size) (hold : off + vs.size ≤ old.length) (h1 : ∀ u ∈ vs.toList, u.oneCell' = true)
    (h : ∀ w1, Cells w1 g t (old.take off ++ vs.toList ++ old.drop (off + vs.size)) → w1.heap.size = w.heap.size → But g w w1 → K (a.put o.dst undef) w1) : if Region.wanted o (yielded ops a.tmps) = true then Oper.wp Try.prog o a w K Q else E := by
  have hw : Region.wanted o (yielded ops a.tmps) = true := by simp [Region.wanted, hgd]
  rw [if_pos hw]
  have hs := run_storeCells_at (P := Try.prog) g off t vs.toList 0 old.toArray w hg (by simp; omega) h1
  have hst : (storeVar ty ⟨g, off, none⟩ v).run Try.prog w = .ok () (w.setRow g (old.take off ++ vs.toList ++ old.drop (off + vs.size)).toArray) := by
    cases hq : Try.prog.info? ty with
    | none => simp [hq] at hi
    | some i =>
      have hsz : i.size = vs.size := by simpa [hq] using hi
      simp only [Nat.add_zero, Array.length_toList] at hs
      simp [storeVar, sizeOf, typeInfo, hq, hv, hsz, hs]
  unfold Oper.wp execOp
  simp only [ho, hx, hy, Instr.storeAt, Instr.sureAddr, Sem.run_bind, Sem.run_pure, Result.andThen_ok, hst]
  refine h _ ?_ (by simp) ⟨rfl, rfl, rfl, by simp, fun k _ hk => setRow_other w g k _ hk⟩
  have := setRow_heap w g _ (old.take off ++ vs.toList ++ old.drop (off + vs.size)).toArray t (0, 0) hg
  simpa [Cells] using this

end Go.Proofs.Ythoimecljfcjmaa
