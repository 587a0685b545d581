/-
  What the program reads of bytes, on plain data, and that its rows are a swap.
-/
import Derived.Test.YthdnldbkpllciaaSpRp
import Derived.Test.YthdnldbkpllciaaSpOwnC
namespace Go.Proofs.Ythdnldbkpllciaa
open Go.RowKit

def rd1 (l : List UInt8) : List UInt8 × Bool := txtS (l, false) 16
def rdPs (r : List UInt8 × Bool) : List PartyM := itemsL partyOf partyS (cntV r.1 6).toNat (cntS r 6)
def rd2 (r : List UInt8 × Bool) : List UInt8 × Bool := itemsS partyS (cntV r.1 6).toNat (cntS r 6)
def rdAs (r : List UInt8 × Bool) : List ArcM := itemsL arcOf arcS (cntV r.1 12).toNat (cntS r 12)
def rd3 (r : List UInt8 × Bool) : List UInt8 × Bool := itemsS arcS (cntV r.1 12).toNat (cntS r 12)
def rdLs (r : List UInt8 × Bool) : List Int := itemsL (fun r => numV r.1) numS (cntV r.1 3).toNat (cntS r 3)
def rd4 (r : List UInt8 × Bool) : List UInt8 × Bool := itemsS numS (cntV r.1 3).toNat (cntS r 3)
/-- The swap that is read, and what the reader is then. -/
def rdM (l : List UInt8) : SpecM :=
  ⟨mk (txtV (l, false) 16), rdPs (rd1 l), rdAs (rd2 (rd1 l)), rdLs (rd3 (rd2 (rd1 l))), keysOf 32 (rd4 (rd3 (rd2 (rd1 l)))), numV (keysS 32 (rd4 (rd3 (rd2 (rd1 l))))).1, numV (numS (keysS 32 (rd4 (rd3 (rd2 (rd1 l)))))).1⟩
def rdE (l : List UInt8) : List UInt8 × Bool := numS (numS (keysS 32 (rd4 (rd3 (rd2 (rd1 l))))))

theorem itemsL_all {α : Type} (p : α → Prop) (f : (List UInt8 × Bool) → α) (g : (List UInt8 × Bool) → (List UInt8 × Bool)) (h : ∀ r, p (f r)) (n : Nat) (r : List UInt8 × Bool) (d : α) : ∀ j, j < (itemsL f g n r).length → p ((itemsL f g n r).getD j d) := by
  intro j hj
  have hm := getD_mem (itemsL f g n r) j d hj
  generalize (itemsL f g n r).getD j d = x at hm
  clear hj
  induction n generalizing r with
  | zero => simp [itemsL] at hm
  | succ n ih =>
    rw [itemsL, List.mem_cons] at hm
    rcases hm with rfl | hm
    · exact h r
    · exact ih (g r) hm
theorem txtV_len (r : List UInt8 × Bool) (m : Int) (hm : 0 ≤ m) : ((txtV r m).length : Int) ≤ m := by
  unfold txtV
  split
  · simpa using hm
  · rw [List.length_take]
    have h1 := (cntV_range r.1 m).1
    have h2 := cntV_le r.1 m hm
    omega
theorem mk_len (r : List UInt8 × Bool) (m : Nat) : (mk (txtV r m)).size ≤ m := by
  unfold mk; rw [mk_size]
  have := txtV_len r (m : Int) (by omega); omega
/-- A swap whose names, keys and numbers are such as memory can hold. -/
structure Sane (s : SpecM) : Prop where
  id : s.id.size ≤ 1000
  np : s.parties.length ≤ 1000
  na : s.arcs.length ≤ 1000
  nl : s.leaders.length ≤ 1000
  nk : s.locks.length ≤ 1000
  pa : ∀ j, j < s.parties.length → (s.parties.getD j noParty).acc.size ≤ 1000 ∧ (s.parties.getD j noParty).keys.length ≤ 1000 ∧ ∀ i, i < (s.parties.getD j noParty).keys.length → ((s.parties.getD j noParty).keys.getD i ByteArray.empty).size ≤ 1000
  ar : ∀ j, j < s.arcs.length → In64 (s.arcs.getD j noArc).src ∧ In64 (s.arcs.getD j noArc).dst ∧ In64 (s.arcs.getD j noArc).ledger ∧ In64 (s.arcs.getD j noArc).amount ∧ (s.arcs.getD j noArc).asset.size ≤ 1000
  le : ∀ j, j < s.leaders.length → In64 (s.leaders.getD j 0)
  lk : ∀ j, j < s.locks.length → (s.locks.getD j ByteArray.empty).size ≤ 1000
  st : In64 s.start
  de : In64 s.delta
theorem cnt_nat (l : List UInt8) (m : Int) (h : 0 ≤ m) (k : Nat) (hk : m ≤ k) : (cntV l m).toNat ≤ k := by have := cntV_le l m h; omega
theorem keys_fine (m : Nat) (hm : m ≤ 1000) (r : List UInt8 × Bool) : (keysOf (m : Int) r).length ≤ 1000 ∧ ∀ j, j < (keysOf (m : Int) r).length → ((keysOf (m : Int) r).getD j ByteArray.empty).size ≤ 1000 := by
  unfold keysOf
  refine ⟨by rw [itemsL_length]; exact cnt_nat _ 3 (by omega) 1000 (by omega), ?_⟩
  exact itemsL_all (fun t : ByteArray => t.size ≤ 1000) (fun r => mk (txtV r (m : Int))) (fun r => txtS r (m : Int)) (fun r => Nat.le_trans (mk_len r m) hm) _ _ _
theorem ps_fine (r : List UInt8 × Bool) : (rdPs r).length ≤ 1000 ∧ ∀ j, j < (rdPs r).length → ((rdPs r).getD j noParty).acc.size ≤ 1000 ∧ ((rdPs r).getD j noParty).keys.length ≤ 1000 ∧ ∀ i, i < ((rdPs r).getD j noParty).keys.length → (((rdPs r).getD j noParty).keys.getD i ByteArray.empty).size ≤ 1000 := by
  unfold rdPs
  refine ⟨by rw [itemsL_length]; exact cnt_nat _ 6 (by omega) 1000 (by omega), ?_⟩
  exact itemsL_all (fun p : PartyM => p.acc.size ≤ 1000 ∧ p.keys.length ≤ 1000 ∧ ∀ i, i < p.keys.length → (p.keys.getD i ByteArray.empty).size ≤ 1000) partyOf partyS (fun r => ⟨Nat.le_trans (mk_len r 16) (by omega), (keys_fine 16 (by omega) (txtS r 16)).1, (keys_fine 16 (by omega) (txtS r 16)).2⟩) _ _ _
theorem as_fine (r : List UInt8 × Bool) : (rdAs r).length ≤ 1000 ∧ ∀ j, j < (rdAs r).length → In64 ((rdAs r).getD j noArc).src ∧ In64 ((rdAs r).getD j noArc).dst ∧ In64 ((rdAs r).getD j noArc).ledger ∧ In64 ((rdAs r).getD j noArc).amount ∧ ((rdAs r).getD j noArc).asset.size ≤ 1000 := by
  unfold rdAs
  refine ⟨by rw [itemsL_length]; exact cnt_nat _ 12 (by omega) 1000 (by omega), ?_⟩
  exact itemsL_all (fun a : ArcM => In64 a.src ∧ In64 a.dst ∧ In64 a.ledger ∧ In64 a.amount ∧ a.asset.size ≤ 1000) arcOf arcS (fun r => ⟨numV_range _, numV_range _, numV_range _, numV_range _, Nat.le_trans (mk_len _ 16) (by omega)⟩) _ _ _
theorem ls_fine (r : List UInt8 × Bool) : (rdLs r).length ≤ 1000 ∧ ∀ j, j < (rdLs r).length → In64 ((rdLs r).getD j 0) := by
  unfold rdLs
  refine ⟨by rw [itemsL_length]; exact cnt_nat _ 3 (by omega) 1000 (by omega), ?_⟩
  exact itemsL_all (fun v : Int => In64 v) (fun r => numV r.1) numS (fun r => numV_range _) _ _ _
theorem rdM_sane (l : List UInt8) : Sane (rdM l) := by
  unfold rdM
  generalize hr1 : rd1 l = r1
  generalize hr2 : rd2 r1 = r2
  generalize hr3 : rd3 r2 = r3
  generalize hr4 : rd4 r3 = r4
  have k := keys_fine 32 (by omega) r4
  exact ⟨Nat.le_trans (mk_len (l, false) 16) (by omega), (ps_fine r1).1, (as_fine r2).1, (ls_fine r3).1, k.1, (ps_fine r1).2, (as_fine r2).2, (ls_fine r3).2, k.2, numV_range _, numV_range _⟩

theorem map_getD {α : Type} (f : α → Value) (l : List α) (d : α) (j : Nat) (h : j < l.length) : (l.map f)[j]? = some (f (l.getD j d)) := by
  rw [List.getElem?_map, List.getD_eq_getElem?_getD, List.getElem?_eq_getElem h]; rfl
theorem IRow.ints {w : World} {B : Nat} {v : Value} {l : List Int} (h : IRow w B v l) (hn : l.length ≤ 1000) (hl : ∀ j, j < l.length → In64 (l.getD j 0)) : ∃ a c, v = .slice a l.length c ∧ l.length ≤ c ∧ c ≤ maxLen ∧ Ints w a l.length l := by
  obtain ⟨g, _, rfl, hc⟩ := h
  refine ⟨_, _, rfl, Nat.le_refl _, by unfold maxLen; omega, rfl, by unfold maxLen; omega, hl, fun j hj => ⟨g, 0, rfl, ?_⟩⟩
  rw [Nat.zero_add, hc.at, map_getD _ _ _ _ hj]
theorem SRow.strs {w : World} {B : Nat} {v : Value} {l : List ByteArray} (h : SRow w B v l) (hn : l.length ≤ 1000) (hl : ∀ j, j < l.length → (l.getD j ByteArray.empty).size ≤ 1000) : ∃ a c, v = .slice a l.length c ∧ l.length ≤ c ∧ c ≤ maxLen ∧ Strs w a l.length l := by
  obtain ⟨g, _, rfl, hc⟩ := h
  refine ⟨_, _, rfl, Nat.le_refl _, by unfold maxLen; omega, rfl, by unfold maxLen; omega, fun j hj => Nat.le_trans (hl j hj) (by unfold maxLen; omega), fun j hj => ⟨g, 0, rfl, ?_⟩⟩
  rw [Nat.zero_add, hc.at, map_getD _ _ _ _ hj]
theorem PRow2.parties {w : World} {B : Nat} {v : Value} {l : List PartyM} (h : PRow2 w B v l) (hn : l.length ≤ 1000) (hp : ∀ j, j < l.length → (l.getD j noParty).acc.size ≤ 1000 ∧ (l.getD j noParty).keys.length ≤ 1000 ∧ ∀ i, i < (l.getD j noParty).keys.length → ((l.getD j noParty).keys.getD i ByteArray.empty).size ≤ 1000) :
    ∃ a c, v = .slice a l.length c ∧ l.length ≤ c ∧ c ≤ maxLen ∧ Parties w a l := by
  obtain ⟨g, ks, _, rfl, hk, hc, hs⟩ := h
  refine ⟨_, _, rfl, Nat.le_refl _, by unfold maxLen; omega, by unfold maxLen; omega, fun j hj => ⟨g, 0, rfl, ?_⟩⟩
  obtain ⟨p1, p2, p3⟩ := hp j hj
  obtain ⟨ka, kc, hv, _, _, hks⟩ := (hs j hj).strs p2 p3
  obtain ⟨c1, c2⟩ := pcells_at l ks hk j hj
  rw [hv] at c2
  exact ⟨Nat.le_trans p1 (by unfold maxLen; omega), by rw [Nat.zero_add, hc.at]; exact c1, ka, kc, by rw [Nat.zero_add, hc.at]; exact c2, hks⟩
theorem ARow.arcs {w : World} {B : Nat} {v : Value} {l : List ArcM} (h : ARow w B v l) (hn : l.length ≤ 1000) (hp : ∀ j, j < l.length → In64 (l.getD j noArc).src ∧ In64 (l.getD j noArc).dst ∧ In64 (l.getD j noArc).ledger ∧ In64 (l.getD j noArc).amount ∧ (l.getD j noArc).asset.size ≤ 1000) :
    ∃ a c, v = .slice a l.length c ∧ l.length ≤ c ∧ c ≤ maxLen ∧ Arcs w a l := by
  obtain ⟨g, _, rfl, hc⟩ := h
  refine ⟨_, _, rfl, Nat.le_refl _, by unfold maxLen; omega, by unfold maxLen; omega, fun j hj => ⟨g, 0, rfl, ?_⟩⟩
  obtain ⟨p1, p2, p3, p4, p5⟩ := hp j hj
  have c0 := acells_at l j hj 0 (by omega)
  have c1 := acells_at l j hj 1 (by omega)
  have c2 := acells_at l j hj 2 (by omega)
  have c3 := acells_at l j hj 3 (by omega)
  have c4 := acells_at l j hj 4 (by omega)
  refine ⟨p1, p2, p3, p4, Nat.le_trans p5 (by unfold maxLen; omega), ?_, ?_, ?_, ?_, ?_⟩ <;> rw [Nat.zero_add, hc.at]
  · exact c0
  · exact c1
  · exact c2
  · exact c3
  · exact c4
/-- Rows, as a swap's slices. -/
theorem rows_spec {w : World} {B1 B2 B3 B4 : Nat} {v1 v2 v3 v4 : Value} {s : SpecM} (hs : Sane s) (h1 : PRow2 w B1 v1 s.parties) (h2 : ARow w B2 v2 s.arcs) (h3 : IRow w B3 v3 s.leaders) (h4 : SRow w B4 v4 s.locks) :
    SpecW w (.agg #[.string s.id, v1, v2, v3, v4, .int .i64 s.start, .int .i64 s.delta]) s := by
  obtain ⟨a1, c1, rfl, k1, m1, L1⟩ := h1.parties hs.np hs.pa
  obtain ⟨a2, c2, rfl, k2, m2, L2⟩ := h2.arcs hs.na hs.ar
  obtain ⟨a3, c3, rfl, k3, m3, L3⟩ := h3.ints hs.nl hs.le
  obtain ⟨a4, c4, rfl, k4, m4, L4⟩ := h4.strs hs.nk hs.lk
  exact ⟨a1, a2, a3, a4, c1, c2, c3, c4, rfl, ⟨Nat.le_trans hs.id (by unfold maxLen; omega), L1, L2, L3, L4, hs.st, hs.de⟩, k1, m1, k2, m2, k3, m3⟩
theorem no_spec (w : World) : SpecW w (.agg #[.string ⟨#[]⟩, .slice none 0 0, .slice none 0 0, .slice none 0 0, .slice none 0 0, .int .i64 0, .int .i64 0]) noSpec :=
  ⟨none, none, none, none, 0, 0, 0, 0, rfl, ⟨Nat.zero_le _, ⟨Nat.zero_le _, fun j hj => absurd hj (by simp [noSpec])⟩, ⟨Nat.zero_le _, fun j hj => absurd hj (by simp [noSpec])⟩, ints_nil w, strs_nil w, by unfold In64 noSpec; decide, by unfold In64 noSpec; decide⟩, by unfold Caps noSpec; simp⟩

/-- A swap whose rows a call has made, from block B on. -/
def RowsV (w : World) (B : Nat) (v : Value) (s : SpecM) : Prop := ∃ p1 n1 k1 p2 n2 k2 p3 n3 k3 p4 n4 k4, v = .agg #[.string s.id, .slice p1 n1 k1, .slice p2 n2 k2, .slice p3 n3 k3, .slice p4 n4 k4, .int .i64 s.start, .int .i64 s.delta]
  ∧ PRow2 w B (.slice p1 n1 k1) s.parties ∧ ARow w B (.slice p2 n2 k2) s.arcs ∧ IRow w B (.slice p3 n3 k3) s.leaders ∧ SRow w B (.slice p4 n4 k4) s.locks
theorem PRow2.mono {w : World} {B C : Nat} {v : Value} {l : List PartyM} (h : PRow2 w B v l) (hC : C ≤ B) : PRow2 w C v l := by
  obtain ⟨g, ks, h1, h2⟩ := h; exact ⟨g, ks, by omega, h2⟩
theorem ARow.mono {w : World} {B C : Nat} {v : Value} {l : List ArcM} (h : ARow w B v l) (hC : C ≤ B) : ARow w C v l := by
  obtain ⟨g, h1, h2⟩ := h; exact ⟨g, by omega, h2⟩
theorem IRow.mono {w : World} {B C : Nat} {v : Value} {l : List Int} (h : IRow w B v l) (hC : C ≤ B) : IRow w C v l := by
  obtain ⟨g, h1, h2⟩ := h; exact ⟨g, by omega, h2⟩
theorem RowsV.but {w w' : World} {B k : Nat} {v : Value} {s : SpecM} (h : RowsV w B v s) (b : But k w w') (hk : k < B) : RowsV w' B v s := by
  obtain ⟨p1, n1, k1, p2, n2, k2, p3, n3, k3, p4, n4, k4, h0, h1, h2, h3, h4⟩ := h
  exact ⟨p1, n1, k1, p2, n2, k2, p3, n3, k3, p4, n4, k4, h0, h1.but b hk, h2.but b hk, h3.but b hk, h4.but b hk⟩
theorem RowsV.below {w w' : World} {B : Nat} {v : Value} {s : SpecM} (h : RowsV w B v s) (b : Below w.heap.size w w') : RowsV w' B v s := by
  obtain ⟨p1, n1, k1, p2, n2, k2, p3, n3, k3, p4, n4, k4, h0, h1, h2, h3, h4⟩ := h
  exact ⟨p1, n1, k1, p2, n2, k2, p3, n3, k3, p4, n4, k4, h0, h1.below b, h2.below b, h3.below b, h4.below b⟩
theorem RowsV.spec {w : World} {B : Nat} {v : Value} {s : SpecM} (h : RowsV w B v s) (hs : Sane s) : SpecW w v s := by
  obtain ⟨p1, n1, k1, p2, n2, k2, p3, n3, k3, p4, n4, k4, rfl, h1, h2, h3, h4⟩ := h
  exact rows_spec hs h1 h2 h3 h4

end Go.Proofs.Ythdnldbkpllciaa
