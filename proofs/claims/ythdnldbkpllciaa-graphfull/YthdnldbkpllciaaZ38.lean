/-
  What the program reads of bytes, on plain data, and that its rows are a swap.
-/
import Derived.Test.YthdnldbkpllciaaZ37
import Derived.Test.YthdnldbkpllciaaZ24
namespace Go.Proofs.Ythdnldbkpllciaa
open Go.RowKit

def rd1 (l : List UInt8) : List UInt8 × Bool := txtS (l, false) 16
def rdPs (r : List UInt8 × Bool) : List PartyM := itemsL partyOf partyS (cntV r.1 6).toNat (cntS r 6)
def rd2 (r : List UInt8 × Bool) : List UInt8 × Bool := itemsS partyS (cntV r.1 6).toNat (cntS r 6)
def rdAs (r : List UInt8 × Bool) : List ArcM := itemsL arcOf arcS (cntV r.1 12).toNat (cntS r 12)
def rd3 (r : List UInt8 × Bool) : List UInt8 × Bool := itemsS arcS (cntV r.1 12).toNat (cntS r 12)
def rdLs (r : List UInt8 × Bool) : List Int := itemsL (fun r => numV r.1) numS (cntV r.1 3).toNat (cntS r 3)
def rd4 (r : List UInt8 × Bool) : List UInt8 × Bool := itemsS numS (cntV r.1 3).toNat (cntS r 3)
/-- The swap that is read, and what the reader is then. -/
def rdM (l : List UInt8) : SpecM :=
  ⟨mk (txtV (l, false) 16), rdPs (rd1 l), rdAs (rd2 (rd1 l)), rdLs (rd3 (rd2 (rd1 l))), keysOf 32 (rd4 (rd3 (rd2 (rd1 l)))), numV (keysS 32 (rd4 (rd3 (rd2 (rd1 l))))).1, numV (numS (keysS 32 (rd4 (rd3 (rd2 (rd1 l)))))).1⟩
def rdE (l : List UInt8) : List UInt8 × Bool := numS (numS (keysS 32 (rd4 (rd3 (rd2 (rd1 l))))))

theorem itemsL_all {α : Type} (p : α → Prop) (f : (List UInt8 × Bool) → α) (g : (List UInt8 × Bool) → (List UInt8 × Bool)) (h : ∀ r, p (f r)) (n : Nat) (r : List UInt8 × Bool) (d : α) : ∀ j, j < (itemsL f g n r).length → p ((itemsL f g n r).getD j d) := by
  intro j hj
  have hm := getD_mem (itemsL f g n r) j d hj
  generalize (itemsL f g n r).getD j d = x at hm
  clear hj
  induction n generalizing r with
  | zero => simp [itemsL] at hm
  | succ n ih =>
    rw [itemsL, List.mem_cons] at hm
    rcases hm with rfl | hm
    · exact h r
    · exact ih (g r) hm
theorem txtV_len (r : List UInt8 × Bool) (m : Int) (hm : 0 ≤ m) : ((txtV r m).length : Int) ≤ m := by
  unfold txtV
  split
  · simpa using hm
  · rw [List.length_take]
    have h1 := (cntV_range r.1 m).1
    have h2 := cntV_le r.1 m hm
    omega
theorem mk_len (r : List UInt8 × Bool) (m : Nat) : (mk (txtV r m)).size ≤ m := by
  unfold mk; rw [mk_size]
  have := txtV_len r (m : Int) (by omega); omega
/-- A swap whose names, keys and numbers are such as memory can hold. -/
structure Sane (s : SpecM) : Prop where
  id : s.id.size ≤ 1000
  np : s.parties.length ≤ 1000
  na : s.arcs.length ≤ 1000
  nl : s.leaders.length ≤ 1000
  nk : s.locks.length ≤ 1000
  pa : ∀ j, j < s.parties.length → (s.parties.getD j noParty).acc.size ≤ 1000 ∧ (s.parties.getD j noParty).keys.length ≤ 1000 ∧ ∀ i, i < (s.parties.getD j noParty).keys.length → ((s.parties.getD j noParty).keys.getD i ByteArray.empty).size ≤ 1000
  ar : ∀ j, j < s.arcs.length → In64 (s.arcs.getD j noArc).src ∧ In64 (s.arcs.getD j noArc).dst ∧ In64 (s.arcs.getD j noArc).ledger ∧ In64 (s.arcs.getD j noArc).amount ∧ (s.arcs.getD j noArc).asset.size ≤ 1000
  le : ∀ j, j < s.leaders.length → In64 (s.leaders.getD j 0)
  lk : ∀ j, j < s.locks.length → (s.locks.getD j ByteArray.empty).size ≤ 1000
  st : In64 s.start
  de : In64 s.delta
theorem cnt_nat (l : List UInt8) (m : Int) (h : 0 ≤ m) (k : Nat) (hk : m ≤ k) : (cntV l m).toNat ≤ k := by have := cntV_le l m h; omega
theorem keys_fine (m : Nat) (hm : m ≤ 1000) (r : List UInt8 × Bool) : (keysOf (m : Int) r).length ≤ 1000 ∧ ∀ j, j < (keysOf (m : Int) r).length → ((keysOf (m : Int) r).getD j ByteArray.empty).size ≤ 1000 := by
  unfold keysOf
  refine ⟨by rw [itemsL_length]; exact cnt_nat _ 3 (by omega) 1000 (by omega), ?_⟩
  exact itemsL_all (fun t : ByteArray => t.size ≤ 1000) (fun r => mk (txtV r (m : Int))) (fun r => txtS r (m : Int)) (fun r => Nat.le_trans (mk_len r m) hm) _ _ _
theorem ps_fine (r : List UInt8 × Bool) : (rdPs r).length ≤ 1000 ∧ ∀ j, j < (rdPs r).length → ((rdPs r).getD j noParty).acc.size ≤ 1000 ∧ ((rdPs r).getD j noParty).keys.length ≤ 1000 ∧ ∀ i, i < ((rdPs r).getD j noParty).keys.length → (((rdPs r).getD j noParty).keys.getD i ByteArray.empty).size ≤ 1000 := by
  unfold rdPs
  refine ⟨by rw [itemsL_length]; exact cnt_nat _ 6 (by omega) 1000 (by omega), ?_⟩
  exact itemsL_all (fun p : PartyM => p.acc.size ≤ 1000 ∧ p.keys.length ≤ 1000 ∧ ∀ i, i < p.keys.length → (p.keys.getD i ByteArray.empty).size ≤ 1000) partyOf partyS (fun r => ⟨Nat.le_trans (mk_len r 16) (by omega), (keys_fine 16 (by omega) (txtS r 16)).1, (keys_fine 16 (by omega) (txtS r 16)).2⟩) _ _ _
theorem as_fine (r : List UInt8 × Bool) : (rdAs r).length ≤ 1000 ∧ ∀ j, j < (rdAs r).length → In64 ((rdAs r).getD j noArc).src ∧ In64 ((rdAs r).getD j noArc).dst ∧ In64 ((rdAs r).getD j noArc).ledger ∧ In64 ((rdAs r).getD j noArc).amount ∧ ((rdAs r).getD j noArc).asset.size ≤ 1000 := by
  unfold rdAs
  refine ⟨by rw [itemsL_length]; exact cnt_nat _ 12 (by omega) 1000 (by omega), ?_⟩
  exact itemsL_all (fun a : ArcM => In64 a.src ∧ In64 a.dst ∧ In64 a.ledger ∧ In64 a.amount ∧ a.asset.size ≤ 1000) arcOf arcS (fun r => ⟨numV_range _, numV_range _, numV_range _, numV_range _, Nat.le_trans (mk_len _ 16) (by omega)⟩) _ _ _
theorem ls_fine (r : List UInt8 × Bool) : (rdLs r).length ≤ 1000 ∧ ∀ j, j < (rdLs r).length → In64 ((rdLs r).getD j 0) := by
  unfold rdLs
  refine ⟨by rw [itemsL_length]; exact cnt_nat _ 3 (by omega) 1000 (by omega), ?_⟩
  exact itemsL_all (fun v : Int => In64 v) (fun r => numV r.1) numS (fun r => numV_range _) _ _ _
theorem rdM_sane (l : List UInt8) : Sane (rdM l) := by
  unfold rdM
  generalize hr1 : rd1 l = r1
  generalize hr2 : rd2 r1 = r2
  generalize hr3 : rd3 r2 = r3
  generalize hr4 : rd4 r3 = r4
  have k := keys_fine 32 (by omega) r4
  exact ⟨Nat.le_trans (mk_len (l, false) 16) (by omega), (ps_fine r1).1, (as_fine r2).1, (ls_fine r3).1, k.1, (ps_fine r1).2, (as_fine r2).2, (ls_fine r3).2, k.2, numV_range _, numV_range _⟩

theorem map_getD {α : Type} (f : α → Value) (l : List α) (d : α) (j : Nat) (h : j < l.length) : (l.map f)[j]? = some (f (l.getD j d)) := by
  rw [List.getElem?_map, List.getD_eq_getElem?_getD, List.getElem?_eq_getElem h]; rfl
theorem IRow.ints {w : World} {B : Nat} {v : Value} {l : List Int} (h : IRow w B v l) (hn : l.length ≤ 1000) (hl : ∀ j, j < l.length → In64 (l.getD j 0)) : ∃ a c, v = .slice a l.length c ∧ l.length ≤ c ∧ c ≤ maxLen ∧ Ints w a l.length l := by
  obtain ⟨g, _, rfl, hc⟩ := h
  refine ⟨_, _, rfl, Nat.le_refl _, by unfold maxLen; omega, rfl, by unfold maxLen; omega, hl, fun j hj => ⟨g, 0, rfl, ?_⟩⟩
  rw [Nat.zero_add, hc.at, map_getD _ _ _ _ hj]
theorem SRow.strs {w : World} {B : Nat} {v : Value} {l : List ByteArray} (h : SRow w B v l) (hn : l.length ≤ 1000) (hl : ∀ j, j < l.length → (l.getD j ByteArray.empty).size ≤ 1000) : ∃ a c, v = .slice a l.length c ∧ l.length ≤ c ∧ c ≤ maxLen ∧ Strs w a l.length l := by
  obtain ⟨g, _, rfl, hc⟩ := h
  refine ⟨_, _, rfl, Nat.le_refl _, by unfold maxLen; omega, rfl, by unfold maxLen; omega, fun j hj => Nat.le_trans (hl j hj) (by unfold maxLen; omega), fun j hj => ⟨g, 0, rfl, ?_⟩⟩
  rw [Nat.zero_add, hc.at, map_getD _ _ _ _ hj]
theorem PRow2.parties {w : World} {B : Nat} {v : Value} {l : List PartyM} (h : PRow2 w B v l) (hn : l.length ≤ 1000) (hp : ∀ j, j < l.length → (l.getD j noParty).acc.size ≤ 1000 ∧ (l.getD j noParty).keys.length ≤ 1000 ∧ ∀ i, i < (l.getD j noParty).keys.length → ((l.getD j noParty).keys.getD i ByteArray.empty).size ≤ 1000) :
    ∃ a c, v = .slice a l.length c ∧ l.length ≤ c ∧ c ≤ maxLen ∧ Parties w a l := by
  obtain ⟨g, ks, _, rfl, hk, hc, hs⟩ := h
  refine ⟨_, _, rfl, Nat.le_refl _, by unfold maxLen; omega, by unfold maxLen; omega, fun j hj => ⟨g, 0, rfl, ?_⟩⟩
  obtain ⟨p1, p2, p3⟩ := hp j hj
  obtain ⟨ka, kc, hv, _, _, hks⟩ := (hs j hj).strs p2 p3
  obtain ⟨c1, c2⟩ := pcells_at l ks hk j hj
  rw [hv] at c2
  exact ⟨Nat.le_trans p1 (by unfold maxLen; omega), by rw [Nat.zero_add, hc.at]; exact c1, ka, kc, by rw [Nat.zero_add, hc.at]; exact c2, hks⟩
theorem ARow.arcs {w : World} {B : Nat} {v : Value} {l : List ArcM} (h : ARow w B v l) (hn : l.length ≤ 1000) (hp : ∀ j, j < l.length → In64 (l.getD j noArc).src ∧ In64 (l.getD j noArc).dst ∧ In64 (l.getD j noArc).ledger ∧ In64 (l.getD j noArc).amount ∧ (l.getD j noArc).asset.size ≤ 1000) :
    ∃ a c, v = .slice a l.length c ∧ l.length ≤ c ∧ c ≤ maxLen ∧ Arcs w a l := by
  obtain ⟨g, _, rfl, hc⟩ := h
  refine ⟨_, _, rfl, Nat.le_refl _, by unfold maxLen; omega, by unfold maxLen; omega, fun j hj => ⟨g, 0, rfl, ?_⟩⟩
  obtain ⟨p1, p2, p3, p4, p5⟩ := hp j hj
  have c0 := acells_at l j hj 0 (by omega)
  have c1 := acells_at l j hj 1 (by omega)
  have c2 := acells_at l j hj 2 (by omega)
  have c3 := acells_at l j hj 3 (by omega)
  have c4 := acells_at l j hj 4 (by omega)
  refine ⟨p1, p2, p3, p4, Nat.le_trans p5 (by unfold maxLen; omega), ?_, ?_, ?_, ?_, ?_⟩ <;> rw [Nat.zero_add, hc.at]
  · exact c0
  · exact c1
  · exact c2
  · exact c3
  · exact c4
/-- Rows, as a swap's slices. -/
theorem rows_spec {w : World} {B1 B2 B3 B4 : Nat} {v1 v2 v3 v4 : Value} {s : SpecM} (hs : Sane s) (h1 : PRow2 w B1 v1 s.parties) (h2 : ARow w B2 v2 s.arcs) (h3 : IRow w B3 v3 s.leaders) (h4 : SRow w B4 v4 s.locks) :
    SpecW w (.agg #[.string s.id, v1, v2, v3, v4, .int .i64 s.start, .int .i64 s.delta]) s := by
  obtain ⟨a1, c1, rfl, k1, m1, L1⟩ := h1.parties hs.np hs.pa
  obtain ⟨a2, c2, rfl, k2, m2, L2⟩ := h2.arcs hs.na hs.ar
  obtain ⟨a3, c3, rfl, k3, m3, L3⟩ := h3.ints hs.nl hs.le
  obtain ⟨a4, c4, rfl, k4, m4, L4⟩ := h4.strs hs.nk hs.lk
  exact ⟨a1, a2, a3, a4, c1, c2, c3, c4, rfl, ⟨Nat.le_trans hs.id (by unfold maxLen; omega), L1, L2, L3, L4, hs.st, hs.de⟩, k1, m1, k2, m2, k3, m3⟩
theorem no_spec (w : World) : SpecW w (.agg #[.string ⟨#[]⟩, .slice none 0 0, .slice none 0 0, .slice none 0 0, .slice none 0 0, .int .i64 0, .int .i64 0]) noSpec :=
  ⟨none, none, none, none, 0, 0, 0, 0, rfl, ⟨Nat.zero_le _, ⟨Nat.zero_le _, fun j hj => absurd hj (by simp [noSpec])⟩, ⟨Nat.zero_le _, fun j hj => absurd hj (by simp [noSpec])⟩, ints_nil w, strs_nil w, by unfold In64 noSpec; decide, by unfold In64 noSpec; decide⟩, by unfold Caps noSpec; simp⟩

/-- A swap whose rows a call has made, from block B on. -/
def RowsV (w : World) (B : Nat) (v : Value) (s : SpecM) : Prop := ∃ p1 n1 k1 p2 n2 k2 p3 n3 k3 p4 n4 k4, v = .agg #[.string s.id, .slice p1 n1 k1, .slice p2 n2 k2, .slice p3 n3 k3, .slice p4 n4 k4, .int .i64 s.start, .int .i64 s.delta]
  ∧ PRow2 w B (.slice p1 n1 k1) s.parties ∧ ARow w B (.slice p2 n2 k2) s.arcs ∧ IRow w B (.slice p3 n3 k3) s.leaders ∧ SRow w B (.slice p4 n4 k4) s.locks
theorem PRow2.mono {w : World} {B C : Nat} {v : Value} {l : List PartyM} (h : PRow2 w B v l) (hC : C ≤ B) : PRow2 w C v l := by
  obtain ⟨g, ks, h1, h2⟩ := h; exact ⟨g, ks, by omega, h2⟩
theorem ARow.mono {w : World} {B C : Nat} {v : Value} {l : List ArcM} (h : ARow w B v l) (hC : C ≤ B) : ARow w C v l := by
  obtain ⟨g, h1, h2⟩ := h; exact ⟨g, by omega, h2⟩
theorem IRow.mono {w : World} {B C : Nat} {v : Value} {l : List Int} (h : IRow w B v l) (hC : C ≤ B) : IRow w C v l := by
  obtain ⟨g, h1, h2⟩ := h; exact ⟨g, by omega, h2⟩
theorem RowsV.but {w w' : World} {B k : Nat} {v : Value} {s : SpecM} (h : RowsV w B v s) (b : But k w w') (hk : k < B) : RowsV w' B v s := by
  obtain ⟨p1, n1, k1, p2, n2, k2, p3, n3, k3, p4, n4, k4, h0, h1, h2, h3, h4⟩ := h
  exact ⟨p1, n1, k1, p2, n2, k2, p3, n3, k3, p4, n4, k4, h0, h1.but b hk, h2.but b hk, h3.but b hk, h4.but b hk⟩
theorem RowsV.below {w w' : World} {B : Nat} {v : Value} {s : SpecM} (h : RowsV w B v s) (b : Below w.heap.size w w') : RowsV w' B v s := by
  obtain ⟨p1, n1, k1, p2, n2, k2, p3, n3, k3, p4, n4, k4, h0, h1, h2, h3, h4⟩ := h
  exact ⟨p1, n1, k1, p2, n2, k2, p3, n3, k3, p4, n4, k4, h0, h1.below b, h2.below b, h3.below b, h4.below b⟩
theorem RowsV.spec {w : World} {B : Nat} {v : Value} {s : SpecM} (h : RowsV w B v s) (hs : Sane s) : SpecW w v s := by
  obtain ⟨p1, n1, k1, p2, n2, k2, p3, n3, k3, p4, n4, k4, rfl, h1, h2, h3, h4⟩ := h
  exact rows_spec hs h1 h2 h3 h4

end Go.Proofs.Ythdnldbkpllciaa

/-
  What is written is read: on plain data.
-/
namespace Go.Proofs.Ythdnldbkpllciaa
open Go.RowKit

theorem items_flat {α : Type} (f : (List UInt8 × Bool) → α) (g : (List UInt8 × Bool) → (List UInt8 × Bool)) (enc : α → List UInt8) (l : List α) (hf : ∀ x ∈ l, ∀ t b, f (enc x ++ t, b) = x) (hg : ∀ x ∈ l, ∀ t b, g (enc x ++ t, b) = (t, b)) (t : List UInt8) (b : Bool) :
    itemsL f g l.length (l.flatMap enc ++ t, b) = l ∧ itemsS g l.length (l.flatMap enc ++ t, b) = (t, b) := by
  induction l with
  | nil => exact ⟨rfl, rfl⟩
  | cons x l ih =>
    have h := ih (fun y hy => hf y (by simp [hy])) (fun y hy => hg y (by simp [hy]))
    rw [List.flatMap_cons, List.append_assoc, List.length_cons, itemsL, itemsS, hf x (by simp), hg x (by simp)]
    exact ⟨by rw [h.1], h.2⟩
theorem mk_data (x : ByteArray) : mk x.data.toList = x := by unfold mk; rw [Array.toArray_toList]
theorem mem_eachD {α : Type} {p : α → Prop} {l : List α} (d : α) (h : ∀ j, j < l.length → p (l.getD j d)) : ∀ x ∈ l, p x := by
  intro x hx
  obtain ⟨j, hj, e⟩ := List.getElem_of_mem hx
  have := h j hj
  rw [List.getD_eq_getElem?_getD, List.getElem?_eq_getElem hj, Option.getD_some, e] at this
  exact this
theorem list_back {α : Type} (f : (List UInt8 × Bool) → α) (g : (List UInt8 × Bool) → (List UInt8 × Bool)) (enc : α → List UInt8) (l : List α) (m : Nat) (hm : m ≤ 1000) (hl : l.length ≤ m) (hf : ∀ x ∈ l, ∀ t b, f (enc x ++ t, b) = x) (hg : ∀ x ∈ l, ∀ t b, g (enc x ++ t, b) = (t, b)) (t : List UInt8) (b : Bool) :
    itemsL f g (cntV (num8 (l.length : Int) ++ (l.flatMap enc ++ t)) (m : Int)).toNat (cntS (num8 (l.length : Int) ++ (l.flatMap enc ++ t), b) (m : Int)) = l
    ∧ itemsS g (cntV (num8 (l.length : Int) ++ (l.flatMap enc ++ t)) (m : Int)).toNat (cntS (num8 (l.length : Int) ++ (l.flatMap enc ++ t), b) (m : Int)) = (t, b) := by
  rw [cntV_of l.length (m : Int) _ (by omega) (by omega), cntS_of l.length (m : Int) _ b (by omega) (by omega), Int.toNat_natCast]
  exact items_flat f g enc l hf hg t b
theorem txt_back (m : Nat) (hm : m ≤ 1000) (x : ByteArray) (hx : x.size ≤ m) (t : List UInt8) (b : Bool) : mk (txtV (text8 x.data.toList ++ t, b) (m : Int)) = x ∧ txtS (text8 x.data.toList ++ t, b) (m : Int) = (t, b) := by
  rw [txtV_of _ (m : Int) t b (by rw [len_list]; omega) (by omega), txtS_of _ (m : Int) t b (by rw [len_list]; omega) (by omega), mk_data]
  exact ⟨rfl, rfl⟩
theorem keys_back (m : Nat) (hm : m ≤ 1000) (l : List ByteArray) (hl : l.length ≤ 3) (hk : ∀ j, j < l.length → (l.getD j ByteArray.empty).size ≤ m) (t : List UInt8) (b : Bool) : keysOf (m : Int) (textsB l ++ t, b) = l ∧ keysS (m : Int) (textsB l ++ t, b) = (t, b) := by
  have hk' := mem_eachD (p := fun x : ByteArray => x.size ≤ m) ByteArray.empty hk
  have h := list_back (fun r => mk (txtV r (m : Int))) (fun r => txtS r (m : Int)) (fun x : ByteArray => text8 x.data.toList) l 3 (by omega) hl (fun x hx t b => (txt_back m hm x (hk' x hx) t b).1) (fun x hx t b => (txt_back m hm x (hk' x hx) t b).2) t b
  unfold keysOf keysS textsB
  rw [List.append_assoc]
  exact h
theorem party_back (p : PartyM) (h1 : p.acc.size ≤ 16) (h2 : p.keys.length ≤ 3) (h3 : ∀ j, j < p.keys.length → (p.keys.getD j ByteArray.empty).size ≤ 16) (t : List UInt8) (b : Bool) : partyOf (partyB p ++ t, b) = p ∧ partyS (partyB p ++ t, b) = (t, b) := by
  have k1 := txt_back 16 (by omega) p.acc h1 (textsB p.keys ++ t) b
  have k2 := keys_back 16 (by omega) p.keys h2 h3 t b
  unfold partyOf partyS partyB
  rw [List.append_assoc]
  have e1 : mk (txtV (text8 p.acc.data.toList ++ (textsB p.keys ++ t), b) 16) = p.acc := k1.1
  have e2 : txtS (text8 p.acc.data.toList ++ (textsB p.keys ++ t), b) 16 = (textsB p.keys ++ t, b) := k1.2
  rw [e1, e2]
  have e3 : keysOf 16 (textsB p.keys ++ t, b) = p.keys := k2.1
  have e4 : keysS 16 (textsB p.keys ++ t, b) = (t, b) := k2.2
  rw [e3, e4]
  exact ⟨rfl, rfl⟩
theorem arc_back (a : ArcM) (h1 : In64 a.src) (h2 : In64 a.dst) (h3 : In64 a.ledger) (h4 : a.asset.size ≤ 16) (h5 : In64 a.amount) (t : List UInt8) (b : Bool) : arcOf (arcB a ++ t, b) = a ∧ arcS (arcB a ++ t, b) = (t, b) := by
  have k4 := txt_back 16 (by omega) a.asset h4 (num8 a.amount ++ t) b
  have e4 : mk (txtV (text8 a.asset.data.toList ++ (num8 a.amount ++ t), b) 16) = a.asset := k4.1
  have e5 : txtS (text8 a.asset.data.toList ++ (num8 a.amount ++ t), b) 16 = (num8 a.amount ++ t, b) := k4.2
  unfold arcOf arcS arcB
  simp only [List.append_assoc]
  rw [numS_of, numS_of, numS_of, e4, e5, numV_of a.src h1.1 h1.2, numV_of a.dst h2.1 h2.2, numV_of a.ledger h3.1 h3.2, numV_of a.amount h5.1 h5.2, numS_of]
  exact ⟨rfl, rfl⟩

/-- P4.3: what Bytes writes of a swap that may be, Read takes, and it is that swap. -/
theorem read_back (s : SpecM) (h : specOk s) : rdM (specB s) = s ∧ rdE (specB s) = ([], false) := by
  obtain ⟨h0, ⟨l1, l2, l3, l4⟩, ⟨p1, p2, p3⟩, ⟨a1, a2, a3⟩, t1, t2, t3, t4⟩ := h
  have hp := mem_eachD (p := fun p : PartyM => p.acc.size ≤ 16 ∧ p.keys.length ≤ 3 ∧ ∀ j, j < p.keys.length → (p.keys.getD j ByteArray.empty).size ≤ 16) noParty (l := s.parties) (fun j hj => by
    obtain ⟨⟨_, k1⟩, k2, k3, _⟩ := p3 j hj
    exact ⟨k1, by omega, fun i hi => by rw [k3 i hi]; omega⟩)
  have ha := mem_eachD (p := fun a : ArcM => In64 a.src ∧ In64 a.dst ∧ In64 a.ledger ∧ a.asset.size ≤ 16 ∧ In64 a.amount) noArc (l := s.arcs) (fun j hj => by
    obtain ⟨⟨k1, k2, k3, k4, _, k6, k7, ⟨_, k8⟩, k9, k10⟩, _⟩ := a3 j hj
    unfold In64
    exact ⟨by omega, by omega, by omega, k8, by omega⟩)
  have hl := mem_eachD (p := fun v : Int => In64 v) 0 (l := s.leaders) (fun j hj => by
    obtain ⟨k1, k2, _⟩ := l4 j hj
    unfold In64; omega)
  have hk : ∀ j, j < s.locks.length → (s.locks.getD j ByteArray.empty).size ≤ 32 := fun j hj => by
    obtain ⟨_, _, k, _⟩ := l4 j (by omega)
    omega
  obtain ⟨w1, hw1⟩ : ∃ w, textsB s.locks ++ (num8 s.start ++ num8 s.delta) = w := ⟨_, rfl⟩
  obtain ⟨w2, hw2⟩ : ∃ w, num8 (s.leaders.length : Int) ++ (s.leaders.flatMap num8 ++ w1) = w := ⟨_, rfl⟩
  obtain ⟨w3, hw3⟩ : ∃ w, num8 (s.arcs.length : Int) ++ (s.arcs.flatMap arcB ++ w2) = w := ⟨_, rfl⟩
  obtain ⟨w4, hw4⟩ : ∃ w, num8 (s.parties.length : Int) ++ (s.parties.flatMap partyB ++ w3) = w := ⟨_, rfl⟩
  have hB : specB s = text8 s.id.data.toList ++ w4 := by
    rw [← hw4, ← hw3, ← hw2, ← hw1]
    unfold specB numsB
    simp only [List.append_assoc]
  have r1 := txt_back 16 (by omega) s.id h0.2 w4 false
  have r2 := list_back partyOf partyS partyB s.parties 6 (by omega) p2 (fun x hx t b => (party_back x (hp x hx).1 (hp x hx).2.1 (hp x hx).2.2 t b).1) (fun x hx t b => (party_back x (hp x hx).1 (hp x hx).2.1 (hp x hx).2.2 t b).2) w3 false
  have r3 := list_back arcOf arcS arcB s.arcs 12 (by omega) a2 (fun x hx t b => (arc_back x (ha x hx).1 (ha x hx).2.1 (ha x hx).2.2.1 (ha x hx).2.2.2.1 (ha x hx).2.2.2.2 t b).1) (fun x hx t b => (arc_back x (ha x hx).1 (ha x hx).2.1 (ha x hx).2.2.1 (ha x hx).2.2.2.1 (ha x hx).2.2.2.2 t b).2) w2 false
  have r4 := list_back (fun r => numV r.1) numS num8 s.leaders 3 (by omega) l2 (fun x hx t _ => numV_of x (hl x hx).1 (hl x hx).2 t) (fun x _ t b => numS_of x t b) w1 false
  have r5 := keys_back 32 (by omega) s.locks (by omega) hk (num8 s.start ++ num8 s.delta) false
  rw [hw4] at r2
  rw [hw3] at r3
  rw [hw2] at r4
  rw [hw1] at r5
  have q1 : rd1 (specB s) = (w4, false) := by rw [hB]; exact r1.2
  have q2 : rd2 (w4, false) = (w3, false) := r2.2
  have q3 : rd3 (w3, false) = (w2, false) := r3.2
  have q4 : rd4 (w2, false) = (w1, false) := r4.2
  have q5 : keysS 32 (w1, false) = (num8 s.start ++ num8 s.delta, false) := r5.2
  have m0 : mk (txtV (specB s, false) 16) = s.id := by rw [hB]; exact r1.1
  have m1 : rdPs (w4, false) = s.parties := r2.1
  have m2 : rdAs (w3, false) = s.arcs := r3.1
  have m3 : rdLs (w2, false) = s.leaders := r4.1
  have m4 : keysOf 32 (w1, false) = s.locks := r5.1
  have m5 : numV (num8 s.start ++ num8 s.delta) = s.start := numV_of _ (by omega) (by omega) _
  have m6 : numV (num8 s.delta) = s.delta := numV_one _ (by omega) (by omega)
  constructor
  · unfold rdM
    rw [q1, q2, q3, q4, q5, m0, m1, m2, m3, m4]
    show SpecM.mk s.id s.parties s.arcs s.leaders s.locks (numV (num8 s.start ++ num8 s.delta)) (numV (numS (num8 s.start ++ num8 s.delta, false)).1) = s
    rw [m5, numS_of, m6]
  · unfold rdE
    rw [q1, q2, q3, q4, q5, numS_of, numS_one]

end Go.Proofs.Ythdnldbkpllciaa

/-
  To read on where the reader is bad, or to stop there: the same where the end is not bad. On plain data.
-/
namespace Go.Proofs.Ythdnldbkpllciaa
open Go.RowKit

def stopL {α : Type} (f : (List UInt8 × Bool) → α) (g : (List UInt8 × Bool) → (List UInt8 × Bool)) : Nat → (List UInt8 × Bool) → List α × (List UInt8 × Bool)
  | 0, r => ([], r)
  | n + 1, r => if r.2 = true then ([], r) else (f r :: (stopL f g n (g r)).1, (stopL f g n (g r)).2)
def Stays (g : (List UInt8 × Bool) → (List UInt8 × Bool)) : Prop := ∀ r, r.2 = true → (g r).2 = true
theorem stays_num : Stays numS := by intro r h; unfold numS; split <;> simp_all
theorem stays_cnt (m : Int) : Stays (fun r => cntS r m) := by
  intro r h
  show (cntS r m).2 = true
  unfold cntS
  split
  · rfl
  · exact stays_num r h
theorem stays_txt (m : Int) : Stays (fun r => txtS r m) := by
  intro r h
  show (txtS r m).2 = true
  unfold txtS
  split
  · rfl
  · exact stays_cnt m r h
theorem Stays.comp {g h : (List UInt8 × Bool) → (List UInt8 × Bool)} (hg : Stays g) (hh : Stays h) : Stays (fun r => g (h r)) := fun r k => hg _ (hh r k)
theorem stays_items {g : (List UInt8 × Bool) → (List UInt8 × Bool)} (hg : Stays g) (n : Nat) : Stays (itemsS g n) := by
  intro r h
  induction n generalizing r with
  | zero => exact h
  | succ n ih => rw [itemsS]; exact ih _ (hg r h)
theorem stop_bad {α : Type} (f : (List UInt8 × Bool) → α) (g : (List UInt8 × Bool) → (List UInt8 × Bool)) (n : Nat) (r : List UInt8 × Bool) (h : r.2 = true) : stopL f g n r = ([], r) := by
  cases n with
  | zero => rfl
  | succ n => rw [stopL, if_pos h]
theorem stop_same {α : Type} (f f' : (List UInt8 × Bool) → α) (g g' : (List UInt8 × Bool) → (List UInt8 × Bool)) (hA : ∀ r, (g r).2 = false → g' r = g r ∧ f' r = f r) (hB : ∀ r, (g r).2 = true → (g' r).2 = true) (hC : Stays g) (n : Nat) (r : List UInt8 × Bool) :
    ((itemsS g n r).2 = false → stopL f' g' n r = (itemsL f g n r, itemsS g n r)) ∧ ((itemsS g n r).2 = true → (stopL f' g' n r).2.2 = true) := by
  induction n generalizing r with
  | zero => exact ⟨fun _ => rfl, fun h => h⟩
  | succ n ih =>
    rw [itemsS, itemsL]
    constructor
    · intro h
      have h1 : (g r).2 = false := by
        cases e : (g r).2
        · rfl
        · rw [stays_items hC n _ e] at h; exact h
      have h2 : r.2 = false := by
        cases e : r.2
        · rfl
        · rw [hC r e] at h1; exact h1
      rw [stopL, if_neg (by rw [h2]; decide), (hA r h1).1, (hA r h1).2, ((ih (g r)).1 h)]
    · intro h
      cases h2 : r.2
      · rw [stopL, if_neg (by rw [h2]; decide)]
        cases h1 : (g r).2
        · rw [(hA r h1).1]; exact (ih (g r)).2 h
        · show (stopL f' g' n (g' r)).2.2 = true
          rw [stop_bad _ _ _ _ (hB r h1)]; exact hB r h1
      · rw [stop_bad _ _ _ _ h2]; exact h2
theorem textsL_stop (sz : Int) (n : Nat) (r : List UInt8 × Bool) : textsL sz n r = stopL (fun r => txtV r sz) (fun r => txtS r sz) n r := by
  induction n generalizing r with
  | zero => rfl
  | succ n ih => rw [textsL, stopL, ih]
theorem arcsL_stop (n : Nat) (r : List UInt8 × Bool) : arcsL n r = stopL arcOf arcS n r := by
  induction n generalizing r with
  | zero => rfl
  | succ n ih => rw [arcsL, stopL, ih]
theorem numsL_stop (n : Nat) (r : List UInt8 × Bool) : numsL n r = stopL (fun r => numV r.1) numS n r := by
  induction n generalizing r with
  | zero => rfl
  | succ n ih => rw [numsL, stopL, ih]
theorem partiesL_stop (n : Nat) (r : List UInt8 × Bool) : partiesL n r = stopL (fun r => ⟨mk (txtV r 16), (rdTexts (txtS r 16) 3 16).1.map mk⟩) (fun r => (rdTexts (txtS r 16) 3 16).2) n r := by
  induction n generalizing r with
  | zero => rfl
  | succ n ih => rw [partiesL, stopL, ih]
theorem itemsL_map {α β : Type} (h : α → β) (f : (List UInt8 × Bool) → α) (g : (List UInt8 × Bool) → (List UInt8 × Bool)) (n : Nat) (r : List UInt8 × Bool) : (itemsL f g n r).map h = itemsL (fun r => h (f r)) g n r := by
  induction n generalizing r with
  | zero => rfl
  | succ n ih => rw [itemsL, itemsL, List.map_cons, ih]
theorem self_same {α : Type} (f : (List UInt8 × Bool) → α) (g : (List UInt8 × Bool) → (List UInt8 × Bool)) (hC : Stays g) (n : Nat) (r : List UInt8 × Bool) :
    ((itemsS g n r).2 = false → stopL f g n r = (itemsL f g n r, itemsS g n r)) ∧ ((itemsS g n r).2 = true → (stopL f g n r).2.2 = true) :=
  stop_same f f g g (fun _ _ => ⟨rfl, rfl⟩) (fun _ h => h) hC n r
theorem keys_same (sz : Int) (r : List UInt8 × Bool) : ((keysS sz r).2 = false → (rdTexts r 3 sz).1.map mk = keysOf sz r ∧ (rdTexts r 3 sz).2 = keysS sz r) ∧ ((keysS sz r).2 = true → (rdTexts r 3 sz).2.2 = true) := by
  have h := self_same (fun r => txtV r sz) (fun r => txtS r sz) (stays_txt sz) (cntV r.1 3).toNat (cntS r 3)
  unfold rdTexts keysOf keysS
  rw [textsL_stop]
  refine ⟨fun k => ?_, fun k => h.2 k⟩
  rw [h.1 k]
  exact ⟨itemsL_map mk (fun r => txtV r sz) (fun r => txtS r sz) _ _, rfl⟩
theorem stays_keys (sz : Int) : Stays (keysS sz) := fun r h => stays_items (stays_txt sz) _ _ (stays_cnt 3 r h)
theorem stays_party : Stays partyS := fun r h => stays_keys 16 _ (stays_txt 16 r h)
theorem stays_arc : Stays arcS := fun r h => stays_num _ (stays_txt 16 _ (stays_num _ (stays_num _ (stays_num r h))))
theorem parties_same (n : Nat) (r : List UInt8 × Bool) : ((itemsS partyS n r).2 = false → partiesL n r = (itemsL partyOf partyS n r, itemsS partyS n r)) ∧ ((itemsS partyS n r).2 = true → (partiesL n r).2.2 = true) := by
  rw [partiesL_stop]
  refine stop_same partyOf _ partyS _ (fun r h => ?_) (fun r h => (keys_same 16 (txtS r 16)).2 h) stays_party n r
  obtain ⟨k1, k2⟩ := (keys_same 16 (txtS r 16)).1 h
  exact ⟨k2, by rw [k1]; rfl⟩

/-- What the document's Read reads, and its reader's end. -/
def fP (l : List UInt8) := partiesL (cntV (rd1 l).1 6).toNat (cntS (rd1 l) 6)
def fA (l : List UInt8) := arcsL (cntV (fP l).2.1 12).toNat (cntS (fP l).2 12)
def fL (l : List UInt8) := numsL (cntV (fA l).2.1 3).toNat (cntS (fA l).2 3)
def fT (l : List UInt8) := rdTexts (fL l).2 3 32
def refM (l : List UInt8) : SpecM := ⟨mk (txtV (l, false) 16), (fP l).1, (fA l).1, (fL l).1, (fT l).1.map mk, numV (fT l).2.1, numV (numS (fT l).2).1⟩
def refE (l : List UInt8) : List UInt8 × Bool := numS (numS (fT l).2)
set_option maxHeartbeats 1000000 in
theorem ref_same (l : List UInt8) : ((rdE l).2 = false → refM l = rdM l ∧ refE l = rdE l) ∧ ((rdE l).2 = true → (refE l).2 = true) := by
  have hP := parties_same (cntV (rd1 l).1 6).toNat (cntS (rd1 l) 6)
  rw [show itemsS partyS (cntV (rd1 l).1 6).toNat (cntS (rd1 l) 6) = rd2 (rd1 l) from rfl, show itemsL partyOf partyS (cntV (rd1 l).1 6).toNat (cntS (rd1 l) 6) = rdPs (rd1 l) from rfl, show partiesL (cntV (rd1 l).1 6).toNat (cntS (rd1 l) 6) = fP l from rfl] at hP
  unfold rdE rdM refM refE
  generalize rd1 l = r1 at hP ⊢
  generalize hr2 : rd2 r1 = r2 at hP ⊢
  have tail : ∀ x : List UInt8 × Bool, x.2 = true → (numS (numS (keysS 32 (rd4 (rd3 x))))).2 = true := fun x hx => by
    have k3 : (rd3 x).2 = true := by unfold rd3; exact stays_items stays_arc _ _ (stays_cnt 12 _ hx)
    have k4 : (rd4 (rd3 x)).2 = true := by unfold rd4; exact stays_items stays_num _ _ (stays_cnt 3 _ k3)
    exact stays_num _ (stays_num _ (stays_keys 32 _ k4))
  have rtail : ∀ x : List UInt8 × Bool, x.2 = true → (rdTexts x 3 32).2.2 = true := fun x hx => (keys_same 32 x).2 (stays_keys 32 x hx)
  have stopS : ∀ (n : Nat) (x : List UInt8 × Bool), x.2 = true → (arcsL n x).2.2 = true := fun n x hx => by rw [arcsL_bad _ _ hx]; exact hx
  have stopN : ∀ (n : Nat) (x : List UInt8 × Bool), x.2 = true → (numsL n x).2.2 = true := fun n x hx => by rw [numsL_bad _ _ hx]; exact hx
  cases b2 : r2.2
  · have eP := hP.1 b2
    have hA := self_same arcOf arcS stays_arc (cntV r2.1 12).toNat (cntS r2 12)
    rw [← arcsL_stop] at hA
    have eA0 : fA l = arcsL (cntV r2.1 12).toNat (cntS r2 12) := by unfold fA; rw [eP]
    rw [← eA0, show itemsS arcS (cntV r2.1 12).toNat (cntS r2 12) = rd3 r2 from rfl, show itemsL arcOf arcS (cntV r2.1 12).toNat (cntS r2 12) = rdAs r2 from rfl] at hA
    generalize hr3 : rd3 r2 = r3 at hA ⊢
    cases b3 : r3.2
    · have eA := hA.1 b3
      have hL := self_same (fun r => numV r.1) numS stays_num (cntV r3.1 3).toNat (cntS r3 3)
      rw [← numsL_stop] at hL
      have eL0 : fL l = numsL (cntV r3.1 3).toNat (cntS r3 3) := by unfold fL; rw [eA]
      rw [← eL0, show itemsS numS (cntV r3.1 3).toNat (cntS r3 3) = rd4 r3 from rfl, show itemsL (fun r => numV r.1) numS (cntV r3.1 3).toNat (cntS r3 3) = rdLs r3 from rfl] at hL
      generalize hr4 : rd4 r3 = r4 at hL ⊢
      cases b4 : r4.2
      · have eL := hL.1 b4
        have hT := keys_same 32 r4
        have eT0 : fT l = rdTexts r4 3 32 := by unfold fT; rw [eL]
        rw [← eT0] at hT
        generalize hr5 : keysS 32 r4 = r5 at hT ⊢
        cases b5 : r5.2
        · obtain ⟨k1, k2⟩ := hT.1 b5
          rw [k1, k2, eP, eA, eL]
          exact ⟨fun _ => ⟨rfl, rfl⟩, fun h => h⟩
        · have k := hT.2 b5
          refine ⟨fun h => ?_, fun _ => stays_num _ (stays_num _ k)⟩
          rw [stays_num _ (stays_num _ b5)] at h
          exact Bool.noConfusion h
      · have k := hL.2 b4
        have kT : (fT l).2.2 = true := by unfold fT; exact rtail _ k
        refine ⟨fun h => ?_, fun _ => stays_num _ (stays_num _ kT)⟩
        rw [stays_num _ (stays_num _ (stays_keys 32 _ b4))] at h
        exact Bool.noConfusion h
    · have k := hA.2 b3
      have kL : (fL l).2.2 = true := by unfold fL; exact stopN _ _ (stays_cnt 3 _ k)
      have kT : (fT l).2.2 = true := by unfold fT; exact rtail _ kL
      have k4 : (rd4 r3).2 = true := by unfold rd4; exact stays_items stays_num _ _ (stays_cnt 3 _ b3)
      refine ⟨fun h => ?_, fun _ => stays_num _ (stays_num _ kT)⟩
      rw [stays_num _ (stays_num _ (stays_keys 32 _ k4))] at h
      exact Bool.noConfusion h
  · have k := hP.2 b2
    have kA : (fA l).2.2 = true := by unfold fA; exact stopS _ _ (stays_cnt 12 _ k)
    have kL : (fL l).2.2 = true := by unfold fL; exact stopN _ _ (stays_cnt 3 _ kA)
    have kT : (fT l).2.2 = true := by unfold fT; exact rtail _ kL
    refine ⟨fun h => ?_, fun _ => stays_num _ (stays_num _ kT)⟩
    rw [tail r2 b2] at h
    exact Bool.noConfusion h

end Go.Proofs.Ythdnldbkpllciaa
