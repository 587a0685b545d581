/-
  The program's writeList at numbers and texts.
-/
import Derived.Test.YthoimecljfcjmaaBld
import Derived.Test.YthoimecljfcjmaaZ07
import Derived.Test.YthoimecljfcjmaaZ08
import Derived.Deep.RegionHeld3
import Derived.Deep.CutBlock
import Derived.Deep.CutRange
import Derived.Handy
import Derived.Test.YthoimecljfcjmaaSpRows
import Derived.Test.YthoimecljfcjmaaZ00
namespace Go.Proofs.Ythoimecljfcjmaa
open Go.RowKit
def txt8 (t : ByteArray) : List UInt8 := text8 t.data.toList

end Go.Proofs.Ythoimecljfcjmaa

/-
  Rows of parties and of arcs that a call itself makes.
-/
namespace Go.Proofs.Ythoimecljfcjmaa
open Go.RowKit

/-- Parties in a row of a call's own: the cells, and what the keys' slices lead to. -/
def PRow (w : World) (B : Nat) (v : Value) (l : List PartyM) : Prop := ∃ ks, ks.length = l.length ∧ w.ownsRow B 52 2 v l.length (pcells l ks) ∧ ∀ j, j < l.length → OwnS w B (ks.getD j undef) (l.getD j noParty).keys
theorem PRow.nil (w : World) (B : Nat) : PRow w B (.slice none 0 0) [] := ⟨[], rfl, World.ownsRow_nil _ _ _ _, fun j hj => absurd hj (by simp)⟩
theorem PRow.but {w w' : World} {B g : Nat} {v : Value} {l : List PartyM} {cs : Array Value} {t : TypeId} {fr : Nat × Nat} (h : PRow w B v l) (k : But g w w') (hg : w.heap[g]? = some (.cells cs t fr)) (h1 : (52 : TypeId) ≠ t) (h2 : (9 : TypeId) ≠ t) : PRow w' B v l := by
  obtain ⟨ks, hk, ho, hs⟩ := h
  exact ⟨ks, hk, World.ownsRow.kept ho k.grown (row_apart ho hg h1), fun j hj => (hs j hj).but k hg h2⟩
theorem prow_more {w w' : World} {B : Nat} {v v' kv : Value} {l : List PartyM} {p : PartyM} {ks : List Value} (hks : ks.length = l.length) (hown : w.ownsRow B 52 2 v l.length (pcells l ks)) (hs : ∀ j, j < l.length → OwnS w B (ks.getD j undef) (l.getD j noParty).keys) (hk : OwnS w B kv p.keys)
    (ho : w'.ownsRow B 52 2 v' (l.length + 1) (pcells l ks ++ [Value.string p.acc, kv])) (hg : w.grownBy w' v.ownBlock) : PRow w' B v' (l ++ [p]) := by
  refine ⟨ks ++ [kv], by simp [hks], ?_, ?_⟩
  · rw [pcells_snoc _ _ _ _ hks, List.length_append]; exact ho
  · intro j hj
    have keep : ∀ u (m : List ByteArray), OwnS w B u m → OwnS w' B u m := fun u m hu => World.ownsRow.kept hu hg (rows_apart hu hown (by decide))
    by_cases hjl : j < l.length
    · rw [show (ks ++ [kv]).getD j undef = ks.getD j undef by simp [List.getD_eq_getElem?_getD, List.getElem?_append, hks, hjl], show (l ++ [p]).getD j noParty = l.getD j noParty by simp [List.getD_eq_getElem?_getD, List.getElem?_append, hjl]]
      exact keep _ _ (hs j hjl)
    · have hj' : j = l.length := by simp at hj; omega
      subst hj'
      rw [show (ks ++ [kv]).getD l.length undef = kv by rw [← hks]; simp [List.getD_eq_getElem?_getD], show (l ++ [p]).getD l.length noParty = p by simp [List.getD_eq_getElem?_getD]]
      exact keep _ _ hk
def OwnA (w : World) (B : Nat) (v : Value) (l : List ArcM) : Prop := w.ownsRow B 42 5 v l.length (l.flatMap acells)
theorem OwnA.below {w w' : World} {B : Nat} {v : Value} {l : List ArcM} (h : OwnA w B v l) (k : Below w.heap.size w w') : OwnA w' B v l :=
  World.ownsRow.kept h (below_grown k) (by cases v.ownBlock <;> simp)
theorem PRow.below {w w' : World} {B : Nat} {v : Value} {l : List PartyM} (h : PRow w B v l) (k : Below w.heap.size w w') : PRow w' B v l := by
  obtain ⟨ks, hk, ho, hs⟩ := h
  exact ⟨ks, hk, World.ownsRow.kept ho (below_grown k) (by cases v.ownBlock <;> simp), fun j hj => (hs j hj).below k⟩
theorem PRow.grown {w w' : World} {B C : Nat} {v u : Value} {l : List PartyM} {e : TypeId} {size n : Nat} {xs : List Value} (h : PRow w B v l) (k : w.ownsRow C e size u n xs) (hg : w.grownBy w' u.ownBlock) (h1 : (52 : TypeId) ≠ e) (h2 : (9 : TypeId) ≠ e) : PRow w' B v l := by
  obtain ⟨ks, hk, ho, hs⟩ := h
  exact ⟨ks, hk, World.ownsRow.kept ho hg (rows_apart ho k h1), fun j hj => World.ownsRow.kept (hs j hj) hg (rows_apart (hs j hj) k h2)⟩
theorem OwnA.grown {w w' : World} {B C : Nat} {v u : Value} {l : List ArcM} {e : TypeId} {size n : Nat} {xs : List Value} (h : OwnA w B v l) (k : w.ownsRow C e size u n xs) (hg : w.grownBy w' u.ownBlock) (h1 : (42 : TypeId) ≠ e) : OwnA w' B v l :=
  World.ownsRow.kept h hg (rows_apart h k h1)

theorem row_at {w : World} {B : Nat} {e : TypeId} {size : Nat} {v : Value} {n : Nat} {xs : List Value} (h : w.ownsRow B e size v n xs) : ∃ a c, v = .slice a n c ∧ n ≤ c ∧ c ≤ maxLen ∧ (0 < n → ∃ g, a = some ⟨g, 0, none⟩ ∧ B ≤ g ∧ ∀ j, j < n * size → w.cell? ⟨g, j, none⟩ = xs[j]?) := by
  rcases h.2 with ⟨rfl, rfl⟩ | ⟨g, cap, cur, rfl, hb, hg, hnc, hcm, hcs, htake⟩
  · exact ⟨none, 0, rfl, by omega, by unfold maxLen; omega, fun h => absurd h (by omega)⟩
  · exact ⟨_, _, rfl, hnc, hcm, fun _ => ⟨g, rfl, hb, fun j hj => World.ownsRow.cellAt h j hj⟩⟩
theorem OwnS.strs {w : World} {B : Nat} {v : Value} {l : List ByteArray} (h : OwnS w B v l) (hn : l.length ≤ 1000) (hl : ∀ j, j < l.length → (l.getD j ByteArray.empty).size ≤ 1000) : ∃ a c, v = .slice a l.length c ∧ l.length ≤ c ∧ c ≤ maxLen ∧ Strs w a l.length l := by
  obtain ⟨a, c, hv, hc, hm, hx⟩ := row_at h
  refine ⟨a, c, hv, hc, hm, rfl, by unfold maxLen; omega, fun j hj => Nat.le_trans (hl j hj) (by unfold maxLen; omega), fun j hj => ?_⟩
  obtain ⟨g, ha, _, hg⟩ := hx (by omega)
  refine ⟨g, 0, ha, ?_⟩
  rw [Nat.zero_add, hg j (by omega), List.getElem?_map, List.getElem?_eq_getElem hj, List.getD_eq_getElem?_getD, List.getElem?_eq_getElem hj]; rfl
theorem OwnI.ints {w : World} {B : Nat} {v : Value} {l : List Int} (h : OwnI w B v l) (hn : l.length ≤ 1000) (hl : ∀ j, j < l.length → In64 (l.getD j 0)) : ∃ a c, v = .slice a l.length c ∧ l.length ≤ c ∧ c ≤ maxLen ∧ Ints w a l.length l := by
  obtain ⟨a, c, hv, hc, hm, hx⟩ := row_at h
  refine ⟨a, c, hv, hc, hm, rfl, by unfold maxLen; omega, hl, fun j hj => ?_⟩
  obtain ⟨g, ha, _, hg⟩ := hx (by omega)
  refine ⟨g, 0, ha, ?_⟩
  rw [Nat.zero_add, hg j (by omega), List.getElem?_map, List.getElem?_eq_getElem hj, List.getD_eq_getElem?_getD, List.getElem?_eq_getElem hj]; rfl
def ArcSane (a : ArcM) : Prop := In64 a.src ∧ In64 a.dst ∧ In64 a.ledger ∧ In64 a.amount ∧ a.asset.size ≤ 1000
theorem OwnA.arcs {w : World} {B : Nat} {v : Value} {l : List ArcM} (h : OwnA w B v l) (hn : l.length ≤ 1000) (hp : ∀ j, j < l.length → ArcSane (l.getD j noArc)) :
    ∃ a c, v = .slice a l.length c ∧ l.length ≤ c ∧ c ≤ maxLen ∧ Arcs w a l := by
  obtain ⟨a, c, hv, hc, hm, hx⟩ := row_at h
  refine ⟨a, c, hv, hc, hm, by unfold maxLen; omega, fun j hj => ?_⟩
  obtain ⟨g, ha, _, hg⟩ := hx (by omega)
  refine ⟨g, 0, ha, ?_⟩
  obtain ⟨p1, p2, p3, p4, p5⟩ := hp j hj
  have c0 := acells_at l j hj 0 (by omega)
  have c1 := acells_at l j hj 1 (by omega)
  have c2 := acells_at l j hj 2 (by omega)
  have c3 := acells_at l j hj 3 (by omega)
  have c4 := acells_at l j hj 4 (by omega)
  refine ⟨p1, p2, p3, p4, Nat.le_trans p5 (by unfold maxLen; omega), ?_, ?_, ?_, ?_, ?_⟩ <;> rw [Nat.zero_add, hg _ (by omega)]
  · exact c0
  · exact c1
  · exact c2
  · exact c3
  · exact c4
def PartySane (p : PartyM) : Prop := p.acc.size ≤ 1000 ∧ p.keys.length ≤ 1000 ∧ ∀ i, i < p.keys.length → (p.keys.getD i ByteArray.empty).size ≤ 1000
theorem PRow.parties {w : World} {B : Nat} {v : Value} {l : List PartyM} (h : PRow w B v l) (hn : l.length ≤ 1000) (hp : ∀ j, j < l.length → PartySane (l.getD j noParty)) :
    ∃ a c, v = .slice a l.length c ∧ l.length ≤ c ∧ c ≤ maxLen ∧ Parties w a l := by
  obtain ⟨ks, hk, h, hs⟩ := h
  obtain ⟨a, c, hv, hc, hm, hx⟩ := row_at h
  refine ⟨a, c, hv, hc, hm, by unfold maxLen; omega, fun j hj => ?_⟩
  obtain ⟨g, ha, _, hg⟩ := hx (by omega)
  refine ⟨g, 0, ha, ?_⟩
  obtain ⟨p1, p2, p3⟩ := hp j hj
  obtain ⟨ka, kc, hv, _, _, hks⟩ := (hs j hj).strs p2 p3
  obtain ⟨c1, c2⟩ := pcells_at l ks hk j hj
  rw [hv] at c2
  exact ⟨Nat.le_trans p1 (by unfold maxLen; omega), by rw [Nat.zero_add, hg _ (by omega)]; exact c1, ka, kc, by rw [Nat.zero_add, hg _ (by omega)]; exact c2, hks⟩

/-- The cells of a swap that is being made. -/
def scells (id : ByteArray) (v1 v2 v3 v4 : Value) (st de : Int) : Array Value := #[.string id, v1, v2, v3, v4, .int .i64 st, .int .i64 de]
def SAt (w : World) (g : Nat) (id : ByteArray) (v1 v2 v3 v4 : Value) (st de : Int) : Prop := w.heap[g]? = some (.cells (scells id v1 v2 v3 v4 st de) 27 (0, 0))
theorem SAt.but {w w' : World} {g k : Nat} {id : ByteArray} {v1 v2 v3 v4 : Value} {st de : Int} (h : SAt w g id v1 v2 v3 v4 st de) (hb : But k w w') (hg : g ≠ k) : SAt w' g id v1 v2 v3 v4 st de := by
  unfold SAt at *
  rw [hb.block g (Array.getElem?_eq_some_iff.1 h).1 hg]; exact h
theorem SAt.below {w w' : World} {g : Nat} {id : ByteArray} {v1 v2 v3 v4 : Value} {st de : Int} (h : SAt w g id v1 v2 v3 v4 st de) (hb : Below w.heap.size w w') : SAt w' g id v1 v2 v3 v4 st de := by
  unfold SAt at *
  rw [hb.block g (Array.getElem?_eq_some_iff.1 h).1]; exact h
theorem SAt.grown {w w' : World} {g : Nat} {row : Option Nat} {id : ByteArray} {v1 v2 v3 v4 : Value} {st de : Int} (h : SAt w g id v1 v2 v3 v4 st de) (hb : w.grownBy w' row) (hg : some g ≠ row) : SAt w' g id v1 v2 v3 v4 st de := by
  unfold SAt at *
  rw [hb.block g (Array.getElem?_eq_some_iff.1 h).1 hg]; exact h
theorem SAt.lt {w : World} {g : Nat} {id : ByteArray} {v1 v2 v3 v4 : Value} {st de : Int} (h : SAt w g id v1 v2 v3 v4 st de) : g < w.heap.size := (Array.getElem?_eq_some_iff.1 h).1
theorem SAt.cells {w : World} {g : Nat} {id : ByteArray} {v1 v2 v3 v4 : Value} {st de : Int} (h : SAt w g id v1 v2 v3 v4 st de) :
    w.cell? ⟨g, 0, none⟩ = some (.string id) ∧ w.cell? ⟨g, 1, none⟩ = some v1 ∧ w.cell? ⟨g, 2, none⟩ = some v2 ∧ w.cell? ⟨g, 3, none⟩ = some v3 ∧ w.cell? ⟨g, 4, none⟩ = some v4 ∧ w.cell? ⟨g, 5, none⟩ = some (.int .i64 st) ∧ w.cell? ⟨g, 6, none⟩ = some (.int .i64 de) := by
  refine ⟨?_, ?_, ?_, ?_, ?_, ?_, ?_⟩ <;> (rw [cell_of_row w g _ _ _ (0, 0) h]; rfl)
theorem SAt.frozen {w : World} {g : Nat} {id : ByteArray} {v1 v2 v3 v4 : Value} {st de : Int} (h : SAt w g id v1 v2 v3 v4 st de) (i : Nat) : w.frozen? ⟨g, i, none⟩ = false := frozen_of_row w g i _ _ h
theorem SAt.set1 {w : World} {g : Nat} {id : ByteArray} {v1 v2 v3 v4 : Value} {st de : Int} (h : SAt w g id v1 v2 v3 v4 st de) (v : Value) : SAt (w.setCell ⟨g, 1, none⟩ v) g id v v2 v3 v4 st de := by
  unfold SAt at *
  rw [setCell_eq_setRow w g 1 _ _ (0, 0) _ h, setRow_heap w g _ _ _ (0, 0) h]; rfl
theorem SAt.set2 {w : World} {g : Nat} {id : ByteArray} {v1 v2 v3 v4 : Value} {st de : Int} (h : SAt w g id v1 v2 v3 v4 st de) (v : Value) : SAt (w.setCell ⟨g, 2, none⟩ v) g id v1 v v3 v4 st de := by
  unfold SAt at *
  rw [setCell_eq_setRow w g 2 _ _ (0, 0) _ h, setRow_heap w g _ _ _ (0, 0) h]; rfl
theorem SAt.set3 {w : World} {g : Nat} {id : ByteArray} {v1 v2 v3 v4 : Value} {st de : Int} (h : SAt w g id v1 v2 v3 v4 st de) (v : Value) : SAt (w.setCell ⟨g, 3, none⟩ v) g id v1 v2 v v4 st de := by
  unfold SAt at *
  rw [setCell_eq_setRow w g 3 _ _ (0, 0) _ h, setRow_heap w g _ _ _ (0, 0) h]; rfl
theorem SAt.set4 {w : World} {g : Nat} {id : ByteArray} {v1 v2 v3 v4 : Value} {st de : Int} (h : SAt w g id v1 v2 v3 v4 st de) (v : Value) : SAt (w.setCell ⟨g, 4, none⟩ v) g id v1 v2 v3 v st de := by
  unfold SAt at *
  rw [setCell_eq_setRow w g 4 _ _ (0, 0) _ h, setRow_heap w g _ _ _ (0, 0) h]; rfl

theorem SAt.set5 {w : World} {g : Nat} {id : ByteArray} {v1 v2 v3 v4 : Value} {st de : Int} (h : SAt w g id v1 v2 v3 v4 st de) (v : Int) : SAt (w.setCell ⟨g, 5, none⟩ (.int .i64 v)) g id v1 v2 v3 v4 v de := by
  unfold SAt at *
  rw [setCell_eq_setRow w g 5 _ _ (0, 0) _ h, setRow_heap w g _ _ _ (0, 0) h]; rfl
theorem SAt.set6 {w : World} {g : Nat} {id : ByteArray} {v1 v2 v3 v4 : Value} {st de : Int} (h : SAt w g id v1 v2 v3 v4 st de) (v : Int) : SAt (w.setCell ⟨g, 6, none⟩ (.int .i64 v)) g id v1 v2 v3 v4 st v := by
  unfold SAt at *
  rw [setCell_eq_setRow w g 6 _ _ (0, 0) _ h, setRow_heap w g _ _ _ (0, 0) h]; rfl

end Go.Proofs.Ythoimecljfcjmaa

/-
  The statements' arcs by numbers, on plain data.
-/
namespace Go.Proofs.Ythoimecljfcjmaa
open Go.RowKit

def gold : ByteArray := ⟨#[103, 111, 108, 100]⟩
def salt : ByteArray := ⟨#[115, 97, 108, 116]⟩
def bareArc (a b : Nat) : ArcM := ⟨a, b, 0, ⟨#[]⟩, 0⟩
/-- A ring's first j arcs. -/
def ringL (n : Nat) : Nat → List ArcM
  | 0 => []
  | j + 1 => ringL n j ++ [bareArc j ((j + 1) % n)]
theorem ringL_len (n j : Nat) : (ringL n j).length = j := by
  induction j with
  | zero => rfl
  | succ j ih => rw [ringL, List.length_append, ih]; rfl
/-- One pair. -/
def pairF (n a b : Nat) (q : List ArcM × Nat) : List ArcM × Nat :=
  if a = b ∨ b = (a + 1) % n then q else (if q.2 % 2 = 1 ∧ q.1.length < 8 then q.1 ++ [bareArc a b] else q.1, q.2 / 2)
def fillB (n a : Nat) : Nat → (List ArcM × Nat) → List ArcM × Nat
  | 0, q => q
  | b + 1, q => pairF n a b (fillB n a b q)
def fillA (n : Nat) : Nat → (List ArcM × Nat) → List ArcM × Nat
  | 0, q => q
  | a + 1, q => fillB n a n (fillA n a q)
theorem pairF_len (n a b : Nat) (q : List ArcM × Nat) (h : q.1.length ≤ 8) : (pairF n a b q).1.length ≤ 8 := by
  unfold pairF
  split
  · exact h
  · simp only
    split
    · rename_i h1; rw [List.length_append]; simp; omega
    · exact h
theorem fillB_len (n a b : Nat) (q : List ArcM × Nat) (h : q.1.length ≤ 8) : (fillB n a b q).1.length ≤ 8 := by
  induction b with
  | zero => exact h
  | succ b ih => exact pairF_len _ _ _ _ ih
theorem fillA_len (n a : Nat) (q : List ArcM × Nat) (h : q.1.length ≤ 8) : (fillA n a q).1.length ≤ 8 := by
  induction a with
  | zero => exact h
  | succ a ih => exact fillB_len _ _ _ _ ih
theorem pairF_bits (n a b : Nat) (q : List ArcM × Nat) : (pairF n a b q).2 ≤ q.2 := by
  unfold pairF
  split
  · exact Nat.le_refl _
  · exact Nat.div_le_self _ _
theorem fillB_bits (n a b : Nat) (q : List ArcM × Nat) : (fillB n a b q).2 ≤ q.2 := by
  induction b with
  | zero => exact Nat.le_refl _
  | succ b ih => exact Nat.le_trans (pairF_bits _ _ _ _) ih
theorem fillA_bits (n a : Nat) (q : List ArcM × Nat) : (fillA n a q).2 ≤ q.2 := by
  induction a with
  | zero => exact Nat.le_refl _
  | succ a ih => exact Nat.le_trans (fillB_bits _ _ _ _) ih
/-- An arc's ledger, asset, amount by its place. -/
def deck (bits ledgers i : Nat) (a : ArcM) : ArcM :=
  { a with ledger := (((i + ledgers) % (1 + ledgers % 3) : Nat) : Int), asset := if (i + bits) % 2 = 0 then gold else salt, amount := ((1 + (7 * i + ledgers) % 20 : Nat) : Int) }
def decked (bits ledgers : Nat) (l : List ArcM) (j : Nat) : List ArcM := (l.take j).mapIdx (deck bits ledgers) ++ l.drop j
def arcsP (n bits ledgers : Nat) : List ArcM :=
  let q := fillA n n (ringL n n, bits)
  q.1.mapIdx (deck q.2 ledgers)
theorem decked_zero (bits ledgers : Nat) (l : List ArcM) : decked bits ledgers l 0 = l := by simp [decked]
theorem decked_all (bits ledgers : Nat) (l : List ArcM) : decked bits ledgers l l.length = l.mapIdx (deck bits ledgers) := by simp [decked]
theorem decked_len (bits ledgers : Nat) (l : List ArcM) (j : Nat) : (decked bits ledgers l j).length = l.length := by simp [decked]; omega
theorem decked_at (bits ledgers : Nat) (l : List ArcM) (j : Nat) (hj : j < l.length) : (decked bits ledgers l j).getD j noArc = l.getD j noArc := by
  unfold decked
  rw [List.getD_eq_getElem?_getD, List.getElem?_append_right (by simp; omega)]
  simp [List.getD_eq_getElem?_getD, Nat.min_eq_left (Nat.le_of_lt hj)]
theorem decked_succ (bits ledgers : Nat) (l : List ArcM) (j : Nat) (hj : j < l.length) : decked bits ledgers l (j + 1) = (decked bits ledgers l j).set j (deck bits ledgers j (l.getD j noArc)) := by
  apply List.ext_getElem?
  intro i
  rw [List.getElem?_set]
  unfold decked
  by_cases h1 : i < j
  · rw [if_neg (by omega), List.getElem?_append_left (by simp; omega), List.getElem?_append_left (by simp; omega)]
    simp [List.getElem?_mapIdx, h1, show i < j + 1 by omega]
  · by_cases h2 : i = j
    · subst h2
      rw [if_pos rfl, if_pos (by simp; omega), List.getElem?_append_left (by simp; omega)]
      simp [List.getElem?_mapIdx, List.getD_eq_getElem?_getD, List.getElem?_eq_getElem hj]
    · rw [if_neg (by omega), List.getElem?_append_right (by simp; omega), List.getElem?_append_right (by simp; omega)]
      simp
      congr 1
      omega
/-- One arc of a row, its five cells written. -/
theorem acells_set (l : List ArcM) (j : Nat) (hj : j < l.length) (a : ArcM) (hs : a.src = (l.getD j noArc).src) (hd : a.dst = (l.getD j noArc).dst) :
    (l.set j a).flatMap acells = (((l.flatMap acells).set (j * 5 + 2) (.int .i64 a.ledger)).set (j * 5 + 3) (.string a.asset)).set (j * 5 + 4) (.int .i64 a.amount) := by
  induction l generalizing j with
  | nil => simp at hj
  | cons x l ih =>
    cases j with
    | zero => simp [acells] at *; exact ⟨hs, hd⟩
    | succ j =>
      have h9 := ih j (by simpa using hj) (by simpa using hs) (by simpa using hd)
      rw [List.set_cons_succ, List.flatMap_cons, List.flatMap_cons, h9]
      have e2 : (j + 1) * 5 + 2 = (j * 5 + 2) + 1 + 1 + 1 + 1 + 1 := by omega
      have e3 : (j + 1) * 5 + 3 = (j * 5 + 3) + 1 + 1 + 1 + 1 + 1 := by omega
      have e4 : (j + 1) * 5 + 4 = (j * 5 + 4) + 1 + 1 + 1 + 1 + 1 := by omega
      rw [e2, e3, e4]
      simp [acells]

end Go.Proofs.Ythoimecljfcjmaa

/-
  Two calls of a region that draws its order: whichever comes first.
-/
namespace Go.Proofs.Ythoimecljfcjmaa
open Go.RowKit

/-- An operation that gives v wherever R holds, and R holds behind it. -/
def Gives (P : Program) (ops : Array Oper) (Q : Exit → Act → World → Prop) (R : World → Prop) (o : Oper) (v : Value) (a : Act) : Prop :=
  ∀ W, R W → ∀ K : Act → World → Prop, Shut (∀ W', R W' → K (a.put o.dst v) W') → if Region.wanted o (yielded ops a.tmps) = true then Oper.wp P o a W K Q else K (a.put o.dst undef) W
theorem wpAnyH_pair {P : Program} {md : Region.Mode} {ops : Array Oper} {Q : Exit → Act → World → Prop} {S R : World → Prop} {i j : Nat} {oi oj : Oper} {vi vj : Value} {fuel : Nat} {listed l2 : Array Bool} {a b : Act} {w : World}
    (hr : Region.ready md ops listed = [i, j]) (hri : Region.ready md ops (listed.setIfInBounds i true) = [j]) (hrj : Region.ready md ops (listed.setIfInBounds j true) = [i])
    (hi : ops[i]? = some oi) (hj : ops[j]? = some oj) (hl1 : (listed.setIfInBounds i true).setIfInBounds j true = l2) (hl2 : (listed.setIfInBounds j true).setIfInBounds i true = l2)
    (hb1 : (a.put oi.dst vi).put oj.dst vj = b) (hb2 : (a.put oj.dst vj).put oi.dst vi = b)
    (hR : R w) (hS : ∀ W, R W → S W) (c1 : Gives P ops Q R oi vi a) (c2 : Gives P ops Q R oj vj (a.put oi.dst vi)) (c3 : Gives P ops Q R oj vj a) (c4 : Gives P ops Q R oi vi (a.put oj.dst vj))
    (h : ∀ W, R W → S W → wpAnyH P md ops Q S fuel l2 b W) : wpAnyH P md ops Q S (fuel + 2) listed a w := by
  refine wpAnyH_ready hr (by simp) (AllReadyH.cons hi (fun K hK => c1 w hR K (fun W hW => hK.out _ _ (hS W hW) (fun _ => ?_))) (AllReadyH.cons hj (fun K hK => c3 w hR K (fun W hW => hK.out _ _ (hS W hW) (fun _ => ?_))) AllReadyH.nil))
  · refine wpAnyH_ready hri (by simp) (AllReadyH.cons hj (fun K hK => c2 W hW K (fun W2 hW2 => hK.out _ _ (hS W2 hW2) (fun hs => ?_))) AllReadyH.nil)
    rw [hl1, hb1]; exact h W2 hW2 hs
  · refine wpAnyH_ready hrj (by simp) (AllReadyH.cons hi (fun K hK => c4 W hW K (fun W2 hW2 => hK.out _ _ (hS W2 hW2) (fun hs => ?_))) AllReadyH.nil)
    rw [hl2, hb2]; exact h W2 hW2 hs
theorem wpAnyH_lone {P : Program} {md : Region.Mode} {ops : Array Oper} {Q : Exit → Act → World → Prop} {S R : World → Prop} {i : Nat} {oi : Oper} {vi : Value} {fuel : Nat} {listed : Array Bool} {a : Act} {w : World}
    (hr : Region.ready md ops listed = [i]) (hi : ops[i]? = some oi) (hR : R w) (hS : ∀ W, R W → S W) (c1 : Gives P ops Q R oi vi a)
    (h : ∀ W, R W → S W → wpAnyH P md ops Q S fuel (listed.setIfInBounds i true) (a.put oi.dst vi) W) : wpAnyH P md ops Q S (fuel + 1) listed a w :=
  wpAnyH_ready hr (by simp) (AllReadyH.cons hi (fun K hK => c1 w hR K (fun W hW => hK.out _ _ (hS W hW) (fun hs => h W hW hs))) AllReadyH.nil)
/-- wpAnyH_take in few words: what is wanted, what is not; and the simp rules of a frame's slots. -/
theorem tkH {P : Program} {md : Region.Mode} {ops : Array Oper} {Q : Exit → Act → World → Prop} {S : World → Prop} {fuel : Nat} {listed : Array Bool} {a : Act} {w : World} (i : Nat) (oi : Oper) (v : Value) (hi : ops[i]? = some oi)
    (hb : (Region.noSelect ops && (Region.free md ops listed i && (Region.ready md ops listed).contains i)) = true) (hQ : ∀ c a w, Q (.panic c) (a.put oi.dst v) w → Q (.panic c) a w) (hw : Region.wanted oi (yielded ops a.tmps) = true) (hS : S w)
    (hy : ∀ w, S w → (execOp a.eval oi).run P w = .ok (.value v) w) (h : wpAnyH P md ops Q S fuel (listed.setIfInBounds i true) (a.put oi.dst v) w) : wpAnyH P md ops Q S (fuel + 1) listed a w := by
  simp only [Bool.and_eq_true] at hb
  exact wpAnyH_take hi hb.1 hb.2.1 hb.2.2 hQ (Or.inl ⟨hw, hy⟩) hS h
theorem tkO {P : Program} {md : Region.Mode} {ops : Array Oper} {Q : Exit → Act → World → Prop} {S : World → Prop} {fuel : Nat} {listed : Array Bool} {a : Act} {w : World} (i : Nat) (oi : Oper) (hi : ops[i]? = some oi)
    (hb : (Region.noSelect ops && (Region.free md ops listed i && (Region.ready md ops listed).contains i)) = true) (hQ : ∀ c a w, Q (.panic c) (a.put oi.dst undef) w → Q (.panic c) a w) (hw : Region.wanted oi (yielded ops a.tmps) = false) (hS : S w)
    (h : wpAnyH P md ops Q S fuel (listed.setIfInBounds i true) (a.put oi.dst undef) w) : wpAnyH P md ops Q S (fuel + 1) listed a w := by
  simp only [Bool.and_eq_true] at hb
  exact wpAnyH_take hi hb.1 hb.2.1 hb.2.2 hQ (Or.inr ⟨hw, rfl⟩) hS h
theorem pA {α : Type} (l : List α) (i : Nat) (a : α) : l.toArray.setIfInBounds i a = (l.set i a).toArray := List.setIfInBounds_toArray ..
theorem pB {α : Type} (x : α) (l : List α) (a : α) : (x :: l).set 0 a = a :: l := rfl
theorem pC {α : Type} (x : α) (l : List α) (n : Nat) (a : α) : (x :: l).set (n + 1) a = x :: l.set n a := rfl

end Go.Proofs.Ythoimecljfcjmaa
