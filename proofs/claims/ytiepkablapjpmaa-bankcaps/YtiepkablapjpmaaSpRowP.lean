/-
  Rows of parties and of arcs that a call itself makes.
-/
import Derived.Test.YtiepkablapjpmaaSpRows
import Derived.Test.YtiepkablapjpmaaSpP
namespace Go.Proofs.Ytiepkablapjpmaa
open Go.RowKit

/-- Parties in a row of a call's own: the cells, and what the keys' slices lead to. -/
def PRow (w : World) (B : Nat) (v : Value) (l : List PartyM) : Prop := ∃ ks, ks.length = l.length ∧ w.ownsRow B 98 2 v l.length (pcells l ks) ∧ ∀ j, j < l.length → OwnS w B (ks.getD j undef) (l.getD j noParty).keys
theorem PRow.nil (w : World) (B : Nat) : PRow w B (.slice none 0 0) [] := ⟨[], rfl, World.ownsRow_nil _ _ _ _, fun j hj => absurd hj (by simp)⟩
theorem PRow.but {w w' : World} {B g : Nat} {v : Value} {l : List PartyM} {cs : Array Value} {t : TypeId} {fr : Nat × Nat} (h : PRow w B v l) (k : But g w w') (hg : w.heap[g]? = some (.cells cs t fr)) (h1 : (98 : TypeId) ≠ t) (h2 : (9 : TypeId) ≠ t) : PRow w' B v l := by
  obtain ⟨ks, hk, ho, hs⟩ := h
  exact ⟨ks, hk, World.ownsRow.kept ho k.grown (row_apart ho hg h1), fun j hj => (hs j hj).but k hg h2⟩
theorem prow_more {w w' : World} {B : Nat} {v v' kv : Value} {l : List PartyM} {p : PartyM} {ks : List Value} (hks : ks.length = l.length) (hown : w.ownsRow B 98 2 v l.length (pcells l ks)) (hs : ∀ j, j < l.length → OwnS w B (ks.getD j undef) (l.getD j noParty).keys) (hk : OwnS w B kv p.keys)
    (ho : w'.ownsRow B 98 2 v' (l.length + 1) (pcells l ks ++ [Value.string p.acc, kv])) (hg : w.grownBy w' v.ownBlock) : PRow w' B v' (l ++ [p]) := by
  refine ⟨ks ++ [kv], by simp [hks], ?_, ?_⟩
  · rw [pcells_snoc _ _ _ _ hks, List.length_append]; exact ho
  · intro j hj
    have keep : ∀ u (m : List ByteArray), OwnS w B u m → OwnS w' B u m := fun u m hu => World.ownsRow.kept hu hg (rows_apart hu hown (by decide))
    by_cases hjl : j < l.length
    · rw [show (ks ++ [kv]).getD j undef = ks.getD j undef by simp [List.getD_eq_getElem?_getD, List.getElem?_append, hks, hjl], show (l ++ [p]).getD j noParty = l.getD j noParty by simp [List.getD_eq_getElem?_getD, List.getElem?_append, hjl]]
      exact keep _ _ (hs j hjl)
    · have hj' : j = l.length := by simp at hj; omega
      subst hj'
      rw [show (ks ++ [kv]).getD l.length undef = kv by rw [← hks]; simp [List.getD_eq_getElem?_getD], show (l ++ [p]).getD l.length noParty = p by simp [List.getD_eq_getElem?_getD]]
      exact keep _ _ hk
def OwnA (w : World) (B : Nat) (v : Value) (l : List ArcM) : Prop := w.ownsRow B 80 5 v l.length (l.flatMap acells)
theorem OwnA.below {w w' : World} {B : Nat} {v : Value} {l : List ArcM} (h : OwnA w B v l) (k : Below w.heap.size w w') : OwnA w' B v l :=
  World.ownsRow.kept h (below_grown k) (by cases v.ownBlock <;> simp)
theorem PRow.below {w w' : World} {B : Nat} {v : Value} {l : List PartyM} (h : PRow w B v l) (k : Below w.heap.size w w') : PRow w' B v l := by
  obtain ⟨ks, hk, ho, hs⟩ := h
  exact ⟨ks, hk, World.ownsRow.kept ho (below_grown k) (by cases v.ownBlock <;> simp), fun j hj => (hs j hj).below k⟩
theorem PRow.grown {w w' : World} {B C : Nat} {v u : Value} {l : List PartyM} {e : TypeId} {size n : Nat} {xs : List Value} (h : PRow w B v l) (k : w.ownsRow C e size u n xs) (hg : w.grownBy w' u.ownBlock) (h1 : (98 : TypeId) ≠ e) (h2 : (9 : TypeId) ≠ e) : PRow w' B v l := by
  obtain ⟨ks, hk, ho, hs⟩ := h
  exact ⟨ks, hk, World.ownsRow.kept ho hg (rows_apart ho k h1), fun j hj => World.ownsRow.kept (hs j hj) hg (rows_apart (hs j hj) k h2)⟩
theorem OwnA.grown {w w' : World} {B C : Nat} {v u : Value} {l : List ArcM} {e : TypeId} {size n : Nat} {xs : List Value} (h : OwnA w B v l) (k : w.ownsRow C e size u n xs) (hg : w.grownBy w' u.ownBlock) (h1 : (80 : TypeId) ≠ e) : OwnA w' B v l :=
  World.ownsRow.kept h hg (rows_apart h k h1)

theorem row_at {w : World} {B : Nat} {e : TypeId} {size : Nat} {v : Value} {n : Nat} {xs : List Value} (h : w.ownsRow B e size v n xs) : ∃ a c, v = .slice a n c ∧ n ≤ c ∧ c ≤ maxLen ∧ (0 < n → ∃ g, a = some ⟨g, 0, none⟩ ∧ B ≤ g ∧ ∀ j, j < n * size → w.cell? ⟨g, j, none⟩ = xs[j]?) := by
  rcases h.2 with ⟨rfl, rfl⟩ | ⟨g, cap, cur, rfl, hb, hg, hnc, hcm, hcs, htake⟩
  · exact ⟨none, 0, rfl, by omega, by unfold maxLen; omega, fun h => absurd h (by omega)⟩
  · exact ⟨_, _, rfl, hnc, hcm, fun _ => ⟨g, rfl, hb, fun j hj => World.ownsRow.cellAt h j hj⟩⟩
theorem OwnS.strs {w : World} {B : Nat} {v : Value} {l : List ByteArray} (h : OwnS w B v l) (hn : l.length ≤ 1000) (hl : ∀ j, j < l.length → (l.getD j ByteArray.empty).size ≤ 1000) : ∃ a c, v = .slice a l.length c ∧ l.length ≤ c ∧ c ≤ maxLen ∧ Strs w a l.length l := by
  obtain ⟨a, c, hv, hc, hm, hx⟩ := row_at h
  refine ⟨a, c, hv, hc, hm, rfl, by unfold maxLen; omega, fun j hj => Nat.le_trans (hl j hj) (by unfold maxLen; omega), fun j hj => ?_⟩
  obtain ⟨g, ha, _, hg⟩ := hx (by omega)
  refine ⟨g, 0, ha, ?_⟩
  rw [Nat.zero_add, hg j (by omega), List.getElem?_map, List.getElem?_eq_getElem hj, List.getD_eq_getElem?_getD, List.getElem?_eq_getElem hj]; rfl
theorem OwnI.ints {w : World} {B : Nat} {v : Value} {l : List Int} (h : OwnI w B v l) (hn : l.length ≤ 1000) (hl : ∀ j, j < l.length → In64 (l.getD j 0)) : ∃ a c, v = .slice a l.length c ∧ l.length ≤ c ∧ c ≤ maxLen ∧ Ints w a l.length l := by
  obtain ⟨a, c, hv, hc, hm, hx⟩ := row_at h
  refine ⟨a, c, hv, hc, hm, rfl, by unfold maxLen; omega, hl, fun j hj => ?_⟩
  obtain ⟨g, ha, _, hg⟩ := hx (by omega)
  refine ⟨g, 0, ha, ?_⟩
  rw [Nat.zero_add, hg j (by omega), List.getElem?_map, List.getElem?_eq_getElem hj, List.getD_eq_getElem?_getD, List.getElem?_eq_getElem hj]; rfl
def ArcSane (a : ArcM) : Prop := In64 a.src ∧ In64 a.dst ∧ In64 a.ledger ∧ In64 a.amount ∧ a.asset.size ≤ 1000
theorem OwnA.arcs {w : World} {B : Nat} {v : Value} {l : List ArcM} (h : OwnA w B v l) (hn : l.length ≤ 1000) (hp : ∀ j, j < l.length → ArcSane (l.getD j noArc)) :
    ∃ a c, v = .slice a l.length c ∧ l.length ≤ c ∧ c ≤ maxLen ∧ Arcs w a l := by
  obtain ⟨a, c, hv, hc, hm, hx⟩ := row_at h
  refine ⟨a, c, hv, hc, hm, by unfold maxLen; omega, fun j hj => ?_⟩
  obtain ⟨g, ha, _, hg⟩ := hx (by omega)
  refine ⟨g, 0, ha, ?_⟩
  obtain ⟨p1, p2, p3, p4, p5⟩ := hp j hj
  have c0 := acells_at l j hj 0 (by omega)
  have c1 := acells_at l j hj 1 (by omega)
  have c2 := acells_at l j hj 2 (by omega)
  have c3 := acells_at l j hj 3 (by omega)
  have c4 := acells_at l j hj 4 (by omega)
  refine ⟨p1, p2, p3, p4, Nat.le_trans p5 (by unfold maxLen; omega), ?_, ?_, ?_, ?_, ?_⟩ <;> rw [Nat.zero_add, hg _ (by omega)]
  · exact c0
  · exact c1
  · exact c2
  · exact c3
  · exact c4
def PartySane (p : PartyM) : Prop := p.acc.size ≤ 1000 ∧ p.keys.length ≤ 1000 ∧ ∀ i, i < p.keys.length → (p.keys.getD i ByteArray.empty).size ≤ 1000
theorem PRow.parties {w : World} {B : Nat} {v : Value} {l : List PartyM} (h : PRow w B v l) (hn : l.length ≤ 1000) (hp : ∀ j, j < l.length → PartySane (l.getD j noParty)) :
    ∃ a c, v = .slice a l.length c ∧ l.length ≤ c ∧ c ≤ maxLen ∧ Parties w a l := by
  obtain ⟨ks, hk, h, hs⟩ := h
  obtain ⟨a, c, hv, hc, hm, hx⟩ := row_at h
  refine ⟨a, c, hv, hc, hm, by unfold maxLen; omega, fun j hj => ?_⟩
  obtain ⟨g, ha, _, hg⟩ := hx (by omega)
  refine ⟨g, 0, ha, ?_⟩
  obtain ⟨p1, p2, p3⟩ := hp j hj
  obtain ⟨ka, kc, hv, _, _, hks⟩ := (hs j hj).strs p2 p3
  obtain ⟨c1, c2⟩ := pcells_at l ks hk j hj
  rw [hv] at c2
  exact ⟨Nat.le_trans p1 (by unfold maxLen; omega), by rw [Nat.zero_add, hg _ (by omega)]; exact c1, ka, kc, by rw [Nat.zero_add, hg _ (by omega)]; exact c2, hks⟩

/-- The cells of a swap that is being made. -/
def scells (id : ByteArray) (v1 v2 v3 v4 : Value) (st de : Int) : Array Value := #[.string id, v1, v2, v3, v4, .int .i64 st, .int .i64 de]
def SAt (w : World) (g : Nat) (id : ByteArray) (v1 v2 v3 v4 : Value) (st de : Int) : Prop := w.heap[g]? = some (.cells (scells id v1 v2 v3 v4 st de) 64 (0, 0))
theorem SAt.but {w w' : World} {g k : Nat} {id : ByteArray} {v1 v2 v3 v4 : Value} {st de : Int} (h : SAt w g id v1 v2 v3 v4 st de) (hb : But k w w') (hg : g ≠ k) : SAt w' g id v1 v2 v3 v4 st de := by
  unfold SAt at *
  rw [hb.block g (Array.getElem?_eq_some_iff.1 h).1 hg]; exact h
theorem SAt.below {w w' : World} {g : Nat} {id : ByteArray} {v1 v2 v3 v4 : Value} {st de : Int} (h : SAt w g id v1 v2 v3 v4 st de) (hb : Below w.heap.size w w') : SAt w' g id v1 v2 v3 v4 st de := by
  unfold SAt at *
  rw [hb.block g (Array.getElem?_eq_some_iff.1 h).1]; exact h
theorem SAt.grown {w w' : World} {g : Nat} {row : Option Nat} {id : ByteArray} {v1 v2 v3 v4 : Value} {st de : Int} (h : SAt w g id v1 v2 v3 v4 st de) (hb : w.grownBy w' row) (hg : some g ≠ row) : SAt w' g id v1 v2 v3 v4 st de := by
  unfold SAt at *
  rw [hb.block g (Array.getElem?_eq_some_iff.1 h).1 hg]; exact h
theorem SAt.lt {w : World} {g : Nat} {id : ByteArray} {v1 v2 v3 v4 : Value} {st de : Int} (h : SAt w g id v1 v2 v3 v4 st de) : g < w.heap.size := (Array.getElem?_eq_some_iff.1 h).1
theorem SAt.cells {w : World} {g : Nat} {id : ByteArray} {v1 v2 v3 v4 : Value} {st de : Int} (h : SAt w g id v1 v2 v3 v4 st de) :
    w.cell? ⟨g, 0, none⟩ = some (.string id) ∧ w.cell? ⟨g, 1, none⟩ = some v1 ∧ w.cell? ⟨g, 2, none⟩ = some v2 ∧ w.cell? ⟨g, 3, none⟩ = some v3 ∧ w.cell? ⟨g, 4, none⟩ = some v4 ∧ w.cell? ⟨g, 5, none⟩ = some (.int .i64 st) ∧ w.cell? ⟨g, 6, none⟩ = some (.int .i64 de) := by
  refine ⟨?_, ?_, ?_, ?_, ?_, ?_, ?_⟩ <;> (rw [cell_of_row w g _ _ _ (0, 0) h]; rfl)
theorem SAt.frozen {w : World} {g : Nat} {id : ByteArray} {v1 v2 v3 v4 : Value} {st de : Int} (h : SAt w g id v1 v2 v3 v4 st de) (i : Nat) : w.frozen? ⟨g, i, none⟩ = false := frozen_of_row w g i _ _ h
theorem SAt.set1 {w : World} {g : Nat} {id : ByteArray} {v1 v2 v3 v4 : Value} {st de : Int} (h : SAt w g id v1 v2 v3 v4 st de) (v : Value) : SAt (w.setCell ⟨g, 1, none⟩ v) g id v v2 v3 v4 st de := by
  unfold SAt at *
  rw [setCell_eq_setRow w g 1 _ _ (0, 0) _ h, setRow_heap w g _ _ _ (0, 0) h]; rfl
theorem SAt.set2 {w : World} {g : Nat} {id : ByteArray} {v1 v2 v3 v4 : Value} {st de : Int} (h : SAt w g id v1 v2 v3 v4 st de) (v : Value) : SAt (w.setCell ⟨g, 2, none⟩ v) g id v1 v v3 v4 st de := by
  unfold SAt at *
  rw [setCell_eq_setRow w g 2 _ _ (0, 0) _ h, setRow_heap w g _ _ _ (0, 0) h]; rfl
theorem SAt.set3 {w : World} {g : Nat} {id : ByteArray} {v1 v2 v3 v4 : Value} {st de : Int} (h : SAt w g id v1 v2 v3 v4 st de) (v : Value) : SAt (w.setCell ⟨g, 3, none⟩ v) g id v1 v2 v v4 st de := by
  unfold SAt at *
  rw [setCell_eq_setRow w g 3 _ _ (0, 0) _ h, setRow_heap w g _ _ _ (0, 0) h]; rfl
theorem SAt.set4 {w : World} {g : Nat} {id : ByteArray} {v1 v2 v3 v4 : Value} {st de : Int} (h : SAt w g id v1 v2 v3 v4 st de) (v : Value) : SAt (w.setCell ⟨g, 4, none⟩ v) g id v1 v2 v3 v st de := by
  unfold SAt at *
  rw [setCell_eq_setRow w g 4 _ _ (0, 0) _ h, setRow_heap w g _ _ _ (0, 0) h]; rfl

theorem SAt.set5 {w : World} {g : Nat} {id : ByteArray} {v1 v2 v3 v4 : Value} {st de : Int} (h : SAt w g id v1 v2 v3 v4 st de) (v : Int) : SAt (w.setCell ⟨g, 5, none⟩ (.int .i64 v)) g id v1 v2 v3 v4 v de := by
  unfold SAt at *
  rw [setCell_eq_setRow w g 5 _ _ (0, 0) _ h, setRow_heap w g _ _ _ (0, 0) h]; rfl
theorem SAt.set6 {w : World} {g : Nat} {id : ByteArray} {v1 v2 v3 v4 : Value} {st de : Int} (h : SAt w g id v1 v2 v3 v4 st de) (v : Int) : SAt (w.setCell ⟨g, 6, none⟩ (.int .i64 v)) g id v1 v2 v3 v4 st v := by
  unfold SAt at *
  rw [setCell_eq_setRow w g 6 _ _ (0, 0) _ h, setRow_heap w g _ _ _ (0, 0) h]; rfl

end Go.Proofs.Ytiepkablapjpmaa
