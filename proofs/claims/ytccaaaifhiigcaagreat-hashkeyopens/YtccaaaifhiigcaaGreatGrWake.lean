/-
  Chapter 5's own example (awake).
-/
import Derived.Test.YtccaaaifhiigcaaGreatZ38
import Derived.Test.YtccaaaifhiigcaaGreatZ26
import Derived.Test.YtccaaaifhiigcaaGreatZ35
namespace Go.Proofs.YtccaaaifhiigcaaGreat
open Go.RowKit


def garcB (A : List ArcM) (a b : Int) : Bool := A.any fun x => x.src == a && x.dst == b
def stepB (n : Nat) (A : List ArcM) (l : List Int) (i : Nat) : Bool := decide (0 ≤ l.getD i 0) && decide (l.getD i 0 < (n : Int)) && !(l.take i).contains (l.getD i 0) && (i == 0 || garcB A (l.getD (i - 1) 0) (l.getD i 0))
/-- Path, to be reckoned. -/
def pathB (n : Nat) (A : List ArcM) (l : List Int) : Bool := decide (1 ≤ l.length) && (List.range l.length).all (stepB n A l)
theorem garcB_iff (A : List ArcM) (a b : Int) : garcB A a b = true ↔ arcM A a b := by
  unfold garcB arcM
  rw [List.any_eq_true]
  constructor
  · rintro ⟨x, hx, h⟩
    obtain ⟨j, hj, rfl⟩ := List.mem_iff_getElem.1 hx
    rw [Bool.and_eq_true, beq_iff_eq, beq_iff_eq] at h
    exact ⟨j, hj, by rw [List.getD_eq_getElem?_getD, List.getElem?_eq_getElem hj]; exact h⟩
  · rintro ⟨j, hj, h⟩
    refine ⟨A.getD j noArc, getD_mem A j noArc hj, ?_⟩
    rw [Bool.and_eq_true, beq_iff_eq, beq_iff_eq]; exact h
theorem stepB_iff {s : SpecM} {l : List Int} {i : Nat} (hi : i < l.length) : stepB s.parties.length s.arcs l i = true ↔ stepOk s l i := by
  unfold stepB stepOk
  simp only [Bool.and_eq_true, decide_eq_true_eq, Bool.not_eq_true', Bool.or_eq_true, beq_iff_eq, garcB_iff, ← Bool.not_eq_true, List.contains_iff_mem, mem_take (Nat.le_of_lt hi)]
  constructor
  · rintro ⟨⟨h1, h2⟩, h3⟩
    exact ⟨h1, fun k hk e => h2 ⟨k, hk, e⟩, fun h0 => h3.resolve_left (by omega)⟩
  · rintro ⟨h1, h2, h3⟩
    refine ⟨⟨h1, fun ⟨k, hk, e⟩ => h2 k hk e⟩, ?_⟩
    by_cases h0 : i = 0
    · exact .inl h0
    · exact .inr (h3 (by omega))
theorem path_reckoned {s : SpecM} (h : specOk s) (l : List Int) : told (pathOk s l) = pathB s.parties.length s.arcs l := by
  rw [Bool.eq_iff_iff, told_iff]
  unfold pathOk pathB
  rw [Bool.and_eq_true, decide_eq_true_eq, List.all_eq_true]
  constructor
  · rintro ⟨_, h1, h2⟩
    exact ⟨h1, fun i hi => (stepB_iff (List.mem_range.1 hi)).2 (h2 i (List.mem_range.1 hi))⟩
  · rintro ⟨h1, h2⟩
    exact ⟨h, h1, fun i hi => (stepB_iff hi).1 (h2 i (List.mem_range.2 hi))⟩
theorem valid_reckoned {s : SpecM} (h : specOk s) : validM s = (strongP s.parties.length s.arcs && fbP s.parties.length s.arcs s.leaders) := by
  unfold validM strM fbkM
  rw [told_yes h]; rfl
theorem strong_reckoned {s : SpecM} (h : specOk s) : strM s = strongP s.parties.length s.arcs := by
  unfold strM
  rw [told_yes h]; rfl
theorem fb_reckoned {s : SpecM} (h : specOk s) : fbkM s = fbP s.parties.length s.arcs s.leaders := by
  unfold fbkM
  rw [told_yes h]; rfl
theorem valid_bad {s : SpecM} (h : ¬ specOk s) : validM s = false := by
  unfold validM strM
  rw [told_no h]; rfl
theorem strong_bad {s : SpecM} (h : ¬ specOk s) : strM s = false := by
  unfold strM
  rw [told_no h]; rfl
theorem noSpec_bad5 : ¬ specOk noSpec := fun h => by have : 1 ≤ (0 : Nat) := h.1.1; omega
theorem ring_np5 (n : Nat) (st de : Int) : (ringM n st de).parties.length = n := by
  show (withKeys (accs n) 1).length = n
  rw [withKeys_len, accs_len]
theorem valid_none (w : World) : Calls Tryz.prog 41 #[.agg #[.string ⟨#[]⟩, .slice none 0 0, .slice none 0 0, .slice none 0 0, .slice none 0 0, .int .i64 0, .int .i64 0]] w fun e w' => e = .returned (.bool false) ∧ Below w.heap.size w w' := by
  have h := pvalid_any (no_spec w)
  rw [valid_bad noSpec_bad5] at h
  exact h
/-- Numbers written out. -/
theorem lit_ints {w : World} {g : Nat} {l : List Int} {t : TypeId} (h : w.heap[g]? = some (.cells (l.map (Value.int .i64)).toArray t (0, 0))) (hn : l.length ≤ 1000) (hl : ∀ x ∈ l, 0 ≤ x ∧ x < 1000) : Ints w (some ⟨g, 0, none⟩) l.length l := by
  refine ⟨rfl, by unfold maxLen; omega, fun j hj => (by have := hl _ (getD_mem l j 0 hj); omega), fun j hj => ⟨g, 0, rfl, ?_⟩⟩
  rw [Nat.zero_add, cell_of_row w g j _ t (0, 0) h, List.getElem?_toArray, List.getElem?_map, List.getElem?_eq_getElem hj, List.getD_eq_getElem?_getD, List.getElem?_eq_getElem hj]; rfl

end Go.Proofs.YtccaaaifhiigcaaGreat
