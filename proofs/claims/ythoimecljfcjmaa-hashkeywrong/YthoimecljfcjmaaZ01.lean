/-
  Slices of ints and of texts among the arguments: what a walk is told of them.
-/
import Derived.Test.YthoimecljfcjmaaZ00
import Derived.OpenShut
namespace Go.Proofs.Ythoimecljfcjmaa
open Go.RowKit

/-- The slice at a, of n ints, holds l. -/
def Ints (w : World) (a : Option Addr) (n : Nat) (l : List Int) : Prop :=
  l.length = n ∧ n ≤ maxLen ∧ (∀ j, j < n → -9223372036854775808 ≤ l.getD j 0 ∧ l.getD j 0 ≤ 9223372036854775807) ∧ ∀ j, j < n → ∃ b o, a = some ⟨b, o, none⟩ ∧ w.cell? ⟨b, o + j, none⟩ = some (.int .i64 (l.getD j 0))
/-- The slice at a, of n texts, holds l. -/
def Strs (w : World) (a : Option Addr) (n : Nat) (l : List ByteArray) : Prop :=
  l.length = n ∧ n ≤ maxLen ∧ (∀ j, j < n → (l.getD j ByteArray.empty).size ≤ maxLen) ∧ ∀ j, j < n → ∃ b o, a = some ⟨b, o, none⟩ ∧ w.cell? ⟨b, o + j, none⟩ = some (.string (l.getD j ByteArray.empty))

theorem take_getD {α : Type} (l : List α) (n j : Nat) (d : α) (h : j < n) : (l.take n).getD j d = l.getD j d := by
  simp [List.getD_eq_getElem?_getD, h]
theorem getD_mem {α : Type} (l : List α) (j : Nat) (d : α) (h : j < l.length) : l.getD j d ∈ l := by
  rw [List.getD_eq_getElem?_getD, List.getElem?_eq_getElem h]; exact List.getElem_mem h
theorem ints_nil (w : World) : Ints w none 0 [] := ⟨rfl, by unfold maxLen; omega, fun j h => absurd h (by omega), fun j h => absurd h (by omega)⟩
theorem strs_nil (w : World) : Strs w none 0 [] := ⟨rfl, by unfold maxLen; omega, fun j h => absurd h (by omega), fun j h => absurd h (by omega)⟩
theorem ints_row {w : World} {x : Addr} {n c : Nat} {zs : List Int} (hl : n ≤ c) (hm : c ≤ maxLen) (hz : zs.length = c) (hc : ∀ i, i < zs.length → w.cell? (x.add i) = some (.int .i64 (zs.getD i 0))) (hw : ∀ v ∈ zs, (Lit.int .i64 v).wf = true) : Ints w (some x) n (zs.take n) := by
  refine ⟨by rw [List.length_take]; omega, by omega, fun j hj => ?_, fun j hj => ?_⟩
  · rw [take_getD _ _ _ _ hj]; exact wf_i64 (hw _ (getD_mem _ _ _ (by omega)))
  · obtain ⟨b, o, rfl, h⟩ := ints_at hc (by omega)
    exact ⟨b, o, rfl, by rw [take_getD _ _ _ _ hj]; exact h j (by omega)⟩
theorem strs_row {w : World} {x : Addr} {n c : Nat} {zs : List ByteArray} (hl : n ≤ c) (hm : c ≤ maxLen) (hz : zs.length = c) (hc : ∀ i, i < zs.length → w.cell? (x.add i) = some (.string (zs.getD i ByteArray.empty))) (hw : ∀ v ∈ zs, v.size ≤ maxLen) : Strs w (some x) n (zs.take n) := by
  refine ⟨by rw [List.length_take]; omega, by omega, fun j hj => ?_, fun j hj => ?_⟩
  · rw [take_getD _ _ _ _ hj]; exact hw _ (getD_mem _ _ _ (by omega))
  · obtain ⟨b, off, spot⟩ := x
    have h0 := hc j (by omega)
    have hspot : spot = none := by simpa [Addr.add] using World.cell?_spot (hc 0 (by omega))
    subst hspot
    exact ⟨b, off, rfl, by rw [take_getD _ _ _ _ hj, ← Go.WideShapes.add_plain]; exact h0⟩
theorem Ints.at {w w' : World} {a : Option Addr} {n : Nat} {l : List Int} (h : Ints w a n l) (hb : Below w.heap.size w w') (j : Nat) (hj : j < n) : ∃ b o, a = some ⟨b, o, none⟩ ∧ w'.cell? ⟨b, o + j, none⟩ = some (.int .i64 (l.getD j 0)) := by
  obtain ⟨b, o, h1, h2⟩ := h.2.2.2 j hj
  exact ⟨b, o, h1, by rw [hb.cell (block_lt_of_cell h2)]; exact h2⟩
theorem Strs.at {w w' : World} {a : Option Addr} {n : Nat} {l : List ByteArray} (h : Strs w a n l) (hb : Below w.heap.size w w') (j : Nat) (hj : j < n) : ∃ b o, a = some ⟨b, o, none⟩ ∧ w'.cell? ⟨b, o + j, none⟩ = some (.string (l.getD j ByteArray.empty)) := by
  obtain ⟨b, o, h1, h2⟩ := h.2.2.2 j hj
  exact ⟨b, o, h1, by rw [hb.cell (block_lt_of_cell h2)]; exact h2⟩

theorem Ints.lt {w : World} {b o n : Nat} {l : List Int} (h : Ints w (some ⟨b, o, none⟩) n l) (hn : 0 < n) : b < w.heap.size := by
  obtain ⟨b', o', h1, h2⟩ := h.2.2.2 0 hn
  injection h1 with h1; injection h1 with h1
  rw [h1]; exact block_lt_of_cell h2
theorem Strs.lt {w : World} {b o n : Nat} {l : List ByteArray} (h : Strs w (some ⟨b, o, none⟩) n l) (hn : 0 < n) : b < w.heap.size := by
  obtain ⟨b', o', h1, h2⟩ := h.2.2.2 0 hn
  injection h1 with h1; injection h1 with h1
  rw [h1]; exact block_lt_of_cell h2

theorem Ints.get {w : World} {b o n : Nat} {l : List Int} (h : Ints w (some ⟨b, o, none⟩) n l) (j : Nat) (hj : j < n) : w.cell? ⟨b, o + j, none⟩ = some (.int .i64 (l.getD j 0)) := by
  obtain ⟨b', o', h1, h2⟩ := h.2.2.2 j hj
  injection h1 with h1; injection h1 with h1 h3
  rw [h1, h3]; exact h2
theorem Strs.get {w : World} {b o n : Nat} {l : List ByteArray} (h : Strs w (some ⟨b, o, none⟩) n l) (j : Nat) (hj : j < n) : w.cell? ⟨b, o + j, none⟩ = some (.string (l.getD j ByteArray.empty)) := by
  obtain ⟨b', o', h1, h2⟩ := h.2.2.2 j hj
  injection h1 with h1; injection h1 with h1 h3
  rw [h1, h3]; exact h2

end Go.Proofs.Ythoimecljfcjmaa

/-
  Swaps: plain data, and what memory holds of them.
-/
namespace Go.Proofs.Ythoimecljfcjmaa
open Go.RowKit

structure PartyM where
  acc : ByteArray
  keys : List ByteArray
structure ArcM where
  src : Int
  dst : Int
  ledger : Int
  asset : ByteArray
  amount : Int
structure SpecM where
  id : ByteArray
  parties : List PartyM
  arcs : List ArcM
  leaders : List Int
  locks : List ByteArray
  start : Int
  delta : Int
def noParty : PartyM := ⟨⟨#[]⟩, []⟩
def noArc : ArcM := ⟨0, 0, 0, ⟨#[]⟩, 0⟩
def noSpec : SpecM := ⟨⟨#[]⟩, [], [], [], [], 0, 0⟩
def In64 (v : Int) : Prop := -9223372036854775808 ≤ v ∧ v ≤ 9223372036854775807

/-- One party at p: its account's cell, its keys' cell. -/
def PartyAt (w : World) (b o : Nat) (p : PartyM) : Prop :=
  p.acc.size ≤ maxLen ∧ w.cell? ⟨b, o, none⟩ = some (.string p.acc) ∧ ∃ ka kc, w.cell? ⟨b, o + 1, none⟩ = some (.slice ka p.keys.length kc) ∧ Strs w ka p.keys.length p.keys
def ArcAt (w : World) (b o : Nat) (a : ArcM) : Prop :=
  In64 a.src ∧ In64 a.dst ∧ In64 a.ledger ∧ In64 a.amount ∧ a.asset.size ≤ maxLen ∧ w.cell? ⟨b, o, none⟩ = some (.int .i64 a.src) ∧ w.cell? ⟨b, o + 1, none⟩ = some (.int .i64 a.dst) ∧ w.cell? ⟨b, o + 2, none⟩ = some (.int .i64 a.ledger)
    ∧ w.cell? ⟨b, o + 3, none⟩ = some (.string a.asset) ∧ w.cell? ⟨b, o + 4, none⟩ = some (.int .i64 a.amount)
def Parties (w : World) (a : Option Addr) (l : List PartyM) : Prop := l.length ≤ maxLen ∧ ∀ j, j < l.length → ∃ b o, a = some ⟨b, o, none⟩ ∧ PartyAt w b (o + j * 2) (l.getD j noParty)
def Arcs (w : World) (a : Option Addr) (l : List ArcM) : Prop := l.length ≤ maxLen ∧ ∀ j, j < l.length → ∃ b o, a = some ⟨b, o, none⟩ ∧ ArcAt w b (o + j * 5) (l.getD j noArc)
/-- What the seven cells of a swap lead to. -/
structure Lies (w : World) (a1 a2 a3 a4 : Option Addr) (s : SpecM) : Prop where
  id : s.id.size ≤ maxLen
  parties : Parties w a1 s.parties
  arcs : Arcs w a2 s.arcs
  leaders : Ints w a3 s.leaders.length s.leaders
  locks : Strs w a4 s.locks.length s.locks
  start : In64 s.start
  delta : In64 s.delta
def cells7 (a1 a2 a3 a4 : Option Addr) (c1 c2 c3 c4 : Nat) (s : SpecM) : Array Value :=
  #[.string s.id, .slice a1 s.parties.length c1, .slice a2 s.arcs.length c2, .slice a3 s.leaders.length c3, .slice a4 s.locks.length c4, .int .i64 s.start, .int .i64 s.delta]
/-- The value v is the swap s. -/
def SpecV (w : World) (v : Value) (s : SpecM) : Prop := ∃ a1 a2 a3 a4 c1 c2 c3 c4, v = .agg (cells7 a1 a2 a3 a4 c1 c2 c3 c4 s) ∧ Lies w a1 a2 a3 a4 s

theorem Ints.below {w w' : World} {a : Option Addr} {n : Nat} {l : List Int} (h : Ints w a n l) (hb : Below w.heap.size w w') : Ints w' a n l :=
  ⟨h.1, h.2.1, h.2.2.1, fun j hj => h.at hb j hj⟩
theorem Strs.below {w w' : World} {a : Option Addr} {n : Nat} {l : List ByteArray} (h : Strs w a n l) (hb : Below w.heap.size w w') : Strs w' a n l :=
  ⟨h.1, h.2.1, h.2.2.1, fun j hj => h.at hb j hj⟩
theorem PartyAt.below {w w' : World} {b o : Nat} {p : PartyM} (h : PartyAt w b o p) (hb : Below w.heap.size w w') : PartyAt w' b o p := by
  obtain ⟨h0, h1, ka, kc, h2, h3⟩ := h
  exact ⟨h0, cell_on hb h1, ka, kc, cell_on hb h2, h3.below hb⟩
theorem ArcAt.below {w w' : World} {b o : Nat} {p : ArcM} (h : ArcAt w b o p) (hb : Below w.heap.size w w') : ArcAt w' b o p := by
  obtain ⟨i1, i2, i3, i4, i5, h1, h2, h3, h4, h5⟩ := h
  exact ⟨i1, i2, i3, i4, i5, cell_on hb h1, cell_on hb h2, cell_on hb h3, cell_on hb h4, cell_on hb h5⟩
theorem Parties.below {w w' : World} {a : Option Addr} {l : List PartyM} (h : Parties w a l) (hb : Below w.heap.size w w') : Parties w' a l :=
  ⟨h.1, fun j hj => by obtain ⟨b, o, h1, h2⟩ := h.2 j hj; exact ⟨b, o, h1, h2.below hb⟩⟩
theorem Arcs.below {w w' : World} {a : Option Addr} {l : List ArcM} (h : Arcs w a l) (hb : Below w.heap.size w w') : Arcs w' a l :=
  ⟨h.1, fun j hj => by obtain ⟨b, o, h1, h2⟩ := h.2 j hj; exact ⟨b, o, h1, h2.below hb⟩⟩
theorem Lies.below {w w' : World} {a1 a2 a3 a4 : Option Addr} {s : SpecM} (h : Lies w a1 a2 a3 a4 s) (hb : Below w.heap.size w w') : Lies w' a1 a2 a3 a4 s :=
  ⟨h.id, h.parties.below hb, h.arcs.below hb, h.leaders.below hb, h.locks.below hb, h.start, h.delta⟩
theorem SpecV.below {w w' : World} {v : Value} {s : SpecM} (h : SpecV w v s) (hb : Below w.heap.size w w') : SpecV w' v s := by
  obtain ⟨a1, a2, a3, a4, c1, c2, c3, c4, h1, h2⟩ := h
  exact ⟨a1, a2, a3, a4, c1, c2, c3, c4, h1, h2.below hb⟩

/-- A value of several cells in a block of its own. -/
theorem wpList_boxv {ops : Array Oper} {rest : List Oper} {o : Oper} {a : Act} {w : World} {Q : Exit → Act → World → Prop} (hgd : o.guard = none) (ty : TypeId) (x : Operand) (ho : o.op = .box ty x)
    (cs : Array Value) (hx : a.eval x = .agg cs)
    (h : ∀ w1, w1.heap[w.heap.size]? = some (.cells cs ty (0, 0)) → w1.heap.size = w.heap.size + 1 → Below w.heap.size w w1 → wpList Try.prog ops Q rest (a.put o.dst (.pointer (some ⟨w.heap.size, 0, none⟩))) w1) :
    wpList Try.prog ops Q (o :: rest) a w :=
  wpList_plain hgd fun _ hK => by
    have hr : (Instr.box ty (.agg cs)).run Try.prog w = .ok (.pointer (some ⟨w.heap.size, 0, none⟩)) (w.alloc (.cells cs ty)) := by
      simp [Instr.box, go_sem, Value.cells]
    unfold Oper.wp execOp
    simp only [ho, hx, Sem.run_bind, hr, Result.andThen_ok]
    exact hK _ _ (h _ (heap_alloc_new _ _) (by simp) ((Below.refl _ _).alloc (Nat.le_refl _) _))

theorem cells7_at {w : World} {g : Nat} {t : TypeId} {a1 a2 a3 a4 : Option Addr} {c1 c2 c3 c4 : Nat} {s : SpecM} (h : w.heap[g]? = some (.cells (cells7 a1 a2 a3 a4 c1 c2 c3 c4 s) t (0, 0))) :
    w.cell? ⟨g, 0, none⟩ = some (.string s.id) ∧ w.cell? ⟨g, 1, none⟩ = some (.slice a1 s.parties.length c1) ∧ w.cell? ⟨g, 2, none⟩ = some (.slice a2 s.arcs.length c2) ∧ w.cell? ⟨g, 3, none⟩ = some (.slice a3 s.leaders.length c3)
    ∧ w.cell? ⟨g, 4, none⟩ = some (.slice a4 s.locks.length c4) ∧ w.cell? ⟨g, 5, none⟩ = some (.int .i64 s.start) ∧ w.cell? ⟨g, 6, none⟩ = some (.int .i64 s.delta) := by
  refine ⟨?_, ?_, ?_, ?_, ?_, ?_, ?_⟩ <;> (rw [cell_of_row w g _ _ t (0, 0) h]; rfl)
theorem Parties.get {w : World} {b o : Nat} {l : List PartyM} (h : Parties w (some ⟨b, o, none⟩) l) (j : Nat) (hj : j < l.length) : PartyAt w b (o + j * 2) (l.getD j noParty) := by
  obtain ⟨b', o', h1, h2⟩ := h.2 j hj
  injection h1 with h1; injection h1 with h1 h3
  rw [h1, h3]; exact h2
theorem Arcs.get {w : World} {b o : Nat} {l : List ArcM} (h : Arcs w (some ⟨b, o, none⟩) l) (j : Nat) (hj : j < l.length) : ArcAt w b (o + j * 5) (l.getD j noArc) := by
  obtain ⟨b', o', h1, h2⟩ := h.2 j hj
  injection h1 with h1; injection h1 with h1 h3
  rw [h1, h3]; exact h2

/-- What P4.1 asks. -/
def nameOk (s : ByteArray) : Prop := 1 ≤ s.size ∧ s.size ≤ 16
def leaderOk (s : SpecM) (i : Nat) : Prop := 0 ≤ s.leaders.getD i 0 ∧ s.leaders.getD i 0 < (s.parties.length : Int) ∧ (s.locks.getD i ByteArray.empty).size = 32 ∧ ∀ k, k < i → s.leaders.getD k 0 ≠ s.leaders.getD i 0
def leadersOk (s : SpecM) : Prop := 1 ≤ s.leaders.length ∧ s.leaders.length ≤ 3 ∧ s.locks.length = s.leaders.length ∧ ∀ i, i < s.leaders.length → leaderOk s i
def partyOk (s : SpecM) (i : Nat) : Prop := nameOk (s.parties.getD i noParty).acc ∧ (s.parties.getD i noParty).keys.length = s.leaders.length ∧ (∀ k, k < (s.parties.getD i noParty).keys.length → ((s.parties.getD i noParty).keys.getD k ByteArray.empty).size = 16)
  ∧ ∀ k, k < i → (s.parties.getD k noParty).acc ≠ (s.parties.getD i noParty).acc
def partiesOk (s : SpecM) : Prop := 2 ≤ s.parties.length ∧ s.parties.length ≤ 6 ∧ ∀ i, i < s.parties.length → partyOk s i
def arcFine (n : Nat) (a : ArcM) : Prop := 0 ≤ a.src ∧ a.src < (n : Int) ∧ 0 ≤ a.dst ∧ a.dst < (n : Int) ∧ a.src ≠ a.dst ∧ 0 ≤ a.ledger ∧ a.ledger < 4 ∧ nameOk a.asset ∧ 1 ≤ a.amount ∧ a.amount ≤ 1125899906842624
def arcOk (s : SpecM) (i : Nat) : Prop := arcFine s.parties.length (s.arcs.getD i noArc) ∧ ∀ k, k < i → ¬ ((s.arcs.getD k noArc).src = (s.arcs.getD i noArc).src ∧ (s.arcs.getD k noArc).dst = (s.arcs.getD i noArc).dst)
def arcsOk (s : SpecM) : Prop := 1 ≤ s.arcs.length ∧ s.arcs.length ≤ 12 ∧ ∀ i, i < s.arcs.length → arcOk s i
def specOk (s : SpecM) : Prop := nameOk s.id ∧ leadersOk s ∧ partiesOk s ∧ arcsOk s ∧ 0 ≤ s.start ∧ s.start ≤ 1099511627776 ∧ 1 ≤ s.delta ∧ s.delta ≤ 1048576

end Go.Proofs.Ythoimecljfcjmaa

/-
  The program's Check of chapter 4: within, isName, isParty, digestsFit.
-/
namespace Go.Proofs.Ythoimecljfcjmaa
open Go.RowKit

theorem told_congr {p q : Prop} (h : p ↔ q) : told p = told q := by
  by_cases hp : p
  · rw [told_yes hp, told_yes (h.1 hp)]
  · rw [told_no hp, told_no (fun k => hp (h.2 k))]

set_option maxHeartbeats 400000 in
theorem within_any (v a b : Int) (w : World) : Calls Try.prog 57 #[.int .i64 v, .int .i64 a, .int .i64 b] w fun e w' => e = .returned (.bool (told (a ≤ v ∧ v ≤ b))) ∧ w' = w := by
  obtain ⟨r, hr⟩ : ∃ r, told (a ≤ v ∧ v ≤ b) = r := ⟨_, rfl⟩
  have HR : Hid (told (a ≤ v ∧ v ≤ b) = r) := hr
  rw [hr]
  clear hr
  by_cases h1 : a ≤ v
  · by_cases h2 : v ≤ b
    · go_enter Try.func57, Try.ntmps57
      go_wp2
      go_ret
      exact ⟨ret_bool (by rw [← HR.out, told_yes ⟨h1, h2⟩]), rfl⟩
    · go_enter Try.func57, Try.ntmps57
      go_wp2
      go_ret
      exact ⟨ret_bool (by rw [← HR.out, told_no (fun h => by omega)]), rfl⟩
  · go_enter Try.func57, Try.ntmps57
    go_wp2
    go_ret
    exact ⟨ret_bool (by rw [← HR.out, told_no (fun h => by have := h.1; omega)]), rfl⟩

set_option maxHeartbeats 400000 in
theorem isname_any (s : ByteArray) (w : World) : Calls Try.prog 56 #[.string s] w fun e w' => e = .returned (.bool (told (nameOk s))) ∧ w' = w := by
  have HW := within_any (s.size : Int) 1 16 w
  rw [told_congr (q := nameOk s) (by unfold nameOk; omega)] at HW
  generalize told (nameOk s) = r at HW ⊢
  go_enter Try.func56, Try.ntmps56
  go_wp2_with fail
  refine HW.mono ?_
  rintro e w0 ⟨rfl, hw0⟩
  subst w0
  go_wp2
  go_ret
  exact ⟨rfl, rfl⟩

set_option maxHeartbeats 400000 in
theorem isparty_any {w : World} {a1 a2 a3 a4 : Option Addr} {c1 c2 c3 c4 : Nat} {s : SpecM} (hs : s.parties.length ≤ maxLen) (v : Int) :
    Calls Try.prog 81 #[.agg (cells7 a1 a2 a3 a4 c1 c2 c3 c4 s), .int .i64 v] w fun e w' => e = .returned (.bool (told (0 ≤ v ∧ v < (s.parties.length : Int)))) ∧ Below w.heap.size w w' := by
  have HW := fun W => within_any v 0 ((s.parties.length : Int) - 1) W
  simp only [told_congr (p := 0 ≤ v ∧ v ≤ (s.parties.length : Int) - 1) (q := 0 ≤ v ∧ v < (s.parties.length : Int)) (by omega)] at HW
  generalize told (0 ≤ v ∧ v < (s.parties.length : Int)) = r at HW ⊢
  unfold maxLen at hs
  generalize hg : w.heap.size = g
  go_enter Try.func81, Try.ntmps81
  go_wp2_with ((with_reducible refine wpList_at ?_); refine wpList_boxv (by rfl) 27 (.tmp 0) (by rfl) _ (by rfl) ?_; rw [hg]; intro w1 hg1 hz1 hb1; obtain ⟨q0, q1, q2, q3, q4, q5, q6⟩ := cells7_at hg1)
  refine (HW w1).mono ?_
  rintro e w0 ⟨rfl, hw0⟩
  subst w0
  go_wp2
  go_ret
  exact ⟨rfl, hb1⟩

def digestsOk (l : List ByteArray) (n : Nat) (z : Nat) : Prop := l.length = n ∧ ∀ k, k < l.length → (l.getD k ByteArray.empty).size = z

set_option maxHeartbeats 400000 in
theorem digests_any {w : World} {a : Option Addr} {c : Nat} {l : List ByteArray} (hl : Strs w a l.length l) (n z : Nat) (hn : n ≤ maxLen) :
    Calls Try.prog 78 #[.slice a l.length c, .int .i64 n, .int .i64 z] w fun e w' => e = .returned (.bool (told (digestsOk l n z))) ∧ w' = w := by
  obtain ⟨r, hr⟩ : ∃ r, told (digestsOk l n z) = r := ⟨_, rfl⟩
  have HR : Hid (told (digestsOk l n z) = r) := hr
  rw [hr]
  clear hr
  have hm := hl.2.1
  unfold maxLen at hm hn
  have HL : Hid (Strs w a l.length l) := hl
  clear hl
  by_cases h1 : l.length ≠ n
  · have h1' : ((l.length : Int) != (n : Int)) = true := nat_ne h1
    go_enter Try.func78, Try.ntmps78
    go_wp2
    go_ret
    exact ⟨ret_bool (by rw [← HR.out, told_no (fun h => by have := h.1; omega)]), rfl⟩
  have h1e : l.length = n := by omega
  have h1' : ((l.length : Int) != (n : Int)) = false := nat_same h1e
  go_enter Try.func78, Try.ntmps78
  go_wp2
  go_loopw [15] (fun i wr => ∃ k : Nat, k ≤ l.length ∧ i = .int .i64 k ∧ Hid (∀ j, j < k → (l.getD j ByteArray.empty).size = z) ∧ wr = w) (fun i _ => l.length - (intOf i).toNat)
  case atStart => exact ⟨0, by omega, rfl, fun j hj => absurd hj (by omega), rfl⟩
  case round =>
    obtain ⟨i, hi, rfl, HO, rfl⟩ := hrel
    by_cases hlt : i < l.length
    · have i1 : (i : Int) < (l.length : Int) := by omega
      obtain ⟨b, o, rfl, d⟩ := HL.out.2.2.2 i hlt
      obtain ⟨x, hx⟩ : ∃ x, l.getD i ByteArray.empty = x := ⟨_, rfl⟩
      rw [hx] at d
      have HX : Hid (l.getD i ByteArray.empty = x) := hx
      clear hx
      by_cases x1 : x.size ≠ z
      · have x1' : ((x.size : Int) != (z : Int)) = true := nat_ne x1
        go_wp2
        go_ret
        exact ⟨ret_bool (by rw [← HR.out, told_no (fun h => x1 (by rw [← HX.out]; exact h.2 i hlt))]), rfl⟩
      have x1e : x.size = z := by omega
      have x1' : ((x.size : Int) != (z : Int)) = false := nat_same x1e
      go_wp2
      go_roundw
      case rel =>
        refine ⟨i + 1, by omega, by go_num, fun j hj => ?_, trivial⟩
        by_cases hj' : j < i
        · exact HO.out j hj'
        · have : j = i := by omega
          subst this; rw [HX.out]; exact x1e
      case measure => simp [intOf]; omega
    · have i1 : ¬ (i : Int) < (l.length : Int) := by omega
      go_wp2
      go_ret
      exact ⟨ret_bool (by rw [← HR.out, told_yes ⟨h1e, fun k hk => HO.out k (by omega)⟩]), rfl⟩

end Go.Proofs.Ythoimecljfcjmaa
