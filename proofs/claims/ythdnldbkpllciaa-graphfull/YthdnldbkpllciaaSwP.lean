/-
  A swap in a variable all of whose rows are a call's own: single cells of it written; swaps with one thing turned.
-/
import Derived.Test.YthdnldbkpllciaaZ31
import Derived.Test.YthdnldbkpllciaaZ43
import Derived.Test.YthdnldbkpllciaaStepB
namespace Go.Proofs.Ythdnldbkpllciaa
open Go.RowKit

theorem pcells_acc (P : List PartyM) (ks : List Value) (h : ks.length = P.length) (i : Nat) (hi : i < P.length) (x : ByteArray) : (pcells P ks).set (i * 2) (.string x) = pcells (P.set i ⟨x, (P.getD i noParty).keys⟩) ks := by
  unfold pcells
  induction P generalizing ks i with
  | nil => simp at hi
  | cons p P ih =>
    cases ks with
    | nil => simp at h
    | cons k ks =>
      rw [List.zipWith_cons_cons, List.flatten_cons]
      cases i with
      | zero => simp
      | succ i =>
        have h9 := ih ks (by simpa using h) i (by simpa using hi)
        rw [List.set_cons_succ, List.zipWith_cons_cons, List.flatten_cons, show (p :: P).getD (i + 1) noParty = P.getD i noParty by simp, ← h9]
        simp [show (i + 1) * 2 = (i * 2) + 1 + 1 by omega]
/-- Texts in a block ahead of H. -/
def Low (w : World) (H : Nat) (u : Value) (l : List ByteArray) : Prop := OwnS w 0 u l ∧ ∀ k, u.ownBlock = some k → k < H
theorem Low.kept {w w' : World} {H : Nat} {row : Option Nat} {u : Value} {l : List ByteArray} (h : Low w H u l) (hg : w.grownBy w' row) (hne : u.ownBlock = none ∨ u.ownBlock ≠ row) : Low w' H u l := ⟨World.ownsRow.kept h.1 hg hne, h.2⟩
/-- All of a swap in the variable g, its rows from G on, the keys' ahead of H. -/
structure Own4 (w : World) (g G H : Nat) (v1 v2 v3 v4 : Value) (ks : List Value) (S : SpecM) : Prop where
  sv : SAt w g S.id v1 v2 v3 v4 S.start S.delta
  kl : ks.length = S.parties.length
  pr : w.ownsRow G 32 2 v1 S.parties.length (pcells S.parties ks)
  ky : ∀ j, j < S.parties.length → Low w H (ks.getD j undef) (S.parties.getD j noParty).keys
  ar : OwnA w G v2 S.arcs
  le : OwnI w G v3 S.leaders
  lo : OwnS w G v4 S.locks
theorem Own4.wide {w : World} {g G H : Nat} {v1 v2 v3 v4 : Value} {ks : List Value} {S : SpecM} (h : Own4 w g G H v1 v2 v3 v4 ks S) (hs : SaneS S) : SpecW w (.agg (scells S.id v1 v2 v3 v4 S.start S.delta)) S :=
  OwnSpec.wide (B := 0) ⟨v1, v2, v3, v4, rfl, ⟨ks, h.kl, base_row h.pr (Nat.zero_le _), fun j hj => (h.ky j hj).1⟩, base_row h.ar (Nat.zero_le _), base_row h.le (Nat.zero_le _), h.lo.base (Nat.zero_le _)⟩ hs
theorem scells_seven (id : ByteArray) {v1 v2 v3 v4 : Value} (st de : Int) (h1 : v1.oneCell' = true) (h2 : v2.oneCell' = true) (h3 : v3.oneCell' = true) (h4 : v4.oneCell' = true) : Seven (scells id v1 v2 v3 v4 st de) :=
  ⟨rfl, fun u hu => by simp [scells] at hu; rcases hu with rfl | rfl | rfl | rfl | rfl | rfl | rfl <;> first | rfl | assumption⟩
theorem Own4.done {w : World} {g G H : Nat} {v1 v2 v3 v4 : Value} {ks : List Value} {S : SpecM} (h : Own4 w g G H v1 v2 v3 v4 ks S) (hs : SaneS S) (hn : ¬ specOk S) : ∃ T cs, SvAt w g cs ∧ Seven cs ∧ SpecW w (.agg cs) T ∧ ¬ specOk T :=
  ⟨S, _, h.sv, scells_seven _ _ _ (own_one h.pr) (own_one h.ar) (own_one h.le) (own_one h.lo), h.wide hs, hn⟩
theorem Low.apart {w : World} {H : Nat} {u v : Value} {l : List ByteArray} {B : Nat} {e : TypeId} {size n : Nat} {xs : List Value} (h : Low w H u l) (k : w.ownsRow B e size v n xs) (he : (9 : TypeId) ≠ e) : u.ownBlock = none ∨ u.ownBlock ≠ v.ownBlock := rows_apart h.1 k he
theorem Low.far {w : World} {H : Nat} {u v : Value} {l : List ByteArray} {B : Nat} {e : TypeId} {size n : Nat} {xs : List Value} (h : Low w H u l) (k : w.ownsRow B e size v n xs) (hB : H ≤ B) : u.ownBlock = none ∨ u.ownBlock ≠ v.ownBlock := by
  cases hu : u.ownBlock with
  | none => exact .inl rfl
  | some x =>
    right
    intro e
    have h1 := h.2 x hu
    have h2 := (World.ownsRow.lt k x e.symm).1
    omega
theorem sv_apart {w : World} {g : Nat} {id : ByteArray} {v1 v2 v3 v4 : Value} {st de : Int} (h : SAt w g id v1 v2 v3 v4 st de) {v : Value} {B : Nat} {e : TypeId} {size n : Nat} {xs : List Value} (k : w.ownsRow B e size v n xs) (he : e ≠ 27) : some g ≠ v.ownBlock := by
  rcases row_apart k h he with h1 | h1
  · rw [h1]; simp
  · exact fun e => h1 e.symm
/-- The variable's own cells are written: the rows are as they were. -/
theorem Own4.rows {w w' : World} {g G H : Nat} {v1 v2 v3 v4 : Value} {ks : List Value} {S : SpecM} (h : Own4 w g G H v1 v2 v3 v4 ks S) (b : But g w w') :
    w'.ownsRow G 32 2 v1 S.parties.length (pcells S.parties ks) ∧ (∀ j, j < S.parties.length → Low w' H (ks.getD j undef) (S.parties.getD j noParty).keys) ∧ OwnA w' G v2 S.arcs ∧ OwnI w' G v3 S.leaders ∧ OwnS w' G v4 S.locks :=
  ⟨World.ownsRow.kept h.pr b.grown (row_apart h.pr h.sv (by decide)), fun j hj => (h.ky j hj).kept b.grown (row_apart (h.ky j hj).1 h.sv (by decide)), World.ownsRow.kept h.ar b.grown (row_apart h.ar h.sv (by decide)), World.ownsRow.kept h.le b.grown (row_apart h.le h.sv (by decide)), h.lo.but b h.sv (by decide)⟩
theorem Own4.re {w w' : World} {g G H : Nat} {v1 v2 v3 v4 : Value} {ks : List Value} {S : SpecM} (h : Own4 w g G H v1 v2 v3 v4 ks S) (b : But g w w') (id : ByteArray) (st de : Int) (hs : SAt w' g id v1 v2 v3 v4 st de) : Own4 w' g G H v1 v2 v3 v4 ks { S with id := id, start := st, delta := de } := by
  obtain ⟨h1, h2, h3, h4, h5⟩ := h.rows b
  exact ⟨hs, h.kl, h1, h2, h3, h4, h5⟩
theorem Own4.noarcs {w w' : World} {g G H : Nat} {v1 v2 v3 v4 : Value} {ks : List Value} {S : SpecM} (h : Own4 w g G H v1 v2 v3 v4 ks S) (b : But g w w') (hs : SAt w' g S.id v1 (.slice none 0 0) v3 v4 S.start S.delta) : Own4 w' g G H v1 (.slice none 0 0) v3 v4 ks { S with arcs := [] } := by
  obtain ⟨h1, h2, _, h4, h5⟩ := h.rows b
  exact ⟨hs, h.kl, h1, h2, World.ownsRow_nil _ _ _ _, h4, h5⟩
/-- One cell of the first arc. -/
theorem Own4.arc {w : World} {g G H b c n : Nat} {v1 v3 v4 : Value} {ks : List Value} {S : SpecM} (h : Own4 w g G H v1 (.slice (some ⟨b, 0, none⟩) n c) v3 v4 ks S) (a0 a' : ArcM) (A : List ArcM) (hA : S.arcs = a0 :: A) (i : Nat) (u : Value) (hi : i < 5) (ha : acells a' = (acells a0).set i u) :
    Own4 (w.setCell ⟨b, i, none⟩ u) g G H v1 (.slice (some ⟨b, 0, none⟩) n c) v3 v4 ks { S with arcs := a' :: A } := by
  have har := h.ar
  unfold OwnA at har
  obtain ⟨_, _, he⟩ := row_slice har
  simp only [Value.slice.injEq] at he
  obtain ⟨_, hn, _⟩ := he
  rw [← hn] at har
  obtain ⟨k1, k2⟩ := World.ownsRow.stored har i u
  refine ⟨h.sv.grown k2 (sv_apart h.sv har (by decide)), h.kl, World.ownsRow.kept h.pr k2 (rows_apart h.pr har (by decide)), fun j hj => (h.ky j hj).kept k2 ((h.ky j hj).apart har (by decide)), ?_, World.ownsRow.kept h.le k2 (rows_apart h.le har (by decide)), World.ownsRow.kept h.lo k2 (rows_apart h.lo har (by decide))⟩
  show World.ownsRow _ G _ 5 _ (a' :: A).length ((a' :: A).flatMap acells)
  have e1 : (S.arcs.flatMap acells).set i u = (a' :: A).flatMap acells := by
    rw [hA, List.flatMap_cons, List.flatMap_cons, List.set_append_left _ _ (by simp [acells]; exact hi), ha]
  have e2 : (a' :: A).length = n := by rw [hn, hA]; rfl
  rw [e2, ← e1]; exact k1
theorem Own4.lead {w : World} {g G H b c n : Nat} {v1 v2 v4 : Value} {ks : List Value} {S : SpecM} (h : Own4 w g G H v1 v2 (.slice (some ⟨b, 0, none⟩) n c) v4 ks S) (l0 x : Int) (L : List Int) (hL : S.leaders = l0 :: L) :
    Own4 (w.setCell ⟨b, 0, none⟩ (.int .i64 x)) g G H v1 v2 (.slice (some ⟨b, 0, none⟩) n c) v4 ks { S with leaders := x :: L } := by
  have har := h.le
  unfold OwnI at har
  obtain ⟨_, _, he⟩ := row_slice har
  simp only [Value.slice.injEq] at he
  obtain ⟨_, hn, _⟩ := he
  rw [← hn] at har
  obtain ⟨k1, k2⟩ := World.ownsRow.stored har 0 (.int .i64 x)
  refine ⟨h.sv.grown k2 (sv_apart h.sv har (by decide)), h.kl, World.ownsRow.kept h.pr k2 (rows_apart h.pr har (by decide)), fun j hj => (h.ky j hj).kept k2 ((h.ky j hj).apart har (by decide)), World.ownsRow.kept h.ar k2 (rows_apart h.ar har (by decide)), ?_, World.ownsRow.kept h.lo k2 (rows_apart h.lo har (by decide))⟩
  show World.ownsRow _ G _ 1 _ (x :: L).length ((x :: L).map (Value.int .i64))
  have e2 : (x :: L).length = n := by rw [hn, hL]; rfl
  rw [e2]
  rw [hL] at k1
  exact k1
theorem Own4.lock {w : World} {g G H b c n : Nat} {v1 v2 v3 : Value} {ks : List Value} {S : SpecM} (h : Own4 w g G H v1 v2 v3 (.slice (some ⟨b, 0, none⟩) n c) ks S) (hH : H ≤ G) (k0 x : ByteArray) (K : List ByteArray) (hK : S.locks = k0 :: K) :
    Own4 (w.setCell ⟨b, 0, none⟩ (.string x)) g G H v1 v2 v3 (.slice (some ⟨b, 0, none⟩) n c) ks { S with locks := x :: K } := by
  have har := h.lo
  unfold OwnS at har
  obtain ⟨_, _, he⟩ := row_slice har
  simp only [Value.slice.injEq] at he
  obtain ⟨_, hn, _⟩ := he
  rw [← hn] at har
  obtain ⟨k1, k2⟩ := World.ownsRow.stored har 0 (.string x)
  refine ⟨h.sv.grown k2 (sv_apart h.sv har (by decide)), h.kl, World.ownsRow.kept h.pr k2 (rows_apart h.pr har (by decide)), fun j hj => (h.ky j hj).kept k2 ((h.ky j hj).far har hH), World.ownsRow.kept h.ar k2 (rows_apart h.ar har (by decide)), World.ownsRow.kept h.le k2 (rows_apart h.le har (by decide)), ?_⟩
  show World.ownsRow _ G _ 1 _ (x :: K).length ((x :: K).map Value.string)
  have e2 : (x :: K).length = n := by rw [hn, hK]; rfl
  rw [e2]
  rw [hK] at k1
  exact k1
/-- A party's account. -/
theorem Own4.acc {w : World} {g G H b c n : Nat} {v2 v3 v4 : Value} {ks : List Value} {S : SpecM} (h : Own4 w g G H (.slice (some ⟨b, 0, none⟩) n c) v2 v3 v4 ks S) (i : Nat) (hi : i < S.parties.length) (x : ByteArray) :
    Own4 (w.setCell ⟨b, i * 2, none⟩ (.string x)) g G H (.slice (some ⟨b, 0, none⟩) n c) v2 v3 v4 ks { S with parties := S.parties.set i ⟨x, (S.parties.getD i noParty).keys⟩ } := by
  have har := h.pr
  obtain ⟨_, _, he⟩ := row_slice har
  simp only [Value.slice.injEq] at he
  obtain ⟨_, hn, _⟩ := he
  rw [← hn] at har
  obtain ⟨k1, k2⟩ := World.ownsRow.stored har (i * 2) (.string x)
  refine ⟨h.sv.grown k2 (sv_apart h.sv har (by decide)), ?_, ?_, fun j hj => ?_, World.ownsRow.kept h.ar k2 (rows_apart h.ar har (by decide)), World.ownsRow.kept h.le k2 (rows_apart h.le har (by decide)), World.ownsRow.kept h.lo k2 (rows_apart h.lo har (by decide))⟩
  · show ks.length = (S.parties.set i _).length
    rw [List.length_set]; exact h.kl
  · show World.ownsRow _ G _ 2 _ (S.parties.set i _).length (pcells (S.parties.set i _) ks)
    rw [List.length_set, ← hn, ← pcells_acc _ _ h.kl i hi]; exact k1
  · have hj' : j < S.parties.length := by have h9 : j < (S.parties.set i ⟨x, (S.parties.getD i noParty).keys⟩).length := hj; rw [List.length_set] at h9; exact h9
    have e : ((S.parties.set i ⟨x, (S.parties.getD i noParty).keys⟩).getD j noParty).keys = (S.parties.getD j noParty).keys := by
      by_cases hij : i = j
      · subst hij
        simp [List.getD_eq_getElem?_getD, hi]
      · simp [List.getD_eq_getElem?_getD, hij]
    show Low _ H _ ((S.parties.set i ⟨x, (S.parties.getD i noParty).keys⟩).getD j noParty).keys
    rw [e]
    exact (h.ky j hj').kept k2 ((h.ky j hj').apart har (by decide))
/-- The first party's keys. -/
theorem Own4.keys {w : World} {g G H H' b c n : Nat} {v2 v3 v4 : Value} {ks : List Value} {S : SpecM} (h : Own4 w g G H (.slice (some ⟨b, 0, none⟩) n c) v2 v3 v4 ks S) (hH : H ≤ H') (p0 : PartyM) (P : List PartyM) (hP : S.parties = p0 :: P) (u : Value) (l : List ByteArray) (hu : Low w H' u l) :
    Own4 (w.setCell ⟨b, 1, none⟩ u) g G H' (.slice (some ⟨b, 0, none⟩) n c) v2 v3 v4 (ks.set 0 u) { S with parties := ⟨p0.acc, l⟩ :: P } := by
  have har := h.pr
  obtain ⟨_, _, he⟩ := row_slice har
  simp only [Value.slice.injEq] at he
  obtain ⟨_, hn, _⟩ := he
  rw [← hn] at har
  obtain ⟨k1, k2⟩ := World.ownsRow.stored har 1 u
  have hl : (⟨p0.acc, l⟩ :: P : List PartyM).length = S.parties.length := by rw [hP]; rfl
  have h0 : 0 < S.parties.length := by rw [hP]; simp
  refine ⟨h.sv.grown k2 (sv_apart h.sv har (by decide)), ?_, ?_, fun j hj => ?_, World.ownsRow.kept h.ar k2 (rows_apart h.ar har (by decide)), World.ownsRow.kept h.le k2 (rows_apart h.le har (by decide)), World.ownsRow.kept h.lo k2 (rows_apart h.lo har (by decide))⟩
  · show (ks.set 0 u).length = (⟨p0.acc, l⟩ :: P : List PartyM).length
    rw [List.length_set, hl]; exact h.kl
  · show World.ownsRow _ G _ 2 _ (⟨p0.acc, l⟩ :: P : List PartyM).length (pcells (⟨p0.acc, l⟩ :: P) (ks.set 0 u))
    have e1 : pcells (⟨p0.acc, l⟩ :: P) (ks.set 0 u) = (pcells S.parties ks).set 1 u := by
      rw [pcells_accs (⟨p0.acc, l⟩ :: P) S.parties _ (by rw [hP]; rfl)]
      exact (pcells_set S.parties ks h.kl 0 h0 u).symm
    rw [hl, ← hn, e1]; exact k1
  · have hj' : j < S.parties.length := by rw [← hl]; exact hj
    show Low _ H' ((ks.set 0 u).getD j undef) ((⟨p0.acc, l⟩ :: P : List PartyM).getD j noParty).keys
    cases j with
    | zero =>
      have e : (ks.set 0 u).getD 0 undef = u := by
        have := h.kl
        cases ks with
        | nil => simp at this; omega
        | cons k ks => rfl
      rw [e]
      exact hu.kept k2 (hu.apart har (by decide))
    | succ j =>
      have e : (ks.set 0 u).getD (j + 1) undef = ks.getD (j + 1) undef := by simp [List.getD_eq_getElem?_getD]
      have h9 := h.ky (j + 1) hj'
      rw [hP] at h9
      rw [e]
      have h8 : Low w H' (ks.getD (j + 1) undef) (P.getD j noParty).keys := ⟨h9.1, fun k hk => Nat.lt_of_lt_of_le (h9.2 k hk) hH⟩
      exact h8.kept k2 (h8.apart har (by decide))

theorem ownsRow_form_n {w : World} {B : Nat} {e : TypeId} {size : Nat} {v : Value} {n : Nat} {xs : List Value} (h : w.ownsRow B e size v n xs) (hn : 0 < n) : ∃ b c, v = .slice (some ⟨b, 0, none⟩) n c := by
  rcases h.2 with ⟨_, h0⟩ | ⟨g, cap, cur, hv, _⟩
  · omega
  · exact ⟨g, cap, hv⟩
theorem grown_then {a b c : World} {row : Option Nat} (h : a.grownBy b row) (k : b.grownBy c row) : a.grownBy c row :=
  ⟨k.os.trans h.os, k.tape.trans h.tape, k.output.trans h.output, Nat.le_trans h.size k.size, fun i hi hne => (k.block i (Nat.lt_of_lt_of_le hi h.size) hne).trans (h.block i hi hne)⟩
theorem below_grownR {w w' : World} {row : Option Nat} (h : Below w.heap.size w w') : w.grownBy w' row := ⟨h.os, h.tape, h.output, h.size, fun k hk _ => h.block k hk⟩
theorem acells_oneW (l : List ArcM) : ∀ u ∈ l.flatMap acells, u.oneCell' = true := by
  intro u hu
  obtain ⟨x, _, hx⟩ := List.mem_flatMap.1 hu
  simp [acells] at hx
  rcases hx with rfl | rfl | rfl | rfl | rfl <;> rfl
theorem list_one {α : Type} {l : List α} (h : 1 ≤ l.length) : ∃ x m, l = x :: m := by
  cases l with
  | nil => simp at h
  | cons x m => exact ⟨x, m, rfl⟩
theorem list_two {α : Type} {l : List α} (h : 2 ≤ l.length) : ∃ x y m, l = x :: y :: m := by
  cases l with
  | nil => simp at h
  | cons x m =>
    cases m with
    | nil => simp at h
    | cons y m => exact ⟨x, y, m, rfl⟩
theorem all_getDW {α : Type} (Q : α → Prop) (d : α) (l : List α) (h : ∀ j, j < l.length → Q (l.getD j d)) : ∀ x ∈ l, Q x := by
  intro x hx
  obtain ⟨j, hj, rfl⟩ := List.mem_iff_getElem.1 hx
  have := h j hj
  rwa [List.getD_eq_getElem?_getD, List.getElem?_eq_getElem hj] at this
theorem SaneS.parts {S : SpecM} (h : SaneS S) (P : List PartyM) (hn : P.length ≤ 1000) (hp : ∀ p ∈ P, PartySane p) : SaneS { S with parties := P } := { h with np := hn, pa := getD_all PartySane _ _ hp }
theorem SaneS.arcs' {S : SpecM} (h : SaneS S) (A : List ArcM) (hn : A.length ≤ 1000) (hp : ∀ p ∈ A, ArcSane p) : SaneS { S with arcs := A } := { h with na := hn, ar := getD_all ArcSane _ _ hp }
theorem SaneS.leads {S : SpecM} (h : SaneS S) (L : List Int) (hn : L.length ≤ 1000) (hp : ∀ p ∈ L, In64 p) : SaneS { S with leaders := L } := { h with nl := hn, le := getD_all In64 _ _ hp }
theorem SaneS.lks {S : SpecM} (h : SaneS S) (K : List ByteArray) (hn : K.length ≤ 1000) (hp : ∀ p ∈ K, p.size ≤ 1000) : SaneS { S with locks := K } := { h with nk := hn, lk := getD_all (fun k : ByteArray => k.size ≤ 1000) _ _ hp }
theorem SAt.set0 {w : World} {g : Nat} {id : ByteArray} {v1 v2 v3 v4 : Value} {st de : Int} (h : SAt w g id v1 v2 v3 v4 st de) (x : ByteArray) : SAt (w.setCell ⟨g, 0, none⟩ (.string x)) g x v1 v2 v3 v4 st de := by
  unfold SAt at *
  rw [setCell_eq_setRow w g 0 _ _ (0, 0) _ h, setRow_heap w g _ _ _ (0, 0) h]; rfl
/-- Another row of arcs, of leaders and locks, in the variable. -/
theorem Own4.arcsTo {w w' : World} {g G H b c n : Nat} {v1 v3 v4 : Value} {ks : List Value} {S : SpecM} (h : Own4 w g G H v1 (.slice (some ⟨b, 0, none⟩) n c) v3 v4 ks S) (hg : w.grownBy w' (some b)) (u : Value) (A : List ArcM) (hu : OwnA w' G u A) :
    Own4 (w'.setCell ⟨g, 2, none⟩ u) g G H v1 u v3 v4 ks { S with arcs := A } := by
  have hr := h.ar
  have hv := h.sv.grown hg (by have := sv_apart h.sv hr (by decide); exact this)
  have k := (But.setCell w' g 2 u).grown
  have r1 := World.ownsRow.kept h.pr hg (rows_apart h.pr hr (by decide))
  have r3 : OwnI w' G v3 S.leaders := World.ownsRow.kept h.le hg (rows_apart h.le hr (by decide))
  have r4 : OwnS w' G v4 S.locks := World.ownsRow.kept h.lo hg (rows_apart h.lo hr (by decide))
  have rk : ∀ j, j < S.parties.length → Low w' H (ks.getD j undef) (S.parties.getD j noParty).keys := fun j hj => (h.ky j hj).kept hg ((h.ky j hj).apart hr (by decide))
  exact ⟨hv.set2 u, h.kl, World.ownsRow.kept r1 k (row_apart r1 hv (by decide)), fun j hj => (rk j hj).kept k (row_apart (rk j hj).1 hv (by decide)), World.ownsRow.kept hu k (row_apart hu hv (by decide)), World.ownsRow.kept r3 k (row_apart r3 hv (by decide)), World.ownsRow.kept r4 k (row_apart r4 hv (by decide))⟩
/-- All but leaders and locks. -/
def Rest2 (w : World) (g G H : Nat) (v1 v2 v3 v4 : Value) (ks : List Value) (S : SpecM) : Prop :=
  SAt w g S.id v1 v2 v3 v4 S.start S.delta ∧ w.ownsRow G 32 2 v1 S.parties.length (pcells S.parties ks) ∧ (∀ j, j < S.parties.length → Low w H (ks.getD j undef) (S.parties.getD j noParty).keys) ∧ OwnA w G v2 S.arcs
theorem Rest2.grown {w w' : World} {g G H : Nat} {v1 v2 v3 v4 : Value} {ks : List Value} {S : SpecM} (h : Rest2 w g G H v1 v2 v3 v4 ks S) {B : Nat} {e : TypeId} {size n : Nat} {v : Value} {xs : List Value} (k : w.ownsRow B e size v n xs) (hg : w.grownBy w' v.ownBlock) (he : e = 3 ∨ e = 9 ∧ H ≤ B) : Rest2 w' g G H v1 v2 v3 v4 ks S := by
  obtain ⟨h1, h2, h3, h4⟩ := h
  rcases he with rfl | ⟨rfl, hB⟩
  · exact ⟨h1.grown hg (sv_apart h1 k (by decide)), World.ownsRow.kept h2 hg (rows_apart h2 k (by decide)), fun j hj => (h3 j hj).kept hg ((h3 j hj).apart k (by decide)), World.ownsRow.kept h4 hg (rows_apart h4 k (by decide))⟩
  · exact ⟨h1.grown hg (sv_apart h1 k (by decide)), World.ownsRow.kept h2 hg (rows_apart h2 k (by decide)), fun j hj => (h3 j hj).kept hg ((h3 j hj).far k hB), World.ownsRow.kept h4 hg (rows_apart h4 k (by decide))⟩
theorem Rest2.below {w w' : World} {g G H : Nat} {v1 v2 v3 v4 : Value} {ks : List Value} {S : SpecM} (h : Rest2 w g G H v1 v2 v3 v4 ks S) (hb : Below w.heap.size w w') : Rest2 w' g G H v1 v2 v3 v4 ks S :=
  ⟨h.1.below hb, own_below h.2.1 hb, fun j hj => (h.2.2.1 j hj).kept (below_grown hb) (by cases (ks.getD j undef).ownBlock <;> simp), h.2.2.2.below hb⟩
theorem Rest2.both {w : World} {g G H : Nat} {v1 v2 v3 v4 u3 u4 : Value} {ks : List Value} {S : SpecM} (h : Rest2 w g G H v1 v2 v3 v4 ks S) (hk : ks.length = S.parties.length) (L : List Int) (K : List ByteArray) (h3 : OwnI w G u3 L) (h4 : OwnS w G u4 K) :
    Own4 ((w.setCell ⟨g, 3, none⟩ u3).setCell ⟨g, 4, none⟩ u4) g G H v1 v2 u3 u4 ks { S with leaders := L, locks := K } := by
  obtain ⟨k1, k2, k3, k4⟩ := h
  have b1 := (But.setCell w g 3 u3)
  have b2 := (But.setCell (w.setCell ⟨g, 3, none⟩ u3) g 4 u4)
  have b := (b1.trans b2).grown
  exact ⟨(k1.set3 u3).set4 u4, hk, World.ownsRow.kept k2 b (row_apart k2 k1 (by decide)), fun j hj => (k3 j hj).kept b (row_apart (k3 j hj).1 k1 (by decide)), World.ownsRow.kept k4 b (row_apart k4 k1 (by decide)), World.ownsRow.kept h3 b (row_apart h3 k1 (by decide)), World.ownsRow.kept h4 b (row_apart h4 k1 (by decide))⟩
/-- A slice of texts from the second one on. -/
theorem strs_rest {w : World} {B b n c : Nat} {l : List ByteArray} (h : w.ownsRow B 9 1 (.slice (some ⟨b, 0, none⟩) n c) n (l.map Value.string)) (hn : 1 ≤ n) :
    n ≤ c ∧ c ≤ maxLen ∧ l.length = n ∧ ∃ ad, (if c = 1 then (some ⟨b, 0, none⟩ : Option Addr) else some ⟨b, 1, none⟩) = some ad ∧ ∀ j u, ((l.drop 1).map Value.string)[j]? = some u → w.cell? (ad.add j) = some u := by
  have h0 := h.1
  rw [List.length_map, Nat.mul_one] at h0
  have hcc : n ≤ c ∧ c ≤ maxLen := by
    rcases h.2 with ⟨h', _⟩ | ⟨g', cap', cur, h', _, _, h1, h2, _⟩
    · simp at h'
    · simp only [Value.slice.injEq] at h'
      obtain ⟨_, _, rfl⟩ := h'
      exact ⟨h1, h2⟩
  refine ⟨hcc.1, hcc.2, h0, ?_⟩
  by_cases e : c = 1
  · rw [if_pos e]
    have : l.drop 1 = [] := List.drop_eq_nil_of_le (by omega)
    rw [this]
    exact ⟨_, rfl, fun j u hu => by simp at hu⟩
  · rw [if_neg e]
    refine ⟨_, rfl, fun j u hu => ?_⟩
    have hj : j < n - 1 := by
      have := (List.getElem?_eq_some_iff.1 hu).1
      rw [List.length_map, List.length_drop] at this; omega
    rw [Go.WideShapes.add_plain, World.ownsRow.cellAt h (1 + j) (by omega)]
    rw [← hu, List.map_drop, List.getElem?_drop]
/-- What each way of SpecWrong comes to. -/
def WrongAt (w0 : World) (g0 g : Nat) (wx : World) : Prop := ∃ T cs, SvAt wx g cs ∧ Seven cs ∧ SpecW wx (.agg cs) T ∧ ¬ specOk T ∧ Below g0 w0 wx
theorem Own4.wrong {w w0 : World} {g0 g G H : Nat} {v1 v2 v3 v4 : Value} {ks : List Value} {S : SpecM} (h : Own4 w g G H v1 v2 v3 v4 ks S) (hs : SaneS S) (hn : ¬ specOk S) (hb : Below g0 w0 w) : WrongAt w0 g0 g w := by
  obtain ⟨T, cs, h1, h2, h3, h4⟩ := h.done hs hn
  exact ⟨T, cs, h1, h2, h3, h4, hb⟩
theorem Own4.arcAt {w : World} {g G H b c n : Nat} {v1 v3 v4 : Value} {ks : List Value} {S : SpecM} (h : Own4 w g G H v1 (.slice (some ⟨b, 0, none⟩) n c) v3 v4 ks S) (a0 : ArcM) (A : List ArcM) (hA : S.arcs = a0 :: A) :
    n = S.arcs.length ∧ G ≤ b ∧ w.cell? ⟨b, 0, none⟩ = some (.int .i64 a0.src) ∧ w.cell? ⟨b, 1, none⟩ = some (.int .i64 a0.dst) ∧ w.cell? ⟨b, 2, none⟩ = some (.int .i64 a0.ledger) ∧ w.cell? ⟨b, 3, none⟩ = some (.string a0.asset) ∧ w.cell? ⟨b, 4, none⟩ = some (.int .i64 a0.amount) ∧ ∀ j, w.frozen? ⟨b, j, none⟩ = false := by
  have har := h.ar
  unfold OwnA at har
  obtain ⟨_, _, he⟩ := row_slice har
  simp only [Value.slice.injEq] at he
  obtain ⟨_, hn, _⟩ := he
  rw [← hn] at har
  have h2 : 1 ≤ n := by rw [hn, hA]; simp
  have hc : ∀ j, j < 5 → w.cell? ⟨b, j, none⟩ = (S.arcs.flatMap acells)[j]? := fun j hj => World.ownsRow.cellAt har j (by omega)
  rw [hA] at hc
  exact ⟨hn, (World.ownsRow.lt har b rfl).1, hc 0 (by omega), hc 1 (by omega), hc 2 (by omega), hc 3 (by omega), hc 4 (by omega), World.ownsRow.frozenAt har⟩
theorem Own4.partAt {w : World} {g G H b c n : Nat} {v2 v3 v4 : Value} {ks : List Value} {S : SpecM} (h : Own4 w g G H (.slice (some ⟨b, 0, none⟩) n c) v2 v3 v4 ks S) (p0 p1 : PartyM) (P : List PartyM) (hP : S.parties = p0 :: p1 :: P) :
    n = S.parties.length ∧ G ≤ b ∧ w.cell? ⟨b, 0, none⟩ = some (.string p0.acc) ∧ w.cell? ⟨b, 1, none⟩ = some (ks.getD 0 undef) ∧ w.cell? ⟨b, 2, none⟩ = some (.string p1.acc) ∧ ∀ j, w.frozen? ⟨b, j, none⟩ = false := by
  have har := h.pr
  obtain ⟨_, _, he⟩ := row_slice har
  simp only [Value.slice.injEq] at he
  obtain ⟨_, hn, _⟩ := he
  rw [← hn] at har
  have h2 : 2 ≤ n := by rw [hn, hP]; simp
  have q0 := pcells_at S.parties ks h.kl 0 (by rw [hP]; simp)
  have q1 := pcells_at S.parties ks h.kl 1 (by rw [hP]; simp)
  rw [hP] at q0 q1
  have hc : ∀ j, j < 4 → w.cell? ⟨b, j, none⟩ = (pcells S.parties ks)[j]? := fun j hj => World.ownsRow.cellAt har j (by omega)
  rw [hP] at hc
  exact ⟨hn, (World.ownsRow.lt har b rfl).1, (hc 0 (by omega)).trans q0.1, (hc 1 (by omega)).trans q0.2, (hc 2 (by omega)).trans q1.1, World.ownsRow.frozenAt har⟩
theorem Own4.leadAt {w : World} {g G H b c n : Nat} {v1 v2 v4 : Value} {ks : List Value} {S : SpecM} (h : Own4 w g G H v1 v2 (.slice (some ⟨b, 0, none⟩) n c) v4 ks S) (l0 : Int) (L : List Int) (hL : S.leaders = l0 :: L) :
    n = S.leaders.length ∧ G ≤ b ∧ w.cell? ⟨b, 0, none⟩ = some (.int .i64 l0) ∧ ∀ j, w.frozen? ⟨b, j, none⟩ = false := by
  have har := h.le
  unfold OwnI at har
  obtain ⟨_, _, he⟩ := row_slice har
  simp only [Value.slice.injEq] at he
  obtain ⟨_, hn, _⟩ := he
  rw [← hn] at har
  have hc := World.ownsRow.cellAt har 0 (by rw [hn, hL]; simp)
  rw [hL] at hc
  exact ⟨hn, (World.ownsRow.lt har b rfl).1, hc, World.ownsRow.frozenAt har⟩
theorem Own4.lockAt {w : World} {g G H b c n : Nat} {v1 v2 v3 : Value} {ks : List Value} {S : SpecM} (h : Own4 w g G H v1 v2 v3 (.slice (some ⟨b, 0, none⟩) n c) ks S) (k0 : ByteArray) (K : List ByteArray) (hK : S.locks = k0 :: K) :
    n = S.locks.length ∧ G ≤ b ∧ w.cell? ⟨b, 0, none⟩ = some (.string k0) ∧ ∀ j, w.frozen? ⟨b, j, none⟩ = false := by
  have har := h.lo
  unfold OwnS at har
  obtain ⟨_, _, he⟩ := row_slice har
  simp only [Value.slice.injEq] at he
  obtain ⟨_, hn, _⟩ := he
  rw [← hn] at har
  have hc := World.ownsRow.cellAt har 0 (by rw [hn, hK]; simp)
  rw [hK] at hc
  exact ⟨hn, (World.ownsRow.lt har b rfl).1, hc, World.ownsRow.frozenAt har⟩

end Go.Proofs.Ythdnldbkpllciaa
